package tree

import (
	"slices"

	"winnower/api"
	"winnower/roll"
)

// sink an entry into a node, or below it. What the nodes from there on know of its key must be able to come together with it.
// A leaf may hold too much afterwards: grow mends that, so that no node splits while what waits is on its way.
func sink(t api.Tree, place int, x api.Entry) {
	n := &t.Nodes[place]
	if n.Leaf {
		n.Entries = with(n.Entries, x)
		return
	}
	if !canWait(n.Buffer, x.Key) {
		flush(t, place)
	}
	if canWait(n.Buffer, x.Key) {
		n.Buffer = with(n.Buffer, x)
		return
	}
	// All that waits here is stuck: the entry passes it by.
	sink(t, n.Kids[kidOf(*n, x.Key)], x)
}

// flush sends down what waits in a node for the kid for which most does.
func flush(t api.Tree, place int) {
	n := &t.Nodes[place]
	var waits [api.MaxKids]int
	for _, x := range n.Buffer {
		if !stuck(t, place, x.Key) {
			waits[kidOf(*n, x.Key)]++
		}
	}
	kid := greatest(waits)
	var stay, down []api.Entry
	for _, x := range n.Buffer {
		if kidOf(*n, x.Key) == kid && !stuck(t, place, x.Key) {
			down = append(down, x)
		} else {
			stay = append(stay, x)
		}
	}
	n.Buffer = stay
	for _, x := range down {
		sink(t, n.Kids[kid], x)
	}
}

// stuck is a key of which a node and those below it know what can't come together: a tree may be so, and its entries stay where they are.
func stuck(t api.Tree, place, key int) bool {
	_, e := knownAt(t, place, key)
	return e != api.OK
}

// greatest tells the first place where the greatest number stands.
func greatest(l [api.MaxKids]int) int {
	at := 0
	for i, n := range l {
		if n > l[at] {
			at = i
		}
	}
	return at
}

// canWait tells if an entry of the key can join those that wait.
func canWait(l []api.Entry, key int) bool {
	_, found := find(l, key)
	return found || len(l) < api.MaxBuffer
}

// with an entry more; if there is one of its key, both come together, as they can (see sink).
func with(l []api.Entry, x api.Entry) []api.Entry {
	at, found := find(l, x.Key)
	if !found {
		return slices.Insert(l, at, x)
	}
	l[at].Is, _ = roll.Merge(l[at].Is, x.Is)
	return l
}

// kidOf tells which of a node's kids has the key.
func kidOf(n api.Node, key int) int {
	at, found := slices.BinarySearch(n.Keys, key)
	if found {
		return at + 1
	}
	return at
}
