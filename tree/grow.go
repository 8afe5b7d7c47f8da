package tree

import (
	"cmp"
	"slices"

	"winnower/api"
)

// sibling: a node that was split off and stands right behind the one ahead of it, and the key with which its keys begin.
type sibling struct {
	key   int
	place int
}

// grow splits the nodes that hold too much. New nodes stand behind all others, so that the old ones keep their places; a root that was split gets a new one above it, so that all leaves stay equally deep.
// ErrSize: too many nodes. How deep it is need not be asked: each node that is no leaf has two kids at least, so that a tree of MaxNodes is never more than MaxDepth deep.
func grow(t api.Tree) (api.Tree, api.Errno) {
	more := splitAll(&t, t.Root)
	for len(more) > 0 {
		root := api.Node{Kids: []int{t.Root}}
		adopt(&root, 0, more)
		t.Root = add(&t, root)
		more = split(&t, t.Root)
	}
	if len(t.Nodes) > api.MaxNodes {
		return api.Tree{}, api.ErrSize
	}
	return t, api.OK
}

// splitAll goes from the leaves up: a node may hold too much only because its kids were split.
func splitAll(t *api.Tree, place int) []sibling {
	// From the last kid on, since those behind it move when it gets siblings.
	for i := len(t.Nodes[place].Kids) - 1; i >= 0; i-- {
		more := splitAll(t, t.Nodes[place].Kids[i])
		adopt(&t.Nodes[place], i, more)
	}
	return split(t, place)
}

// split a node into as few as may be; the first one keeps its place.
func split(t *api.Tree, place int) []sibling {
	whole := t.Nodes[place]
	size, most := len(whole.Kids), api.MaxKids
	if whole.Leaf {
		size, most = len(whole.Entries), api.MaxLeaf
	}
	if size <= most {
		return nil
	}
	parts := (size + most - 1) / most
	// The first parts take what is over: keys mostly rise with the times, so that less comes to these later on.
	begin := func(i int) int { return (size*i + parts - 1) / parts }
	t.Nodes[place] = part(whole, 0, begin(1))
	var more []sibling
	for i := 1; i < parts; i++ {
		from, to := begin(i), begin(i+1)
		more = append(more, sibling{firstKey(whole, from), add(t, part(whole, from, to))})
	}
	return more
}

// part of a node: its entries, or its kids, from one on, up to another one; in memory of its own.
func part(whole api.Node, from, to int) api.Node {
	if whole.Leaf {
		return api.Node{Leaf: true, Entries: fresh(whole.Entries[from:to])}
	}
	return api.Node{
		Keys:   fresh(whole.Keys[from : to-1]),
		Kids:   fresh(whole.Kids[from:to]),
		Buffer: fresh(whole.Buffer[waitAhead(whole, from):waitAhead(whole, to)]),
	}
}

// firstKey of the part that begins at a place behind the first one.
func firstKey(whole api.Node, from int) int {
	if whole.Leaf {
		return whole.Entries[from].Key
	}
	return whole.Keys[from-1]
}

// waitAhead tells how many wait for kids ahead of one.
func waitAhead(n api.Node, kid int) int {
	if kid == 0 {
		return 0
	}
	if kid == len(n.Kids) {
		return len(n.Buffer)
	}
	at, _ := find(n.Buffer, n.Keys[kid-1])
	return at
}

// adopt the siblings of a kid, right behind it.
func adopt(n *api.Node, kid int, more []sibling) {
	for i, s := range more {
		n.Keys = slices.Insert(n.Keys, kid+i, s.key)
		n.Kids = slices.Insert(n.Kids, kid+i+1, s.place)
	}
}

func add(t *api.Tree, n api.Node) int {
	t.Nodes = append(t.Nodes, n)
	return len(t.Nodes) - 1
}

// find where an entry of the key stands, or would stand.
func find(l []api.Entry, key int) (int, bool) {
	return slices.BinarySearchFunc(l, key, func(x api.Entry, key int) int { return cmp.Compare(x.Key, key) })
}

// fresh list of the same, in memory of its own.
func fresh[T any](l []T) []T {
	return append([]T(nil), l...)
}
