package tree

import (
	"winnower/api"
	"winnower/roll"
)

// Check a tree.
func Check(t api.Tree) api.Errno {
	if len(t.Nodes) > api.MaxNodes {
		return api.ErrSize
	}
	s := survey{nodes: t.Nodes, depths: map[int]int{}}
	if !s.node(t.Root, 1, 0, endOfKeys) || len(s.depths) != len(t.Nodes) {
		return api.ErrState
	}
	return api.OK
}

// survey of a tree that may be wrong in any way: each node is looked at once at most, so that it ends even where kids lead back.
type survey struct {
	nodes     []api.Node
	depths    map[int]int // of the nodes that were come to
	leafDepth int         // of the first leaf; 0: none yet
}

func (s *survey) node(place, depth, low, high int) bool {
	if place < 0 || place >= len(s.nodes) || depth > api.MaxDepth || low >= high {
		return false
	}
	if _, again := s.depths[place]; again {
		return false
	}
	s.depths[place] = depth
	if s.nodes[place].Leaf {
		return s.leaf(place, low, high)
	}
	return s.inner(place, low, high)
}

func (s *survey) leaf(place, low, high int) bool {
	n, depth := s.nodes[place], s.depths[place]
	if s.leafDepth == 0 {
		s.leafDepth = depth
	}
	// Only a root may be an empty leaf, and only a root is 1 deep.
	if depth != s.leafDepth || depth > 1 && len(n.Entries) == 0 {
		return false
	}
	if len(n.Keys) > 0 || len(n.Kids) > 0 || len(n.Buffer) > 0 {
		return false
	}
	return entriesMayBe(n.Entries, api.MaxLeaf, low, high)
}

func (s *survey) inner(place, low, high int) bool {
	n := s.nodes[place]
	if len(n.Entries) > 0 || len(n.Kids) < api.MinKids || len(n.Kids) > api.MaxKids || len(n.Keys) != len(n.Kids)-1 {
		return false
	}
	if !entriesMayBe(n.Buffer, api.MaxBuffer, low, high) {
		return false
	}
	for i, kid := range n.Kids {
		end := high
		if i < len(n.Keys) {
			// One beyond the node's own keys leaves none to the last kid: that one is refused then.
			end = n.Keys[i]
		}
		if !s.node(kid, s.depths[place]+1, low, end) {
			return false
		}
		low = end
	}
	return true
}

// entriesMayBe asks how many there are first, so that a list without measure is not gone through.
func entriesMayBe(l []api.Entry, most, low, high int) bool {
	if len(l) > most {
		return false
	}
	for _, x := range l {
		if x.Key < low || x.Key >= high || x.Is.Count == 0 || roll.Check(x.Is) != api.OK {
			return false
		}
		low = x.Key + 1
	}
	return true
}
