package tree

import (
	"math"
	"slices"
	"testing"

	"winnower/api"
)

func TestCheckTakesTreesThatMayBe(t *testing.T) {
	for name, x := range map[string]api.Tree{
		"an empty leaf":            {Nodes: []api.Node{{Leaf: true}}},
		"an empty leaf, not nil":   {Nodes: []api.Node{{Leaf: true, Entries: []api.Entry{}, Keys: []int{}, Kids: []int{}, Buffer: []api.Entry{}}}},
		"one leaf":                 {Nodes: []api.Node{leaf(marks(0))}},
		"a full leaf, to its ends": {Nodes: []api.Node{leaf(marks(0, 1, 2, 3, 4, lastKey))}},
		"three deep":               sample(),
		"two kids, nothing waits":  {Nodes: []api.Node{{Kids: []int{1, 2}, Keys: []int{1}}, leaf(marks(0)), leaf(marks(1))}},
		"MaxKids kids":             stacked(api.MaxKids, 6),
		"kids with one key each": {Root: 3, Nodes: []api.Node{
			leaf(marks(0)), leaf(marks(1)), leaf(marks(lastKey)), {Kids: []int{0, 1, 2}, Keys: []int{1, lastKey}}}},
		"the kids in another order": {Nodes: []api.Node{{Kids: []int{2, 1}, Keys: []int{8}}, leaf(marks(8)), leaf(marks(7))}},
		"MaxNodes nodes":            stacked(1498, 6),
		"what can't come together":  {Nodes: []api.Node{{Kids: []int{1, 2}, Keys: []int{1}, Buffer: heavy(0, 1)}, leaf(heavy(0)), leaf(heavy(1))}},
		"the greatest rollups":      {Nodes: []api.Node{leaf([]api.Entry{{Key: 1, Is: alike(api.MaxCount, api.MaxValue, api.MaxTime)}})}},
	} {
		if e := Check(x); e != api.OK {
			t.Errorf("%s: Check is %d", name, e)
		}
	}
	if n := len(stacked(1498, 6).Nodes); n != api.MaxNodes {
		t.Errorf("the greatest tree has %d nodes", n)
	}
}

func TestCheckTakesDrawnTrees(t *testing.T) {
	d := die(1)
	for _, w := range drawings() {
		for range 20 {
			x := drawnTree(&d, w)
			mustBe(t, "drawn", x)
			if len(x.Nodes) > 200 {
				t.Fatalf("drawn: %d nodes", len(x.Nodes))
			}
		}
	}
}

// TestCheckTakesTenDeep: deeper ones would have more than MaxNodes nodes.
func TestCheckTakesTenDeep(t *testing.T) {
	d := die(3)
	x := drawnTree(&d, drawing{depth: 10, kids: 2, counts: []int{1}})
	if len(x.Nodes) != 1023 {
		t.Fatalf("%d nodes", len(x.Nodes))
	}
	mustBe(t, "ten deep", x)
	x = drawnTree(&d, drawing{depth: 11, kids: 2, counts: []int{1}})
	if e := Check(x); e != api.ErrSize {
		t.Errorf("eleven deep: Check is %d", e)
	}
}

func TestCheckRefusesTooManyNodes(t *testing.T) {
	for name, x := range map[string]api.Tree{
		"all in order":          stacked(1499, 6),
		"nodes without a form":  {Nodes: make([]api.Node, api.MaxNodes+1)},
		"a root that is none":   {Nodes: make([]api.Node, api.MaxNodes+1), Root: -1},
		"far too many":          {Nodes: make([]api.Node, 100000)},
		"not all are come to":   {Nodes: slices.Repeat([]api.Node{{Leaf: true}}, api.MaxNodes+1)},
		"a kid that leads back": {Nodes: slices.Repeat([]api.Node{{Kids: []int{0, 0}, Keys: []int{5}}}, api.MaxNodes+1)},
	} {
		if e := Check(x); e != api.ErrSize {
			t.Errorf("%s: Check is %d, want ErrSize", name, e)
		}
	}
	if e := Check(api.Tree{Nodes: slices.Repeat([]api.Node{{Leaf: true}}, api.MaxNodes)}); e != api.ErrState {
		t.Errorf("MaxNodes leaves: Check is %d, want ErrState", e)
	}
}

type bend struct {
	name   string
	change func(x *api.Tree)
}

// refuseBent bends the sample; the tree that comes of it must be refused by all that take one.
func refuseBent(t *testing.T, l []bend) {
	t.Helper()
	for _, b := range l {
		x := sample()
		mustBe(t, "the sample", x)
		b.change(&x)
		if e := Check(x); e != api.ErrState {
			t.Errorf("%s: Check is %d, want ErrState", b.name, e)
		}
		refusedByAll(t, b.name, x, api.ErrState)
	}
}

// refusedByAll asks with other arguments that would be refused, too: the tree tells first.
func refusedByAll(t *testing.T, name string, x api.Tree, want api.Errno) {
	t.Helper()
	for _, key := range []int{3, -1, keysEnd} {
		if r, e := Get(x, key); e != want || r != (api.Rollup{}) {
			t.Errorf("%s: Get is %v, %d, want %d", name, r, e, want)
		}
		if l, e := All(x, key, 50); e != want || len(l) != 0 {
			t.Errorf("%s: All is %v, %d, want %d", name, l, e, want)
		}
		for _, r := range []api.Rollup{alike(1, 2, 3), {}, {Count: 1, Sum: 5}, {Count: 1, Time: -1}} {
			if p, e := Put(x, key, r); e != want || len(p.Nodes) != 0 || p.Root != 0 {
				t.Errorf("%s: Put is %v, %d, want %d", name, p, e, want)
			}
		}
	}
}

func TestCheckRefusesWrongPlaces(t *testing.T) {
	refuseBent(t, []bend{
		{"no nodes", func(x *api.Tree) { *x = api.Tree{} }},
		{"no nodes, another root", func(x *api.Tree) { *x = api.Tree{Root: 1} }},
		{"root below 0", func(x *api.Tree) { x.Root = -1 }},
		{"root behind all", func(x *api.Tree) { x.Root = 8 }},
		{"outermost root", func(x *api.Tree) { x.Root = math.MaxInt }},
		{"least root", func(x *api.Tree) { x.Root = math.MinInt }},
		{"root within the tree", func(x *api.Tree) { x.Root = 3 }},
		{"root is a leaf within the tree", func(x *api.Tree) { x.Root = 0 }},
		{"a node that is not come to", func(x *api.Tree) { x.Nodes = append(x.Nodes, leaf(marks(50))) }},
		{"an empty leaf that is not come to", func(x *api.Tree) { x.Nodes = append(x.Nodes, leaf(nil)) }},
		{"a kid below 0", func(x *api.Tree) { x.Nodes[3].Kids[1] = -1 }},
		{"a kid behind all", func(x *api.Tree) { x.Nodes[3].Kids[1] = 8 }},
		{"outermost kid", func(x *api.Tree) { x.Nodes[3].Kids[1] = math.MaxInt }},
		{"least kid", func(x *api.Tree) { x.Nodes[3].Kids[1] = math.MinInt }},
		{"a kid that is the root", func(x *api.Tree) { x.Nodes[3].Kids[1] = 7 }},
		{"a kid that is its own", func(x *api.Tree) { x.Nodes[3].Kids[1] = 3 }},
		{"a kid twice", func(x *api.Tree) { x.Nodes[7].Kids[1] = 3 }},
		{"a leaf twice, and one less", func(x *api.Tree) {
			*x = api.Tree{Nodes: []api.Node{{Kids: []int{1, 1}, Keys: []int{5}}, leaf(marks(4))}}
		}},
		{"kids of another node", func(x *api.Tree) { x.Nodes[6].Kids[0] = 2 }},
		{"two trees", func(x *api.Tree) { x.Nodes = append(x.Nodes, sample().Nodes...) }},
	})
}

func TestCheckRefusesWrongLeaves(t *testing.T) {
	refuseBent(t, []bend{
		{"without entries", func(x *api.Tree) { x.Nodes[2].Entries = nil }},
		{"with too many entries", func(x *api.Tree) { x.Nodes[1].Entries = marks(10, 11, 12, 13, 14, 15, 16) }},
		{"far too many entries", func(x *api.Tree) { x.Nodes[1].Entries = make([]api.Entry, 1000000) }},
		{"a root with too many", func(x *api.Tree) { *x = api.Tree{Nodes: []api.Node{leaf(marks(upTo(0, 7)...))}} }},
		{"with Keys", func(x *api.Tree) { x.Nodes[2].Keys = []int{21} }},
		{"with Kids", func(x *api.Tree) { x.Nodes[2].Kids = []int{0} }},
		{"with a Buffer", func(x *api.Tree) { x.Nodes[2].Buffer = marks(21) }},
		{"a root with a Buffer", func(x *api.Tree) { *x = api.Tree{Nodes: []api.Node{{Leaf: true, Buffer: marks(21)}}} }},
		{"called a leaf, with kids", func(x *api.Tree) { x.Nodes[6].Leaf = true }},
		{"not called a leaf", func(x *api.Tree) { x.Nodes[2].Leaf = false }},
		{"not called a leaf, empty, the root", func(x *api.Tree) { *x = api.Tree{Nodes: make([]api.Node, 1)} }},
		{"one less deep", func(x *api.Tree) {
			*x = api.Tree{Root: 4, Nodes: []api.Node{leaf(marks(1)), leaf(marks(6)), {Kids: []int{0, 1}, Keys: []int{5}}, leaf(marks(9)), {Kids: []int{2, 3}, Keys: []int{8}}}}
		}},
		{"one deeper", func(x *api.Tree) {
			*x = api.Tree{Root: 4, Nodes: []api.Node{leaf(marks(1)), leaf(marks(6)), {Kids: []int{0, 1}, Keys: []int{5}}, leaf(marks(0)), {Kids: []int{3, 2}, Keys: []int{1}}}}
		}},
	})
}

func TestCheckRefusesWrongNodes(t *testing.T) {
	refuseBent(t, []bend{
		{"with entries", func(x *api.Tree) { x.Nodes[3].Entries = marks(4) }},
		{"without kids", func(x *api.Tree) { x.Nodes[6] = api.Node{} }},
		{"with one kid", func(x *api.Tree) {
			*x = api.Tree{Root: 1, Nodes: []api.Node{leaf(marks(1)), {Kids: []int{0}}}}
		}},
		{"with too many kids", func(x *api.Tree) {
			*x = stacked(4, 1)
			x.Nodes = append(x.Nodes, leaf(marks(9)))
			x.Nodes[4].Kids, x.Nodes[4].Keys = append(x.Nodes[4].Kids, 5), append(x.Nodes[4].Keys, 9)
		}},
		{"with far too many kids", func(x *api.Tree) { x.Nodes[3].Kids = make([]int, 1000000) }},
		{"with a Key too few", func(x *api.Tree) { x.Nodes[3].Keys = []int{10} }},
		{"with a Key too many", func(x *api.Tree) { x.Nodes[3].Keys = []int{10, 20, 25} }},
		{"without Keys", func(x *api.Tree) { x.Nodes[3].Keys = nil }},
		{"with too many that wait", func(x *api.Tree) { x.Nodes[6].Buffer = marks(upTo(30, 39)...) }},
		{"with far too many that wait", func(x *api.Tree) { x.Nodes[6].Buffer = make([]api.Entry, 1000000) }},
	})
}

func TestCheckRefusesWrongKeys(t *testing.T) {
	refuseBent(t, []bend{
		{"Keys fall", func(x *api.Tree) { x.Nodes[3].Keys = []int{20, 10} }},
		{"a Key twice", func(x *api.Tree) { x.Nodes[3].Keys = []int{10, 10} }},
		{"the first kid has no key", func(x *api.Tree) { x.Nodes[3].Keys[0] = 0 }},
		{"a first Key below all", func(x *api.Tree) { x.Nodes[3].Keys[0] = -5 }},
		{"a first Key that is the node's own first", func(x *api.Tree) { x.Nodes[6].Keys[0] = 30 }},
		{"a first Key below the node's own", func(x *api.Tree) { x.Nodes[6].Keys[0] = 29 }},
		{"the last kid has no key", func(x *api.Tree) { x.Nodes[3].Keys[1] = 30 }},
		{"a last Key above the node's own", func(x *api.Tree) { x.Nodes[3].Keys[1] = 31 }},
		{"a last Key at the end of all", func(x *api.Tree) { x.Nodes[6].Keys[0] = keysEnd }},
		{"a last Key beyond all", func(x *api.Tree) { x.Nodes[6].Keys[0] = math.MaxInt }},
		{"the least Key", func(x *api.Tree) { x.Nodes[7].Keys[0] = math.MinInt }},
		{"an entry below its leaf's keys", func(x *api.Tree) { x.Nodes[1].Entries = marks(9, 11) }},
		{"an entry at the end of its leaf's keys", func(x *api.Tree) { x.Nodes[1].Entries = marks(11, 20) }},
		{"an entry below 0", func(x *api.Tree) { x.Nodes[0].Entries = []api.Entry{{Key: -1, Is: alike(1, 1, 1)}} }},
		{"an entry beyond all keys", func(x *api.Tree) { x.Nodes[5].Entries = marks(keysEnd) }},
		{"the outermost entry", func(x *api.Tree) { x.Nodes[5].Entries = marks(math.MaxInt) }},
		{"one that waits below the node's keys", func(x *api.Tree) { x.Nodes[6].Buffer = marks(29, 31) }},
		{"one that waits at the end of the node's keys", func(x *api.Tree) { x.Nodes[3].Buffer = marks(5, 30) }},
		{"one that waits below 0", func(x *api.Tree) { x.Nodes[7].Buffer = []api.Entry{{Key: -1, Is: alike(1, 1, 1)}} }},
		{"one that waits beyond all keys", func(x *api.Tree) { x.Nodes[7].Buffer = marks(keysEnd) }},
		{"keys of another leaf", func(x *api.Tree) { x.Nodes[0], x.Nodes[1] = x.Nodes[1], x.Nodes[0] }},
	})
}

// TestCheckRefusesWrongEntries: in a leaf, and of those that wait.
func TestCheckRefusesWrongEntries(t *testing.T) {
	for name, l := range map[string][]api.Entry{
		"fall":                       marks(12, 11),
		"a key twice":                marks(11, 11),
		"the last two fall":          marks(11, 13, 12),
		"the Count 0":                {{Key: 11}},
		"the Count 0 behind another": {{Key: 11, Is: alike(1, 1, 1)}, {Key: 12}},
		"the Count 0, and more":      {{Key: 11, Is: api.Rollup{Time: 3}}},
		"the Count below 0":          {{Key: 11, Is: api.Rollup{Count: -1}}},
		"too great a Count":          {{Key: 11, Is: alike(api.MaxCount+1, 0, 0)}},
		"a Time out of bounds":       {{Key: 11, Is: alike(1, 1, -1)}},
		"a Sum that is not in form":  {{Key: 11, Is: api.Rollup{Count: 2, Sum: 5, Min: 1, Max: 2, Last: 1}}},
		"a Last that is not in form": {{Key: 11, Is: api.Rollup{Count: 2, Sum: 3, Min: 1, Max: 2, Last: 3}}},
	} {
		refuseBent(t, []bend{
			{name + ", in a leaf", func(x *api.Tree) { x.Nodes[1].Entries = l }},
			{name + ", waiting", func(x *api.Tree) { x.Nodes[3].Buffer = l }},
			{name + ", waiting in the root", func(x *api.Tree) { x.Nodes[7].Buffer = l }},
			{name + ", in a root that is a leaf", func(x *api.Tree) { *x = api.Tree{Nodes: []api.Node{leaf(l)}} }},
		})
	}
}

func TestTreesWithTooManyNodesAreRefusedAheadOfAllElse(t *testing.T) {
	refusedByAll(t, "too many nodes", stacked(1499, 6), api.ErrSize)
}

// TestCheckOfBentTrees bends drawn trees anyhow, and holds Check against a plain list of what must be.
func TestCheckOfBentTrees(t *testing.T) {
	d := die(13)
	found := map[api.Errno]int{}
	for _, w := range drawings() {
		for range 200 {
			x := drawnTree(&d, w)
			for range 1 + d.n(2) {
				bendAnyhow(&d, &x)
			}
			want := api.OK
			if !mayBePlainly(x) {
				want = api.ErrState
				refusedByAll(t, "bent", x, want)
			}
			if e := Check(x); e != want {
				t.Fatalf("Check of %v is %d, want %d", x, e, want)
			}
			found[want]++
		}
	}
	if found[api.OK] < 100 || found[api.ErrState] < 100 {
		t.Errorf("the bent trees are too much alike: %v", found)
	}
}

func bendAnyhow(d *die, x *api.Tree) {
	n := &x.Nodes[d.n(len(x.Nodes))]
	near := d.n(5) - 2
	switch at := d.n(40); d.n(9) {
	case 0:
		x.Root = d.n(len(x.Nodes)+2) - 1
	case 1:
		n.Leaf = !n.Leaf
	case 2:
		x.Nodes = append(x.Nodes, *n)
	case 3, 4:
		if len(n.Keys) > 0 {
			n.Keys[at%len(n.Keys)] += near
		}
	case 5:
		if len(n.Kids) > 0 {
			n.Kids[at%len(n.Kids)] = d.n(len(x.Nodes)+2) - 1
		}
	case 6:
		bendEntries(d, n.Entries, at, near)
	case 7:
		bendEntries(d, n.Buffer, at, near)
	case 8:
		n.Entries, n.Buffer = n.Entries[:len(n.Entries)/2], append(n.Buffer, marks(d.n(60))...)
	}
}

func bendEntries(d *die, l []api.Entry, at, near int) {
	if len(l) == 0 {
		return
	}
	x := &l[at%len(l)]
	if d.n(3) > 0 {
		x.Key += near
	} else {
		x.Is.Count += near
	}
}

// mayBePlainly says it row by row, from the root on.
func mayBePlainly(x api.Tree) bool {
	type part struct{ place, low, high int }
	row, seen := []part{{x.Root, 0, keysEnd}}, 0
	for depth := 1; len(row) > 0; depth++ {
		var next []part
		leaves := 0
		for _, p := range row {
			if p.place < 0 || p.place >= len(x.Nodes) || p.low >= p.high || depth > api.MaxDepth {
				return false
			}
			n := x.Nodes[p.place]
			seen++
			if n.Leaf {
				leaves++
				if len(n.Entries) > 6 || len(n.Entries) == 0 && depth > 1 || len(n.Keys)+len(n.Kids)+len(n.Buffer) > 0 || !entriesPlainly(n.Entries, p.low, p.high) {
					return false
				}
				continue
			}
			if len(n.Entries) > 0 || len(n.Kids) < 2 || len(n.Kids) > 4 || len(n.Keys)+1 != len(n.Kids) || len(n.Buffer) > 8 || !entriesPlainly(n.Buffer, p.low, p.high) {
				return false
			}
			ends := slices.Concat([]int{p.low}, n.Keys, []int{p.high})
			for i, kid := range n.Kids {
				next = append(next, part{kid, ends[i], ends[i+1]})
			}
		}
		if leaves > 0 && leaves < len(row) || len(next) > len(x.Nodes) {
			return false
		}
		row = next
	}
	return seen == len(x.Nodes)
}

func entriesPlainly(l []api.Entry, low, high int) bool {
	for i, x := range l {
		r := x.Is
		if x.Key < low || x.Key >= high || i > 0 && x.Key <= l[i-1].Key || r.Count < 1 || r.Count > api.MaxCount || r.Sum < r.Count*r.Min || r.Sum > r.Count*r.Max {
			return false
		}
	}
	return true
}
