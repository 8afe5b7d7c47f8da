package tree

import (
	"fmt"
	"slices"
	"testing"
	"unsafe"

	"winnower/api"
)

// The tests' own numbers, so that they do not move with the program's.
const (
	keysEnd = 1 << 40
	lastKey = keysEnd - 1
)

// die: numbers that look drawn, the same each time.
type die uint64

func (d *die) n(most int) int {
	*d = *d*6364136223846793005 + 1442695040888963407
	return int(uint64(*d>>33) % uint64(most))
}

// alike has the same value at count points.
func alike(count, value, time int) api.Rollup {
	return api.Rollup{Count: count, Sum: count * value, Min: value, Max: value, Time: time, Last: value}
}

// marks makes an entry a key, each with a rollup of its own.
func marks(keys ...int) []api.Entry {
	var l []api.Entry
	for _, k := range keys {
		l = append(l, api.Entry{Key: k, Is: alike(1+k%3, k%1000, k%77)})
	}
	return l
}

// heavy makes entries of which no two of one key can come together.
func heavy(keys ...int) []api.Entry {
	var l []api.Entry
	for _, k := range keys {
		l = append(l, api.Entry{Key: k, Is: alike(api.MaxCount, 1, 1)})
	}
	return l
}

// upTo tells the keys from one on, below another one.
func upTo(from, to int) []int {
	var l []int
	for k := from; k < to; k++ {
		l = append(l, k)
	}
	return l
}

func leaf(l []api.Entry) api.Node { return api.Node{Leaf: true, Entries: l} }

// sample is a tree that may be, three deep, at many of its limits: tests bend one thing of it.
func sample() api.Tree {
	return api.Tree{Root: 7, Nodes: []api.Node{
		leaf(marks(5, 9)),
		leaf(marks(10, 11, 12, 13, 14, 19)),
		leaf(marks(20)),
		{Kids: []int{0, 1, 2}, Keys: []int{10, 20}, Buffer: marks(0, 29)},
		leaf(marks(30, 35)),
		leaf(marks(lastKey)),
		{Kids: []int{4, 5}, Keys: []int{40}, Buffer: marks(30, 31, 32, 33, 34, 35, 36, 37)},
		{Kids: []int{3, 6}, Keys: []int{30}, Buffer: marks(0, 11, lastKey)},
	}}
}

// stacked is a tree over these leaves, each node above them with as many kids as may be; entry i of the whole has the key i.
func stacked(leaves, each int) api.Tree {
	var t api.Tree
	var row, begins []int
	for i := range leaves {
		row, begins = append(row, len(t.Nodes)), append(begins, i*each)
		t.Nodes = append(t.Nodes, leaf(marks(upTo(i*each, i*each+each)...)))
	}
	for len(row) > 1 {
		row, begins = stackRow(&t, row, begins)
	}
	t.Root = row[0]
	return t
}

func stackRow(t *api.Tree, row, begins []int) ([]int, []int) {
	var upper, upperBegins []int
	for len(row) > 0 {
		n := min(len(row), api.MaxKids)
		if len(row) == api.MaxKids+1 {
			n = api.MaxKids - 1
		}
		upper, upperBegins = append(upper, len(t.Nodes)), append(upperBegins, begins[0])
		t.Nodes = append(t.Nodes, api.Node{Kids: slices.Clone(row[:n]), Keys: slices.Clone(begins[1:n])})
		row, begins = row[n:], begins[n:]
	}
	return upper, upperBegins
}

// drawing tells what drawn trees are like.
type drawing struct {
	depth, kids int
	narrow      bool // few keys for all but the last kid
	counts      []int
}

// drawnTree is one that may be, with its nodes in any order.
func drawnTree(d *die, w drawing) api.Tree {
	var t api.Tree
	root := drawnNode(d, w, &t, 1, 0, keysEnd)
	places := upTo(0, len(t.Nodes))
	for i := range places {
		j := i + d.n(len(places)-i)
		places[i], places[j] = places[j], places[i]
	}
	s := api.Tree{Nodes: make([]api.Node, len(t.Nodes)), Root: places[root]}
	for i, n := range t.Nodes {
		for j, kid := range n.Kids {
			n.Kids[j] = places[kid]
		}
		s.Nodes[places[i]] = n
	}
	return s
}

func drawnNode(d *die, w drawing, t *api.Tree, depth, low, high int) int {
	var n api.Node
	if depth == w.depth {
		n = leaf(drawnEntries(d, w, 1+d.n(api.MaxLeaf), low, high))
	} else {
		n.Buffer = drawnEntries(d, w, d.n(api.MaxBuffer+1), low, high)
		need := 1 << (w.depth - depth - 1) // keys that a kid must have at least
		from := low
		for kids := min(api.MinKids+d.n(w.kids-api.MinKids+1), (high-low)/need); kids > 0; kids-- {
			to := high
			if kids > 1 {
				to = from + need + d.n(3*need)
				if !w.narrow {
					to += (high - from) / (kids + 1)
				}
				to = min(to, high-(kids-1)*need)
				n.Keys = append(n.Keys, to)
			}
			n.Kids = append(n.Kids, drawnNode(d, w, t, depth+1, from, to))
			from = to
		}
	}
	t.Nodes = append(t.Nodes, n)
	return len(t.Nodes) - 1
}

func drawnEntries(d *die, w drawing, count, low, high int) []api.Entry {
	var l []api.Entry
	for range count {
		k := low + d.n(min(high-low, 20))
		at, found := slices.BinarySearchFunc(l, k, func(x api.Entry, k int) int { return x.Key - k })
		if !found {
			l = slices.Insert(l, at, api.Entry{Key: k, Is: drawnRollup(d, w)})
		}
	}
	return l
}

func drawnRollup(d *die, w drawing) api.Rollup {
	return alike(w.counts[d.n(len(w.counts))], d.n(100)-50, d.n(30))
}

// drawings: trees of at most 200 nodes, of all depths that can be.
func drawings() []drawing {
	light := []int{1, 2, 3}
	mixed := []int{1, 5, api.MaxCount / 3, api.MaxCount / 2, api.MaxCount}
	var l []drawing
	for _, counts := range [][]int{light, mixed} {
		for _, narrow := range []bool{false, true} {
			for _, size := range [][2]int{{1, 2}, {2, 4}, {3, 4}, {4, 4}, {5, 3}, {6, 2}, {7, 2}} {
				l = append(l, drawing{size[0], size[1], narrow, counts})
			}
		}
	}
	return l
}

// contents tells what a tree that may be knows of each key, without a bound to how many come together.
func contents(t api.Tree) map[int]api.Rollup {
	m := map[int]api.Rollup{}
	for _, n := range t.Nodes {
		for _, x := range slices.Concat(n.Entries, n.Buffer) {
			m[x.Key] = plainMerge(m[x.Key], x.Is)
		}
	}
	return m
}

// plainMerge is the tests' own, to hold the program's against.
func plainMerge(a, b api.Rollup) api.Rollup {
	if a.Count == 0 {
		return b
	}
	if b.Count == 0 {
		return a
	}
	if b.Time > a.Time || b.Time == a.Time && b.Last > a.Last {
		a.Time, a.Last = b.Time, b.Last
	}
	a.Count, a.Sum, a.Min, a.Max = a.Count+b.Count, a.Sum+b.Sum, min(a.Min, b.Min), max(a.Max, b.Max)
	return a
}

func mustBe(t *testing.T, what string, x api.Tree) {
	t.Helper()
	if e := Check(x); e != api.OK {
		t.Fatalf("%s: Check is %d", what, e)
	}
}

// roomy is the same tree, each of its lists with room to spare in which something stands.
func roomy(x api.Tree) api.Tree {
	r := api.Tree{Root: x.Root}
	r.Nodes = append(make([]api.Node, 0, len(x.Nodes)+1), x.Nodes...)
	for i, n := range r.Nodes {
		r.Nodes[i] = api.Node{Leaf: n.Leaf, Entries: spare(n.Entries, api.Entry{Key: 77}), Buffer: spare(n.Buffer, api.Entry{Key: 78}), Keys: spare(n.Keys, 79), Kids: spare(n.Kids, 80)}
	}
	return r
}

func spare[T any](l []T, x T) []T {
	return append(append(make([]T, 0, len(l)+3), l...), x, x, x)[:len(l)]
}

// numbers of a tree, in order, with those in the spare room of its lists.
func numbers(x api.Tree) []int {
	l := []int{x.Root, len(x.Nodes)}
	for _, n := range x.Nodes[:cap(x.Nodes)] {
		for _, entries := range [][]api.Entry{n.Entries, n.Buffer} {
			l = append(l, len(entries))
			for _, x := range entries[:cap(entries)] {
				l = append(l, x.Key, x.Is.Count, x.Is.Sum, x.Is.Min, x.Is.Max, x.Is.Time, x.Is.Last)
			}
		}
		for _, places := range [][]int{n.Keys, n.Kids} {
			l = append(l, len(places))
			l = append(l, places[:cap(places)]...)
		}
		if n.Leaf {
			l = append(l, 1)
		}
	}
	return l
}

// unchanged holds a tree against the numbers that it had.
func unchanged(t *testing.T, what string, x api.Tree, before []int) {
	t.Helper()
	if !slices.Equal(numbers(x), before) {
		t.Fatalf("%s: what was handed in was changed", what)
	}
}

// plain text of a tree: lists without elements look the same, nil or not.
func plain(x api.Tree) string { return fmt.Sprint(x) }

type span struct{ from, to uintptr }

func spanOf[T any](l []T) span {
	var x T
	from := uintptr(unsafe.Pointer(unsafe.SliceData(l)))
	return span{from, from + uintptr(cap(l))*unsafe.Sizeof(x)}
}

func spansOf(x api.Tree) []span {
	l := []span{spanOf(x.Nodes)}
	for _, n := range x.Nodes {
		l = append(l, spanOf(n.Entries), spanOf(n.Buffer), spanOf(n.Keys), spanOf(n.Kids))
	}
	return l
}

// apart: no two of the spans have memory in common.
func apart(t *testing.T, what string, l []span) {
	t.Helper()
	l = slices.DeleteFunc(l, func(s span) bool { return s.from == s.to })
	slices.SortFunc(l, func(a, b span) int {
		if a.from < b.from {
			return -1
		}
		return 1
	})
	for i := 1; i < len(l); i++ {
		if l[i].from < l[i-1].to {
			t.Errorf("%s: two lists share memory", what)
			return
		}
	}
}
