package base

import (
	"fmt"
	"maps"
	"slices"
	"strings"
	"testing"

	"winnower/api"
	"winnower/tree"
)

// The tests' own numbers, so that they do not move with the program's.
const (
	seriesKeys = 1 << 20
	lastTime   = seriesKeys - 1
	lastFloor  = 1047600 // the greatest multiple of 3600 that is a time
)

func testSizes() []int { return []int{1, 60, 3600} }

// die: numbers that look drawn, the same each time.
type die uint64

func (d *die) n(most int) int {
	*d = *d*6364136223846793005 + 1442695040888963407
	return int(uint64(*d>>33) % uint64(most))
}

// alike has the same value at count points.
func alike(count, value, time int) api.Rollup {
	return api.Rollup{Count: count, Sum: count * value, Min: value, Max: value, Time: time, Last: value}
}

// plainMerge is the tests' own, to hold the program's against; it has no bound.
func plainMerge(a, b api.Rollup) api.Rollup {
	if a.Count == 0 {
		return b
	}
	if b.Count == 0 {
		return a
	}
	if b.Time > a.Time || b.Time == a.Time && b.Last > a.Last {
		a.Time, a.Last = b.Time, b.Last
	}
	a.Count, a.Sum, a.Min, a.Max = a.Count+b.Count, a.Sum+b.Sum, min(a.Min, b.Min), max(a.Max, b.Max)
	return a
}

// mark: what is known of one time of a series.
type mark struct {
	place, time int
	is          api.Rollup
}

// model of a base: what is known of points, in no order, as a plain list.
type model struct {
	names []string
	floor int
	marks []mark
}

func (m *model) add(p api.Point) {
	if !slices.Contains(m.names, p.Series) {
		m.names = append(m.names, p.Series)
	}
	m.marks = append(m.marks, mark{slices.Index(m.names, p.Series), p.Time, alike(1, p.Value, p.Time)})
}

func (m *model) expire(time int) {
	m.floor = time
	m.marks = slices.DeleteFunc(m.marks, func(x mark) bool { return x.time < time })
}

// entries that the tree for a size must know.
func (m *model) entries(size int) []api.Entry {
	at := map[int]api.Rollup{}
	for _, x := range m.marks {
		key := x.place*seriesKeys + x.time/size*size
		at[key] = plainMerge(at[key], x.is)
	}
	var l []api.Entry
	for _, key := range slices.Sorted(maps.Keys(at)) {
		l = append(l, api.Entry{Key: key, Is: at[key]})
	}
	return l
}

func (m *model) rows(name string, size, from, to int) []api.Row {
	var l []api.Row
	for _, x := range m.entries(size) {
		time := x.Key % seriesKeys
		if m.names[x.Key/seriesKeys] == name && from <= time && time <= to {
			l = append(l, api.Row{Time: time, Is: x.Is})
		}
	}
	return l
}

func (m *model) total(name string, from, to int) api.Rollup {
	var r api.Rollup
	for _, x := range m.marks {
		if m.names[x.place] == name && from <= x.time && x.time <= to {
			r = plainMerge(r, x.is)
		}
	}
	return r
}

// base that the model tells of, made without the program's Add.
func (m *model) base(t *testing.T) api.Base {
	t.Helper()
	b := api.Base{Names: slices.Clone(m.names), Floor: m.floor}
	for i, size := range testSizes() {
		b.Trees[i] = treeOf(t, m.entries(size))
	}
	return b
}

func treeOf(t *testing.T, l []api.Entry) api.Tree {
	t.Helper()
	x, e := tree.Of(l)
	if e != api.OK {
		t.Fatalf("tree.Of: %d", e)
	}
	return x
}

// entriesOf a tree that may be.
func entriesOf(t *testing.T, x api.Tree) []api.Entry {
	t.Helper()
	l, e := tree.All(x, 0, 1<<40)
	if e != api.OK {
		t.Fatalf("tree.All: %d", e)
	}
	return l
}

// sampleModel has two series, at both ends of their times, on both sides of the buckets' borders; a third one knows nothing.
func sampleModel() *model {
	m := &model{names: []string{"cpu", "net.in", "idle"}, floor: 3600}
	for i, time := range []int{3600, 3601, 3659, 3660, 7199, 7200, 7200, 9000, 1047599, lastFloor, lastTime} {
		m.marks = append(m.marks, mark{0, time, alike(1, i-4, time)}, mark{1, time, alike(1+i%2, 7*i, time)})
	}
	return m
}

// drawnModel: points on few times of some series, so that many come together.
func drawnModel(d *die, points int) *model {
	m := &model{names: []string{"a", "b.2", "c"}[:1+d.n(3)], floor: 3600 * d.n(3)}
	for range points {
		time := drawnTime(d, m.floor)
		m.marks = append(m.marks, mark{d.n(len(m.names)), time, alike(1, d.n(99)-50, time)})
	}
	return m
}

// drawnTime is often on a border of buckets, or next to one.
func drawnTime(d *die, floor int) int {
	var time int
	switch d.n(4) {
	case 0:
		time = floor + d.n(8000)
	case 1:
		time = floor + 60*d.n(100) + d.n(3) - 1
	case 2:
		time = 3600*d.n(6) + d.n(3) - 1
	default:
		time = lastTime - d.n(2)*d.n(8000)
	}
	return min(max(time, floor), lastTime)
}

func mustBe(t *testing.T, what string, b api.Base) {
	t.Helper()
	if e := Check(b); e != api.OK {
		t.Fatalf("%s: Check is %d", what, e)
	}
}

// tells holds a base that was answered against a model.
func tells(t *testing.T, what string, b api.Base, m *model) {
	t.Helper()
	mustBe(t, what, b)
	if !slices.Equal(b.Names, m.names) || b.Floor != m.floor {
		t.Fatalf("%s: the Names are %v, the Floor is %d, want %v, %d", what, b.Names, b.Floor, m.names, m.floor)
	}
	for i, size := range testSizes() {
		if got, want := entriesOf(t, b.Trees[i]), m.entries(size); !slices.Equal(got, want) {
			t.Fatalf("%s: buckets of %d are %v, want %v", what, size, got, want)
		}
	}
}

// zeroBase: what stands beside an error.
func zeroBase(b api.Base) bool {
	for _, x := range b.Trees {
		if len(x.Nodes) != 0 || x.Root != 0 {
			return false
		}
	}
	return len(b.Names) == 0 && b.Floor == 0
}

// roomy is the same base, its lists with room to spare in which something stands.
func roomy(b api.Base) api.Base {
	r := api.Base{Names: spare(b.Names, "room"), Floor: b.Floor}
	for i, x := range b.Trees {
		r.Trees[i] = api.Tree{Root: x.Root, Nodes: spare(x.Nodes, api.Node{})}
		for j, n := range r.Trees[i].Nodes {
			r.Trees[i].Nodes[j] = api.Node{Leaf: n.Leaf, Entries: spare(n.Entries, api.Entry{Key: 77}), Buffer: spare(n.Buffer, api.Entry{Key: 78}), Keys: spare(n.Keys, 79), Kids: spare(n.Kids, 80)}
		}
	}
	return r
}

func spare[T any](l []T, x T) []T {
	return append(append(make([]T, 0, len(l)+3), l...), x, x, x)[:len(l)]
}

// whole text of a base, with what stands in the spare room of its lists.
func whole(b api.Base) string {
	var s strings.Builder
	fmt.Fprint(&s, len(b.Names), b.Names[:cap(b.Names)], b.Floor)
	for _, x := range b.Trees {
		fmt.Fprint(&s, x.Root, len(x.Nodes), x.Nodes[:cap(x.Nodes)])
		for _, n := range x.Nodes {
			fmt.Fprint(&s, n.Entries[:cap(n.Entries)], n.Buffer[:cap(n.Buffer)], n.Keys[:cap(n.Keys)], n.Kids[:cap(n.Kids)])
		}
	}
	return s.String()
}

// memory: the address of each element of lists, their spare room too.
type memory map[any]int

func (m memory) see(b api.Base) {
	seeList(m, b.Names)
	for _, x := range b.Trees {
		seeList(m, x.Nodes)
		for _, n := range x.Nodes {
			seeList(m, n.Entries)
			seeList(m, n.Buffer)
			seeList(m, n.Keys)
			seeList(m, n.Kids)
		}
	}
}

func seeList[T any](m memory, l []T) {
	l = l[:cap(l)]
	for i := range l {
		m[&l[i]]++
	}
}

// apart: no two lists of these bases have memory in common.
func apart(t *testing.T, what string, l ...api.Base) {
	t.Helper()
	m := memory{}
	for _, b := range l {
		m.see(b)
	}
	for _, n := range m {
		if n > 1 {
			t.Errorf("%s: two lists share memory", what)
			return
		}
	}
}
