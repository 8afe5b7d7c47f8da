package file

import (
	"bytes"
	"math"
	"strings"
	"testing"

	"winnower/api"
	"winnower/base"
	"winnower/tree"
)

// encoded holds what Encode tells of a base against bytes.
func encoded(t *testing.T, what string, x api.Base, want []byte) {
	t.Helper()
	got, e := Encode(x)
	if e != api.OK || !bytes.Equal(got, want) {
		t.Errorf("%s: %v, %d, want %v", what, got, e, want)
	}
}

func encodeRefused(t *testing.T, what string, x api.Base, want api.Errno) {
	t.Helper()
	if b, e := Encode(x); e != want || len(b) != 0 {
		t.Errorf("%s: %d bytes, %d, want %d", what, len(b), e, want)
	}
}

func addAll(t *testing.T, x api.Base, l ...api.Point) api.Base {
	t.Helper()
	for _, p := range l {
		next, e := base.Add(x, p)
		if e != api.OK {
			t.Fatalf("Add %v: %d", p, e)
		}
		x = next
	}
	return x
}

func TestEncodeByHand(t *testing.T) {
	encoded(t, "New", base.New(), []byte{'w', 'n', 0, 0, 0, 4, 16, 0, 230})
	x := addAll(t, base.New(),
		api.Point{Series: "cpu", Time: 10, Value: 3},
		api.Point{Series: "cpu", Time: 65, Value: 5},
		api.Point{Series: "m", Time: 1, Value: -64},
		api.Point{Series: "cpu", Time: 10, Value: -7},
	)
	encoded(t, "two series", x, sealed([]byte{
		'w', 'n', 2, 3, 'c', 'p', 'u', 1, 'm', 0, 3,
		10, 2, 7, 13, 6, 6, // of two points at one time the greater one is the last one
		55, 1, 10, 10, 10, 10,
		192, 255, 63, 1, 127, 127, 127, 127, // 2^20 + 1 is 65 + 1048512
	}))
	y, e := base.Expire(x, 7200)
	if e != api.OK {
		t.Fatalf("Expire: %d", e)
	}
	encoded(t, "a Floor", y, sealed([]byte{'w', 'n', 2, 3, 'c', 'p', 'u', 1, 'm', 160, 56, 0}))
}

func TestEncodeSamples(t *testing.T) {
	for name, s := range samples() {
		encoded(t, name, s.base(t), s.bytes())
	}
}

func TestEncodeDrawn(t *testing.T) {
	d := die(41)
	for range 150 {
		s := drawnSheet(&d, d.n(200))
		encoded(t, "drawn", s.base(t), s.bytes())
	}
}

// TestEncodeTellsWhatIsKnown, not how the trees keep it: what waits in their nodes is told, too.
func TestEncodeTellsWhatIsKnown(t *testing.T) {
	s := many(120)
	up, down := addAll(t, base.New(), api.Point{Series: "cpu"}), addAll(t, base.New(), api.Point{Series: "cpu", Time: 119, Value: 119 % 7})
	for i := 1; i < 120; i++ {
		up = addAll(t, up, api.Point{Series: "cpu", Time: i, Value: i % 7})
		down = addAll(t, down, api.Point{Series: "cpu", Time: 119 - i, Value: (119 - i) % 7})
	}
	encoded(t, "times that rise", up, s.bytes())
	encoded(t, "times that fall", down, s.bytes())
}

func TestEncodeChangesNothing(t *testing.T) {
	for name, s := range samples() {
		x := s.base(t)
		x.Names = append(make([]string, 0, 20), x.Names...)
		for i := range x.Trees {
			x.Trees[i].Nodes = append(make([]api.Node, 0, len(x.Trees[i].Nodes)+3), x.Trees[i].Nodes...)
		}
		before := whole(x)
		a, _ := Encode(x)
		b, _ := Encode(x)
		if whole(x) != before {
			t.Errorf("%s: what was handed in was changed", name)
		}
		apart(t, name, a, b)
	}
}

func TestEncodeRefusesBasesThatMayNotBe(t *testing.T) {
	encodeRefused(t, "no trees", api.Base{}, api.ErrState)
	for name, bend := range map[string]func(x *api.Base){
		"a name that is none":           func(x *api.Base) { x.Names[0] = "Cpu" },
		"an empty name":                 func(x *api.Base) { x.Names[0] = "" },
		"a long name":                   func(x *api.Base) { x.Names[0] = "abcdefghijk" },
		"a name twice":                  func(x *api.Base) { x.Names = []string{"cpu", "cpu"} },
		"no name":                       func(x *api.Base) { x.Names = nil },
		"too many names":                func(x *api.Base) { x.Names = letters(17) },
		"a Floor below 0":               func(x *api.Base) { x.Floor = -3600 },
		"the least Floor":               func(x *api.Base) { x.Floor = math.MinInt },
		"a Floor that is no multiple":   func(x *api.Base) { x.Floor = 60 },
		"a Floor above the points":      func(x *api.Base) { x.Floor = 3600 },
		"no root":                       func(x *api.Base) { x.Trees[1].Root = 99 },
		"a tree without nodes":          func(x *api.Base) { x.Trees[2] = api.Tree{} },
		"buckets that know nothing":     func(x *api.Base) { x.Trees[1] = tree.New() },
		"buckets of another size":       func(x *api.Base) { x.Trees[2] = x.Trees[1] },
		"points that know nothing":      func(x *api.Base) { x.Trees[0] = tree.New() },
		"another Time than that of key": func(x *api.Base) { x.Trees[0].Nodes[0].Entries[0].Is.Time++ },
		"a Count of 0":                  func(x *api.Base) { x.Trees[0].Nodes[0].Entries[0].Is.Count = 0 },
		"a key twice": func(x *api.Base) {
			l := x.Trees[0].Nodes[0].Entries
			l[1].Key = l[0].Key
		},
	} {
		x := many(90).base(t)
		if e := base.Check(x); e != api.OK {
			t.Fatalf("Check: %d", e)
		}
		bend(&x)
		encodeRefused(t, name, x, api.ErrState)
	}
}

// fullTree knows of the keys from 0 on, below a number of them. It has more of them than a tree without entries that wait: each node that is no leaf keeps some.
type fullTree struct {
	tree api.Tree
	next int // key
	wait int // how many are yet to wait
}

func (f *fullTree) entries(n int) []api.Entry {
	var l []api.Entry
	for range n {
		l = append(l, at(0, f.next, 1, 5))
		f.next++
	}
	return l
}

// grow a node with as many kids as are told of its level, down to the leaves.
func (f *fullTree) grow(kids []int) int {
	var n api.Node
	if len(kids) == 0 {
		n = api.Node{Leaf: true, Entries: f.entries(6)}
	} else {
		n.Buffer = f.entries(min(8, f.wait))
		f.wait -= len(n.Buffer)
		for i := range kids[0] {
			if i > 0 {
				n.Keys = append(n.Keys, f.next)
			}
			n.Kids = append(n.Kids, f.grow(kids[1:]))
		}
	}
	f.tree.Nodes = append(f.tree.Nodes, n)
	return len(f.tree.Nodes) - 1
}

// fullBase knows of that many times: 6144 in leaves, the others wait.
func fullBase(t *testing.T, times int) api.Base {
	t.Helper()
	f := fullTree{wait: times - 6*1024}
	f.tree.Root = f.grow([]int{4, 4, 4, 4, 2, 2})
	if f.next != times || f.wait != 0 {
		t.Fatalf("the tree has %d, not %d", f.next, times)
	}
	var s sheet
	for i := range times {
		s.points = append(s.points, at(0, i, 1, 5))
	}
	x := base.New()
	x.Names = []string{"cpu"}
	x.Trees[0] = f.tree
	for i, size := range []int{60, 3600} {
		var e api.Errno
		if x.Trees[i+1], e = tree.Of(s.buckets(t, size)); e != api.OK {
			t.Fatalf("tree.Of: %d", e)
		}
	}
	if e := base.Check(x); e != api.OK {
		t.Fatalf("%d times: Check is %d", times, e)
	}
	return x
}

func TestEncodeTimesAtMost(t *testing.T) {
	s := sheet{names: []string{"cpu"}}
	for i := range mostTimes {
		s.points = append(s.points, at(0, i, 1, 5))
	}
	encoded(t, "just as many as may be", fullBase(t, mostTimes), s.bytes())
	x := fullBase(t, mostTimes+1)
	encodeRefused(t, "one more", x, api.ErrSize)
	encodeRefused(t, "all that a tree holds", fullBase(t, 12968), api.ErrSize)
	x.Floor = 1
	encodeRefused(t, "one more, in a base that may not be", x, api.ErrState)
}

// longSheet has that many bytes, few below which and above which there is another one: its times are far apart, so that their great counts come together; the names' lengths make up for the rest.
func longSheet(t *testing.T, size int) sheet {
	t.Helper()
	s := sheet{names: letters(16)}
	for i := range 8500 {
		x := at(i/550, i%550*1800, 1<<29, 600000)
		if i%2 == 1 {
			x = at(i/550, i%550*1800, 1<<29, -600000)
		}
		s.points = append(s.points, x)
	}
	over := len(s.bytes()) - size
	s.points = s.points[:len(s.points)-(over+23)/24-1]
	for i := range s.names {
		more := min(size-len(s.bytes()), 9)
		s.names[i] += strings.Repeat(".", more)
	}
	if len(s.bytes()) != size {
		t.Fatalf("%d bytes, not %d", len(s.bytes()), size)
	}
	return s
}

func TestEncodeBytesAtMost(t *testing.T) {
	s := longSheet(t, mostBytes)
	encoded(t, "just as many as may be", s.base(t), s.bytes())
	encodeRefused(t, "one more", longSheet(t, mostBytes+1).base(t), api.ErrSize)
	encodeRefused(t, "as many without the seal", longSheet(t, mostBytes+4).base(t), api.ErrSize)
	encodeRefused(t, "far more", longSheet(t, mostBytes+3000).base(t), api.ErrSize)
}
