package tree

import (
	"fmt"
	"math"
	"slices"
	"testing"

	"winnower/api"
)

func TestNewKnowsNothing(t *testing.T) {
	x := New()
	mustBe(t, "New", x)
	if l, e := All(x, math.MinInt, math.MaxInt); len(l) != 0 || e != api.OK {
		t.Errorf("All is %v, %d", l, e)
	}
	if r, e := Get(x, 0); r != (api.Rollup{}) || e != api.OK {
		t.Errorf("Get is %v, %d", r, e)
	}
}

func TestNewIsNewEachTime(t *testing.T) {
	a, b := New(), New()
	apart(t, "New", append(spansOf(a), spansOf(b)...))
}

func TestCopyIsTheSameTree(t *testing.T) {
	wrong := api.Tree{Root: -9, Nodes: []api.Node{
		{Leaf: true, Entries: marks(3, 2), Keys: []int{8, 7, 7}, Kids: []int{0, -1, 99}, Buffer: marks(6, 6)},
		{Entries: marks(1)},
	}}
	for name, x := range map[string]api.Tree{
		"nothing": {}, "a root alone": {Root: 4}, "new": New(), "sample": sample(), "one that may not be": wrong, "many nodes": stacked(1600, 6),
	} {
		x = roomy(x)
		before := numbers(x)
		c := Copy(x)
		if plain(c) != plain(x) {
			t.Errorf("%s: the copy is %v", name, c)
		}
		unchanged(t, name, x, before)
		apart(t, name, append(spansOf(x), spansOf(c)...))
	}
}

func TestAllBringsTogetherWhatNodesKnow(t *testing.T) {
	x := sample()
	l, e := All(x, 0, keysEnd)
	if e != api.OK {
		t.Fatalf("All: %d", e)
	}
	want := []int{0, 5, 9, 10, 11, 12, 13, 14, 19, 20, 29, 30, 31, 32, 33, 34, 35, 36, 37, lastKey}
	var keys []int
	for _, x := range l {
		keys = append(keys, x.Key)
	}
	if !slices.Equal(keys, want) {
		t.Errorf("keys %v, want %v", keys, want)
	}
	eleven := api.Rollup{Count: 6, Sum: 66, Min: 11, Max: 11, Time: 11, Last: 11}
	if l[4].Is != eleven {
		t.Errorf("of 11: %+v, want %+v", l[4].Is, eleven)
	}
}

// TestAllOfOneKeyInSeveralNodes: the last one is that with the greater Time, of two at one time the greater one, wherever it stands.
func TestAllOfOneKeyInSeveralNodes(t *testing.T) {
	rolls := []api.Rollup{alike(1, 4, 20), alike(2, 9, 10), alike(3, 6, 20)}
	for _, order := range [][]int{{0, 1, 2}, {0, 2, 1}, {1, 0, 2}, {1, 2, 0}, {2, 0, 1}, {2, 1, 0}} {
		x := sample()
		x.Nodes[7].Buffer = []api.Entry{{Key: 20, Is: rolls[order[0]]}}
		x.Nodes[3].Buffer = []api.Entry{{Key: 20, Is: rolls[order[1]]}}
		x.Nodes[2].Entries = []api.Entry{{Key: 20, Is: rolls[order[2]]}}
		want := api.Rollup{Count: 6, Sum: 40, Min: 4, Max: 9, Time: 20, Last: 6}
		if l, e := All(x, 20, 21); e != api.OK || len(l) != 1 || l[0] != (api.Entry{Key: 20, Is: want}) {
			t.Errorf("All is %v, %d, want %v", l, e, want)
		}
		if r, e := Get(x, 20); e != api.OK || r != want {
			t.Errorf("Get is %v, %d, want %v", r, e, want)
		}
	}
}

func TestAllTakesAnyBounds(t *testing.T) {
	x := sample()
	for _, c := range []struct{ low, high, count int }{
		{0, keysEnd, 20}, {math.MinInt, math.MaxInt, 20}, {-1, keysEnd + 1, 20},
		{0, lastKey, 19}, {1, keysEnd, 19}, {lastKey, keysEnd, 1}, {lastKey, math.MaxInt, 1}, {keysEnd, math.MaxInt, 0},
		{0, 0, 0}, {0, 1, 1}, {math.MinInt, 0, 0}, {5, 5, 0}, {9, 5, 0}, {30, 10, 0}, {math.MaxInt, math.MinInt, 0},
		{10, 20, 6}, {9, 21, 8}, {20, 30, 2}, {29, 31, 2}, {30, 40, 8}, {38, lastKey, 0}, {1, 5, 0}, {1, 6, 1},
	} {
		l, e := All(x, c.low, c.high)
		if e != api.OK || len(l) != c.count {
			t.Errorf("All from %d below %d: %d entries, %d, want %d", c.low, c.high, len(l), e, c.count)
		}
	}
}

// TestWhatCanNotComeTogether is asked only of the keys that are told.
func TestWhatCanNotComeTogether(t *testing.T) {
	x := sample()
	x.Nodes[7].Buffer = append(marks(0), heavy(12)...)
	mustBe(t, "a key that is too much", x)
	for _, c := range []struct{ low, high int }{{0, keysEnd}, {12, 13}, {0, 13}, {12, 40}, {math.MinInt, math.MaxInt}} {
		if l, e := All(x, c.low, c.high); e != api.ErrSize || len(l) != 0 {
			t.Errorf("All from %d below %d is %v, %d, want ErrSize", c.low, c.high, l, e)
		}
	}
	for _, c := range []struct{ low, high, count int }{{0, 12, 5}, {13, keysEnd, 14}, {12, 12, 0}, {13, 12, 0}} {
		if l, e := All(x, c.low, c.high); e != api.OK || len(l) != c.count {
			t.Errorf("All from %d below %d is %v, %d", c.low, c.high, l, e)
		}
	}
	if r, e := Get(x, 12); e != api.ErrSize || r != (api.Rollup{}) {
		t.Errorf("Get of 12 is %v, %d, want ErrSize", r, e)
	}
	if r, e := Get(x, 11); e != api.OK || r != alike(3, 11, 11) {
		t.Errorf("Get of 11 is %v, %d", r, e)
	}
}

// TestJustMaxCountComesTogether over three nodes; one more does not.
func TestJustMaxCountComesTogether(t *testing.T) {
	for more, want := range []api.Errno{api.OK, api.ErrSize} {
		x := sample()
		x.Nodes[7].Buffer = []api.Entry{{Key: 20, Is: alike(api.MaxCount/2, 1, 1)}}
		x.Nodes[3].Buffer = []api.Entry{{Key: 20, Is: alike(api.MaxCount/4, 1, 1)}}
		x.Nodes[2].Entries = []api.Entry{{Key: 20, Is: alike(api.MaxCount/4+more, 1, 1)}}
		if _, e := All(x, 20, 21); e != want {
			t.Errorf("All with %d more is %d, want %d", more, e, want)
		}
		r, e := Get(x, 20)
		if e != want || e == api.OK && r != alike(api.MaxCount, 1, 1) || e != api.OK && r != (api.Rollup{}) {
			t.Errorf("Get with %d more is %v, %d, want %d", more, r, e, want)
		}
	}
}

func TestGetAsksTheKey(t *testing.T) {
	x := sample()
	for _, key := range []int{-1, keysEnd, keysEnd + 1, math.MinInt, math.MaxInt} {
		if r, e := Get(x, key); e != api.ErrRange || r != (api.Rollup{}) {
			t.Errorf("Get of %d is %v, %d, want ErrRange", key, r, e)
		}
	}
	for _, key := range []int{1, 4, 15, 21, 38, 39, 40, lastKey - 1} {
		if r, e := Get(x, key); e != api.OK || r != (api.Rollup{}) {
			t.Errorf("Get of %d is %v, %d, want nothing", key, r, e)
		}
	}
	for key, want := range contents(x) {
		if r, e := Get(x, key); e != api.OK || r != want {
			t.Errorf("Get of %d is %v, %d, want %v", key, r, e, want)
		}
	}
}

// TestDrawnTreesTellWhatTheyHold holds All and Get against a plain look at all nodes.
func TestDrawnTreesTellWhatTheyHold(t *testing.T) {
	d := die(4)
	for _, w := range drawings() {
		for range 12 {
			x := roomy(drawnTree(&d, w))
			before := numbers(x)
			known := contents(x)
			for range 12 {
				low := drawnKey(&d, x)
				checkAll(t, x, known, low, low+d.n(40))
				checkAll(t, x, known, low, drawnKey(&d, x))
				checkGet(t, x, known, low)
			}
			checkAll(t, x, known, 0, keysEnd)
			unchanged(t, "All and Get", x, before)
		}
	}
}

// drawnKey is one of the tree's, or near one.
func drawnKey(d *die, x api.Tree) int {
	n := x.Nodes[d.n(len(x.Nodes))]
	l := slices.Concat(n.Entries, n.Buffer, []api.Entry{{Key: d.n(50)}})
	return min(max(l[d.n(len(l))].Key+d.n(3)-1, 0), lastKey)
}

func checkAll(t *testing.T, x api.Tree, known map[int]api.Rollup, low, high int) {
	t.Helper()
	var want []api.Entry
	code := api.OK
	for k, r := range known {
		if low <= k && k < high {
			want = append(want, api.Entry{Key: k, Is: r})
			if r.Count > api.MaxCount {
				code = api.ErrSize
			}
		}
	}
	slices.SortFunc(want, func(a, b api.Entry) int { return a.Key - b.Key })
	if code != api.OK {
		want = nil
	}
	if l, e := All(x, low, high); e != code || !slices.Equal(l, want) {
		t.Fatalf("%v: All from %d below %d is %v, %d, want %v, %d", x, low, high, l, e, want, code)
	}
}

func checkGet(t *testing.T, x api.Tree, known map[int]api.Rollup, key int) {
	t.Helper()
	want, code := known[key], api.OK
	if want.Count > api.MaxCount {
		want, code = api.Rollup{}, api.ErrSize
	}
	if r, e := Get(x, key); e != code || r != want {
		t.Fatalf("%v: Get of %d is %v, %d, want %v, %d", x, key, r, e, want, code)
	}
}

func TestAllAnswersNewMemory(t *testing.T) {
	x := New()
	x.Nodes[0].Entries = marks(1, 2, 3)
	a, _ := All(x, 0, 9)
	b, _ := All(x, 0, 9)
	apart(t, "All", append(spansOf(x), spanOf(a), spanOf(b)))
	if fmt.Sprint(a) != fmt.Sprint(b) || fmt.Sprint(a) != fmt.Sprint(marks(1, 2, 3)) {
		t.Errorf("All is %v, then %v", a, b)
	}
}
