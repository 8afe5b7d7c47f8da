package tree

import (
	"fmt"
	"maps"
	"math"
	"slices"
	"testing"

	"winnower/api"
)

// checkPut puts a rollup that may be at a key in bounds, and holds what comes of it against the contents of the nodes. It answers the tree to go on with.
func checkPut(t *testing.T, x api.Tree, key int, r api.Rollup) api.Tree {
	t.Helper()
	x = roomy(x)
	before := numbers(x)
	known := contents(x)
	y, e := Put(x, key, r)
	unchanged(t, "Put", x, before)
	if known[key].Count+r.Count > api.MaxCount {
		if e != api.ErrSize || len(y.Nodes) != 0 || y.Root != 0 {
			t.Fatalf("%v: Put at %d is %v, %d, want ErrSize", x, key, y, e)
		}
		return x
	}
	if e == api.ErrSize && len(x.Nodes) > 200 && len(y.Nodes) == 0 && y.Root == 0 {
		return x
	}
	if e != api.OK {
		t.Fatalf("%v: Put at %d: %d", x, key, e)
	}
	known[key] = plainMerge(known[key], r)
	mustBe(t, "what Put answers", y)
	if !maps.Equal(contents(y), known) {
		t.Fatalf("%v: Put at %d of %v is %v", x, key, r, y)
	}
	apart(t, "Put", append(spansOf(x), spansOf(y)...))
	return y
}

func TestPutOneByOne(t *testing.T) {
	for name, key := range map[string]func(d *die, i int) int{
		"rising":       func(d *die, i int) int { return i },
		"falling":      func(d *die, i int) int { return lastKey - i },
		"drawn, few":   func(d *die, i int) int { return d.n(40) },
		"drawn, many":  func(d *die, i int) int { return d.n(1 << 30) },
		"from the end": func(d *die, i int) int { return []int{0, lastKey, 1, lastKey - 1}[i%4] + i/4%2 - i/8%2 },
		"one":          func(d *die, i int) int { return 7 },
	} {
		t.Run(name, func(t *testing.T) {
			d := die(5)
			x := New()
			for i := range 400 {
				k := min(max(key(&d, i), 0), lastKey)
				x = checkPut(t, x, k, alike(1, d.n(9), i%50))
			}
			known := contents(x)
			for k := range known {
				checkGet(t, x, known, k)
			}
			checkAll(t, x, known, 0, keysEnd)
		})
	}
}

func TestPutAtTheEndsOfKeys(t *testing.T) {
	for _, x := range []api.Tree{New(), sample(), stacked(100, 6)} {
		for _, key := range []int{0, lastKey} {
			checkPut(t, x, key, alike(1, 5, 5))
		}
	}
}

func TestPutRefusesWrongKeysAndRollups(t *testing.T) {
	good := alike(1, 2, 3)
	for _, c := range []struct {
		name string
		key  int
		r    api.Rollup
		want api.Errno
	}{
		{"key below 0", -1, good, api.ErrRange},
		{"key too great", keysEnd, good, api.ErrRange},
		{"least key", math.MinInt, good, api.ErrRange},
		{"greatest key", math.MaxInt, good, api.ErrRange},
		{"the Count 0", 4, api.Rollup{}, api.ErrRange},
		{"the Count 0, and not in form", 4, api.Rollup{Sum: 1}, api.ErrRange},
		{"the Count below 0", 4, api.Rollup{Count: -1}, api.ErrRange},
		{"the Count above MaxCount", 4, api.Rollup{Count: api.MaxCount + 1}, api.ErrRange},
		{"the Time out of bounds", 4, api.Rollup{Count: 1, Time: api.MaxTime + 1}, api.ErrRange},
		{"not in form", 4, api.Rollup{Count: 1, Sum: 1}, api.ErrForm},
		{"a Last not in form", 4, api.Rollup{Count: 1, Last: 1}, api.ErrForm},
		{"key below 0, and not in form", -1, api.Rollup{Count: 1, Sum: 1}, api.ErrRange},
		{"not in form, where all is full", 12, api.Rollup{Count: 1, Sum: 1}, api.ErrForm},
		{"the Count 0, where all is full", 12, api.Rollup{}, api.ErrRange},
		{"not in form, where too much is known", 13, api.Rollup{Count: 1, Sum: 1}, api.ErrForm},
		{"the Count 0, where too much is known", 13, api.Rollup{}, api.ErrRange},
		{"where all is full", 12, good, api.ErrSize},
		{"where too much is known", 13, good, api.ErrSize},
	} {
		x := sample()
		x.Nodes[1].Entries = heavy(12, 13)
		x.Nodes[7].Buffer = heavy(13)
		mustBe(t, c.name, x)
		if y, e := Put(x, c.key, c.r); e != c.want || len(y.Nodes) != 0 || y.Root != 0 {
			t.Errorf("%s: Put is %v, %d, want %d", c.name, y, e, c.want)
		}
	}
}

// TestPutUpToMaxCount: what is known in several nodes counts together.
func TestPutUpToMaxCount(t *testing.T) {
	x := sample()
	x.Nodes[7].Buffer = []api.Entry{{Key: 20, Is: alike(api.MaxCount/2, 1, 1)}}
	x.Nodes[2].Entries = []api.Entry{{Key: 20, Is: alike(api.MaxCount/2-1, 1, 1)}}
	y := checkPut(t, x, 20, alike(1, 1, 1))
	if r, e := Get(y, 20); e != api.OK || r != alike(api.MaxCount, 1, 1) {
		t.Errorf("Get is %v, %d", r, e)
	}
	for _, z := range []api.Tree{x, y} {
		if _, e := Put(z, 20, alike(2, 1, 1)); e != api.ErrSize {
			t.Errorf("Put of too much is %d", e)
		}
	}
}

func TestPutIntoDrawnTrees(t *testing.T) {
	d := die(6)
	for _, w := range drawings() {
		for range 10 {
			x := drawnTree(&d, w)
			for range 20 {
				x = checkPut(t, x, drawnKey(&d, x), drawnRollup(&d, w))
			}
		}
	}
}

// complete is a tree in which each node that is no leaf has so many kids; leaf i has the keys from i * 1000 on, and MaxLeaf entries with the first ones.
func complete(depth, kids int, entries func(keys ...int) []api.Entry) api.Tree {
	var x api.Tree
	var row []int
	for i := range leavesOf(depth, kids) {
		row = append(row, i)
		x.Nodes = append(x.Nodes, leaf(entries(upTo(i*1000, i*1000+api.MaxLeaf)...)))
	}
	for wide := 1000; len(row) > 1; wide *= kids {
		var upper []int
		for i := 0; i < len(row); i += kids {
			n := api.Node{Kids: slices.Clone(row[i : i+kids])}
			for j := 1; j < kids; j++ {
				n.Keys = append(n.Keys, (i+j)*wide)
			}
			upper = append(upper, len(x.Nodes))
			x.Nodes = append(x.Nodes, n)
		}
		row = upper
	}
	x.Root = len(x.Nodes) - 1
	return x
}

func leavesOf(depth, kids int) int {
	n := 1
	for range depth - 1 {
		n *= kids
	}
	return n
}

// fill all buffers from a node on down, by how deep a node is, and which keys it has.
func fill(x *api.Tree, place, depth, low, high int, buffer func(depth, low, high int) []api.Entry) {
	n := &x.Nodes[place]
	if n.Leaf {
		return
	}
	n.Buffer = buffer(depth, low, high)
	for i, kid := range n.Kids {
		end := high
		if i < len(n.Keys) {
			end = n.Keys[i]
		}
		fill(x, kid, depth+1, low, end, buffer)
		low = end
	}
}

var greatSizes = [][2]int{{2, 2}, {2, 4}, {3, 3}, {3, 4}, {4, 4}, {5, 2}, {5, 3}, {6, 2}, {7, 2}}

// TestPutWhereAllIsFull: all that waits is for one leaf, so that it goes down all the way, and splits all nodes on it.
func TestPutWhereAllIsFull(t *testing.T) {
	for _, size := range greatSizes {
		x := complete(size[0], size[1], marks)
		fill(&x, x.Root, 1, 0, keysEnd, func(depth, low, high int) []api.Entry {
			return marks(upTo(low+10*depth, low+10*depth+api.MaxBuffer)...)
		})
		mustBe(t, "full", x)
		for i := range 60 {
			if len(x.Nodes) > 200 {
				break
			}
			x = checkPut(t, x, 500+i, alike(1, 1, 1))
		}
		checkAll(t, x, contents(x), 0, keysEnd)
	}
}

// TestPutWhereAllIsStuck: no entry can come together with that of its key in a leaf; a tree may be so, and takes others all the same.
func TestPutWhereAllIsStuck(t *testing.T) {
	for _, size := range greatSizes {
		x := complete(size[0], size[1], heavy)
		end := leavesOf(size[0], size[1]) * 1000
		fill(&x, x.Root, 1, 0, keysEnd, func(depth, low, high int) []api.Entry {
			last := min(high, end) - 1000 // where the keys of its last leaf begin
			return heavy(low, low+1, low+2, low+3, last, last+1, last+2, last+3)
		})
		mustBe(t, "stuck", x)
		for i := range 60 {
			if len(x.Nodes) > 200 {
				break
			}
			x = checkPut(t, x, 500-i, alike(1, i, 1))
			x = checkPut(t, x, end+i, alike(1, i, 1))
			if _, e := Put(x, 2, alike(1, 1, 1)); e != api.ErrSize {
				t.Fatalf("Put where too much is known: %d", e)
			}
		}
		if _, e := All(x, 0, keysEnd); e != api.ErrSize {
			t.Fatalf("All is %d, want ErrSize", e)
		}
		checkAll(t, x, contents(x), 6, 1000)
	}
}

// TestPutIntoTheGreatestTree: it may be refused, but only as too much, and what is answered otherwise may be.
func TestPutIntoTheGreatestTree(t *testing.T) {
	x := stacked(1498, api.MaxLeaf)
	refused := false
	for i := range 400 {
		y, e := Put(x, i, alike(1, 1, 1))
		if e == api.OK {
			mustBe(t, "the greatest tree", y)
			x = y
			continue
		}
		refused = true
		if e != api.ErrSize || len(y.Nodes) != 0 || y.Root != 0 {
			t.Fatalf("Put is %v, %d", y, e)
		}
	}
	d := die(8)
	for range 16 * api.MaxNodes {
		if refused {
			return
		}
		y, e := Put(x, d.n(keysEnd), alike(1, 1, 1))
		refused, x = e == api.ErrSize, y
	}
	t.Error("more was taken than MaxNodes nodes hold")
}

// TestWhatWaitsGoesDownWhenItIsEnough: for the kid for which most waits that is not stuck, and only then.
func TestWhatWaitsGoesDownWhenItIsEnough(t *testing.T) {
	x := complete(2, 4, marks)
	x.Nodes[1].Entries = heavy(1000, 1001, 1002, 1003)
	for i, k := range []int{20, 1020, 2020, 2021, 3020, 3021, 3022} {
		y := checkPut(t, x, k, alike(1, 1, 1))
		if plain(api.Tree{Nodes: x.Nodes[:4]}) != plain(api.Tree{Nodes: y.Nodes[:4]}) || len(y.Nodes[4].Buffer) != i+1 {
			t.Fatalf("Put at %d did not let it wait: %v", k, y)
		}
		x = y
	}
	y := checkPut(t, checkPut(t, x, 2022, alike(1, 1, 1)), 2021, alike(1, 1, 1))
	if len(y.Nodes[4].Buffer) != api.MaxBuffer {
		t.Errorf("what came to a key that waits did not wait there: %v", y)
	}
	y = checkPut(t, x, 2022, alike(1, 1, 1))
	y = checkPut(t, y, 2023, alike(1, 1, 1))
	wait(t, y, 20, 1020, 2023, 3020, 3021, 3022)
	x.Nodes[4].Buffer = append(append(marks(20), heavy(1000, 1001, 1002, 1003)...), marks(2020, 3020, 3021)...)
	wait(t, checkPut(t, x, 2021, alike(1, 1, 1)), 20, 1000, 1001, 1002, 1003, 2020, 2021)
}

// wait: just these keys wait in the node that was the root.
func wait(t *testing.T, x api.Tree, keys ...int) {
	t.Helper()
	var l []int
	for i := 4; i < len(x.Nodes); i++ {
		for _, x := range x.Nodes[i].Buffer {
			l = append(l, x.Key)
		}
	}
	slices.Sort(l)
	if !slices.Equal(l, keys) {
		t.Errorf("%v wait, want %v", l, keys)
	}
}

// TestMostPutsChangeFewNodes: what waits is not sent down one by one.
func TestMostPutsChangeFewNodes(t *testing.T) {
	d := die(9)
	x := stacked(150, 3)
	changed, puts := 0, 500
	for range puts {
		y := checkPut(t, x, d.n(450), alike(1, 1, 1))
		for i := range x.Nodes {
			if fmt.Sprint(x.Nodes[i]) != fmt.Sprint(y.Nodes[i]) {
				changed++
			}
		}
		x = y
	}
	if changed > 4*puts {
		t.Errorf("%d puts changed %d nodes", puts, changed)
	}
}

func TestPutAnswersTheSameEachTime(t *testing.T) {
	d := die(10)
	for _, w := range drawings() {
		x := drawnTree(&d, w)
		key, r := drawnKey(&d, x), drawnRollup(&d, w)
		a, e := Put(x, key, r)
		b, f := Put(roomy(x), key, r)
		if plain(a) != plain(b) || e != f {
			t.Errorf("Put is %v, %d, then %v, %d", a, e, b, f)
		}
	}
}
