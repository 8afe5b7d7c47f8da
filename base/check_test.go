package base

import (
	"fmt"
	"math"
	"slices"
	"strconv"
	"strings"
	"testing"
	"unsafe"

	"winnower/api"
	"winnower/tree"
)

func manyNames(n int) []string {
	var l []string
	for i := range n {
		l = append(l, "s."+strconv.Itoa(i))
	}
	return l
}

// heavyModel: its points have these counts; all of them are in one bucket of 3600.
func heavyModel(counts ...int) *model {
	m := &model{names: []string{"cpu"}}
	for i, n := range counts {
		m.marks = append(m.marks, mark{0, 40 * i, alike(n, 2, 40*i)})
	}
	return m
}

func TestNewIsABase(t *testing.T) {
	b := New()
	tells(t, "New", b, &model{})
	apart(t, "New", b, New())
}

func TestCheckTakesBasesThatMayBe(t *testing.T) {
	for name, m := range map[string]*model{
		"nothing":                        {},
		"names that know nothing":        {names: []string{"a", "b"}},
		"MaxSeries names":                {names: manyNames(api.MaxSeries)},
		"the greatest Floor":             {names: []string{"a"}, floor: lastFloor},
		"a Floor, no names":              {floor: 7200},
		"a point at the Floor":           {names: []string{"a"}, floor: 7200, marks: []mark{{0, 7200, alike(1, 1, 7200)}}},
		"the last time of the last name": {names: manyNames(api.MaxSeries), marks: []mark{{api.MaxSeries - 1, lastTime, alike(1, 1, lastTime)}}},
		"sample":                         sampleModel(),
		"just MaxCount in a bucket":      heavyModel(api.MaxCount-3, 2, 1),
		"more than MaxCount, in two":     {names: []string{"a"}, marks: []mark{{0, 3599, alike(api.MaxCount, 1, 3599)}, {0, 3600, alike(api.MaxCount, 1, 3600)}}},
		"names at their greatest":        {names: []string{"abcdefghij", "abcdefghi", "."}},
		"a rollup that no points have":   {names: []string{"a"}, marks: []mark{{0, 5, api.Rollup{Count: 1, Sum: 3, Min: 0, Max: 5, Time: 5, Last: 4}}}},
	} {
		mustBe(t, name, m.base(t))
	}
}

// TestCheckAsksWhatTreesKnow, not how: any tree that knows the same will do.
func TestCheckAsksWhatTreesKnow(t *testing.T) {
	d := die(5)
	for range 30 {
		m := drawnModel(&d, 60)
		b := m.base(t)
		for i, size := range testSizes() {
			x := tree.New()
			for _, at := range d.order(len(m.marks)) {
				p := m.marks[at]
				var e api.Errno
				if x, e = tree.Put(x, p.place*seriesKeys+p.time/size*size, p.is); e != api.OK {
					t.Fatalf("tree.Put: %d", e)
				}
			}
			b.Trees[i] = x
			mustBe(t, fmt.Sprint("another tree for ", size), b)
		}
	}
}

func (d *die) order(n int) []int {
	var l []int
	for i := range n {
		l = slices.Insert(l, d.n(i+1), i)
	}
	return l
}

type bend struct {
	name   string
	change func(b *api.Base)
}

// refuseBent bends the sample; the base that comes of it must be refused by all that take one.
func refuseBent(t *testing.T, l []bend) {
	t.Helper()
	for _, x := range l {
		b := sampleModel().base(t)
		mustBe(t, "the sample", b)
		x.change(&b)
		refused(t, x.name, b)
	}
}

// refused asks with other arguments that would be refused, too: the base tells first.
func refused(t *testing.T, name string, b api.Base) {
	t.Helper()
	if e := Check(b); e != api.ErrState {
		t.Errorf("%s: Check is %d, want ErrState", name, e)
	}
	for _, p := range []api.Point{{Series: "cpu", Time: 9000}, {Series: "Bad", Time: 9000}, {Series: "cpu", Time: -1}, {Series: "cpu"}, {Series: "other", Value: math.MaxInt}} {
		if c, e := Add(b, p); e != api.ErrState || !zeroBase(c) {
			t.Errorf("%s: Add of %v is %v, %d, want ErrState", name, p, c, e)
		}
	}
	for _, series := range []string{"cpu", "other", ""} {
		for _, from := range []int{0, -1, 9000} {
			if l, e := Rows(b, series, 60+from, from, 4000); e != api.ErrState || len(l) != 0 {
				t.Errorf("%s: Rows is %v, %d, want ErrState", name, l, e)
			}
			if r, e := Total(b, series, from, 4000); e != api.ErrState || r != (api.Rollup{}) {
				t.Errorf("%s: Total is %v, %d, want ErrState", name, r, e)
			}
		}
	}
	for _, time := range []int{7200, -1, 1, 0, lastTime + 1} {
		if c, e := Expire(b, time); e != api.ErrState || !zeroBase(c) {
			t.Errorf("%s: Expire is %v, %d, want ErrState", name, c, e)
		}
	}
}

func TestCheckRefusesWrongNames(t *testing.T) {
	refuseBent(t, []bend{
		{"MaxSeries and one", func(b *api.Base) { b.Names = append(b.Names, manyNames(14)...) }},
		{"far too many", func(b *api.Base) { b.Names = make([]string, 1000000) }},
		{"an empty one", func(b *api.Base) { b.Names[1] = "" }},
		{"an empty one behind all", func(b *api.Base) { b.Names = append(b.Names, "") }},
		{"not in form", func(b *api.Base) { b.Names[0] = "Cpu" }},
		{"not in form, the last one", func(b *api.Base) { b.Names[2] = "a-b" }},
		{"too long", func(b *api.Base) { b.Names[2] = "abcdefghijk" }},
		{"far too long", func(b *api.Base) { b.Names[2] = strings.Repeat("a", 1000000) }},
		{"the first two are the same", func(b *api.Base) { b.Names[1] = "cpu" }},
		{"the last two are the same", func(b *api.Base) { b.Names[1] = "idle" }},
		{"the first and the last one are the same", func(b *api.Base) { b.Names[2] = "cpu" }},
		{"all are the same", func(b *api.Base) { b.Names = []string{"a", "a", "a"} }},
		{"none, with points", func(b *api.Base) { b.Names = nil }},
		{"one, with points of another one", func(b *api.Base) { b.Names = b.Names[:1] }},
	})
}

func TestCheckRefusesWrongFloors(t *testing.T) {
	for _, floor := range []int{-1, -3600, 1, 60, 3599, 3601, 1800, lastTime, lastTime + 1, lastFloor - 1, lastFloor + 60, lastFloor + 3600, 3600 * 3600, math.MinInt, math.MaxInt, math.MinInt / 3600 * 3600, math.MaxInt / 3600 * 3600} {
		b := New()
		b.Floor = floor
		refused(t, fmt.Sprint("the Floor ", floor), b)
		b = sampleModel().base(t)
		b.Floor = floor
		refused(t, fmt.Sprint("the Floor of the sample ", floor), b)
	}
	refuseBent(t, []bend{
		{"above one point", func(b *api.Base) { b.Floor = 7200 }},
		{"above many points", func(b *api.Base) { b.Floor = lastFloor }},
	})
}

func TestCheckRefusesWrongTrees(t *testing.T) {
	tooMany := api.Tree{Nodes: make([]api.Node, api.MaxNodes+1)}
	for step := range api.Steps {
		refuseBent(t, []bend{
			{"no tree", func(b *api.Base) { b.Trees[step] = api.Tree{} }},
			{"another root", func(b *api.Base) { b.Trees[step].Root = 99 }},
			{"a node too many", func(b *api.Base) {
				b.Trees[step].Nodes = append(b.Trees[step].Nodes, api.Node{Leaf: true})
			}},
			{"too many nodes", func(b *api.Base) { b.Trees[step] = tooMany }},
			{"an empty one", func(b *api.Base) { b.Trees[step] = tree.New() }},
			{"that of another size", func(b *api.Base) { b.Trees[step] = tree.Copy(b.Trees[(step+1)%api.Steps]) }},
		})
		b := New()
		b.Trees[step] = tooMany
		refused(t, "too many nodes, of one that knows nothing", b)
		b = New()
		b.Trees[step] = api.Tree{}
		refused(t, "no tree, of one that knows nothing", b)
	}
	refused(t, "no trees", api.Base{})
	refused(t, "all trees the same", api.Base{Names: []string{"a"}, Trees: [3]api.Tree{treeOf(t, []api.Entry{{Key: 61, Is: alike(1, 1, 61)}}), treeOf(t, []api.Entry{{Key: 61, Is: alike(1, 1, 61)}}), treeOf(t, []api.Entry{{Key: 61, Is: alike(1, 1, 61)}})}})
}

// TestCheckRefusesWrongPoints: the trees fit one another, but the points may not be.
func TestCheckRefusesWrongPoints(t *testing.T) {
	for name, m := range map[string]*model{
		"of no series":                  {marks: []mark{{0, 5, alike(1, 1, 5)}}},
		"of a series behind all":        {names: []string{"a"}, marks: []mark{{1, 0, alike(1, 1, 0)}}},
		"of a series behind MaxSeries":  {names: manyNames(api.MaxSeries), marks: []mark{{api.MaxSeries, 5, alike(1, 1, 5)}}},
		"at the last key":               {names: []string{"a"}, marks: []mark{{1<<20 - 1, lastTime, alike(1, 1, lastTime)}}},
		"below the Floor":               {names: []string{"a"}, floor: 3600, marks: []mark{{0, 3599, alike(1, 1, 3599)}}},
		"far below the Floor":           {names: []string{"a", "b"}, floor: 7200, marks: []mark{{1, 0, alike(1, 1, 0)}}},
		"one of many below the Floor":   {names: []string{"a", "b"}, floor: 7200, marks: []mark{{0, 7200, alike(1, 1, 7200)}, {0, 7201, alike(1, 1, 7201)}, {1, 7199, alike(1, 1, 7199)}}},
		"a Time below that of the key":  {names: []string{"a"}, marks: []mark{{0, 5, alike(1, 1, 4)}}},
		"a Time above that of the key":  {names: []string{"a"}, marks: []mark{{0, 5, alike(1, 1, 6)}}},
		"the Time 0":                    {names: []string{"a"}, marks: []mark{{0, 7, alike(1, 1, 0)}}},
		"a Time that counts all series": {names: []string{"a", "b"}, marks: []mark{{1, 5, alike(1, 1, lastTime)}}},
		"one of many with another Time": {names: []string{"a", "b"}, marks: []mark{{0, 5, alike(1, 1, 5)}, {1, 5, alike(1, 1, 5)}, {1, 9, alike(1, 1, 8)}}},
	} {
		refused(t, name, m.base(t))
	}
}

// TestCheckRefusesWrongBuckets bends one entry of one tree, in each way there is.
func TestCheckRefusesWrongBuckets(t *testing.T) {
	wide := &model{names: []string{"cpu", "mem"}, marks: []mark{
		{0, 100, api.Rollup{Count: 5, Sum: 10, Min: -5, Max: 9, Time: 100, Last: 3}},
		{1, 4000, api.Rollup{Count: 7, Sum: 10, Min: -5, Max: 9, Time: 4000, Last: 3}},
	}}
	mustBe(t, "two points", wide.base(t))
	for name, change := range map[string]func(x *api.Entry){
		"a Count too many":  func(x *api.Entry) { x.Is.Count++ },
		"a Count too few":   func(x *api.Entry) { x.Is.Count-- },
		"another Sum":       func(x *api.Entry) { x.Is.Sum++ },
		"a lesser Min":      func(x *api.Entry) { x.Is.Min-- },
		"a greater Min":     func(x *api.Entry) { x.Is.Min++ },
		"a greater Max":     func(x *api.Entry) { x.Is.Max++ },
		"a lesser Max":      func(x *api.Entry) { x.Is.Max-- },
		"a later Time":      func(x *api.Entry) { x.Is.Time++ },
		"an earlier Time":   func(x *api.Entry) { x.Is.Time-- },
		"another Last":      func(x *api.Entry) { x.Is.Last++ },
		"one key on":        func(x *api.Entry) { x.Key++ },
		"60 keys on":        func(x *api.Entry) { x.Key += 60 },
		"3600 keys on":      func(x *api.Entry) { x.Key += 3600 },
		"of a series on":    func(x *api.Entry) { x.Key += seriesKeys },
		"all its keys away": func(x *api.Entry) { x.Key += 1 << 39 },
	} {
		for step, size := range testSizes() {
			for i := range 2 {
				b := wide.base(t)
				l := wide.entries(size)
				change(&l[i])
				slices.SortFunc(l, func(a, b api.Entry) int { return a.Key - b.Key })
				if l[0].Key == l[1].Key {
					continue
				}
				b.Trees[step] = treeOf(t, l)
				refused(t, fmt.Sprint(name, ", entry ", i, " of size ", size), b)
			}
		}
	}
}

func TestCheckRefusesBucketsTooManyAndTooFew(t *testing.T) {
	m := sampleModel()
	for step, size := range testSizes() {
		l := m.entries(size)
		for i := range l {
			b := m.base(t)
			b.Trees[step] = treeOf(t, slices.Delete(slices.Clone(l), i, i+1))
			refused(t, fmt.Sprint("without entry ", i, " of size ", size), b)
		}
		for _, x := range []api.Entry{{Key: 2*seriesKeys + 7200, Is: alike(1, 1, 7200)}, {Key: 2*seriesKeys + 3600, Is: alike(1, 1, 3660)}, {Key: 3 * seriesKeys, Is: alike(1, 1, 0)}} {
			b := m.base(t)
			b.Trees[step] = treeOf(t, append(slices.Clone(l), x))
			refused(t, fmt.Sprint("with ", x, " of size ", size), b)
		}
	}
}

// TestCheckRefusesWhatCanNotComeTogether: whatever the bucket says of it.
func TestCheckRefusesWhatCanNotComeTogether(t *testing.T) {
	for _, counts := range [][]int{{api.MaxCount, 1}, {1, api.MaxCount}, {api.MaxCount, api.MaxCount}, {api.MaxCount - 2, 1, 1, 1}} {
		m := heavyModel(counts...)
		for _, x := range []api.Rollup{alike(api.MaxCount, 2, 40*len(counts)-40), m.marks[0].is, m.marks[1].is} {
			b := api.Base{Names: m.names}
			b.Trees[0] = treeOf(t, m.entries(1))
			b.Trees[1] = treeOf(t, []api.Entry{{Key: 0, Is: x}})
			b.Trees[2] = treeOf(t, []api.Entry{{Key: 0, Is: x}})
			refused(t, fmt.Sprint("a bucket with the counts ", counts), b)
			b.Trees[1], b.Trees[2] = tree.New(), tree.New()
			refused(t, fmt.Sprint("no bucket for the counts ", counts), b)
		}
	}
}

// TestCheckRefusesAKeyThatCanNotComeTogether: a tree may be so, but a base may not.
func TestCheckRefusesAKeyThatCanNotComeTogether(t *testing.T) {
	for step := range api.Steps {
		b := heavyModel(api.MaxCount).base(t)
		full := []api.Entry{{Key: 0, Is: alike(api.MaxCount, 2, 0)}}
		b.Trees[step] = api.Tree{Nodes: []api.Node{
			{Kids: []int{1, 2}, Keys: []int{3600}, Buffer: full},
			{Leaf: true, Entries: full},
			{Leaf: true, Entries: []api.Entry{{Key: 3600, Is: alike(1, 1, 3600)}}},
		}}
		if e := tree.Check(b.Trees[step]); e != api.OK {
			t.Fatalf("the tree may not be: %d", e)
		}
		refused(t, fmt.Sprint("tree ", step), b)
		alone := New()
		alone.Names, alone.Trees[step] = b.Names, b.Trees[step]
		refused(t, fmt.Sprint("tree ", step, ", the others know nothing"), alone)
	}
}

// TestCheckOfBentBases bends drawn bases anyhow, and holds Check against the model of what the first tree knows.
func TestCheckOfBentBases(t *testing.T) {
	d := die(8)
	found := map[bool]int{}
	for range 600 {
		m := drawnModel(&d, 1+d.n(30))
		b := m.base(t)
		var lists [3][]api.Entry
		for i, size := range testSizes() {
			lists[i] = m.entries(size)
		}
		for range d.n(3) {
			bendAnyhow(&d, &b, &lists)
		}
		for i, l := range lists {
			b.Trees[i] = treeOf(t, l)
		}
		want := mayBePlainly(b, lists)
		found[want]++
		if got := Check(b) == api.OK; got != want {
			t.Fatalf("Check of %v is %v, want %v", b, got, want)
		}
		if !want {
			refused(t, "bent", b)
		}
	}
	if found[true] < 60 || found[false] < 60 {
		t.Errorf("the bent bases are too much alike: %v", found)
	}
}

// bendAnyhow, but so that each tree may still be.
func bendAnyhow(d *die, b *api.Base, lists *[3][]api.Entry) {
	l := lists[d.n(3)]
	if len(l) == 0 {
		return
	}
	at := d.n(len(l))
	switch d.n(8) {
	case 0:
		b.Floor += 3600 * (d.n(3) - 1)
	case 1:
		b.Names = b.Names[:d.n(len(b.Names))+1]
	case 2:
		l[at].Is.Time = min(l[at].Is.Time+d.n(2), lastTime)
	case 3:
		l[at].Is = plainMerge(l[at].Is, alike(d.n(2), l[at].Is.Max, 0))
	case 4, 5:
		// The same point more, in one tree or in all: then it may be again.
		p := lists[0][d.n(len(lists[0]))]
		for i, size := range testSizes() {
			key := p.Key/seriesKeys*seriesKeys + p.Key%seriesKeys/size*size
			for j, x := range lists[i] {
				if x.Key == key && (i == 0 || d.n(4) > 0) {
					lists[i][j].Is = plainMerge(x.Is, alike(1, 3, p.Key%seriesKeys))
				}
			}
		}
	case 6:
		if at == len(l)-1 {
			l[at].Key += d.n(2)
		}
	case 7:
		b.Names = append(b.Names, "more")
	}
}

// mayBePlainly says it from the first list alone.
func mayBePlainly(b api.Base, lists [3][]api.Entry) bool {
	m := model{names: b.Names, floor: b.Floor}
	for _, x := range lists[0] {
		m.marks = append(m.marks, mark{x.Key / seriesKeys, x.Key % seriesKeys, x.Is})
		if x.Key/seriesKeys >= len(b.Names) || x.Key%seriesKeys < b.Floor || x.Is.Time != x.Key%seriesKeys {
			return false
		}
	}
	names := map[string]int{}
	for _, s := range b.Names {
		names[s]++
	}
	return b.Floor >= 0 && len(names) == len(b.Names) && slices.Equal(lists[1], m.entries(60)) && slices.Equal(lists[2], m.entries(3600))
}

func TestCopyIsTheSameBase(t *testing.T) {
	wrong := api.Base{Names: []string{"", "No!", "No!"}, Floor: -7}
	wrong.Trees[1] = api.Tree{Root: -9, Nodes: []api.Node{{Leaf: true, Keys: []int{8, 7, 7}, Kids: []int{0, -1, 99}}, {Entries: []api.Entry{{Key: -1}}}}}
	for name, b := range map[string]api.Base{"nothing": {}, "new": New(), "sample": sampleModel().base(t), "one that may not be": wrong, "many names": {Names: manyNames(100)}} {
		b = roomy(b)
		before := whole(b)
		c := Copy(b)
		if fmt.Sprint(c) != fmt.Sprint(b) {
			t.Errorf("%s: the copy is %v", name, c)
		}
		if whole(b) != before {
			t.Errorf("%s: what was handed in was changed", name)
		}
		apart(t, name, b, c, Copy(b))
	}
}

// TestNamesAreNotKept: a name may be a piece of a long text.
func TestNamesAreNotKept(t *testing.T) {
	text := strings.Repeat("cpu", 2)
	given := text[:3]
	a, e := Add(New(), api.Point{Series: given})
	if e != api.OK {
		t.Fatalf("Add: %d", e)
	}
	b, _ := Add(a, api.Point{Series: given, Time: 1})
	c, _ := Expire(a, 0)
	seen := map[*byte]string{unsafe.StringData(given): "what was given"}
	for _, x := range []api.Base{a, b, c, Copy(a)} {
		at := unsafe.StringData(x.Names[0])
		if other, again := seen[at]; again || x.Names[0] != "cpu" {
			t.Errorf("the name %q is the same text as %s", x.Names[0], other)
		}
		seen[at] = "another answer"
	}
}

func TestCheckChangesNothing(t *testing.T) {
	b := roomy(sampleModel().base(t))
	before := whole(b)
	mustBe(t, "sample", b)
	if whole(b) != before {
		t.Errorf("what was handed in was changed")
	}
}
