package base

import (
	"fmt"
	"math"
	"testing"

	"winnower/api"
)

// addTo holds what comes of a point against the model, to which it is added, too.
func addTo(t *testing.T, b api.Base, m *model, p api.Point) api.Base {
	t.Helper()
	b = roomy(b)
	before := whole(b)
	c, e := Add(b, p)
	if e != api.OK {
		t.Fatalf("Add of %v: %d", p, e)
	}
	m.add(p)
	tells(t, fmt.Sprint("Add of ", p), c, m)
	if whole(b) != before {
		t.Fatalf("Add of %v: what was handed in was changed", p)
	}
	apart(t, "Add", b, c)
	return c
}

func TestAddOnePointAtAnEdge(t *testing.T) {
	for _, p := range []api.Point{
		{Series: "cpu", Time: 10, Value: 3}, {Series: "."}, {Series: "abcdefghij", Time: lastTime, Value: api.MaxValue},
		{Series: "0", Time: 59, Value: -api.MaxValue}, {Series: "a", Time: 60}, {Series: "a", Time: 3599}, {Series: "a", Time: 3600}, {Series: "a", Time: lastFloor},
	} {
		addTo(t, New(), &model{}, p)
	}
}

// TestAddTheExample of the whole.
func TestAddTheExample(t *testing.T) {
	m := &model{}
	b := addTo(t, New(), m, api.Point{Series: "cpu", Time: 10, Value: 3})
	b = addTo(t, b, m, api.Point{Series: "cpu", Time: 65, Value: 5})
	rows, e := Rows(b, "cpu", 60, 0, 100)
	if e != api.OK || len(rows) != 2 || rows[0] != (api.Row{Time: 0, Is: alike(1, 3, 10)}) || rows[1] != (api.Row{Time: 60, Is: alike(1, 5, 65)}) {
		t.Errorf("Rows is %v, %d", rows, e)
	}
	want := api.Rollup{Count: 2, Sum: 8, Min: 3, Max: 5, Time: 65, Last: 5}
	if r, e := Total(b, "cpu", 0, 100); e != api.OK || r != want {
		t.Errorf("Total is %v, %d, want %v", r, e, want)
	}
}

// TestAddAtOneTime: the last one is the greater one, in whatever order they come.
func TestAddAtOneTime(t *testing.T) {
	for _, values := range [][]int{{3, 9, 5}, {9, 5, 3}, {5, 3, 9}, {-3, -9, -5}} {
		b, m := New(), &model{}
		for _, v := range values {
			b = addTo(t, b, m, api.Point{Series: "cpu", Time: 70, Value: v})
		}
		if rows, _ := Rows(b, "cpu", 1, 0, lastTime); len(rows) != 1 || rows[0].Is.Last != rows[0].Is.Max || rows[0].Is.Count != 3 {
			t.Errorf("%v: Rows is %v", values, rows)
		}
	}
}

func TestAddToTheSample(t *testing.T) {
	for _, p := range []api.Point{
		{Series: "cpu", Time: 3600, Value: -8}, {Series: "net.in", Time: lastTime, Value: 9}, {Series: "idle", Time: 3600}, {Series: "idle", Time: lastTime},
		{Series: "new", Time: 5000, Value: 4}, {Series: "cpu", Time: 3602, Value: 900},
	} {
		m := sampleModel()
		addTo(t, m.base(t), m, p)
	}
}

// TestAddSeries: each new one stands behind all others; MaxSeries of them are the most.
func TestAddSeries(t *testing.T) {
	b, m := New(), &model{}
	names := manyNames(api.MaxSeries + 1)
	for i := range api.MaxSeries {
		b = addTo(t, b, m, api.Point{Series: names[(i*5)%api.MaxSeries], Time: i, Value: i})
	}
	if c, e := Add(b, api.Point{Series: names[api.MaxSeries]}); e != api.ErrSize || !zeroBase(c) {
		t.Errorf("one series too many: %v, %d, want ErrSize", c, e)
	}
	for _, name := range []string{m.names[0], m.names[7], m.names[15]} {
		b = addTo(t, b, m, api.Point{Series: name, Time: lastTime, Value: 5})
	}
}

func TestAddRefuses(t *testing.T) {
	full := &model{names: manyNames(api.MaxSeries), floor: 3600}
	for _, c := range []struct {
		name string
		m    *model
		p    api.Point
		want api.Errno
	}{
		{"no name", sampleModel(), api.Point{Series: "", Time: 9000}, api.ErrForm},
		{"a wrong name", sampleModel(), api.Point{Series: "Cpu", Time: 9000}, api.ErrForm},
		{"a name that is too long", sampleModel(), api.Point{Series: "abcdefghijk", Time: 9000}, api.ErrForm},
		{"a wrong name, a wrong time", sampleModel(), api.Point{Series: "Cpu", Time: -1}, api.ErrForm},
		{"a wrong name, a wrong value", sampleModel(), api.Point{Series: "Cpu", Time: 9000, Value: math.MaxInt}, api.ErrForm},
		{"a wrong name, a time below the Floor", sampleModel(), api.Point{Series: "Cpu"}, api.ErrForm},
		{"a wrong name, all series", full, api.Point{Series: "Cpu", Time: 9000}, api.ErrForm},
		{"a time below 0", sampleModel(), api.Point{Series: "cpu", Time: -1}, api.ErrRange},
		{"the least time", sampleModel(), api.Point{Series: "cpu", Time: math.MinInt}, api.ErrRange},
		{"a time above MaxTime", sampleModel(), api.Point{Series: "cpu", Time: lastTime + 1}, api.ErrRange},
		{"the greatest time", sampleModel(), api.Point{Series: "cpu", Time: math.MaxInt}, api.ErrRange},
		{"a value above MaxValue", sampleModel(), api.Point{Series: "cpu", Time: 9000, Value: api.MaxValue + 1}, api.ErrRange},
		{"a value below -MaxValue", sampleModel(), api.Point{Series: "cpu", Time: 9000, Value: -api.MaxValue - 1}, api.ErrRange},
		{"a wrong value, a time below the Floor", sampleModel(), api.Point{Series: "cpu", Value: math.MinInt}, api.ErrRange},
		{"a wrong value, all series", full, api.Point{Series: "cpu", Time: 9000, Value: math.MinInt}, api.ErrRange},
		{"just below the Floor", sampleModel(), api.Point{Series: "cpu", Time: 3599}, api.ErrOrder},
		{"the time 0", sampleModel(), api.Point{Series: "cpu"}, api.ErrOrder},
		{"below the Floor, a new series", sampleModel(), api.Point{Series: "new", Time: 3599}, api.ErrOrder},
		{"below the Floor, all series", full, api.Point{Series: "new", Time: 3599}, api.ErrOrder},
		{"all series", full, api.Point{Series: "new", Time: 3600}, api.ErrSize},
	} {
		b := c.m.base(t)
		mustBe(t, c.name, b)
		if x, e := Add(b, c.p); e != c.want || !zeroBase(x) {
			t.Errorf("%s: Add is %v, %d, want %d", c.name, x, e, c.want)
		}
	}
}

// TestAddToFullBuckets: one more is refused, if a bucket of any size has MaxCount already.
func TestAddToFullBuckets(t *testing.T) {
	full := heavyModel(api.MaxCount)
	nearly := heavyModel(api.MaxCount - 2)
	mixed := heavyModel(api.MaxCount-3, 1, 2)
	for _, c := range []struct {
		m    *model
		p    api.Point
		want api.Errno
	}{
		{full, api.Point{Series: "cpu", Time: 0}, api.ErrSize},
		{full, api.Point{Series: "cpu", Time: 1}, api.ErrSize},
		{full, api.Point{Series: "cpu", Time: 59}, api.ErrSize},
		{full, api.Point{Series: "cpu", Time: 60}, api.ErrSize},
		{full, api.Point{Series: "cpu", Time: 3599}, api.ErrSize},
		{full, api.Point{Series: "cpu", Time: 3600}, api.OK},
		{full, api.Point{Series: "mem", Time: 0}, api.OK},
		{mixed, api.Point{Series: "cpu", Time: 40}, api.ErrSize},
		{mixed, api.Point{Series: "cpu", Time: 3000}, api.ErrSize},
		{mixed, api.Point{Series: "cpu", Time: 3600}, api.OK},
		{nearly, api.Point{Series: "cpu", Time: 0, Value: api.MaxValue}, api.OK},
		{nearly, api.Point{Series: "cpu", Time: 3599, Value: -api.MaxValue}, api.OK},
	} {
		b := c.m.base(t)
		x, e := Add(b, c.p)
		if e != c.want || e != api.OK && !zeroBase(x) {
			t.Errorf("Add of %v is %v, %d, want %d", c.p, x, e, c.want)
		}
		if e == api.OK {
			mustBe(t, "Add", x)
		}
	}
	m := heavyModel(api.MaxCount - 2)
	b := addTo(t, m.base(t), m, api.Point{Series: "cpu", Time: 30, Value: 1})
	b = addTo(t, b, m, api.Point{Series: "cpu", Time: 3000, Value: 1})
	if _, e := Add(b, api.Point{Series: "cpu", Time: 7, Value: 1}); e != api.ErrSize {
		t.Errorf("one more than MaxCount is %d, want ErrSize", e)
	}
}

// TestAddManyPoints of drawn series, with what is asked in between.
func TestAddManyPoints(t *testing.T) {
	d := die(7)
	for range 12 {
		b, m := New(), &model{}
		for range 60 {
			p := api.Point{Series: []string{"cpu", "mem", "net.in"}[d.n(3)], Value: d.n(200) - 100}
			p.Time = drawnTime(&d, m.floor)
			b = addTo(t, b, m, p)
			if d.n(25) == 0 {
				m.expire(m.floor + 3600*d.n(2))
				b = expired(t, b, m)
			}
		}
		askAnyhow(t, &d, b, m)
	}
}

// TestAddTillThereAreManyNodes: ErrSize may be told only of trees with more than 200 nodes.
func TestAddTillThereAreManyNodes(t *testing.T) {
	b, m := New(), &model{}
	d := die(9)
	for i := 0; len(b.Trees[0].Nodes) <= 200; i++ {
		p := api.Point{Series: "cpu", Time: 7 * i, Value: d.n(50)}
		if i%2 == 0 {
			p.Time = d.n(lastTime)
		}
		c, e := Add(b, p)
		if e != api.OK {
			t.Fatalf("Add of point %d is %d: there are %d nodes", i, e, len(b.Trees[0].Nodes))
		}
		m.add(p)
		b = c
	}
	tells(t, "many nodes", b, m)
	askAnyhow(t, &d, b, m)
}
