package base

import (
	"math"
	"slices"
	"testing"

	"winnower/api"
)

// askAnyhow holds Rows and Total against the model, at drawn spans and at those around the buckets' borders.
func askAnyhow(t *testing.T, d *die, b api.Base, m *model) {
	t.Helper()
	before := whole(b)
	for range 60 {
		from, to := drawnTime(d, 0), drawnTime(d, 0)
		if from > to {
			from, to = to, from
		}
		for _, name := range m.names {
			for _, size := range testSizes() {
				checkRows(t, b, m, name, size, from, to)
			}
			checkTotal(t, b, m, name, from, to)
		}
	}
	if whole(b) != before {
		t.Fatalf("what was handed in was changed")
	}
}

func checkRows(t *testing.T, b api.Base, m *model, name string, size, from, to int) {
	t.Helper()
	want, code := m.rows(name, size, from, to), api.OK
	if len(want) > 500 {
		want, code = nil, api.ErrSize
	}
	if got, e := Rows(b, name, size, from, to); e != code || !slices.Equal(got, want) {
		t.Fatalf("Rows of %s of %d from %d to %d is %v, %d, want %v, %d", name, size, from, to, got, e, want, code)
	}
}

func checkTotal(t *testing.T, b api.Base, m *model, name string, from, to int) {
	t.Helper()
	want := m.total(name, from, to)
	if got, e := Total(b, name, from, to); e != api.OK || got != want {
		t.Fatalf("Total of %s from %d to %d is %v, %d, want %v", name, from, to, got, e, want)
	}
}

func TestAskOfDrawnBases(t *testing.T) {
	d := die(11)
	for range 12 {
		m := drawnModel(&d, d.n(120))
		askAnyhow(t, &d, m.base(t), m)
	}
}

// TestRowsBeginWithinTheSpan: a bucket that reaches into it does not count, one that begins at its end does.
func TestRowsBeginWithinTheSpan(t *testing.T) {
	m := sampleModel()
	b := m.base(t)
	for _, c := range []struct {
		size, from, to int
		want           []int
	}{
		{1, 0, lastTime, []int{3600, 3601, 3659, 3660, 7199, 7200, 9000, 1047599, lastFloor, lastTime}},
		{1, 3600, 3660, []int{3600, 3601, 3659, 3660}},
		{1, 3601, 3659, []int{3601, 3659}},
		{1, 3602, 3658, nil},
		{1, 7200, 7200, []int{7200}},
		{1, lastTime, lastTime, []int{lastTime}},
		{1, 0, 0, nil},
		{60, 0, lastTime, []int{3600, 3660, 7140, 7200, 9000, 1047540, lastFloor, 1048560}},
		{60, 3600, 3600, []int{3600}},
		{60, 3601, 3660, []int{3660}},
		{60, 3601, 3659, nil},
		{60, 3541, 3600, []int{3600}},
		{60, 7141, 7199, nil},
		{60, 7140, 7199, []int{7140}},
		{60, 1048560, lastTime, []int{1048560}},
		{60, 1048561, lastTime, nil},
		{3600, 0, lastTime, []int{3600, 7200, 1044000, lastFloor}},
		{3600, 3600, 7199, []int{3600}},
		{3600, 3600, 7200, []int{3600, 7200}},
		{3600, 3601, 7200, []int{7200}},
		{3600, 3601, 7199, nil},
		{3600, 0, 3599, nil},
		{3600, lastFloor, lastTime, []int{lastFloor}},
		{3600, lastFloor + 1, lastTime, nil},
	} {
		for _, name := range []string{"cpu", "net.in"} {
			checkRows(t, b, m, name, c.size, c.from, c.to)
			l, _ := Rows(b, name, c.size, c.from, c.to)
			var times []int
			for _, x := range l {
				times = append(times, x.Time)
			}
			if !slices.Equal(times, c.want) {
				t.Errorf("rows of %d from %d to %d begin at %v, want %v", c.size, c.from, c.to, times, c.want)
			}
		}
	}
	checkRows(t, b, m, "idle", 1, 0, lastTime)
}

// TestSeriesAreKeptApart: the last time of one stands right ahead of the first one of the next.
func TestSeriesAreKeptApart(t *testing.T) {
	m := &model{}
	for i, s := range []string{"a", "b", "c"} {
		m.add(api.Point{Series: s, Time: 0, Value: 10 + i})
		m.add(api.Point{Series: s, Time: lastTime, Value: 20 + i})
	}
	b := m.base(t)
	for _, s := range m.names {
		for _, span := range [][2]int{{0, 0}, {0, lastTime}, {1, lastTime}, {lastTime, lastTime}, {lastFloor, lastTime}, {0, lastTime - 1}, {1, lastTime - 1}} {
			for _, size := range testSizes() {
				checkRows(t, b, m, s, size, span[0], span[1])
			}
			checkTotal(t, b, m, s, span[0], span[1])
		}
	}
}

func TestRowsRefuses(t *testing.T) {
	b := sampleModel().base(t)
	for _, c := range []struct {
		name           string
		series         string
		size, from, to int
		want           api.Errno
	}{
		{"no such series", "mem", 1, 0, 9, api.ErrNone},
		{"no name", "", 1, 0, 9, api.ErrNone},
		{"a wrong name", "CPU", 60, 0, 9, api.ErrNone},
		{"a name that begins so", "cp", 60, 0, 9, api.ErrNone},
		{"a name that goes on", "cpu0", 60, 0, 9, api.ErrNone},
		{"no such series, no such size", "mem", 2, 0, 9, api.ErrNone},
		{"no such series, a wrong span", "mem", 1, 9, 0, api.ErrNone},
		{"the size 0", "cpu", 0, 0, 9, api.ErrKind},
		{"the size 2", "cpu", 2, 0, 9, api.ErrKind},
		{"the size -1", "cpu", -1, 0, 9, api.ErrKind},
		{"the size 59", "cpu", 59, 0, 9, api.ErrKind},
		{"the size 61", "cpu", 61, 0, 9, api.ErrKind},
		{"the size 3599", "cpu", 3599, 0, 9, api.ErrKind},
		{"the size 216000", "cpu", 216000, 0, 9, api.ErrKind},
		{"the least size", "cpu", math.MinInt, 0, 9, api.ErrKind},
		{"no such size, a wrong span", "cpu", 2, 9, 0, api.ErrKind},
		{"from below 0", "cpu", 1, -1, 9, api.ErrRange},
		{"both below 0", "cpu", 1, -9, -1, api.ErrRange},
		{"from above to", "cpu", 60, 10, 9, api.ErrRange},
		{"to below 0", "cpu", 60, 0, -1, api.ErrRange},
		{"to above MaxTime", "cpu", 3600, 0, lastTime + 1, api.ErrRange},
		{"both above MaxTime", "cpu", 3600, lastTime + 1, lastTime + 1, api.ErrRange},
		{"the least from", "cpu", 1, math.MinInt, 9, api.ErrRange},
		{"the greatest to", "cpu", 1, 0, math.MaxInt, api.ErrRange},
		{"all there is", "cpu", 1, math.MinInt, math.MaxInt, api.ErrRange},
		{"the other way round", "cpu", 1, math.MaxInt, math.MinInt, api.ErrRange},
	} {
		if l, e := Rows(b, c.series, c.size, c.from, c.to); e != c.want || len(l) != 0 {
			t.Errorf("%s: Rows is %v, %d, want %d", c.name, l, e, c.want)
		}
		if c.want == api.ErrKind {
			continue
		}
		if r, e := Total(b, c.series, c.from, c.to); e != c.want || r != (api.Rollup{}) {
			t.Errorf("%s: Total is %v, %d, want %d", c.name, r, e, c.want)
		}
	}
}

// TestRowsAreMaxRowsAtMost: that many are told, one more is refused, if it is within what is asked.
func TestRowsAreMaxRowsAtMost(t *testing.T) {
	for step, size := range []int{1, 60} {
		m := &model{names: []string{"a", "b"}}
		for i := range 501 {
			m.marks = append(m.marks, mark{1, i * size, alike(1, i, i*size)})
		}
		b := m.base(t)
		last := 500 * size
		if l, e := Rows(b, "b", size, 0, last); e != api.ErrSize || len(l) != 0 {
			t.Errorf("one too many of %d: %d rows, %d, want ErrSize", size, len(l), e)
		}
		if l, e := Rows(b, "b", size, 0, lastTime); e != api.ErrSize || len(l) != 0 {
			t.Errorf("one too many of %d, in all: %d rows, %d, want ErrSize", size, len(l), e)
		}
		checkRows(t, b, m, "b", size, 0, last-1)
		checkRows(t, b, m, "b", size, 1, last)
		checkRows(t, b, m, "a", size, 0, lastTime)
		checkRows(t, b, m, "b", testSizes()[step+1], 0, lastTime)
		checkTotal(t, b, m, "b", 0, lastTime)
	}
}

func TestRowsAreNewMemory(t *testing.T) {
	b := sampleModel().base(t)
	x, _ := Rows(b, "cpu", 1, 0, lastTime)
	want := slices.Clone(x)
	y, _ := Rows(b, "cpu", 1, 0, lastTime)
	clear(x[:cap(x)])
	if !slices.Equal(y, want) {
		t.Errorf("two answers share memory")
	}
	mustBe(t, "the base that was asked", b)
}

// TestTotalAroundBorders: each span from near a border to near another one.
func TestTotalAroundBorders(t *testing.T) {
	m := sampleModel()
	m.names = append(m.names, "dense")
	var near []int
	for _, at := range []int{0, 60, 3600, 3660, 7140, 7200, 10800, lastFloor, 1048560, lastTime} {
		for time := max(at-1, 0); time <= min(at+1, lastTime); time++ {
			near = append(near, time)
			if time >= m.floor {
				m.marks = append(m.marks, mark{3, time, alike(1, len(near)*7%11, time)})
			}
		}
	}
	b := m.base(t)
	for _, from := range near {
		for _, to := range near {
			if from > to {
				continue
			}
			for _, name := range m.names {
				checkTotal(t, b, m, name, from, to)
			}
		}
	}
}

func TestTotalOfNothing(t *testing.T) {
	b := sampleModel().base(t)
	for _, c := range []struct {
		name     string
		from, to int
	}{{"idle", 0, lastTime}, {"cpu", 0, 3599}, {"cpu", 3602, 3658}, {"cpu", 9001, 1047598}, {"net.in", 0, 0}} {
		if r, e := Total(b, c.name, c.from, c.to); e != api.OK || r != (api.Rollup{}) {
			t.Errorf("Total of %s from %d to %d is %v, %d, want nothing", c.name, c.from, c.to, r, e)
		}
	}
}

// TestTotalThatCanNotComeTogether: only if it is asked for.
func TestTotalThatCanNotComeTogether(t *testing.T) {
	half := api.MaxCount / 2
	m := &model{names: []string{"a", "b"}, marks: []mark{
		{0, 3599, alike(half, api.MaxValue, 3599)}, {0, 3600, alike(half, api.MaxValue, 3600)}, {0, 7200, alike(1, 5, 7200)}, {0, 90000, alike(api.MaxCount, -api.MaxValue, 90000)},
		{1, 3599, alike(api.MaxCount, 1, 3599)},
	}}
	b := m.base(t)
	for _, span := range [][2]int{{0, 7199}, {3599, 3600}, {3600, 7200}, {3600, 80000}, {7201, lastTime}, {90000, 90000}, {0, 3600}} {
		checkTotal(t, b, m, "a", span[0], span[1])
	}
	checkTotal(t, b, m, "b", 0, lastTime)
	for _, span := range [][2]int{{0, 7200}, {3599, 7200}, {0, lastTime}, {3600, 90000}, {7200, 90000}, {7200, lastTime}} {
		if r, e := Total(b, "a", span[0], span[1]); e != api.ErrSize || r != (api.Rollup{}) {
			t.Errorf("Total from %d to %d is %v, %d, want ErrSize", span[0], span[1], r, e)
		}
	}
}
