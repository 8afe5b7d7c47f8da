package base

import (
	"math"
	"testing"

	"winnower/api"
)

// expired holds what comes of a Floor against a model that has it already.
func expired(t *testing.T, b api.Base, m *model) api.Base {
	t.Helper()
	b = roomy(b)
	before := whole(b)
	c, e := Expire(b, m.floor)
	if e != api.OK {
		t.Fatalf("Expire at %d: %d", m.floor, e)
	}
	tells(t, "Expire", c, m)
	if whole(b) != before {
		t.Fatalf("Expire at %d: what was handed in was changed", m.floor)
	}
	apart(t, "Expire", b, c)
	return c
}

// TestExpireKeepsWhatIsNotOlder: a point at the new Floor stays, one just ahead of it does not.
func TestExpireKeepsWhatIsNotOlder(t *testing.T) {
	for _, time := range []int{3600, 7200, 10800, 1044000, lastFloor} {
		m := sampleModel()
		b := m.base(t)
		m.expire(time)
		c := expired(t, b, m)
		for _, name := range m.names {
			for _, size := range testSizes() {
				checkRows(t, c, m, name, size, 0, lastTime)
			}
			checkTotal(t, c, m, name, 0, lastTime)
		}
	}
}

func TestExpireWithoutPoints(t *testing.T) {
	for _, m := range []*model{{}, {names: []string{"a", "b"}}, {names: manyNames(api.MaxSeries), floor: 7200}} {
		b := m.base(t)
		m.floor = lastFloor
		expired(t, b, m)
	}
}

// TestExpireAll: the names stay where they are, and what comes next goes on from the Floor.
func TestExpireAll(t *testing.T) {
	m := &model{}
	for _, s := range []string{"x", "y", "z"} {
		m.add(api.Point{Series: s, Time: 100, Value: 4})
	}
	b := m.base(t)
	m.expire(7200)
	b = expired(t, b, m)
	if _, e := Add(b, api.Point{Series: "y", Time: 7199}); e != api.ErrOrder {
		t.Errorf("Add below the Floor is %d, want ErrOrder", e)
	}
	b = addTo(t, b, m, api.Point{Series: "y", Time: 7200, Value: 6})
	addTo(t, b, m, api.Point{Series: "w", Time: 7200, Value: 6})
}

func TestExpireAgain(t *testing.T) {
	m := sampleModel()
	b := expired(t, m.base(t), m)
	for _, time := range []int{3600, 7200, 7200, 1044000} {
		m.expire(time)
		b = expired(t, b, m)
	}
}

func TestExpireRefuses(t *testing.T) {
	b := sampleModel().base(t)
	for _, c := range []struct {
		time int
		want api.Errno
	}{
		{-1, api.ErrRange}, {-3600, api.ErrRange}, {math.MinInt, api.ErrRange},
		{lastTime + 1, api.ErrRange}, {lastFloor + 3600, api.ErrRange}, {math.MaxInt, api.ErrRange}, {math.MaxInt / 3600 * 3600, api.ErrRange},
		{1, api.ErrForm}, {60, api.ErrForm}, {3599, api.ErrForm}, {3601, api.ErrForm}, {5400, api.ErrForm}, {lastTime, api.ErrForm}, {lastFloor + 60, api.ErrForm},
		{0, api.ErrOrder},
	} {
		if x, e := Expire(b, c.time); e != c.want || !zeroBase(x) {
			t.Errorf("Expire at %d is %v, %d, want %d", c.time, x, e, c.want)
		}
	}
}

// TestExpireOfDrawnBases, at each Floor that may come next.
func TestExpireOfDrawnBases(t *testing.T) {
	d := die(21)
	for range 20 {
		m := drawnModel(&d, d.n(90))
		b := m.base(t)
		for _, more := range []int{0, 1, 1, 2, 200} {
			m.expire(min(m.floor+3600*more, lastFloor))
			b = expired(t, b, m)
		}
	}
}

// TestExpireOfManyPoints: where no more than 2900 are left, it is not refused, however many there were.
func TestExpireOfManyPoints(t *testing.T) {
	for _, older := range []int{0, 1, 3000} {
		m := &model{names: []string{"a", "b"}}
		for i := range older {
			m.marks = append(m.marks, mark{i % 2, i, alike(1, 1, i)})
		}
		for i := range 2900 {
			time := 3600 + 300*i
			m.marks = append(m.marks, mark{i % 2, time, alike(1, i, time)})
		}
		b := m.base(t)
		m.expire(3600)
		expired(t, b, m)
	}
}
