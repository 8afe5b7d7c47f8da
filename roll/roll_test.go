package roll

import (
	"math"
	"testing"

	"winnower/api"
)

// sound is a rollup that may be, with room around each of its numbers: tests bend one of them.
func sound() api.Rollup {
	return api.Rollup{Count: 3, Sum: 6, Min: -5, Max: 9, Time: 40, Last: 2}
}

// bent is the sound one with a change.
func bent(change func(r *api.Rollup)) api.Rollup {
	r := sound()
	change(&r)
	return r
}

// alike has the same value at count points.
func alike(count, value, time int) api.Rollup {
	return api.Rollup{Count: count, Sum: count * value, Min: value, Max: value, Time: time, Last: value}
}

type checkCase struct {
	name string
	r    api.Rollup
	want api.Errno
}

func runChecks(t *testing.T, l []checkCase) {
	t.Helper()
	for _, c := range l {
		if got := Check(c.r); got != c.want {
			t.Errorf("%s: Check(%+v) = %d, want %d", c.name, c.r, got, c.want)
		}
	}
}

func TestCheckTakesWhatMayBe(t *testing.T) {
	runChecks(t, []checkCase{
		{"nothing known", api.Rollup{}, api.OK},
		{"sound", sound(), api.OK},
		{"one point of zeros", api.Rollup{Count: 1}, api.OK},
		{"greatest count", bent(func(r *api.Rollup) { r.Count = api.MaxCount }), api.OK},
		{"greatest time", bent(func(r *api.Rollup) { r.Time = api.MaxTime }), api.OK},
		{"least time", bent(func(r *api.Rollup) { r.Time = 0 }), api.OK},
		{"least Min", bent(func(r *api.Rollup) { r.Min = -api.MaxValue }), api.OK},
		{"greatest Max", bent(func(r *api.Rollup) { r.Max = api.MaxValue }), api.OK},
		{"Last is Min", bent(func(r *api.Rollup) { r.Last = -5 }), api.OK},
		{"Last is Max", bent(func(r *api.Rollup) { r.Last = 9 }), api.OK},
		{"Sum is Count times Min", bent(func(r *api.Rollup) { r.Sum = -15 }), api.OK},
		{"Sum is Count times Max", bent(func(r *api.Rollup) { r.Sum = 27 }), api.OK},
		{"all greatest", alike(api.MaxCount, api.MaxValue, api.MaxTime), api.OK},
		{"all least", alike(api.MaxCount, -api.MaxValue, 0), api.OK},
		{"one point, with a Sum, a Last, a Min and a Max of their own", api.Rollup{Count: 1, Sum: 3, Min: 0, Max: 5, Last: 4}, api.OK},
	})
}

func TestCheckRefusesNumbersOutOfBounds(t *testing.T) {
	runChecks(t, []checkCase{
		{"Count below 0", bent(func(r *api.Rollup) { r.Count = -1 }), api.ErrRange},
		{"Count above MaxCount", bent(func(r *api.Rollup) { r.Count = api.MaxCount + 1 }), api.ErrRange},
		{"Sum below -MaxSum", bent(func(r *api.Rollup) { r.Sum = -api.MaxSum - 1 }), api.ErrRange},
		{"Sum above MaxSum", bent(func(r *api.Rollup) { r.Sum = api.MaxSum + 1 }), api.ErrRange},
		{"Time below 0", bent(func(r *api.Rollup) { r.Time = -1 }), api.ErrRange},
		{"Time above MaxTime", bent(func(r *api.Rollup) { r.Time = api.MaxTime + 1 }), api.ErrRange},
		{"Min below -MaxValue", bent(func(r *api.Rollup) { r.Min = -api.MaxValue - 1 }), api.ErrRange},
		{"Min above MaxValue", bent(func(r *api.Rollup) { r.Min = api.MaxValue + 1 }), api.ErrRange},
		{"Max below -MaxValue", bent(func(r *api.Rollup) { r.Max = -api.MaxValue - 1 }), api.ErrRange},
		{"Max above MaxValue", bent(func(r *api.Rollup) { r.Max = api.MaxValue + 1 }), api.ErrRange},
		{"Last below -MaxValue", bent(func(r *api.Rollup) { r.Last = -api.MaxValue - 1 }), api.ErrRange},
		{"Last above MaxValue", bent(func(r *api.Rollup) { r.Last = api.MaxValue + 1 }), api.ErrRange},
	})
	for _, n := range []int{math.MinInt, math.MaxInt} {
		runChecks(t, []checkCase{
			{"outermost Count", bent(func(r *api.Rollup) { r.Count = n }), api.ErrRange},
			{"outermost Sum", bent(func(r *api.Rollup) { r.Sum = n }), api.ErrRange},
			{"outermost Time", bent(func(r *api.Rollup) { r.Time = n }), api.ErrRange},
			{"outermost Min", bent(func(r *api.Rollup) { r.Min = n }), api.ErrRange},
			{"outermost Max", bent(func(r *api.Rollup) { r.Max = n }), api.ErrRange},
			{"outermost Last", bent(func(r *api.Rollup) { r.Last = n }), api.ErrRange},
		})
	}
}

func TestCheckRefusesWhatIsNotInForm(t *testing.T) {
	runChecks(t, []checkCase{
		{"Count 0 with a Sum", api.Rollup{Sum: 1}, api.ErrForm},
		{"Count 0 with a Min", api.Rollup{Min: -1}, api.ErrForm},
		{"Count 0 with a Max", api.Rollup{Max: 1}, api.ErrForm},
		{"Count 0 with a Time", api.Rollup{Time: 1}, api.ErrForm},
		{"Count 0 with a Last", api.Rollup{Last: 1}, api.ErrForm},
		{"Count 0 of a sound one", bent(func(r *api.Rollup) { r.Count = 0 }), api.ErrForm},
		{"Count 0, else all in order", api.Rollup{Min: -1, Max: 1}, api.ErrForm},
		{"Last below Min", bent(func(r *api.Rollup) { r.Last = -6 }), api.ErrForm},
		{"Last above Max", bent(func(r *api.Rollup) { r.Last = 10 }), api.ErrForm},
		{"Min above Max", api.Rollup{Count: 2, Sum: 3, Min: 2, Max: 1, Last: 2}, api.ErrForm},
		{"Sum below Count times Min", bent(func(r *api.Rollup) { r.Sum = -16 }), api.ErrForm},
		{"Sum above Count times Max", bent(func(r *api.Rollup) { r.Sum = 28 }), api.ErrForm},
		{"greatest Sum, in bounds", bent(func(r *api.Rollup) { r.Sum = api.MaxSum }), api.ErrForm},
		{"least Sum, in bounds", bent(func(r *api.Rollup) { r.Sum = -api.MaxSum }), api.ErrForm},
	})
}

func TestCheckTellsBoundsAheadOfForm(t *testing.T) {
	runChecks(t, []checkCase{
		{"Count 0, Time below 0", api.Rollup{Time: -1}, api.ErrRange},
		{"Count 0, Last too great", api.Rollup{Sum: 1, Last: api.MaxValue + 1}, api.ErrRange},
		{"Last above Max and above MaxValue", api.Rollup{Count: 1, Last: api.MaxValue + 1}, api.ErrRange},
		{"Sum not in form, Time too great", api.Rollup{Count: 1, Sum: 2, Time: api.MaxTime + 1}, api.ErrRange},
	})
}

func TestOf(t *testing.T) {
	zero := api.Rollup{}
	for _, c := range []struct {
		time, value int
		want        api.Rollup
		code        api.Errno
	}{
		{7, 3, api.Rollup{Count: 1, Sum: 3, Min: 3, Max: 3, Time: 7, Last: 3}, api.OK},
		{0, 0, api.Rollup{Count: 1}, api.OK},
		{5, -8, api.Rollup{Count: 1, Sum: -8, Min: -8, Max: -8, Time: 5, Last: -8}, api.OK},
		{api.MaxTime, api.MaxValue, alike(1, api.MaxValue, api.MaxTime), api.OK},
		{0, -api.MaxValue, alike(1, -api.MaxValue, 0), api.OK},
		{-1, 3, zero, api.ErrRange},
		{api.MaxTime + 1, 3, zero, api.ErrRange},
		{7, api.MaxValue + 1, zero, api.ErrRange},
		{7, -api.MaxValue - 1, zero, api.ErrRange},
		{-1, api.MaxValue + 1, zero, api.ErrRange},
		{math.MinInt, 0, zero, api.ErrRange},
		{math.MaxInt, 0, zero, api.ErrRange},
		{0, math.MinInt, zero, api.ErrRange},
		{0, math.MaxInt, zero, api.ErrRange},
	} {
		if r, e := Of(c.time, c.value); r != c.want || e != c.code {
			t.Errorf("Of(%d, %d) = %+v, %d, want %+v, %d", c.time, c.value, r, e, c.want, c.code)
		}
	}
}

type mergeCase struct {
	name string
	a, b api.Rollup
	want api.Rollup
	code api.Errno
}

func runMerges(t *testing.T, l []mergeCase) {
	t.Helper()
	for _, c := range l {
		if r, e := Merge(c.a, c.b); r != c.want || e != c.code {
			t.Errorf("%s: Merge(%+v, %+v) = %+v, %d, want %+v, %d", c.name, c.a, c.b, r, e, c.want, c.code)
		}
	}
}

// bothWays adds to each case that with the two in the other order, which must answer the same.
func bothWays(l []mergeCase) []mergeCase {
	var both []mergeCase
	for _, c := range l {
		both = append(both, c, mergeCase{c.name + ", the other way", c.b, c.a, c.want, c.code})
	}
	return both
}

func TestMergeTellsOfAllPoints(t *testing.T) {
	wide := api.Rollup{Count: 4, Sum: 10, Min: -7, Max: 20, Time: 30, Last: 6}
	runMerges(t, bothWays([]mergeCase{
		{"of two times", alike(1, 3, 10), alike(1, 5, 65), api.Rollup{Count: 2, Sum: 8, Min: 3, Max: 5, Time: 65, Last: 5}, api.OK},
		{"the later one is the lesser one", alike(1, 3, 65), alike(1, 5, 10), api.Rollup{Count: 2, Sum: 8, Min: 3, Max: 5, Time: 65, Last: 3}, api.OK},
		{"of one time", alike(1, 3, 7), alike(1, 5, 7), api.Rollup{Count: 2, Sum: 8, Min: 3, Max: 5, Time: 7, Last: 5}, api.OK},
		{"of one time, below 0", alike(1, -3, 7), alike(1, -5, 7), api.Rollup{Count: 2, Sum: -8, Min: -5, Max: -3, Time: 7, Last: -3}, api.OK},
		{"of one time, Last and Max apart", wide, alike(2, 9, 30), api.Rollup{Count: 6, Sum: 28, Min: -7, Max: 20, Time: 30, Last: 9}, api.OK},
		{"Min and Max of the other one", wide, sound(), api.Rollup{Count: 7, Sum: 16, Min: -7, Max: 20, Time: 40, Last: 2}, api.OK},
		{"with itself", sound(), sound(), api.Rollup{Count: 6, Sum: 12, Min: -5, Max: 9, Time: 40, Last: 2}, api.OK},
	}))
}

func TestMergeWithNothingChangesNothing(t *testing.T) {
	low, high := alike(2, -4, 9), alike(2, 4, 9)
	runMerges(t, bothWays([]mergeCase{
		{"nothing and nothing", api.Rollup{}, api.Rollup{}, api.Rollup{}, api.OK},
		{"values below 0", low, api.Rollup{}, low, api.OK},
		{"values above 0", high, api.Rollup{}, high, api.OK},
		{"values below 0 at the time 0", alike(1, -4, 0), api.Rollup{}, alike(1, -4, 0), api.OK},
		{"the greatest count", alike(api.MaxCount, 1, 9), api.Rollup{}, alike(api.MaxCount, 1, 9), api.OK},
	}))
}

func TestMergeRefusesWhatCheckRefuses(t *testing.T) {
	outOfBounds := bent(func(r *api.Rollup) { r.Time = -1 })
	notInForm := bent(func(r *api.Rollup) { r.Last = 10 })
	full := alike(api.MaxCount, 1, 1)
	zero := api.Rollup{}
	runMerges(t, bothWays([]mergeCase{
		{"out of bounds", outOfBounds, sound(), zero, api.ErrRange},
		{"not in form", notInForm, sound(), zero, api.ErrForm},
		{"out of bounds, with nothing", outOfBounds, zero, zero, api.ErrRange},
		{"not in form, with nothing", notInForm, zero, zero, api.ErrForm},
		{"Count 0 with a Time", api.Rollup{Time: 3}, sound(), zero, api.ErrForm},
		{"Count below 0", api.Rollup{Count: -1}, zero, zero, api.ErrRange},
		{"not in form, and too many", notInForm, full, zero, api.ErrForm},
	}))
	runMerges(t, []mergeCase{
		{"the first one tells first", outOfBounds, notInForm, zero, api.ErrRange},
		{"the first one tells first", notInForm, outOfBounds, zero, api.ErrForm},
	})
}

func TestMergeRefusesTooMany(t *testing.T) {
	half := api.MaxCount / 2
	zero := api.Rollup{}
	runMerges(t, bothWays([]mergeCase{
		{"just MaxCount", alike(half, 2, 1), alike(half, 2, 1), alike(api.MaxCount, 2, 1), api.OK},
		{"just MaxCount of the greatest", alike(half, api.MaxValue, 1), alike(half, api.MaxValue, 1), alike(api.MaxCount, api.MaxValue, 1), api.OK},
		{"just MaxCount of the least", alike(half, -api.MaxValue, 1), alike(half, -api.MaxValue, 1), alike(api.MaxCount, -api.MaxValue, 1), api.OK},
		{"one more", alike(half, 2, 1), alike(half+1, 2, 1), zero, api.ErrSize},
		{"one more than all", alike(api.MaxCount, 0, 1), alike(1, 0, 1), zero, api.ErrSize},
		{"twice all", alike(api.MaxCount, api.MaxValue, 1), alike(api.MaxCount, api.MaxValue, 1), zero, api.ErrSize},
		{"twice all, below 0", alike(api.MaxCount, -api.MaxValue, 1), alike(api.MaxCount, -api.MaxValue, 1), zero, api.ErrSize},
	}))
}

// TestMergeOfManyPoints holds Merge against a plain walk over the points themselves, however they are split.
func TestMergeOfManyPoints(t *testing.T) {
	points := [][2]int{{4, 9}, {2, -3}, {4, 11}, {0, 20}, {4, 10}, {3, -30}, {1, 0}}
	for split := range len(points) + 1 {
		a, b := mergeAll(t, points[:split]), mergeAll(t, points[split:])
		got, e := Merge(a, b)
		if want := walk(points); got != want || e != api.OK {
			t.Errorf("split at %d: %+v, %d, want %+v", split, got, e, want)
		}
		if e := Check(got); e != api.OK {
			t.Errorf("split at %d: Check of the answer is %d", split, e)
		}
	}
}

func mergeAll(t *testing.T, points [][2]int) api.Rollup {
	t.Helper()
	var all api.Rollup
	for _, p := range points {
		one, e := Of(p[0], p[1])
		if e != api.OK {
			t.Fatalf("Of(%d, %d): %d", p[0], p[1], e)
		}
		if all, e = Merge(all, one); e != api.OK {
			t.Fatalf("Merge with %+v: %d", one, e)
		}
	}
	return all
}

func walk(points [][2]int) api.Rollup {
	r := api.Rollup{Min: math.MaxInt, Max: math.MinInt, Time: -1}
	for _, p := range points {
		time, value := p[0], p[1]
		r.Count++
		r.Sum += value
		r.Min = min(r.Min, value)
		r.Max = max(r.Max, value)
		switch {
		case time > r.Time:
			r.Time, r.Last = time, value
		case time == r.Time:
			r.Last = max(r.Last, value)
		}
	}
	return r
}
