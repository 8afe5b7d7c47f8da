// Package roll: what is known of points.
package roll

import "winnower/api"

// Check what is known.
func Check(r api.Rollup) api.Errno {
	if !inBounds(r) {
		return api.ErrRange
	}
	if !inForm(r) {
		return api.ErrForm
	}
	return api.OK
}

// Of a point.
func Of(time, value int) (api.Rollup, api.Errno) {
	if !timeInBounds(time) || !valueInBounds(value) {
		return api.Rollup{}, api.ErrRange
	}
	return api.Rollup{Count: 1, Sum: value, Min: value, Max: value, Time: time, Last: value}, api.OK
}

// Merge what is known of some points, and of others.
func Merge(a, b api.Rollup) (api.Rollup, api.Errno) {
	if e := Check(a); e != api.OK {
		return api.Rollup{}, e
	}
	if e := Check(b); e != api.OK {
		return api.Rollup{}, e
	}
	// The zeros of a rollup without points are no values: they must not become a Min, a Max or a Last.
	if a.Count == 0 {
		return b, api.OK
	}
	if b.Count == 0 {
		return a, api.OK
	}
	r := together(a, b)
	if !countInBounds(r.Count) || !sumInBounds(r.Sum) {
		return api.Rollup{}, api.ErrSize
	}
	return r, api.OK
}

// together expects rollups that may be, of some points each: their numbers are small enough to be added.
func together(a, b api.Rollup) api.Rollup {
	r := later(a, b)
	r.Count = a.Count + b.Count
	r.Sum = a.Sum + b.Sum
	r.Min = min(a.Min, b.Min)
	r.Max = max(a.Max, b.Max)
	return r
}

// later of two, by their last points. At one time the greater value wins, so that the order of a and b never tells.
func later(a, b api.Rollup) api.Rollup {
	if a.Time > b.Time || a.Time == b.Time && a.Last > b.Last {
		return a
	}
	return b
}

func inBounds(r api.Rollup) bool {
	return countInBounds(r.Count) && sumInBounds(r.Sum) && timeInBounds(r.Time) &&
		valueInBounds(r.Min) && valueInBounds(r.Max) && valueInBounds(r.Last)
}

// inForm expects a rollup in bounds: Count times a value does not leave 64 bits then.
func inForm(r api.Rollup) bool {
	if r.Count == 0 {
		return r == api.Rollup{}
	}
	return within(r.Last, r.Min, r.Max) && within(r.Sum, r.Count*r.Min, r.Count*r.Max)
}

func countInBounds(n int) bool { return within(n, 0, api.MaxCount) }

func sumInBounds(n int) bool { return within(n, -api.MaxSum, api.MaxSum) }

func timeInBounds(n int) bool { return within(n, 0, api.MaxTime) }

func valueInBounds(n int) bool { return within(n, -api.MaxValue, api.MaxValue) }

func within(n, low, high int) bool { return low <= n && n <= high }
