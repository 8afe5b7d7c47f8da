// Package bucket: the sizes of buckets, the keys of points and of buckets, which points may be, and what comes of them there.
package bucket

import (
	"winnower/api"
	"winnower/roll"
)

// sizes of buckets, from the least one on, each a part of the next one; the trees of a base stand in the same order.
var sizes = [api.Steps]int{1, 60, 3600}

// timesOfSeries: how many keys a series has, one a time.
const timesOfSeries = api.MaxTime + 1

// Sizes of buckets, from the least one on, in the order of the trees of a base.
func Sizes() [api.Steps]int { return sizes }

// Step tells which tree of a base is for buckets of a size.
func Step(size int) (int, bool) {
	for step, s := range sizes {
		if s == size {
			return step, true
		}
	}
	return 0, false
}

// Key of a time of the series at a place.
func Key(place, time int) int { return place*timesOfSeries + time }

// Place of the series that has a key.
func Place(key int) int { return key / timesOfSeries }

// Time of a key.
func Time(key int) int { return key % timesOfSeries }

// Begin of the bucket of a size in which a time is. Times are counted from the series' first one: a key is not a multiple of a size where its time is.
func Begin(time, size int) int { return time - time%size }

// PointsMayBe: may a base with so many series, and a Floor, know of these? Their keys are not below 0.
func PointsMayBe(points []api.Entry, series, floor int) bool {
	for _, x := range points {
		time := Time(x.Key)
		if Place(x.Key) >= series || time < floor || time != x.Is.Time {
			return false
		}
		if x.Is.Count == 0 || roll.Check(x.Is) != api.OK {
			return false
		}
	}
	return true
}

// Gather what is known of points, whose keys rise, into buckets of a size: those of one bucket stand side by side then.
func Gather(points []api.Entry, size int) ([]api.Entry, api.Errno) {
	var l []api.Entry
	for _, x := range points {
		key := Key(Place(x.Key), Begin(Time(x.Key), size))
		last := len(l) - 1
		if last < 0 || l[last].Key != key {
			l = append(l, api.Entry{Key: key, Is: x.Is})
			continue
		}
		r, e := roll.Merge(l[last].Is, x.Is)
		if e != api.OK {
			return nil, e
		}
		l[last].Is = r
	}
	return l, api.OK
}
