package base

import (
	"math"

	"winnower/api"
	"winnower/tree"
)

// sizes of buckets, from the least one on, each a part of the next one; the trees of a base stand in the same order.
var sizes = [api.Steps]int{1, 60, 3600}

// timesOfSeries: how many keys a series has, one a time.
const timesOfSeries = api.MaxTime + 1

func keyOf(place, time int) int { return place*timesOfSeries + time }

func placeOf(key int) int { return key / timesOfSeries }

func timeOf(key int) int { return key % timesOfSeries }

// beginOf the bucket of a size in which a time is. Times are counted from the series' first one: a key is not a multiple of a size where its time is.
func beginOf(time, size int) int { return time - time%size }

func timeInBounds(time int) bool { return 0 <= time && time <= api.MaxTime }

func spanInBounds(from, to int) bool { return 0 <= from && from <= to && to <= api.MaxTime }

// isFloor: do the greatest buckets begin there?
func isFloor(time int) bool { return time%sizes[api.Steps-1] == 0 }

// stepOf tells which tree is for buckets of a size.
func stepOf(size int) (int, bool) {
	for step, s := range sizes {
		if s == size {
			return step, true
		}
	}
	return 0, false
}

// known tells what a tree knows of the buckets of a series that begin from a time on, up to another one.
func known(t api.Tree, place, from, to int) ([]api.Entry, api.Errno) {
	return tree.All(t, keyOf(place, from), keyOf(place, to)+1)
}

// all that a tree knows.
func all(t api.Tree) ([]api.Entry, api.Errno) {
	return tree.All(t, 0, math.MaxInt)
}

// cover the times from one on, up to another one, with buckets of the step's size, where they are within, and with lesser ones at both ends. Each time is in one of those that are visited.
func cover(step, from, to int, visit func(step, from, to int)) {
	if from > to {
		return
	}
	size := sizes[step]
	begin, end := beginOf(from+size-1, size), beginOf(to+1, size)
	if begin >= end {
		// The least buckets are one time each: they never come here.
		cover(step-1, from, to, visit)
		return
	}
	if step > 0 {
		cover(step-1, from, begin-1, visit)
		cover(step-1, end, to, visit)
	}
	visit(step, begin, end-1)
}
