package base

import (
	"math"

	"winnower/api"
	"winnower/bucket"
	"winnower/tree"
)

func timeInBounds(time int) bool { return 0 <= time && time <= api.MaxTime }

func spanInBounds(from, to int) bool { return 0 <= from && from <= to && to <= api.MaxTime }

// isFloor: do the greatest buckets begin there?
func isFloor(time int) bool { return time%bucket.Sizes()[api.Steps-1] == 0 }

// known tells what a tree knows of the buckets of a series that begin from a time on, up to another one.
func known(t api.Tree, place, from, to int) ([]api.Entry, api.Errno) {
	return tree.All(t, bucket.Key(place, from), bucket.Key(place, to)+1)
}

// all that a tree knows.
func all(t api.Tree) ([]api.Entry, api.Errno) {
	return tree.All(t, 0, math.MaxInt)
}

// cover the times from one on, up to another one, with buckets of the step's size, where they are within, and with lesser ones at both ends. Each time is in one of those that are visited.
func cover(step, from, to int, visit func(step, from, to int)) {
	if from > to {
		return
	}
	size := bucket.Sizes()[step]
	begin, end := bucket.Begin(from+size-1, size), bucket.Begin(to+1, size)
	if begin >= end {
		// The least buckets are one time each: they never come here.
		cover(step-1, from, to, visit)
		return
	}
	if step > 0 {
		cover(step-1, from, begin-1, visit)
		cover(step-1, end, to, visit)
	}
	visit(step, begin, end-1)
}
