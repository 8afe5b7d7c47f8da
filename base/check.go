package base

import (
	"slices"

	"winnower/api"
	"winnower/bucket"
)

// Name: may it be one of a series?
func Name(s string) bool {
	if len(s) < 1 || len(s) > api.MaxName {
		return false
	}
	for i := range len(s) {
		if !inName(s[i]) {
			return false
		}
	}
	return true
}

func inName(c byte) bool {
	return 'a' <= c && c <= 'z' || '0' <= c && c <= '9' || c == '.'
}

// Check a base.
func Check(b api.Base) api.Errno {
	if !namesMayBe(b.Names) || !timeInBounds(b.Floor) || !isFloor(b.Floor) || !treesMayBe(b) {
		return api.ErrState
	}
	return api.OK
}

// namesMayBe asks how many there are first, so that a list without measure is not gone through.
func namesMayBe(l []string) bool {
	if len(l) > api.MaxSeries {
		return false
	}
	for i, s := range l {
		if !Name(s) || slices.Contains(l[:i], s) {
			return false
		}
	}
	return true
}

// treesMayBe: does the first one know of points, and do the others know of buckets just what comes of these?
func treesMayBe(b api.Base) bool {
	points, e := all(b.Trees[0])
	if e != api.OK || !bucket.PointsMayBe(points, len(b.Names), b.Floor) {
		return false
	}
	for step := 1; step < api.Steps; step++ {
		have, e := all(b.Trees[step])
		if e != api.OK {
			return false
		}
		want, e := bucket.Gather(points, bucket.Sizes()[step])
		if e != api.OK || !slices.Equal(have, want) {
			return false
		}
	}
	return true
}
