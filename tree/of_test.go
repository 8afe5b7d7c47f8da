package tree

import (
	"fmt"
	"math"
	"slices"
	"testing"

	"winnower/api"
)

func checkOf(t *testing.T, l []api.Entry) {
	t.Helper()
	l = spare(l, api.Entry{Key: 76})
	before := fmt.Sprint(l[:cap(l)])
	x, e := Of(l)
	if fmt.Sprint(l[:cap(l)]) != before {
		t.Fatalf("Of %d changed what was handed in", len(l))
	}
	if len(l) > 2900 && e == api.ErrSize && len(x.Nodes) == 0 && x.Root == 0 {
		return
	}
	if e != api.OK {
		t.Fatalf("Of %d: %d", len(l), e)
	}
	mustBe(t, fmt.Sprint("Of ", len(l)), x)
	if all, e := All(x, 0, keysEnd); e != api.OK || !slices.Equal(all, l) {
		t.Fatalf("Of %d knows %v, %d", len(l), all, e)
	}
	apart(t, "Of", append(spansOf(x), spanOf(l)))
}

func TestOfAllSizes(t *testing.T) {
	for n := range 300 {
		checkOf(t, marks(upTo(0, n)...))
	}
	for n := 300; n < 2900; n += 37 {
		checkOf(t, marks(upTo(n, 2*n)...))
	}
	for _, n := range []int{2899, 2900, 2901, 3000, 8987, 8988, 8989, 9000, 11999, 12000, 12001, 20000, 100000} {
		checkOf(t, marks(upTo(0, n)...))
	}
}

func TestOfAnyKeys(t *testing.T) {
	d := die(11)
	for _, wide := range []int{2, 1000, 1 << 28} {
		var keys []int
		for k := d.n(wide); len(keys) < 2900; k += 1 + d.n(wide) {
			keys = append(keys, k)
		}
		checkOf(t, marks(keys...))
	}
	checkOf(t, marks(0, lastKey))
	checkOf(t, marks(lastKey))
	checkOf(t, heavy(upTo(0, 2900)...))
	checkOf(t, nil)
}

func TestOfTellsOfTheFirstThatIsRefused(t *testing.T) {
	good := alike(1, 2, 3)
	notInForm := api.Rollup{Count: 1, Sum: 1}
	outOfBounds := api.Rollup{Count: 1, Time: -1}
	for _, c := range []struct {
		name string
		l    []api.Entry
		want api.Errno
	}{
		{"a key twice", []api.Entry{{Key: 2, Is: good}, {Key: 2, Is: good}}, api.ErrOrder},
		{"keys fall", []api.Entry{{Key: 2, Is: good}, {Key: 1, Is: good}}, api.ErrOrder},
		{"the last key falls", []api.Entry{{Key: 2, Is: good}, {Key: 5, Is: good}, {Key: 4, Is: good}}, api.ErrOrder},
		{"a key below 0, the first", []api.Entry{{Key: -1, Is: good}}, api.ErrRange},
		{"the least key, the first", []api.Entry{{Key: math.MinInt, Is: good}}, api.ErrRange},
		{"a key below 0, behind another", []api.Entry{{Key: 0, Is: good}, {Key: -1, Is: good}}, api.ErrOrder},
		{"a key too great", []api.Entry{{Key: 0, Is: good}, {Key: keysEnd, Is: good}}, api.ErrRange},
		{"the greatest key", []api.Entry{{Key: math.MaxInt, Is: good}}, api.ErrRange},
		{"the Count 0", []api.Entry{{Key: 0}}, api.ErrRange},
		{"the Count 0, not in form", []api.Entry{{Key: 0, Is: api.Rollup{Time: 3}}}, api.ErrRange},
		{"not in form", []api.Entry{{Key: 0, Is: good}, {Key: 1, Is: notInForm}}, api.ErrForm},
		{"out of bounds", []api.Entry{{Key: 0, Is: good}, {Key: 1, Is: outOfBounds}}, api.ErrRange},
		{"not in order, nor in form", []api.Entry{{Key: 1, Is: good}, {Key: 1, Is: notInForm}}, api.ErrOrder},
		{"not in order, the Count 0", []api.Entry{{Key: 1, Is: good}, {Key: 0}}, api.ErrOrder},
		{"first not in form, then not in order", []api.Entry{{Key: 1, Is: notInForm}, {Key: 1, Is: good}}, api.ErrForm},
		{"first out of bounds, then not in form", []api.Entry{{Key: 1, Is: outOfBounds}, {Key: 2, Is: notInForm}}, api.ErrRange},
		{"first not in form, then out of bounds", []api.Entry{{Key: 1, Is: notInForm}, {Key: 2, Is: outOfBounds}}, api.ErrForm},
		{"first a key too great, then not in order", []api.Entry{{Key: keysEnd, Is: good}, {Key: 1, Is: good}}, api.ErrRange},
		{"not in order, behind many", append(marks(upTo(0, 2899)...), api.Entry{Key: 7, Is: good}), api.ErrOrder},
		{"not in form, behind many", append(marks(upTo(0, 2899)...), api.Entry{Key: 2899, Is: notInForm}), api.ErrForm},
	} {
		if x, e := Of(c.l); e != c.want || len(x.Nodes) != 0 || x.Root != 0 {
			t.Errorf("%s: Of is %v, %d, want %d", c.name, x, e, c.want)
		}
	}
}

// TestOfTakesMore: a tree that Of made goes on as any other one.
func TestOfTakesMore(t *testing.T) {
	d := die(12)
	x, e := Of(marks(upTo(0, 600)...))
	if e != api.OK {
		t.Fatalf("Of: %d", e)
	}
	for range 300 {
		x = checkPut(t, x, d.n(700), alike(1, d.n(9), d.n(9)))
	}
}
