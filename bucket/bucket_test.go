package bucket

import (
	"fmt"
	"slices"
	"testing"

	"winnower/api"
)

// one point of a value: what is known of it.
func one(time, value int) api.Rollup {
	return api.Rollup{Count: 1, Sum: value, Min: value, Max: value, Time: time, Last: value}
}

func TestSizesAndSteps(t *testing.T) {
	if got := Sizes(); got != [api.Steps]int{1, 60, 3600} {
		t.Errorf("the sizes are %v", got)
	}
	for size, want := range map[int]int{1: 0, 60: 1, 3600: 2} {
		if step, found := Step(size); !found || step != want {
			t.Errorf("the step of %d is %d, %t, want %d", size, step, found, want)
		}
	}
	for _, size := range []int{-60, -1, 0, 2, 59, 61, 3599, 3601} {
		if step, found := Step(size); found || step != 0 {
			t.Errorf("%d has the step %d, %t: it is no size", size, step, found)
		}
	}
}

func TestKeys(t *testing.T) {
	for _, c := range []struct{ place, time, key int }{
		{0, 0, 0}, {0, 1, 1}, {0, 1<<20 - 1, 1<<20 - 1}, {1, 0, 1 << 20}, {2, 5, 2<<20 + 5}, {15, 1<<20 - 1, 1<<24 - 1},
	} {
		if got := Key(c.place, c.time); got != c.key {
			t.Errorf("the key of %d at %d is %d, want %d", c.place, c.time, got, c.key)
		}
		if place, time := Place(c.key), Time(c.key); place != c.place || time != c.time {
			t.Errorf("the key %d is of %d at %d, want %d at %d", c.key, place, time, c.place, c.time)
		}
	}
}

func TestBegin(t *testing.T) {
	for _, c := range []struct{ time, size, want int }{
		{0, 1, 0}, {77, 1, 77}, {0, 60, 0}, {59, 60, 0}, {60, 60, 60}, {119, 60, 60}, {3599, 3600, 0}, {3600, 3600, 3600}, {1<<20 - 1, 3600, 1047600},
	} {
		if got := Begin(c.time, c.size); got != c.want {
			t.Errorf("%d is in the bucket of %d that begins at %d, want %d", c.time, c.size, got, c.want)
		}
	}
}

func TestPointsMayBe(t *testing.T) {
	second := 1 << 20
	first := api.Entry{Key: 3600, Is: one(3600, 4)}
	for name, c := range map[string]struct {
		last   api.Entry
		series int
		floor  int
		want   bool
	}{
		"two of one series":      {api.Entry{Key: 3601, Is: one(3601, 1)}, 1, 0, true},
		"at the Floor":           {api.Entry{Key: second + 3600, Is: one(3600, 1)}, 2, 3600, true},
		"below the Floor":        {api.Entry{Key: second + 3599, Is: one(3599, 1)}, 2, 3600, false},
		"the first below it":     {api.Entry{Key: 7200, Is: one(7200, 1)}, 1, 7200, false},
		"of the last series":     {api.Entry{Key: 2*second - 1, Is: one(second-1, 1)}, 2, 0, true},
		"of the one behind it":   {api.Entry{Key: 2 * second, Is: one(0, 1)}, 2, 0, false},
		"of another time":        {api.Entry{Key: 3601, Is: one(3600, 1)}, 1, 0, false},
		"of no points":           {api.Entry{Key: second}, 2, 0, false},
		"a value beyond":         {api.Entry{Key: 3601, Is: one(3601, api.MaxValue+1)}, 1, 0, false},
		"a rollup not in form":   {api.Entry{Key: 3601, Is: api.Rollup{Count: 1, Sum: 2, Min: 1, Max: 1, Time: 3601, Last: 1}}, 1, 0, false},
		"no series":              {api.Entry{Key: 3601, Is: one(3601, 1)}, 0, 0, false},
		"the greatest key":       {api.Entry{Key: 1<<40 - 1, Is: one(second-1, 1)}, 16, 0, false},
		"the greatest of series": {api.Entry{Key: 16*second - 1, Is: one(second-1, 1)}, 16, 0, true},
	} {
		if got := PointsMayBe([]api.Entry{first, c.last}, c.series, c.floor); got != c.want {
			t.Errorf("%s: %t, want %t", name, got, c.want)
		}
	}
	if !PointsMayBe(nil, 0, 0) {
		t.Errorf("no points may not be")
	}
}

// TestGather: buckets are counted from the beginning of each series, though the first key of the second one is no multiple of 60.
func TestGather(t *testing.T) {
	second := 1 << 20
	points := []api.Entry{
		{Key: 0, Is: one(0, 4)}, {Key: 59, Is: one(59, -9)}, {Key: 60, Is: one(60, 1)}, {Key: 3600, Is: one(3600, 2)},
		{Key: second, Is: one(0, 7)}, {Key: second + 59, Is: one(59, 8)}, {Key: second + 60, Is: one(60, 9)},
	}
	before := fmt.Sprint(points)
	of60 := []api.Entry{
		{Key: 0, Is: api.Rollup{Count: 2, Sum: -5, Min: -9, Max: 4, Time: 59, Last: -9}}, points[2], points[3],
		{Key: second, Is: api.Rollup{Count: 2, Sum: 15, Min: 7, Max: 8, Time: 59, Last: 8}}, points[6],
	}
	of3600 := []api.Entry{
		{Key: 0, Is: api.Rollup{Count: 3, Sum: -4, Min: -9, Max: 4, Time: 60, Last: 1}}, points[3],
		{Key: second, Is: api.Rollup{Count: 3, Sum: 24, Min: 7, Max: 9, Time: 60, Last: 9}},
	}
	for size, want := range map[int][]api.Entry{1: points, 60: of60, 3600: of3600} {
		got, e := Gather(points, size)
		if e != api.OK || !slices.Equal(got, want) {
			t.Errorf("buckets of %d are %v, %d, want %v", size, got, e, want)
		}
		for i := range got {
			got[i] = api.Entry{}
		}
		if fmt.Sprint(points) != before {
			t.Fatalf("buckets of %d: the points were changed", size)
		}
	}
}

func TestGatherRefusesWhatCantComeTogether(t *testing.T) {
	heavy := api.Rollup{Count: api.MaxCount, Time: 59}
	for size, want := range map[int]api.Errno{1: api.OK, 60: api.OK, 3600: api.ErrSize} {
		got, e := Gather([]api.Entry{{Key: 59, Is: heavy}, {Key: 60, Is: one(60, 0)}}, size)
		if e != want || e != api.OK && len(got) != 0 {
			t.Errorf("buckets of %d: %v, %d, want %d", size, got, e, want)
		}
	}
	if got, e := Gather(nil, 60); e != api.OK || len(got) != 0 {
		t.Errorf("of no points: %v, %d", got, e)
	}
}
