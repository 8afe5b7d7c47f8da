package file

import (
	"encoding/binary"
	"fmt"
	"hash/adler32"
	"maps"
	"reflect"
	"slices"
	"strings"
	"testing"

	"winnower/api"
	"winnower/base"
	"winnower/roll"
	"winnower/tree"
)

// The tests' own numbers, so that they do not move with the program's.
const (
	seriesKeys = 1 << 20
	lastTime   = seriesKeys - 1
	lastFloor  = 1047600 // the greatest multiple of 3600 that is a time
	mostTimes  = 10000
	mostBytes  = 200000
)

// die: numbers that look drawn, the same each time.
type die uint64

func (d *die) n(most int) int {
	*d = *d*6364136223846793005 + 1442695040888963407
	return int(uint64(*d>>33) % uint64(most))
}

// at a time of a series there are count points of a value.
func at(place, time, count, value int) api.Entry {
	return api.Entry{
		Key: place*seriesKeys + time,
		Is:  api.Rollup{Count: count, Sum: count * value, Min: value, Max: value, Time: time, Last: value},
	}
}

// sheet: what bytes tell of; the keys of its points rise.
type sheet struct {
	names  []string
	floor  int
	points []api.Entry
}

// body: all but the seal, written by the library's numbers.
func (s sheet) body() []byte {
	b := binary.AppendUvarint([]byte("wn"), uint64(len(s.names)))
	for _, name := range s.names {
		b = append(binary.AppendUvarint(b, uint64(len(name))), name...)
	}
	b = binary.AppendUvarint(b, uint64(s.floor))
	b = binary.AppendUvarint(b, uint64(len(s.points)))
	ahead := 0
	for _, x := range s.points {
		b = binary.AppendUvarint(b, uint64(x.Key-ahead))
		b = binary.AppendUvarint(b, uint64(x.Is.Count))
		b = binary.AppendVarint(b, int64(x.Is.Sum))
		b = binary.AppendVarint(b, int64(x.Is.Min))
		b = binary.AppendVarint(b, int64(x.Is.Max))
		b = binary.AppendVarint(b, int64(x.Is.Last))
		ahead = x.Key
	}
	return b
}

// sealed bytes: the library knows the seal by another name.
func sealed(body []byte) []byte {
	return binary.BigEndian.AppendUint32(slices.Clone(body), adler32.Checksum(body))
}

func (s sheet) bytes() []byte { return sealed(s.body()) }

// buckets of a size that come of the points.
func (s sheet) buckets(t *testing.T, size int) []api.Entry {
	t.Helper()
	known := map[int]api.Rollup{}
	for _, x := range s.points {
		time := x.Key % seriesKeys
		key := x.Key - time%size
		r, e := roll.Merge(known[key], x.Is)
		if e != api.OK {
			t.Fatalf("buckets of %d: %d", size, e)
		}
		known[key] = r
	}
	var l []api.Entry
	for _, key := range slices.Sorted(maps.Keys(known)) {
		l = append(l, api.Entry{Key: key, Is: known[key]})
	}
	return l
}

func (s sheet) base(t *testing.T) api.Base {
	t.Helper()
	b := api.Base{Names: slices.Clone(s.names), Floor: s.floor}
	for i, size := range []int{1, 60, 3600} {
		x, e := tree.Of(s.buckets(t, size))
		if e != api.OK {
			t.Fatalf("tree.Of: %d", e)
		}
		b.Trees[i] = x
	}
	return b
}

// tells: does a base that may be know just what the sheet has?
func (s sheet) tells(t *testing.T, what string, x api.Base) {
	t.Helper()
	if e := base.Check(x); e != api.OK {
		t.Fatalf("%s: base.Check is %d", what, e)
	}
	if !slices.Equal(x.Names, s.names) || x.Floor != s.floor {
		t.Fatalf("%s: the Names are %v, the Floor is %d, want %v, %d", what, x.Names, x.Floor, s.names, s.floor)
	}
	got, e := tree.All(x.Trees[0], 0, 1<<40)
	if e != api.OK || !slices.Equal(got, s.points) {
		t.Fatalf("%s: it knows of %v, %d, want %v", what, got, e, s.points)
	}
}

// many times in a row of one series.
func many(times int) sheet {
	s := sheet{names: []string{"cpu"}}
	for i := range times {
		s.points = append(s.points, at(0, i, 1, i%7))
	}
	return s
}

// names, each of one letter.
func letters(n int) []string { return strings.Split("abcdefghijklmnopqrstuvwxyz"[:n], "") }

// samples of all kinds, by what they are.
func samples() map[string]sheet {
	lone := func(r api.Rollup) sheet {
		return sheet{names: letters(1), points: []api.Entry{{Key: r.Time, Is: r}}}
	}
	return map[string]sheet{
		"nothing":                   {},
		"names alone":               {names: letters(16)},
		"the longest name":          {names: []string{"abcdefghij", ".", "0.9"}},
		"a Floor alone":             {floor: lastFloor},
		"the first key":             {names: letters(1), points: []api.Entry{at(0, 0, 1, 1)}},
		"the last key":              {names: letters(16), floor: lastFloor, points: []api.Entry{at(15, lastTime, 1, -1)}},
		"the last time of a series": {names: letters(2), points: []api.Entry{at(0, lastTime, 1, 1), at(1, 0, 1, 2)}},
		"a series that is skipped":  {names: letters(3), points: []api.Entry{at(0, 9, 1, 1), at(2, 9, 1, 2)}},
		"a point at the Floor":      {names: letters(1), floor: 7200, points: []api.Entry{at(0, 7200, 3, 5)}},
		"numbers on both sides of 128": {names: letters(1), points: []api.Entry{
			at(0, 127, 127, 63), at(0, 254, 128, -64), at(0, 382, 1, 64), at(0, 383, 1, -65), at(0, 16766, 16383, 0), at(0, 33150, 16384, 0)}},
		"greatest numbers": lone(api.Rollup{Count: api.MaxCount, Sum: api.MaxCount * api.MaxValue, Min: api.MaxValue, Max: api.MaxValue, Time: 5, Last: api.MaxValue}),
		"least numbers":    lone(api.Rollup{Count: api.MaxCount, Sum: -api.MaxCount * api.MaxValue, Min: -api.MaxValue, Max: -api.MaxValue, Time: 5, Last: -api.MaxValue}),
		"all differ":       lone(api.Rollup{Count: 4, Sum: 6, Min: -3, Max: 7, Time: lastTime, Last: 2}),
		"full buckets":     {names: letters(1), points: []api.Entry{at(0, 3599, api.MaxCount, 1), at(0, 3600, api.MaxCount, -1)}},
		"many":             many(300),
	}
}

// drawnSheet of some series; some times stand close together, some far apart.
func drawnSheet(d *die, points int) sheet {
	s := sheet{names: letters(1 + d.n(16)), floor: 3600 * d.n(4)}
	known := map[int]api.Entry{}
	for range points {
		time := min(s.floor+[]int{d.n(50), d.n(9000), d.n(lastTime)}[d.n(3)], lastTime)
		x := at(d.n(len(s.names)), time, 1+d.n(300)*d.n(2), d.n(2000001)-1000000)
		x.Is.Min = max(x.Is.Min-d.n(99), -1000000)
		x.Is.Max = min(x.Is.Max+d.n(99), 1000000)
		known[x.Key] = x
	}
	for _, key := range slices.Sorted(maps.Keys(known)) {
		s.points = append(s.points, known[key])
	}
	return s
}

// zeroBase: what stands beside an error.
func zeroBase(x api.Base) bool {
	for _, t := range x.Trees {
		if len(t.Nodes) != 0 || t.Root != 0 {
			return false
		}
	}
	return len(x.Names) == 0 && x.Floor == 0
}

// lists within a value, each to be seen with its spare room.
func lists(v reflect.Value, see func(reflect.Value)) {
	switch v.Kind() {
	case reflect.Struct:
		for i := range v.NumField() {
			lists(v.Field(i), see)
		}
	case reflect.Array:
		for i := range v.Len() {
			lists(v.Index(i), see)
		}
	case reflect.Slice:
		see(v.Slice(0, v.Cap()))
		for i := range v.Len() {
			lists(v.Index(i), see)
		}
	}
}

// whole text of a value, with the spare room of its lists.
func whole(v any) string {
	var s strings.Builder
	fmt.Fprint(&s, v)
	lists(reflect.ValueOf(v), func(l reflect.Value) { fmt.Fprint(&s, l) })
	return s.String()
}

// apart: no two lists of these values have memory in common.
func apart(t *testing.T, what string, values ...any) {
	t.Helper()
	seen := map[uintptr]bool{}
	shared := false
	for _, v := range values {
		lists(reflect.ValueOf(v), func(l reflect.Value) {
			for i := range l.Len() {
				p := l.Index(i).Addr().Pointer()
				shared = shared || seen[p]
				seen[p] = true
			}
		})
	}
	if shared {
		t.Errorf("%s: two lists share memory", what)
	}
}
