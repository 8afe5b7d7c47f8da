package engine

import (
	"fmt"
	"maps"
	"reflect"
	"slices"
	"testing"

	"winnower/api"
	"winnower/base"
	"winnower/tree"
)

// The tests' own numbers, so that they do not move with the program's.
const (
	seriesKeys = 1 << 20
	lastTime   = seriesKeys - 1
	lastFloor  = 1047600 // the greatest multiple of 3600 that is a time
	mostActs   = 500
	mostSeries = 16
	mostValue  = 1000000
)

// Short forms of acts.

func put(series string, time, value int) api.Act {
	return api.Act{Kind: 1, Series: series, Time: time, Value: value}
}

func ask(series string, size, from, to int) api.Act {
	return api.Act{Kind: 2, Series: series, Size: size, Time: from, To: to}
}

func sum(series string, from, to int) api.Act {
	return api.Act{Kind: 3, Series: series, Time: from, To: to}
}

func expire(time int) api.Act { return api.Act{Kind: 4, Time: time} }

func save() api.Act { return api.Act{Kind: 5} }

func load() api.Act { return api.Act{Kind: 6} }

// die: numbers that look drawn, the same each time.
type die uint64

func (d *die) n(most int) int {
	*d = *d*6364136223846793005 + 1442695040888963407
	return int(uint64(*d>>33) % uint64(most))
}

func pick[T any](d *die, l ...T) T { return l[d.n(len(l))] }

// model of a base: its points, as they came.
type model struct {
	names  []string
	floor  int
	points []api.Point
}

func (m model) copy() model {
	return model{slices.Clone(m.names), m.floor, slices.Clone(m.points)}
}

// together: what is known of points.
func together(l []api.Point) api.Rollup {
	var r api.Rollup
	for i, p := range l {
		if i == 0 {
			r = api.Rollup{Min: p.Value, Max: p.Value, Time: p.Time, Last: p.Value}
		}
		if p.Time > r.Time || p.Time == r.Time && p.Value > r.Last {
			r.Time, r.Last = p.Time, p.Value
		}
		r.Count, r.Sum, r.Min, r.Max = r.Count+1, r.Sum+p.Value, min(r.Min, p.Value), max(r.Max, p.Value)
	}
	return r
}

// rows of buckets of a series, all of them.
func (m model) rows(series string, size int) []api.Row {
	at := map[int][]api.Point{}
	for _, p := range m.points {
		if p.Series == series {
			begin := p.Time / size * size
			at[begin] = append(at[begin], p)
		}
	}
	var l []api.Row
	for _, begin := range slices.Sorted(maps.Keys(at)) {
		l = append(l, api.Row{Time: begin, Is: together(at[begin])})
	}
	return l
}

// tells: is it a base that may be, and does it know just what the model has?
func (m model) tells(t *testing.T, what string, b api.Base) {
	t.Helper()
	if e := base.Check(b); e != api.OK {
		t.Fatalf("%s: base.Check is %d", what, e)
	}
	if !slices.Equal(b.Names, m.names) || b.Floor != m.floor {
		t.Fatalf("%s: the Names are %q, the Floor is %d, want %q, %d", what, b.Names, b.Floor, m.names, m.floor)
	}
	for i, size := range []int{1, 60, 3600} {
		var want []api.Entry
		for place, name := range m.names {
			for _, r := range m.rows(name, size) {
				want = append(want, api.Entry{Key: place*seriesKeys + r.Time, Is: r.Is})
			}
		}
		if got, e := tree.All(b.Trees[i], 0, 1<<40); e != api.OK || !slices.Equal(got, want) {
			t.Fatalf("%s: buckets of %d are %v, %d, want %v", what, size, got, e, want)
		}
	}
}

// player does by models what a script asks for.
type player struct {
	now, kept model
}

func (x *player) answer(a api.Act) api.Answer {
	switch a.Kind {
	case 1:
		return api.Answer{Code: x.put(api.Point{Series: a.Series, Time: a.Time, Value: a.Value})}
	case 2:
		return x.ask(a)
	case 3:
		return x.sum(a)
	case 4:
		return api.Answer{Code: x.expire(a.Time)}
	case 5:
		x.kept = x.now.copy()
		return api.Answer{}
	case 6:
		x.now = x.kept.copy()
		return api.Answer{}
	}
	return api.Answer{Code: api.ErrKind}
}

func isName(s string) bool {
	for _, c := range []byte(s) {
		if (c < 'a' || c > 'z') && (c < '0' || c > '9') && c != '.' {
			return false
		}
	}
	return len(s) >= 1 && len(s) <= 10
}

func (x *player) put(p api.Point) api.Errno {
	there := slices.Contains(x.now.names, p.Series)
	switch {
	case !isName(p.Series):
		return api.ErrForm
	case p.Time < 0 || p.Time > lastTime || p.Value < -mostValue || p.Value > mostValue:
		return api.ErrRange
	case p.Time < x.now.floor:
		return api.ErrOrder
	case !there && len(x.now.names) == mostSeries:
		return api.ErrSize
	}
	if !there {
		x.now.names = append(x.now.names, p.Series)
	}
	x.now.points = append(x.now.points, p)
	return api.OK
}

func (x *player) ask(a api.Act) api.Answer {
	switch {
	case !slices.Contains(x.now.names, a.Series):
		return api.Answer{Code: api.ErrNone}
	case a.Size != 1 && a.Size != 60 && a.Size != 3600:
		return api.Answer{Code: api.ErrKind}
	case a.Time < 0 || a.Time > a.To || a.To > lastTime:
		return api.Answer{Code: api.ErrRange}
	}
	out := func(r api.Row) bool { return r.Time < a.Time || r.Time > a.To }
	return api.Answer{Rows: slices.DeleteFunc(x.now.rows(a.Series, a.Size), out)}
}

func (x *player) sum(a api.Act) api.Answer {
	switch {
	case !slices.Contains(x.now.names, a.Series):
		return api.Answer{Code: api.ErrNone}
	case a.Time < 0 || a.Time > a.To || a.To > lastTime:
		return api.Answer{Code: api.ErrRange}
	}
	out := func(p api.Point) bool { return p.Series != a.Series || p.Time < a.Time || p.Time > a.To }
	return api.Answer{Is: together(slices.DeleteFunc(slices.Clone(x.now.points), out))}
}

func (x *player) expire(time int) api.Errno {
	switch {
	case time < 0 || time > lastTime:
		return api.ErrRange
	case time%3600 != 0:
		return api.ErrForm
	case time < x.now.floor:
		return api.ErrOrder
	}
	x.now.floor = time
	x.now.points = slices.DeleteFunc(x.now.points, func(p api.Point) bool { return p.Time < time })
	return api.OK
}

func sameAnswer(a, b api.Answer) bool {
	return a.Code == b.Code && a.Is == b.Is && slices.Equal(a.Rows, b.Rows)
}

// play a script, hold all that Run answers against the models, and hand it on.
func play(t *testing.T, what string, l ...api.Act) ([]api.Answer, api.Base) {
	t.Helper()
	acts := spare(l, put("room", 1, 2))
	before := slices.Clone(acts[:cap(acts)])
	answers, b, e := Run(acts)
	if e != api.OK || len(answers) != len(l) {
		t.Fatalf("%s: Run is %d, with %d answers to %d acts", what, e, len(answers), len(l))
	}
	if !slices.Equal(acts[:cap(acts)], before) {
		t.Fatalf("%s: what was handed in was changed", what)
	}
	var x player
	for i, a := range l {
		if want := x.answer(a); !sameAnswer(answers[i], want) {
			t.Fatalf("%s: act %d, %v: the answer is %v, want %v", what, i, a, answers[i], want)
		}
	}
	x.now.tells(t, what, b)
	apart(t, what, answers, b)
	return answers, b
}

// codes of answers, in their order.
func codes(t *testing.T, what string, l []api.Answer, want ...api.Errno) {
	t.Helper()
	var got []api.Errno
	for _, a := range l {
		got = append(got, a.Code)
	}
	if !slices.Equal(got, want) {
		t.Errorf("%s: the codes are %d, want %d", what, asNumbers(got), asNumbers(want))
	}
}

func asNumbers(l []api.Errno) []int {
	var n []int
	for _, e := range l {
		n = append(n, int(e))
	}
	return n
}

// sameBase, its trees too, node by node.
func sameBase(a, b api.Base) bool {
	return reflect.DeepEqual(a, b) || fmt.Sprint(a) == fmt.Sprint(b)
}

func spare[T any](l []T, x T) []T {
	return append(append(make([]T, 0, len(l)+3), l...), x, x, x)[:len(l)]
}

// memory: the address of each element of lists, their spare room too.
type memory map[any]int

func (m memory) seeBase(b api.Base) {
	seeList(m, b.Names)
	for _, x := range b.Trees {
		seeList(m, x.Nodes)
		for _, n := range x.Nodes {
			seeList(m, n.Entries)
			seeList(m, n.Buffer)
			seeList(m, n.Keys)
			seeList(m, n.Kids)
		}
	}
}

func (m memory) seeAnswers(l []api.Answer) {
	seeList(m, l)
	for _, a := range l {
		seeList(m, a.Rows)
	}
}

func seeList[T any](m memory, l []T) {
	l = l[:cap(l)]
	for i := range l {
		m[&l[i]]++
	}
}

func (m memory) apart(t *testing.T, what string) {
	t.Helper()
	for _, n := range m {
		if n > 1 {
			t.Errorf("%s: two lists share memory", what)
			return
		}
	}
}

// apart: no two lists of what was answered have memory in common.
func apart(t *testing.T, what string, l []api.Answer, b api.Base) {
	t.Helper()
	m := memory{}
	m.seeAnswers(l)
	m.seeBase(b)
	m.apart(t, what)
}
