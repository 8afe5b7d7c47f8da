package engine

import (
	"fmt"
	"math"
	"slices"
	"testing"

	"winnower/api"
	"winnower/base"
)

// TestTheExample of the whole.
func TestTheExample(t *testing.T) {
	l, b := play(t, "the example", put("cpu", 10, 3), put("cpu", 65, 5), ask("cpu", 60, 0, 100), sum("cpu", 0, 100))
	rows := []api.Row{
		{Time: 0, Is: api.Rollup{Count: 1, Sum: 3, Min: 3, Max: 3, Time: 10, Last: 3}},
		{Time: 60, Is: api.Rollup{Count: 1, Sum: 5, Min: 5, Max: 5, Time: 65, Last: 5}},
	}
	want := []api.Answer{{}, {}, {Rows: rows}, {Is: api.Rollup{Count: 2, Sum: 8, Min: 3, Max: 5, Time: 65, Last: 5}}}
	if !slices.EqualFunc(l, want, sameAnswer) {
		t.Errorf("the answers are %v, want %v", l, want)
	}
	if !slices.Equal(b.Names, []string{"cpu"}) || b.Floor != 0 {
		t.Errorf("the base has the Names %q, and the Floor %d", b.Names, b.Floor)
	}
}

// TestKinds: the numbers of api are those that the acts of these tests have.
func TestKinds(t *testing.T) {
	got := []int{api.Put, api.Ask, api.Sum, api.Expire, api.Save, api.Load}
	if !slices.Equal(got, []int{1, 2, 3, 4, 5, 6}) {
		t.Errorf("the kinds are %v", got)
	}
}

func TestNoActs(t *testing.T) {
	for _, l := range [][]api.Act{nil, {}} {
		answers, b, e := Run(l)
		if e != api.OK || len(answers) != 0 || !sameBase(b, base.New()) {
			t.Errorf("Run of no acts: %v, %v, %d", answers, b, e)
		}
	}
}

// manyPuts at as many times, each two buckets of 60 on.
func manyPuts(count int) []api.Act {
	var l []api.Act
	for i := range count {
		l = append(l, put("cpu", 120*i, i))
	}
	return l
}

func TestMaxActs(t *testing.T) {
	l, b := play(t, "as many acts as may be", append(manyPuts(mostActs-1), ask("cpu", 60, 0, lastTime))...)
	if n := len(l[mostActs-1].Rows); n != mostActs-1 || len(b.Names) != 1 {
		t.Errorf("behind %d Puts there are %d rows, %d names", mostActs-1, n, len(b.Names))
	}
	play(t, "as many Puts as may be", manyPuts(mostActs)...)
	play(t, "as many acts of no kind as may be", make([]api.Act, mostActs)...)
	play(t, "as many Loads of much as may be", append(append(manyPuts(mostActs/2), save()), slices.Repeat([]api.Act{load()}, mostActs/2-1)...)...)
}

func TestTooManyActs(t *testing.T) {
	for what, l := range map[string][]api.Act{
		"one more Put":              manyPuts(mostActs + 1),
		"one more act of no kind":   make([]api.Act, mostActs+1),
		"one more refused act":      slices.Repeat([]api.Act{expire(1)}, mostActs+1),
		"far more":                  make([]api.Act, 100*mostActs),
		"a wrong act, and too many": append(manyPuts(mostActs), api.Act{Kind: -1}),
	} {
		answers, b, e := Run(l)
		if e != api.ErrSize || len(answers) != 0 || !sameBase(b, api.Base{}) {
			t.Errorf("%s: %d answers, %v, %d", what, len(answers), b, e)
		}
	}
}

func TestPut(t *testing.T) {
	l, b := play(t, "Put", put("cpu", 70, 9), put("mem", 70, -mostValue), put("cpu", 70, 3), put(".", lastTime, mostValue), put("abcdefghi9", 0, 0), put("cpu", 10, 4))
	codes(t, "Put", l, 0, 0, 0, 0, 0, 0)
	if !slices.Equal(b.Names, []string{"cpu", "mem", ".", "abcdefghi9"}) {
		t.Errorf("the Names are %q", b.Names)
	}
	if rows, _ := base.Rows(b, "cpu", 60, 60, 60); len(rows) != 1 || rows[0].Is != (api.Rollup{Count: 2, Sum: 12, Min: 3, Max: 9, Time: 70, Last: 9}) {
		t.Errorf("the rows are %v", rows)
	}
}

func TestPutRefused(t *testing.T) {
	l, _ := play(t, "Put refused", expire(3600), put("cpu", 3600, 1),
		put("", 3600, 1), put("abcdefghijk", 3600, 1), put("CPU", 3600, 1), put("a b", -1, 1), put("\x00", 0, 1),
		put("cpu", -1, 1), put("cpu", lastTime+1, 1), put("cpu", 3600, mostValue+1), put("cpu", 0, -mostValue-1), put("new", math.MinInt, math.MaxInt),
		put("cpu", 3599, 1), put("new", 0, 1),
		put("cpu", 3600, 2), sum("cpu", 0, lastTime), sum("new", 0, lastTime))
	codes(t, "Put refused", l, 0, 0,
		api.ErrForm, api.ErrForm, api.ErrForm, api.ErrForm, api.ErrForm,
		api.ErrRange, api.ErrRange, api.ErrRange, api.ErrRange, api.ErrRange,
		api.ErrOrder, api.ErrOrder,
		0, 0, api.ErrNone)
}

func TestPutTooManySeries(t *testing.T) {
	var l []api.Act
	for i := range mostSeries {
		l = append(l, put(fmt.Sprint("s", i), i, i))
	}
	answers, b := play(t, "too many series", append(l, put("s16", 1, 1), put("s15", 1, 1), put("s0", lastTime, 1), ask("s16", 1, 0, 9))...)
	codes(t, "too many series", answers[mostSeries:], api.ErrSize, 0, 0, api.ErrNone)
	if len(b.Names) != mostSeries {
		t.Errorf("the Names are %q", b.Names)
	}
}

// points on both sides of borders of buckets.
func points() []api.Act {
	var l []api.Act
	for i, time := range []int{0, 59, 60, 61, 3599, 3600, 3601, 7199, 7200, lastFloor - 1, lastFloor, lastTime} {
		l = append(l, put("cpu", time, i-5), put("net.in", time, 7*i))
	}
	return l
}

func TestAskAndSum(t *testing.T) {
	l := points()
	for _, from := range []int{0, 1, 60, 3599, 3600, 7200, lastTime} {
		for _, to := range []int{0, 59, 60, 3600, 7199, lastFloor, lastTime} {
			if from > to {
				continue
			}
			l = append(l, sum("cpu", from, to), sum("net.in", from, to))
			for _, size := range []int{1, 60, 3600} {
				l = append(l, ask("cpu", size, from, to), ask("net.in", size, from, to))
			}
		}
	}
	_, b := play(t, "Ask and Sum", l...)
	if _, want := play(t, "Puts alone", points()...); !sameBase(b, want) {
		t.Error("Ask or Sum changed the base")
	}
}

func TestAskRefused(t *testing.T) {
	l, _ := play(t, "Ask refused", ask("cpu", 60, 0, 9), put("cpu", 10, 3),
		ask("", 60, 0, 9), ask("mem", 60, 0, 9), ask("mem", 2, 9, 0), ask("Cpu", 60, -1, 9),
		ask("cpu", 0, 0, 9), ask("cpu", 61, 9, 0), ask("cpu", -60, 0, 9), ask("cpu", math.MaxInt, -1, 9),
		ask("cpu", 60, -1, 9), ask("cpu", 60, 10, 9), ask("cpu", 1, 0, lastTime+1), ask("cpu", 3600, math.MinInt, math.MaxInt),
		ask("cpu", 60, 0, 9))
	codes(t, "Ask refused", l, api.ErrNone, 0,
		api.ErrNone, api.ErrNone, api.ErrNone, api.ErrNone,
		api.ErrKind, api.ErrKind, api.ErrKind, api.ErrKind,
		api.ErrRange, api.ErrRange, api.ErrRange, api.ErrRange, 0)
}

func TestSumRefused(t *testing.T) {
	l, _ := play(t, "Sum refused", sum("cpu", 0, 9), put("cpu", 10, 3),
		sum("", 0, 9), sum("mem", 9, 0), sum("cpu ", 0, 9),
		sum("cpu", -1, 9), sum("cpu", 10, 9), sum("cpu", 0, lastTime+1), sum("cpu", math.MaxInt, math.MinInt),
		sum("cpu", 0, 9), sum("cpu", 10, 10))
	codes(t, "Sum refused", l, api.ErrNone, 0,
		api.ErrNone, api.ErrNone, api.ErrNone,
		api.ErrRange, api.ErrRange, api.ErrRange, api.ErrRange, 0, 0)
}

func TestExpire(t *testing.T) {
	for _, time := range []int{0, 3600, 7200, lastFloor} {
		l := append(points(), expire(time), expire(time), put("cpu", time, 1))
		play(t, fmt.Sprint("Expire of ", time), append(l, ask("cpu", 3600, 0, lastTime), sum("net.in", 0, lastTime))...)
	}
	_, b := play(t, "Expire of all", put("cpu", 5, 3), put("mem", 6, 3), expire(3600))
	if !slices.Equal(b.Names, []string{"cpu", "mem"}) || b.Floor != 3600 {
		t.Errorf("behind Expire of all: the Names are %q, the Floor is %d", b.Names, b.Floor)
	}
}

func TestExpireRefused(t *testing.T) {
	l, b := play(t, "Expire refused", put("cpu", 10, 3), put("cpu", 7200, 3), expire(7200),
		expire(-1), expire(lastTime+1), expire(math.MinInt), expire(math.MaxInt), expire(lastFloor+3600),
		expire(1), expire(3599), expire(lastTime), expire(0), expire(3600),
		sum("cpu", 0, lastTime))
	codes(t, "Expire refused", l, 0, 0, 0,
		api.ErrRange, api.ErrRange, api.ErrRange, api.ErrRange, api.ErrRange,
		api.ErrForm, api.ErrForm, api.ErrForm, api.ErrOrder, api.ErrOrder, 0)
	if b.Floor != 7200 {
		t.Errorf("the Floor is %d", b.Floor)
	}
}

// wrongKinds: those that there are not.
func wrongKinds() []int {
	return []int{0, 7, 8, -1, -6, 257, 1 << 32, 1<<32 + 1, math.MinInt, math.MaxInt}
}

func TestNoSuchKind(t *testing.T) {
	for _, kind := range wrongKinds() {
		wrong := api.Act{Kind: kind, Series: "cpu", Time: 3600, To: 7200, Size: 60, Value: 5}
		l, b := play(t, fmt.Sprint("kind ", kind), wrong, put("cpu", 10, 3), wrong, sum("cpu", 0, 9999), wrong)
		codes(t, fmt.Sprint("kind ", kind), l, api.ErrKind, 0, api.ErrKind, 0, api.ErrKind)
		if b.Floor != 0 || l[3].Is.Count != 1 {
			t.Errorf("kind %d did something: the Floor is %d, the total %v", kind, b.Floor, l[3].Is)
		}
	}
}

// TestOtherFields: an act asks for no more than its kind names, whatever stands in the rest.
func TestOtherFields(t *testing.T) {
	l := append(points(), ask("cpu", 60, 0, 9000), sum("cpu", 1, 9000), save(), expire(3600), load(), expire(7200), sum("cpu", 0, 9000))
	want, end := play(t, "plain acts", l...)
	for i, a := range l {
		if a.Kind > 3 {
			l[i].Series, l[i].To = "NO NAME", math.MinInt
		}
		if a.Kind > 4 {
			l[i].Time = -7
		}
		if a.Kind != 2 {
			l[i].Size = math.MaxInt
		}
		if a.Kind == 1 {
			l[i].To = -1
		} else {
			l[i].Value = math.MinInt
		}
	}
	got, b := play(t, "other fields", l...)
	if !slices.EqualFunc(got, want, sameAnswer) || !sameBase(b, end) {
		t.Errorf("fields that a kind does not name are heeded: %v, want %v", got, want)
	}
}

// refusedActs: what points, with the Floor 3600, refuse, and by which code.
func refusedActs() map[api.Act]api.Errno {
	return map[api.Act]api.Errno{
		{}: api.ErrKind, {Kind: 7}: api.ErrKind, {Kind: -1, Series: "cpu", Time: 3600}: api.ErrKind,
		put("No", 3600, 1): api.ErrForm, put("cpu", -1, 1): api.ErrRange, put("new", 3600, mostValue+1): api.ErrRange, put("cpu", 3599, 1): api.ErrOrder, put("new", 0, 1): api.ErrOrder,
		ask("new", 60, 0, 9): api.ErrNone, ask("cpu", 59, 0, 9): api.ErrKind, ask("cpu", 60, 9, 8): api.ErrRange,
		sum("new", 0, 9): api.ErrNone, sum("cpu", 0, lastTime+1): api.ErrRange,
		expire(-3600): api.ErrRange, expire(3601): api.ErrForm, expire(0): api.ErrOrder,
	}
}

// TestRefusedDoesNothing: all else goes on as if what is refused were not there, wherever it is.
func TestRefusedDoesNothing(t *testing.T) {
	head := append([]api.Act{expire(3600)}, put("cpu", 3600, 1), put("mem", 3700, 2))
	tail := []api.Act{save(), put("cpu", 3661, 4), expire(7200), load(), ask("cpu", 60, 0, lastTime), sum("mem", 0, lastTime)}
	plain, end := play(t, "without it", slices.Concat(head, tail)...)
	for wrong, code := range refusedActs() {
		for i := range len(tail) + 1 {
			what := fmt.Sprint(wrong, " ahead of act ", i)
			l, b := play(t, what, slices.Concat(head, tail[:i], []api.Act{wrong}, tail[i:])...)
			at := len(head) + i
			if !sameAnswer(l[at], api.Answer{Code: code}) {
				t.Errorf("%s: the answer is %v, want the code %d alone", what, l[at], int(code))
			}
			if rest := slices.Delete(slices.Clone(l), at, at+1); !slices.EqualFunc(rest, plain, sameAnswer) || !sameBase(b, end) {
				t.Errorf("%s: it does something", what)
			}
		}
	}
}

// drawnAct is mostly one that is taken; its times are often on a border.
func drawnAct(d *die) api.Act {
	a := api.Act{
		Kind:   pick(d, 1, 1, 1, 1, 1, 1, 1, 2, 2, 3, 3, 4, 5, 5, 6, 7),
		Series: pick(d, "cpu", "mem", "a.b", "z"),
		Time:   drawnTime(d),
		To:     drawnTime(d),
		Size:   pick(d, 1, 60, 3600),
		Value:  d.n(99) - 50,
	}
	if a.Kind == 4 && d.n(5) > 0 {
		a.Time = 3600 * d.n(4)
	}
	if d.n(12) == 0 {
		a.Series = pick(d, "", "CPU", "abcdefghijk", fmt.Sprint("s", d.n(20)), fmt.Sprint("s", d.n(20)))
		a.Size = pick(d, 0, 1, 59, 3600, -1)
		a.Value = pick(d, mostValue, -mostValue, mostValue+1, -mostValue-1)
	}
	return a
}

func drawnTime(d *die) int {
	if d.n(20) == 0 {
		return pick(d, -1, 0, lastTime, lastTime+1, math.MinInt, math.MaxInt)
	}
	return max(0, pick(d, d.n(15000), 60*d.n(250)+d.n(3)-1, 3600*d.n(5)+d.n(3)-1))
}

func TestDrawnScripts(t *testing.T) {
	d := die(17)
	kinds := map[int]int{}
	for i := range 300 {
		var l []api.Act
		for range d.n(120) {
			l = append(l, drawnAct(&d))
		}
		answers, _ := play(t, fmt.Sprint("drawn script ", i), l...)
		for j, a := range answers {
			if a.Code == api.OK {
				kinds[l[j].Kind]++
			}
		}
	}
	for kind := 1; kind <= 6; kind++ {
		if kinds[kind] < 100 {
			t.Errorf("of the kind %d only %d were taken", kind, kinds[kind])
		}
	}
}

// TestTwiceTheSame: what Run answers hangs on the acts alone, and no two calls share memory.
func TestTwiceTheSame(t *testing.T) {
	l := append(points(), save(), expire(3600), load(), ask("cpu", 1, 0, lastTime), ask("cpu", 1, 0, lastTime), sum("cpu", 0, lastTime))
	one, b := play(t, "the first time", l...)
	play(t, "another script", put("other", 1, 1), save())
	two, c := play(t, "the second time", l...)
	if !slices.EqualFunc(one, two, sameAnswer) || !sameBase(b, c) {
		t.Error("the same script is answered in two ways")
	}
	m := memory{}
	m.seeAnswers(one)
	m.seeBase(b)
	m.seeAnswers(two)
	m.seeBase(c)
	m.apart(t, "two calls")
}
