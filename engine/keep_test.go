package engine

import (
	"bytes"
	"slices"
	"testing"

	"winnower/api"
	"winnower/base"
	"winnower/file"
)

// TestLoadWithNothingSaved: the base is a new one then, whatever it was.
func TestLoadWithNothingSaved(t *testing.T) {
	for what, l := range map[string][]api.Act{
		"at first":             {load()},
		"twice":                {load(), load()},
		"behind points":        append(points(), load()),
		"behind a Floor":       {put("cpu", 10, 3), expire(3600), load()},
		"behind a wrong kind":  {put("cpu", 10, 3), {Kind: 7}, load()},
		"and a Save behind it": {put("cpu", 10, 3), load(), save()},
	} {
		if answers, b := play(t, what, l...); answers[len(l)-1].Code != api.OK || !sameBase(b, base.New()) {
			t.Errorf("Load with nothing saved %s: the base is %v", what, b)
		}
	}
	l, _ := play(t, "asked behind Load", put("cpu", 10, 3), expire(3600), load(), sum("cpu", 0, 100), put("mem", 5, 1), put("cpu", 10, 4), sum("cpu", 0, 100))
	codes(t, "asked behind Load", l, 0, 0, 0, api.ErrNone, 0, 0, 0)
}

func TestSaveAndLoad(t *testing.T) {
	later := []api.Act{put("cpu", 7000, 9), put("disk", 20, 1), expire(lastFloor), put("cpu", lastTime, 3)}
	l := slices.Concat(points(), []api.Act{save()}, later, []api.Act{load()})
	_, b := play(t, "Save and Load", l...)
	if !slices.Equal(b.Names, []string{"cpu", "net.in"}) || b.Floor != 0 {
		t.Errorf("behind Load the Names are %q, the Floor is %d", b.Names, b.Floor)
	}
	play(t, "a new base, saved", slices.Concat([]api.Act{save()}, points(), []api.Act{expire(3600), load(), sum("cpu", 0, 9)})...)
	play(t, "a Floor, saved", expire(7200), save(), load(), put("cpu", 7199, 1), put("cpu", 7200, 1), expire(3600))
	play(t, "series without points, saved", put("cpu", 1, 1), put("mem", 2, 2), expire(3600), save(), put("z", 3600, 1), load(), ask("mem", 60, 0, 9), put("y", 3600, 4), ask("z", 60, 0, 9))
}

// TestSaveChangesNothing: the base goes on as it is.
func TestSaveChangesNothing(t *testing.T) {
	_, b := play(t, "with Save", append(points(), save(), save())...)
	if _, want := play(t, "without Save", points()...); !sameBase(b, want) {
		t.Error("Save changed the base")
	}
}

// TestTheLastSave is that which is loaded, each time that it is asked for.
func TestTheLastSave(t *testing.T) {
	all := sum("cpu", 0, lastTime)
	l, _ := play(t, "three Saves", put("cpu", 1, 1), save(), put("cpu", 2, 10), save(), put("cpu", 3, 100), all,
		load(), all, put("cpu", 4, 1000), all, load(), all, load(), all, put("cpu", 5, 10000), save(), put("cpu", 6, 7), load(), all)
	var got []int
	for _, a := range l {
		if a.Is.Count > 0 {
			got = append(got, a.Is.Sum)
		}
	}
	if want := []int{111, 11, 1011, 11, 11, 10011}; !slices.Equal(got, want) {
		t.Errorf("the Sums are %v, want %v", got, want)
	}
}

// TestSavedAsBytes: what comes back is what file tells of what was kept.
func TestSavedAsBytes(t *testing.T) {
	_, saved := play(t, "saved", append(points(), expire(3600), save())...)
	_, loaded := play(t, "loaded", append(points(), expire(3600), save(), put("x", 9999, 1), load())...)
	want, e := file.Encode(saved)
	if got, code := file.Encode(loaded); e != api.OK || code != api.OK || !bytes.Equal(got, want) {
		t.Errorf("Encode is %x, %d, want %x, %d", got, code, want, e)
	}
}

// TestRefusedSaveAndLoad: no script comes so far, so that the stage is set by hand: with a base that may not be, and with bytes that are spoilt.
func TestRefusedSaveAndLoad(t *testing.T) {
	good, e := file.Encode(base.New())
	if e != api.OK {
		t.Fatal(e)
	}
	s := stage{now: api.Base{Floor: 1}, kept: good}
	if a := s.do(save()); !sameAnswer(a, api.Answer{Code: api.ErrState}) || !bytes.Equal(s.kept, good) || s.now.Floor != 1 {
		t.Errorf("a refused Save: %v, %x is kept", a, s.kept)
	}
	s = stage{now: api.Base{Floor: 3600}, kept: []byte("wn")}
	if a := s.do(load()); !sameAnswer(a, api.Answer{Code: api.ErrShort}) || s.now.Floor != 3600 || string(s.kept) != "wn" {
		t.Errorf("a refused Load: %v, the Floor is %d", a, s.now.Floor)
	}
}
