package base

import (
	"strings"
	"testing"

	"winnower/api"
)

func TestNameTakesNames(t *testing.T) {
	for _, s := range []string{"a", "m", "z", "0", "5", "9", ".", "..", "net.in", "cpu0", "0.a", "abcdefghij", "zzzzzzzzzz", "0123456789", ".........."} {
		if !Name(s) {
			t.Errorf("%q is refused", s)
		}
	}
}

func TestNameRefusesAllElse(t *testing.T) {
	for _, s := range []string{"", "abcdefghijk", "...........", "Net", "cpU", "A", "Z", "a b", " a", "a ", "a-b", "a/b", "a:b", "a_b", "`", "{", "@", "[", "\x00", "a\x00", "a\n", "é", "a\xff", "\x80", "ａ", strings.Repeat("a", 1000000)} {
		if Name(s) {
			t.Errorf("%q is taken", s)
		}
	}
}

// TestNameAsksEachByte: alone, and at each place of a longer one.
func TestNameAsksEachByte(t *testing.T) {
	const good = "abcdefghijklmnopqrstuvwxyz0123456789."
	for c := range 256 {
		want := strings.IndexByte(good, byte(c)) >= 0
		if got := Name(string([]byte{byte(c)})); got != want {
			t.Errorf("byte %d: %v, want %v", c, got, want)
		}
		for place := range api.MaxName {
			s := []byte(strings.Repeat("x", api.MaxName))
			s[place] = byte(c)
			if got := Name(string(s)); got != want {
				t.Errorf("%q: %v, want %v", s, got, want)
			}
		}
	}
}

// TestBucketsBegin at the greatest multiple of their size that is not above a time.
func TestBucketsBegin(t *testing.T) {
	for _, c := range []struct{ time, size, begin int }{
		{0, 1, 0}, {0, 60, 0}, {0, 3600, 0},
		{59, 1, 59}, {59, 60, 0}, {60, 60, 60}, {61, 60, 60}, {119, 60, 60}, {120, 60, 120},
		{60, 3600, 0}, {3599, 60, 3540}, {3599, 3600, 0}, {3600, 60, 3600}, {3600, 3600, 3600}, {7199, 3600, 3600}, {7200, 3600, 7200},
		{lastFloor - 1, 3600, lastFloor - 3600}, {lastFloor, 3600, lastFloor}, {lastTime, 3600, lastFloor}, {lastTime, 60, 1048560}, {lastTime, 1, lastTime},
	} {
		for _, name := range []string{"cpu", "mem"} {
			b := New()
			for _, s := range []string{"cpu", "mem"} { // the keys of a second series are no multiples of a size where its times are
				var e api.Errno
				if b, e = Add(b, api.Point{Series: s, Time: c.time, Value: 5}); e != api.OK {
					t.Fatalf("Add at %d: %d", c.time, e)
				}
			}
			l, e := Rows(b, name, c.size, 0, lastTime)
			if e != api.OK || len(l) != 1 || l[0] != (api.Row{Time: c.begin, Is: alike(1, 5, c.time)}) {
				t.Errorf("%s: %d is in %v, %d, want one of %d that begins at %d", name, c.time, l, e, c.size, c.begin)
			}
		}
	}
}
