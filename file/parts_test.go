package file

import (
	"bytes"
	"encoding/binary"
	"hash/adler32"
	"slices"
	"testing"

	"winnower/api"
)

// edgeNumbers: those next to where a byte more is needed, from 0 to what eight bytes hold.
func edgeNumbers() []int {
	l := []int{0, 1, 2, 63, 64, 65, 1000000, api.MaxSum}
	for bits := 7; bits < 56; bits += 7 {
		l = append(l, 1<<bits-1, 1<<bits, 1<<bits+1)
	}
	return append(l, 1<<56-1)
}

func TestNumbersByHand(t *testing.T) {
	for n, want := range map[int][]byte{
		0:         {0},
		1:         {1},
		127:       {127},
		128:       {128, 1},
		300:       {172, 2},
		16383:     {255, 127},
		16384:     {128, 128, 1},
		1<<56 - 1: {255, 255, 255, 255, 255, 255, 255, 127},
	} {
		if got := appendNumber([]byte{9}, n); !bytes.Equal(got, append([]byte{9}, want...)) {
			t.Errorf("%d behind 9 is %v, want %v", n, got, want)
		}
	}
	for n, want := range map[int]int{0: 0, -1: 1, 1: 2, -2: 3, 2: 4, -64: 127, 64: 128} {
		if got := fold(n); got != want {
			t.Errorf("%d is folded to %d, want %d", n, got, want)
		}
	}
}

// TestNumbers holds them against the library's, and reads them again.
func TestNumbers(t *testing.T) {
	for _, n := range edgeNumbers() {
		b := appendNumber(nil, n)
		if want := binary.AppendUvarint(nil, uint64(n)); !bytes.Equal(b, want) {
			t.Errorf("%d is %v, want %v", n, b, want)
		}
		r := reader{rest: append(b, 77)}
		if got := r.number(); got != n || r.code != api.OK || !bytes.Equal(r.rest, []byte{77}) {
			t.Errorf("%v is read as %d, %d, and %v is left, want %d", b, got, r.code, r.rest, n)
		}
		for _, n := range []int{n / 2, -n / 2, -(n + 1) / 2} {
			b := appendNumber(nil, fold(n))
			if want := binary.AppendVarint(nil, int64(n)); !bytes.Equal(b, want) {
				t.Errorf("%d of any kind is %v, want %v", n, b, want)
			}
			r := reader{rest: b}
			if got := r.signed(); got != n || r.code != api.OK || len(r.rest) != 0 {
				t.Errorf("%v is read as %d of any kind, %d, want %d", b, got, r.code, n)
			}
		}
	}
}

func TestNumbersThatAreRefused(t *testing.T) {
	high := bytes.Repeat([]byte{128}, 20)
	for _, c := range []struct {
		b    []byte
		want api.Errno
	}{
		{nil, api.ErrShort},
		{high[:1], api.ErrShort},
		{[]byte{255, 255, 255}, api.ErrShort},
		{high[:7], api.ErrShort},
		{high[:8], api.ErrShort},
		{[]byte{128, 0}, api.ErrForm},
		{[]byte{129, 0}, api.ErrForm},
		{[]byte{255, 0, 1}, api.ErrForm},
		{[]byte{128, 128, 0}, api.ErrForm},
		{append(high[:7:7], 0), api.ErrForm},
		{append(high[:8:8], 0), api.ErrForm},
		{append(high[:8:8], 1), api.ErrForm},
		{append(high[:9:9], 1), api.ErrForm},
		{append(high[:19:19], 1), api.ErrForm},
	} {
		r := reader{rest: c.b}
		if n := r.number(); n != 0 || r.code != c.want {
			t.Errorf("%v is read as %d, %d, want %d", c.b, n, r.code, c.want)
		}
		// The same in a file, where the Floor stands: a number that ends too early is the last one there.
		body := append([]byte{'w', 'n', 0}, c.b...)
		if c.want != api.ErrShort {
			body = append(body, 0)
		}
		refused(t, "as the Floor", sealed(body), c.want)
	}
}

func TestReaderKeepsWhatIsWrongFirst(t *testing.T) {
	r := reader{rest: []byte{128, 0, 5, 6}}
	r.number()
	if n := r.number(); n != 0 || r.code != api.ErrForm {
		t.Errorf("behind a number that is not in form: %d, %d", n, r.code)
	}
	r.end()
	if b := r.take(1); len(b) != 0 || r.code != api.ErrForm {
		t.Errorf("behind a number that is not in form: %v, %d", b, r.code)
	}
}

func TestSealByHand(t *testing.T) {
	for s, want := range map[string][]byte{
		"":               {0, 0, 0, 1},
		"a":              {0, 98, 0, 98},
		"wn\x00\x00\x00": {4, 16, 0, 230},
		"Wikipedia":      {0x11, 0xe6, 0x03, 0x98},
	} {
		if got := seal([]byte(s)); !bytes.Equal(got, want) {
			t.Errorf("the seal of %q is %v, want %v", s, got, want)
		}
	}
}

// TestSeal holds it against the library's, for long ones too, in which the sums pass 65521 many times.
func TestSeal(t *testing.T) {
	d := die(2)
	l := [][]byte{bytes.Repeat([]byte{255}, 257), bytes.Repeat([]byte{255}, mostBytes), bytes.Repeat([]byte{0}, 70000)}
	for range 200 {
		b := make([]byte, d.n(2000))
		for i := range b {
			b[i] = byte(d.n(256))
		}
		l = append(l, b)
	}
	for _, b := range l {
		before := slices.Clone(b)
		want := binary.BigEndian.AppendUint32(nil, adler32.Checksum(b))
		if got := seal(b); !bytes.Equal(got, want) {
			t.Errorf("the seal of %d bytes is %v, want %v", len(b), got, want)
		}
		if !bytes.Equal(b, before) {
			t.Errorf("%d bytes were changed", len(b))
		}
	}
}
