package file

import (
	"bytes"
	"fmt"
	"slices"
	"testing"

	"winnower/api"
	"winnower/base"
)

// refused: does Decode answer that, and nothing else?
func refused(t *testing.T, what string, b []byte, want api.Errno) {
	t.Helper()
	if x, e := Decode(b); e != want || !zeroBase(x) {
		t.Errorf("%s: %v is told as %v, %d, want %d", what, b[:min(len(b), 60)], x, e, want)
	}
}

// decoded holds what comes of a sheet's bytes against the sheet, and what Encode tells of it against the bytes. The bytes, their spare room too, must stay as they were; afterwards they are spoilt, which the base must not feel.
func decoded(t *testing.T, what string, s sheet) {
	t.Helper()
	want := s.bytes()
	b := append(slices.Clone(want), "spare room"...)
	before := slices.Clone(b)
	b = b[:len(want)]
	x, e := Decode(b)
	if e != api.OK {
		t.Fatalf("%s: %d", what, e)
	}
	y, _ := Decode(b)
	if !bytes.Equal(b[:len(before)], before) {
		t.Fatalf("%s: what was handed in was changed", what)
	}
	for i := range before {
		b[:len(before)][i] = 'A'
	}
	s.tells(t, what, x)
	encoded(t, what, x, want)
	apart(t, what, x, y)
}

func TestDecodeSamples(t *testing.T) {
	for name, s := range samples() {
		decoded(t, name, s)
	}
}

func TestDecodeDrawn(t *testing.T) {
	d := die(42)
	for range 150 {
		decoded(t, "drawn", drawnSheet(&d, d.n(200)))
	}
}

// TestDecodeGoesOn: what comes of bytes takes points, tells rows, and expires.
func TestDecodeGoesOn(t *testing.T) {
	s := sheet{names: []string{"cpu"}, points: []api.Entry{at(0, 10, 1, 3), at(0, 65, 1, 5)}}
	x, e := Decode(s.bytes())
	if e != api.OK {
		t.Fatalf("Decode: %d", e)
	}
	total, e := base.Total(x, "cpu", 0, 100)
	if want := (api.Rollup{Count: 2, Sum: 8, Min: 3, Max: 5, Time: 65, Last: 5}); e != api.OK || total != want {
		t.Errorf("the total is %v, %d, want %v", total, e, want)
	}
	x = addAll(t, x, api.Point{Series: "cpu", Time: 7300, Value: 9}, api.Point{Series: "m", Time: 1})
	s.names = append(s.names, "m")
	s.points = append(s.points, at(0, 7300, 1, 9), at(1, 1, 1, 0))
	s.tells(t, "with two points more", x)
	x, e = base.Expire(x, 7200)
	if e != api.OK {
		t.Fatalf("Expire: %d", e)
	}
	s.floor, s.points = 7200, s.points[2:3]
	s.tells(t, "expired", x)
}

func TestDecodeAtMost(t *testing.T) {
	decoded(t, "2900 times", many(2900))
	decoded(t, "MaxBytes bytes", longSheet(t, mostBytes))
	refused(t, "10001 times", many(mostTimes+1).bytes(), api.ErrSize)
	// More than 2900 may be refused.
	s := many(mostTimes)
	if x, e := Decode(s.bytes()); e != api.OK {
		refused(t, "10000 times", s.bytes(), api.ErrSize)
	} else {
		s.tells(t, "10000 times", x)
	}
}

// TestDecodeFirstLooks: what is asked ahead of reading, in its order.
func TestDecodeFirstLooks(t *testing.T) {
	empty := sheet{}.bytes()
	for name, c := range map[string]struct {
		b    []byte
		want api.Errno
	}{
		"more than MaxBytes":                  {longSheet(t, mostBytes+1).bytes(), api.ErrSize},
		"more than MaxBytes, of another mark": {make([]byte, mostBytes+1), api.ErrSize},
		"MaxBytes, of another mark":           {make([]byte, mostBytes), api.ErrForm},
		"nothing":                             {nil, api.ErrShort},
		"a seal alone":                        {sealed(nil), api.ErrShort},
		"five":                                {[]byte("wn\x00\x00\x00"), api.ErrShort},
		"five of another mark":                {[]byte("xxxxx"), api.ErrShort},
		"six of another mark":                 {[]byte("xxxxxx"), api.ErrForm},
		"the mark turned round":               {sealed([]byte("nw\x00\x00\x00")), api.ErrForm},
		"great letters":                       {sealed([]byte("WN\x00\x00\x00")), api.ErrForm},
		"the first letter alone":              {sealed([]byte("wx\x00\x00\x00")), api.ErrForm},
		"the second letter alone":             {sealed([]byte("xn\x00\x00\x00")), api.ErrForm},
		"six with another seal":               {[]byte("wn\x00\x00\x00\x00"), api.ErrSum},
		"six":                                 {sealed([]byte("wn")), api.ErrShort},
		"a byte behind the seal":              {append(slices.Clone(empty), 0), api.ErrSum},
		"a seal of another order":             {[]byte{'w', 'n', 0, 0, 0, 0, 230, 4, 16}, api.ErrSum},
		"a seal with its lower bytes first":   {[]byte{'w', 'n', 0, 0, 0, 16, 4, 230, 0}, api.ErrSum},
	} {
		refused(t, name, c.b, c.want)
	}
}

// TestDecodeReadsOn: what is wrong first in the bytes is told, and of one number that it ends too early ahead of its form.
func TestDecodeReadsOn(t *testing.T) {
	point := []byte{7, 1, 4, 4, 4, 4}
	far := []byte{255, 255, 255, 255, 255, 31} // 2^40 - 1
	beyond := []byte{128, 128, 128, 128, 128, 32}
	for name, c := range map[string]struct {
		b    [][]byte
		want api.Errno
	}{
		"17 names":                              {[][]byte{{17}}, api.ErrSize},
		"17 names that are there":               {[][]byte{{17}, bytes.Repeat([]byte{1, 'a'}, 17), {0, 0}}, api.ErrSize},
		"many names":                            {[][]byte{{255, 255, 255, 255, 255, 255, 255, 127}}, api.ErrSize},
		"16 names, none there":                  {[][]byte{{16}}, api.ErrShort},
		"a number of names in two bytes":        {[][]byte{{129, 0, 1, 'a', 0, 0}}, api.ErrForm},
		"a name of 11":                          {[][]byte{{1, 11}}, api.ErrSize},
		"a name of 11 that is there":            {[][]byte{{1, 11}, []byte("abcdefghijk"), {0, 0}}, api.ErrSize},
		"a name of 10, nine there":              {[][]byte{{1, 10}, []byte("abcdefghi")}, api.ErrShort},
		"a name of 11 behind one of 10":         {[][]byte{{2, 10}, []byte("abcdefghij"), {11}}, api.ErrSize},
		"a length in two bytes":                 {[][]byte{{1, 129, 0, 'a', 0, 0}}, api.ErrForm},
		"no Floor":                              {[][]byte{{1, 1, 'a'}}, api.ErrShort},
		"no number of times":                    {[][]byte{{1, 1, 'a', 0}}, api.ErrShort},
		"a number of times in two bytes":        {[][]byte{{1, 1, 'a', 0, 128, 0}}, api.ErrForm},
		"10001 times":                           {[][]byte{{1, 1, 'a', 0, 145, 78}}, api.ErrSize},
		"10000 times, none there":               {[][]byte{{1, 1, 'a', 0, 144, 78}}, api.ErrShort},
		"two times, one there":                  {[][]byte{{1, 1, 'a', 0, 2}, point}, api.ErrShort},
		"one time, two there":                   {[][]byte{{1, 1, 'a', 0, 1}, point, point}, api.ErrForm},
		"a byte is left":                        {[][]byte{{1, 1, 'a', 0, 0, 0}}, api.ErrForm},
		"a key of 2^40":                         {[][]byte{{1, 1, 'a', 0, 1}, beyond, point[1:]}, api.ErrState},
		"a key of 2^40, and bytes left":         {[][]byte{{1, 1, 'a', 0, 1}, beyond, point}, api.ErrState},
		"2^40 behind another one":               {[][]byte{{1, 1, 'a', 0, 2}, point, beyond, point[1:]}, api.ErrState},
		"both together 2^40":                    {[][]byte{{1, 1, 'a', 0, 2, 1}, point[1:], far, point[1:], {0}}, api.ErrState},
		"a great key":                           {[][]byte{{1, 1, 'a', 0, 1, 255, 255, 255, 255, 255, 255, 255, 127}, point[1:], {0}}, api.ErrState},
		"a key in a series that there is not":   {[][]byte{{1, 1, 'a', 0, 1}, far, point[1:]}, api.ErrState},
		"such a key, and a byte left":           {[][]byte{{1, 1, 'a', 0, 1}, far, point}, api.ErrForm},
		"a key twice":                           {[][]byte{{1, 1, 'a', 0, 2}, point, {0}, point[1:]}, api.ErrState},
		"a key twice, and a byte left":          {[][]byte{{1, 1, 'a', 0, 2}, point, {0}, point[1:], {0}}, api.ErrState},
		"the key 0 twice":                       {[][]byte{{1, 1, 'a', 0, 2, 0}, point[1:], {0}, point[1:], {0}}, api.ErrState},
		"a Count of 0":                          {[][]byte{{1, 1, 'a', 0, 1, 7, 0, 0, 0, 0, 0}}, api.ErrState},
		"a Count of 0, and a byte left":         {[][]byte{{1, 1, 'a', 0, 1, 7, 0, 0, 0, 0, 0, 0}}, api.ErrState},
		"a Count of 0 in two bytes":             {[][]byte{{1, 1, 'a', 0, 1, 7, 128, 0, 0, 0, 0, 0}}, api.ErrForm},
		"a Count of 0, no Last":                 {[][]byte{{1, 1, 'a', 0, 1, 7, 0, 0, 0, 0}}, api.ErrShort},
		"a Count of 0, a Last in two bytes":     {[][]byte{{1, 1, 'a', 0, 1, 7, 0, 0, 0, 0, 128, 0}}, api.ErrForm},
		"a key of 2^40, no Last":                {[][]byte{{1, 1, 'a', 0, 1}, beyond, point[1:5]}, api.ErrShort},
		"a key of 2^40, a Max in two bytes":     {[][]byte{{1, 1, 'a', 0, 1}, beyond, point[1:4], {128, 0, 0}}, api.ErrForm},
		"a Count of 0 ahead of an end":          {[][]byte{{1, 1, 'a', 0, 2, 7, 0, 0, 0, 0, 0}}, api.ErrState},
		"a Count of 0 ahead of a key not so":    {[][]byte{{1, 1, 'a', 0, 2, 7, 0, 0, 0, 0, 0, 128, 0}}, api.ErrState},
		"a length not so ahead of an end":       {[][]byte{{2, 129, 0, 'a'}}, api.ErrForm},
		"a Sum not so, and no Min":              {[][]byte{{1, 1, 'a', 0, 1, 7, 1, 128, 0}}, api.ErrForm},
		"no such name, and a byte left":         {[][]byte{{1, 1, 'A', 0, 0, 0}}, api.ErrForm},
		"no such name, and no Floor":            {[][]byte{{1, 1, 'A'}}, api.ErrShort},
		"no such Floor, and a Count of 0":       {[][]byte{{1, 1, 'a', 1, 1, 7, 0, 0, 0, 0, 0, 0}}, api.ErrState},
		"no such rollup, and a byte left":       {[][]byte{{1, 1, 'a', 0, 1, 7, 1, 4, 4, 4, 6, 0}}, api.ErrForm},
		"no such rollup, then one not in form":  {[][]byte{{1, 1, 'a', 0, 2, 7, 1, 4, 4, 4, 6, 128, 0}}, api.ErrForm},
		"ten thousand and one, in three bytes":  {[][]byte{{1, 1, 'a', 0, 145, 206, 0}}, api.ErrForm},
		"seventeen names, in two bytes":         {[][]byte{{145, 0}}, api.ErrForm},
		"a name of eleven, in two bytes":        {[][]byte{{1, 139, 0}}, api.ErrForm},
		"a Floor in nine bytes":                 {[][]byte{{0, 128, 128, 128, 128, 128, 128, 128, 128, 1, 0}}, api.ErrForm},
		"a Floor in eight bytes that is no one": {[][]byte{{0, 255, 255, 255, 255, 255, 255, 255, 127, 0}}, api.ErrState},
	} {
		refused(t, name, sealed(append([]byte("wn"), bytes.Join(c.b, nil)...)), c.want)
	}
}

// TestDecodeThereIsNoSuchBase: bytes in form, of which no base that may be comes.
func TestDecodeThereIsNoSuchBase(t *testing.T) {
	lone := func(r api.Rollup) sheet { return sheet{names: letters(1), points: []api.Entry{{Key: 5, Is: r}}} }
	pair := func(a, b int) []api.Entry { return []api.Entry{at(0, a, api.MaxCount, 1), at(0, b, 1, 1)} }
	for name, s := range map[string]sheet{
		"a name that is none":              {names: []string{"a", "b-c"}},
		"an empty name":                    {names: []string{""}},
		"a name twice":                     {names: []string{"a", "b", "a"}},
		"a Floor that is no multiple":      {floor: 60},
		"a Floor above all times":          {floor: lastFloor + 3600},
		"the greatest Floor of all":        {floor: 1<<56 - 1},
		"no name for a point":              {points: []api.Entry{at(0, 5, 1, 1)}},
		"too few names":                    {names: letters(2), points: []api.Entry{at(0, 5, 1, 1), at(2, 5, 1, 1)}},
		"the greatest key of all":          {names: letters(16), points: []api.Entry{{Key: 1<<40 - 1, Is: api.Rollup{Count: 1, Time: lastTime}}}},
		"the series behind the last one":   {names: letters(16), points: []api.Entry{at(16, 0, 1, 1)}},
		"a time below the Floor":           {names: letters(1), floor: 3600, points: []api.Entry{at(0, 3599, 1, 1)}},
		"below the Floor, in another":      {names: letters(2), floor: 3600, points: []api.Entry{at(0, 3600, 1, 1), at(1, 0, 1, 1)}},
		"a great Count":                    {names: letters(1), points: []api.Entry{at(0, 5, api.MaxCount+1, 0)}},
		"the greatest Count of all":        {names: letters(1), points: []api.Entry{at(0, 5, 1<<56-1, 0)}},
		"a great value":                    {names: letters(1), points: []api.Entry{at(0, 5, 1, api.MaxValue+1)}},
		"a small value":                    {names: letters(1), points: []api.Entry{at(0, 5, 1, -api.MaxValue-1)}},
		"a Sum above":                      lone(api.Rollup{Count: 2, Sum: 9, Min: 1, Max: 4, Last: 2}),
		"a Sum below":                      lone(api.Rollup{Count: 2, Sum: 1, Min: 1, Max: 4, Last: 2}),
		"the greatest Sum of all":          lone(api.Rollup{Count: 2, Sum: 1<<55 - 1, Min: 1, Max: 4, Last: 2}),
		"the least Sum of all":             lone(api.Rollup{Count: 2, Sum: -1 << 55, Min: 1, Max: 4, Last: 2}),
		"a Min above the Max":              lone(api.Rollup{Count: 1, Sum: 3, Min: 4, Max: 3, Last: 3}),
		"a Last below":                     lone(api.Rollup{Count: 2, Sum: 5, Min: 1, Max: 4, Last: 0}),
		"a Last above":                     lone(api.Rollup{Count: 2, Sum: 5, Min: 1, Max: 4, Last: 5}),
		"too many in a bucket of 60":       {names: letters(1), points: pair(0, 59)},
		"too many in a bucket of 3600":     {names: letters(1), points: pair(59, 3599)},
		"too many in the last one of 3600": {names: letters(1), points: pair(lastFloor, lastTime)},
	} {
		refused(t, name, s.bytes(), api.ErrState)
	}
}

// spoilt sheets of so many times, so that there is no such base: by its names, its Floor, or a point at a place.
func spoilt(times, place int) map[string]sheet {
	with := func(names []string, floor int, change func(x *api.Entry)) sheet {
		s := many(times)
		s.names, s.floor = names, floor
		if change != nil {
			change(&s.points[place])
		}
		return s
	}
	return map[string]sheet{
		"a name that is none":         with([]string{"a-b"}, 0, nil),
		"an empty name":               with([]string{""}, 0, nil),
		"a name twice":                with([]string{"a", "a"}, 0, nil),
		"no names":                    with(nil, 0, nil),
		"a Floor that is no multiple": with(letters(1), 1, nil),
		"a Floor above all times":     with(letters(1), lastFloor+3600, nil),
		"times below the Floor":       with(letters(1), 3600, nil),
		"a Count above MaxCount":      with(letters(1), 0, func(x *api.Entry) { x.Is.Count = api.MaxCount + 1 }),
		"a Sum above":                 with(letters(1), 0, func(x *api.Entry) { x.Is.Sum = x.Is.Max + 1 }),
		"a Min above the Max":         with(letters(1), 0, func(x *api.Entry) { x.Is.Min = x.Is.Max + 1 }),
		"a Last below":                with(letters(1), 0, func(x *api.Entry) { x.Is.Last = x.Is.Min - 1 }),
		"too many in a bucket":        with(letters(1), 0, func(x *api.Entry) { *x = at(0, x.Key, api.MaxCount, 1) }),
	}
}

// TestDecodeThereIsNoSuchBaseOfManyTimes: that is told, however many times there are, and wherever among them the wrong one stands.
func TestDecodeThereIsNoSuchBaseOfManyTimes(t *testing.T) {
	for _, times := range []int{2, 2900, 2901, 8990, mostTimes} {
		for _, place := range []int{0, times / 2, times - 1} {
			for name, s := range spoilt(times, place) {
				refused(t, fmt.Sprintf("%s, %d times, at %d", name, times, place), s.bytes(), api.ErrState)
			}
		}
		s := many(times - 1)
		s.points = append(s.points, at(1, 0, 1, 1))
		refused(t, fmt.Sprintf("no series has the last one of %d times", times), s.bytes(), api.ErrState)
		s = sheet{names: letters(2), floor: 3600}
		for i := range times - 1 {
			s.points = append(s.points, at(0, 3600+i, 1, 1))
		}
		s.points = append(s.points, at(1, 3599, 1, 1))
		refused(t, fmt.Sprintf("the last one of %d times is below the Floor", times), s.bytes(), api.ErrState)
	}
}

// TestDecodeBucketsOf3600OfManyTimes: those that can't come together stand far apart, in no bucket of 60 together.
func TestDecodeBucketsOf3600OfManyTimes(t *testing.T) {
	s := sheet{names: letters(16)}
	for i := range mostTimes - 1 {
		s.points = append(s.points, at(i/1000, i%1000*60, 1, 1))
	}
	last := s.points[len(s.points)-1].Is.Time
	s.points = append(s.points, at(9, last+60, api.MaxCount, 1))
	refused(t, "too many in a bucket of 3600, of 10000 times", s.bytes(), api.ErrState)
}

// TestDecodeCutShort: at each place, with the seal as it was, or with one of what is there.
func TestDecodeCutShort(t *testing.T) {
	for name, s := range samples() {
		body := s.body()
		for n := range body[:min(len(body), 400)] {
			if n < 2 {
				refused(t, name, sealed(body)[:n], api.ErrShort)
				continue
			}
			refused(t, name, sealed(body[:n]), api.ErrShort)
			refused(t, name, append(body[:n:n], seal(body)...), api.ErrSum)
		}
		refused(t, name, sealed(append(body, 0)), api.ErrForm)
	}
}

// TestDecodeSpoilt: each byte by each amount. The seal is not that of the others any more.
func TestDecodeSpoilt(t *testing.T) {
	s := sheet{names: []string{"cpu", "m"}, floor: 3600, points: []api.Entry{at(0, 3700, 2, -80), at(1, 9000, 1, 1000)}}
	for i := range s.bytes() {
		for more := 1; more < 256; more++ {
			b := s.bytes()
			b[i] += byte(more)
			want := api.ErrSum
			if i < 2 {
				want = api.ErrForm
			}
			refused(t, "spoilt", b, want)
		}
	}
}

// either refused, or of what comes Encode tells the same bytes.
func either(t *testing.T, b []byte) api.Errno {
	t.Helper()
	x, e := Decode(b)
	if e != api.OK {
		if !zeroBase(x) {
			t.Errorf("%v is refused by %d, with %v", b, e, x)
		}
		return e
	}
	if e := base.Check(x); e != api.OK {
		t.Errorf("%v is told as a base that may not be", b)
	}
	encoded(t, "what was decoded", x, b)
	return api.OK
}

// TestDecodeSpoiltAndSealed: the seal is right again, so that only what is told may be wrong.
func TestDecodeSpoiltAndSealed(t *testing.T) {
	d := die(7)
	codes := map[api.Errno]int{}
	for range 4000 {
		body := drawnSheet(&d, 1+d.n(8)).body()
		for range 1 + d.n(2) {
			i := 2 + d.n(len(body)-2)
			switch d.n(3) {
			case 0:
				body[i] = byte(d.n(256))
			case 1:
				body = slices.Insert(body, i, byte(d.n(256)))
			default:
				body = slices.Delete(body, i, min(i+1+d.n(2), len(body)))
			}
			body = append(body, 0, 0)[:max(len(body), 3)]
		}
		codes[either(t, sealed(body))]++
	}
	for _, e := range []api.Errno{api.OK, api.ErrSize, api.ErrShort, api.ErrForm, api.ErrState} {
		if codes[e] == 0 {
			t.Errorf("%d was never answered: %v", e, codes)
		}
	}
	if len(codes) != 5 {
		t.Errorf("an error that is none of these: %v", codes)
	}
}

// TestDecodeDrawnBytes: few of them stand for much.
func TestDecodeDrawnBytes(t *testing.T) {
	d := die(8)
	for range 20000 {
		body := []byte("wn")
		for range d.n(30) {
			body = append(body, []byte{0, 1, 2, 'a', 128, byte(d.n(256))}[d.n(6)])
		}
		either(t, sealed(body))
	}
}
