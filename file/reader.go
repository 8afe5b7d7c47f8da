package file

import (
	"winnower/api"
	"winnower/bucket"
)

// reader of bytes. What is wrong first is kept; from then on nothing is left, and all that is read is 0.
type reader struct {
	rest []byte
	code api.Errno
}

func (r *reader) refuse(e api.Errno) {
	if r.code == api.OK {
		r.code = e
	}
	r.rest = nil
}

func (r *reader) take(size int) []byte {
	if len(r.rest) < size {
		r.refuse(api.ErrShort)
		return nil
	}
	b := r.rest[:size]
	r.rest = r.rest[size:]
	return b
}

func (r *reader) next() int {
	b := r.take(1)
	if len(b) == 0 {
		return 0
	}
	return int(b[0])
}

// number that is not below 0. It does not leave 64 bits: maxDigits digits have 56.
func (r *reader) number() int {
	n, unit := 0, 1
	for i := range maxDigits {
		c := r.next()
		if c == 0 && i > 0 {
			r.refuse(api.ErrForm)
			return 0
		}
		if c < radix {
			return n + c*unit
		}
		n += (c - radix) * unit
		unit *= radix
	}
	// One more must follow: if there is none, the bytes end too early.
	r.next()
	r.refuse(api.ErrForm)
	return 0
}

// signed number: of any kind.
func (r *reader) signed() int { return unfold(r.number()) }

// count of what follows.
func (r *reader) count(most int) int {
	n := r.number()
	if n > most {
		r.refuse(api.ErrSize)
		return 0
	}
	return n
}

func (r *reader) names() []string {
	var l []string
	for range r.count(api.MaxSeries) {
		l = append(l, string(r.take(r.count(api.MaxName))))
	}
	return l
}

func (r *reader) points() []api.Entry {
	var l []api.Entry
	ahead := 0
	for i := range r.count(maxTimes) {
		x := r.point(ahead)
		if x.Key >= endOfKeys || i > 0 && x.Key == ahead || x.Is.Count == 0 {
			r.refuse(api.ErrState)
		}
		if r.code != api.OK {
			return nil
		}
		l = append(l, x)
		ahead = x.Key
	}
	return l
}

// point reads all its numbers, whatever they are: one that ends too early, or is not in form, is told ahead of a key that may not be.
func (r *reader) point(ahead int) api.Entry {
	x := api.Entry{Key: ahead + r.number()}
	x.Is.Count = r.number()
	x.Is.Sum = r.signed()
	x.Is.Min = r.signed()
	x.Is.Max = r.signed()
	x.Is.Time = bucket.Time(x.Key)
	x.Is.Last = r.signed()
	return x
}

func (r *reader) end() {
	if len(r.rest) > 0 {
		r.refuse(api.ErrForm)
	}
}
