package pack

import (
	"hanse/amount"
	"hanse/api"
)

// Reader keeps the bytes that are still to be read: none behind an error.
type Reader struct {
	rest string
	e    api.Errno
}

// NewReader answers a reader of b.
func NewReader(b []byte) *Reader {
	return &Reader{rest: string(b)}
}

// Uint reads a number.
func (r *Reader) Uint() uint64 {
	v, n := number(r.rest)
	if n == 0 {
		r.fail(api.ErrPack)
		return 0
	}
	r.rest = r.rest[n:]
	return v
}

// Int reads a whole number.
func (r *Reader) Int() int {
	return unfolded(r.Uint())
}

// Mark reads a mark.
func (r *Reader) Mark() bool {
	v := r.Uint()
	if v > 1 {
		r.fail(api.ErrPack)
		return false
	}
	return v == 1
}

// Text reads a text.
func (r *Reader) Text() []byte {
	n := r.Uint()
	if n > api.MaxPayload {
		r.fail(api.ErrLong)
	} else if n > uint64(len(r.rest)) {
		r.fail(api.ErrPack)
	}
	if r.e != api.OK {
		return nil
	}
	text := []byte(r.rest[:n])
	r.rest = r.rest[n:]
	return text
}

// Amount reads an amount.
func (r *Reader) Amount() complex128 {
	nodes, lics := r.Uint(), r.Uint()
	if r.e != api.OK {
		return 0
	}
	// A number above the greatest int turns into one below 0, which makes no amount either.
	x, e := amount.Make(int(nodes), int(lics))
	if e != api.OK {
		r.fail(e)
	}
	return x
}

// Done answers the error that came first; ErrPack, if there is none, and bytes are left.
func (r *Reader) Done() api.Errno {
	if r.e == api.OK && r.rest != "" {
		return api.ErrPack
	}
	return r.e
}

// fail keeps the first error, and no bytes: whatever is asked for then can't be read.
func (r *Reader) fail(e api.Errno) {
	if r.e == api.OK {
		*r = Reader{e: e}
	}
}

// number answers the number that s begins with, and of how many bytes it is: 0, if there is none.
func number(s string) (v uint64, n int) {
	for i := range len(s) {
		b := s[i]
		if i == mostBytes-1 && b > lastMost {
			return 0, 0
		}
		v |= uint64(b%more) << (i * groupBits)
		if b < more {
			// An empty last group could have been left away.
			if b == 0 && i > 0 {
				return 0, 0
			}
			return v, i + 1
		}
	}
	return 0, 0
}
