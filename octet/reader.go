package octet

import "billet/api"

// Reader reads numbers and texts, one behind the other. Its first error stays, so that many reads can be asked about at once.
type Reader struct {
	rest string
	err  api.Errno
}

// New is a reader of s.
func New(s string) *Reader { return &Reader{rest: s} }

// Int reads a chain of at most most.
func (r *Reader) Int(most int) int {
	v, n, e := r.chain()
	if e == api.OK && above(v, most) {
		e = api.ErrLong
	}
	if !r.take(n, e) {
		return 0
	}
	return int(v)
}

// Num reads a chain.
func (r *Reader) Num() uint64 {
	v, n, e := r.chain()
	if !r.take(n, e) {
		return 0
	}
	return v
}

// Str reads a text of at most most bytes.
func (r *Reader) Str(most int) string {
	if r.Err() != api.OK {
		return ""
	}
	s, n, e := Untext(r.rest, most)
	if !r.take(n, e) {
		return ""
	}
	return s
}

// Flag reads a chain of 0 or 1.
func (r *Reader) Flag() bool {
	v, n, e := r.chain()
	if e == api.OK && v > 1 {
		e = api.ErrForm
	}
	return r.take(n, e) && v == 1
}

// Err tells the first error of a read.
func (r *Reader) Err() api.Errno {
	if r == nil {
		return api.ErrArg
	}
	return r.err
}

// Rest tells what was not taken yet.
func (r *Reader) Rest() string {
	if r == nil {
		return ""
	}
	return r.rest
}

// End tells whether all was read, without an error. It is no read: what it tells does not stay.
func (r *Reader) End() api.Errno {
	if e := r.Err(); e != api.OK {
		return e
	}
	if r.rest != "" {
		return api.ErrForm
	}
	return api.OK
}

// chain tells the chain that comes next, and takes nothing.
func (r *Reader) chain() (uint64, int, api.Errno) {
	if e := r.Err(); e != api.OK {
		return 0, 0, e
	}
	return Unchain(r.rest)
}

// take goes on by n bytes, or keeps the error.
func (r *Reader) take(n int, e api.Errno) bool {
	if r == nil {
		return false
	}
	r.err = e
	if e != api.OK {
		return false
	}
	r.rest = r.rest[n:]
	return true
}
