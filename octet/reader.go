package octet

import (
	"strings"

	"billet/api"
)

// Reader reads numbers and strings one after another, until a read fails.
type Reader struct {
	rest string
	err  api.Errno
}

// New returns a Reader of s.
func New(s string) *Reader {
	return &Reader{rest: s}
}

// Int reads a varint that is at most most.
func (r *Reader) Int(most int) int {
	return read(r, func(s string) (int, int, api.Errno) {
		v, n, err := Unchain(s)
		if err == api.OK && above(v, most) {
			err = api.ErrLong
		}
		return int(v), n, err
	})
}

// Num reads a varint.
func (r *Reader) Num() uint64 {
	return read(r, Unchain)
}

// Str reads an encoded string of at most most bytes.
func (r *Reader) Str(most int) string {
	return read(r, func(s string) (string, int, api.Errno) {
		return Untext(s, most)
	})
}

// Flag reads a varint that is 0 or 1.
func (r *Reader) Flag() bool {
	return read(r, func(s string) (bool, int, api.Errno) {
		v, n, err := Unchain(s)
		if err == api.OK && v > 1 {
			err = api.ErrForm
		}
		return v == 1, n, err
	})
}

// read consumes what decode takes from the front of the rest. Once a read has
// failed it consumes nothing, so that callers need to ask for the error only
// once, at the end.
func read[T any](r *Reader, decode func(string) (T, int, api.Errno)) T {
	var none T
	if r == nil || r.err != api.OK {
		return none
	}
	v, n, err := decode(r.rest)
	if err != api.OK {
		r.err = err
		return none
	}
	r.rest = r.rest[n:]
	return v
}

// Err returns the error of the first read that failed.
func (r *Reader) Err() api.Errno {
	if r == nil {
		return api.ErrArg
	}
	return r.err
}

// Rest returns what has not been consumed.
func (r *Reader) Rest() string {
	if r == nil {
		return ""
	}
	return strings.Clone(r.rest)
}

// End returns the reader's error, or ErrForm if something is left.
func (r *Reader) End() api.Errno {
	if r.Err() == api.OK && r.rest != "" {
		return api.ErrForm
	}
	return r.Err()
}
