// Package wire is layer 1: canonical binary encoding of integers, strings and booleans. It is specified in shared/doc/01-wire.md.
package wire

import "workflow/api"

const (
	groupBits = 7
	// more marks a byte that is followed by another group of the same integer.
	more = 1 << groupBits
	// mostBytes is the length of the longest encoding: 64 bits in groups of seven.
	mostBytes = 10
	// lastByteMost is the greatest tenth byte: nine groups hold 63 bits, so one bit is left.
	lastByteMost = 1
)

// Reader reads encoded values from bytes and keeps its first error.
type Reader struct {
	left   []byte
	err    api.Errno
	opened bool // only Open sets it, so that a Reader made in another way is recognized
}

// PutInt appends the encoding of an integer.
func PutInt(b []byte, n int) []byte {
	return appendInt(copyWithRoom(b, mostBytes), n)
}

// PutText appends the encoding of a string.
func PutText(b []byte, s string) []byte {
	return append(appendInt(copyWithRoom(b, mostBytes+len(s)), len(s)), s...)
}

// PutBool appends the encoding of a boolean.
func PutBool(b []byte, yes bool) []byte {
	var code byte
	if yes {
		code = 1
	}
	return append(copyWithRoom(b, 1), code)
}

// copyWithRoom copies b, because a plain append could write behind b into memory of the caller.
func copyWithRoom(b []byte, room int) []byte {
	return append(make([]byte, 0, len(b)+room), b...)
}

// appendInt appends the encoding of an integer to a slice that this package has made itself.
func appendInt(b []byte, n int) []byte {
	u := fold(n)
	for u >= more {
		b = append(b, byte(u%more)+more)
		u >>= groupBits
	}
	return append(b, byte(u))
}

// fold maps integers near zero to small numbers: 2n, or -2n - 1 if n is negative.
func fold(n int) uint64 {
	u := uint64(n) << 1
	if n < 0 {
		return ^u
	}
	return u
}

// unfold is the inverse of fold.
func unfold(u uint64) int {
	n := int(u >> 1)
	if u%2 == 1 {
		return ^n
	}
	return n
}

// Open returns a reader at the start of b.
func Open(b []byte) *Reader {
	return &Reader{left: copyWithRoom(b, 0), opened: true}
}

// Int reads an integer from low to high.
func (r *Reader) Int(low, high int) int {
	if r.Err() != api.OK {
		return 0
	}
	k, e := intLength(r.left)
	if e != api.OK {
		r.Fail(e)
		return 0
	}
	n := decodeInt(r.take(k))
	if n < low || n > high {
		r.Fail(api.ErrRange)
		return 0
	}
	return n
}

// intLength returns the number of bytes of the integer at the start of b.
func intLength(b []byte) (int, api.Errno) {
	for i, c := range b[:min(len(b), mostBytes)] {
		if c >= more {
			continue
		}
		superfluous := i > 0 && c == 0
		tooGreat := i == mostBytes-1 && c > lastByteMost
		if superfluous || tooGreat {
			return 0, api.ErrForm
		}
		return i + 1, api.OK
	}
	if len(b) >= mostBytes {
		return 0, api.ErrForm
	}
	return 0, api.ErrShort
}

// decodeInt returns the integer whose encoding is the whole of b.
func decodeInt(b []byte) int {
	var u uint64
	for i, c := range b {
		u |= uint64(c%more) << (i * groupBits)
	}
	return unfold(u)
}

// take removes the next n bytes, which the caller knows to be left, and returns them.
func (r *Reader) take(n int) []byte {
	taken := r.left[:n]
	r.left = r.left[n:]
	return taken
}

// Text reads a string of at most most bytes.
func (r *Reader) Text(most int) string {
	n := r.Int(0, most)
	if r.Err() != api.OK {
		return ""
	}
	if n > len(r.left) {
		r.Fail(api.ErrShort)
		return ""
	}
	return string(r.take(n))
}

// Bool reads a boolean.
func (r *Reader) Bool() bool {
	if r.Err() != api.OK {
		return false
	}
	if len(r.left) == 0 {
		r.Fail(api.ErrShort)
		return false
	}
	code := r.take(1)[0]
	if code > 1 {
		r.Fail(api.ErrForm)
		return false
	}
	return code == 1
}

// Fail sets the error if there is none yet.
func (r *Reader) Fail(e api.Errno) {
	if r.Err() == api.OK {
		r.err = e
	}
}

// Err returns the first error.
func (r *Reader) Err() api.Errno {
	if r == nil || !r.opened {
		return api.ErrNil
	}
	return r.err
}

// End returns the first error, or ErrForm if bytes remain.
func (r *Reader) End() api.Errno {
	if e := r.Err(); e != api.OK {
		return e
	}
	if len(r.left) > 0 {
		return api.ErrForm
	}
	return api.OK
}

// Left returns the number of bytes that remain, or 0 after an error.
func (r *Reader) Left() int {
	if r.Err() != api.OK {
		return 0
	}
	return len(r.left)
}
