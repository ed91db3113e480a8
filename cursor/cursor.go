// Package cursor is layer 2, bounded reading: see shared/doc/02-cursor.md.
package cursor

import (
	"tholepin/api"
	"tholepin/fault"
)

// Reader reads bytes from the front and never beyond their end.
type Reader struct {
	b     []byte // up to the end, and nothing behind it
	at    int    // from 0 to the number of bytes
	fault api.Fault
}

// New is a reader of bytes, which it keeps.
func New(b []byte) *Reader {
	return &Reader{b: b[:len(b):len(b)]}
}

// At is the position of the next byte.
func (r *Reader) At() int {
	if r == nil {
		return 0
	}
	return r.at
}

// Left is how many bytes are left.
func (r *Reader) Left() int {
	if r == nil {
		return 0
	}
	return len(r.b) - r.at
}

// Good tells whether there is no fault.
func (r *Reader) Good() bool { return fault.Good(r.Fault()) }

// Fault is the first fault.
func (r *Reader) Fault() api.Fault {
	if r == nil {
		return fault.At(api.ErrNil, 0)
	}
	return r.fault
}

// Fail sets the fault, unless there is one: the first one is kept.
func (r *Reader) Fail(code api.Errno, at int) {
	if r.Good() {
		r.fault = fault.At(code, at)
	}
}

// Skip goes on by n bytes, or not at all, and tells whether there is no fault.
func (r *Reader) Skip(n int) bool {
	if n < 0 {
		r.Fail(api.ErrArg, r.At())
	}
	if n > r.Left() {
		r.Fail(api.ErrShort, r.At()+r.Left())
	}
	if !r.Good() {
		return false
	}
	r.at += n
	return true
}

// Byte is the next byte, or 0 with a fault.
func (r *Reader) Byte() byte {
	if !r.Skip(1) {
		return 0
	}
	return r.b[r.at-1]
}

// Take is the next n bytes, or nothing with a fault.
func (r *Reader) Take(n int) []byte {
	if !r.Skip(n) {
		return nil
	}
	return r.cut(r.at - n)
}

// Since is the bytes from a position on up to the next byte's. It hands out what
// was read already, so a fault does not keep it from doing so.
func (r *Reader) Since(at int) []byte {
	if r == nil || at < 0 || at > r.at {
		return nil
	}
	return r.cut(at)
}

// cut is a copy, because the bytes are the caller's and may change later.
func (r *Reader) cut(from int) []byte {
	out := make([]byte, r.at-from)
	copy(out, r.b[from:r.at:r.at])
	return out
}

// End sets a fault if bytes are left.
func (r *Reader) End() {
	if r.Left() > 0 {
		r.Fail(api.ErrRest, r.At())
	}
}

// Part is a reader of the next n bytes, as far as there are so many. It shares
// the bytes ahead of them, so that its positions are those of r.
func (r *Reader) Part(n int) *Reader {
	if r == nil {
		return nil
	}
	end := r.at + min(max(n, 0), r.Left())
	return &Reader{b: r.b[:end:end], at: r.at}
}
