package cursor_test

import (
	"bytes"
	"math"
	"testing"

	"tholepin/api"
	"tholepin/cursor"
)

var good = api.Fault{}

// expect checks all that can be seen of a reader.
func expect(t *testing.T, r *cursor.Reader, at, left int, f api.Fault) {
	t.Helper()
	if r.At() != at || r.Left() != left || r.Fault() != f || r.Good() != (f.Code == api.OK) {
		t.Errorf("at %d, left %d, fault %v, good %v, not %d, %d, %v", r.At(), r.Left(), r.Fault(), r.Good(), at, left, f)
	}
}

// failed is a reader of 1, 2, 3 at position 1 with a fault.
func failed() *cursor.Reader {
	r := cursor.New([]byte{1, 2, 3})
	r.Skip(1)
	r.Fail(api.ErrRest, 8)
	return r
}

// P2.1: a new reader is at position 0, without a fault.
func TestNew(t *testing.T) {
	expect(t, cursor.New([]byte{1, 2, 3}), 0, 3, good)
	expect(t, cursor.New([]byte{}), 0, 0, good)
	expect(t, cursor.New(nil), 0, 0, good)
	b := []byte{1, 2, 3}
	expect(t, cursor.New(b[:2]), 0, 2, good) // not what stands behind the end
}

// P2.1: Byte gives the bytes one by one, then ErrShort at the end.
func TestByte(t *testing.T) {
	r := cursor.New([]byte{9, 0, 255})
	for i, want := range []byte{9, 0, 255} {
		expect(t, r, i, 3-i, good)
		if b := r.Byte(); b != want {
			t.Errorf("byte %d: %d", i, b)
		}
	}
	expect(t, r, 3, 0, good)
	for range 2 {
		if b := r.Byte(); b != 0 {
			t.Error(b)
		}
		expect(t, r, 3, 0, api.Fault{Code: api.ErrShort, At: 3})
	}
	e := cursor.New(nil)
	e.Byte()
	expect(t, e, 0, 0, api.Fault{Code: api.ErrShort, At: 0})
}

// P2.1: Take gives the next bytes and goes on by as many.
func TestTake(t *testing.T) {
	r := cursor.New([]byte{1, 2, 3})
	if b := r.Take(2); !bytes.Equal(b, []byte{1, 2}) {
		t.Error(b)
	}
	expect(t, r, 2, 1, good)
	if b := r.Take(0); len(b) != 0 {
		t.Error(b)
	}
	expect(t, r, 2, 1, good)
	if b := r.Take(1); !bytes.Equal(b, []byte{3}) {
		t.Error(b)
	}
	expect(t, r, 3, 0, good)
	if b := r.Take(0); len(b) != 0 {
		t.Error(b)
	}
	expect(t, r, 3, 0, good)
}

// P2.1: Take and Skip of a negative number give ErrArg at the position, of too great a one ErrShort at the end.
func TestTakeAndSkipRefuse(t *testing.T) {
	for _, n := range []int{-1, -2, math.MinInt, 3, 4, math.MaxInt} {
		want := api.Fault{Code: api.ErrArg, At: 1}
		if n > 0 {
			want = api.Fault{Code: api.ErrShort, At: 3}
		}
		r, q := cursor.New([]byte{1, 2, 3}), cursor.New([]byte{1, 2, 3})
		r.Skip(1)
		q.Skip(1)
		if b := r.Take(n); b != nil {
			t.Errorf("Take(%d) = %v", n, b)
		}
		if q.Skip(n) {
			t.Errorf("Skip(%d)", n)
		}
		expect(t, r, 1, 2, want)
		expect(t, q, 1, 2, want)
	}
	r := cursor.New(nil)
	r.Take(-1) // ahead of ErrShort
	expect(t, r, 0, 0, api.Fault{Code: api.ErrArg, At: 0})
}

// P2.1: Skip goes on as Take does.
func TestSkip(t *testing.T) {
	r := cursor.New([]byte{1, 2, 3})
	if !r.Skip(2) || !r.Skip(0) {
		t.Error(r.Fault())
	}
	expect(t, r, 2, 1, good)
	if b := r.Byte(); b != 3 {
		t.Error(b)
	}
	if !r.Skip(0) || r.Skip(1) {
		t.Error(r.Fault())
	}
	expect(t, r, 3, 0, api.Fault{Code: api.ErrShort, At: 3})
	if r.Skip(0) {
		t.Error("a skip by nothing after a fault")
	}
}

// P2.2: Fail sets a fault, and the first one is kept by all that follows.
func TestFailAndFaultIsKept(t *testing.T) {
	r := failed()
	want := api.Fault{Code: api.ErrRest, At: 8}
	expect(t, r, 1, 2, want)
	for _, do := range []func(){
		func() { r.Fail(api.ErrSum, 0) },
		func() { r.Fail(api.OK, 0) },
		func() { r.End() },
		func() {
			if b := r.Byte(); b != 0 {
				t.Error(b)
			}
		},
		func() {
			if b := r.Take(1); b != nil {
				t.Error(b)
			}
		},
		func() {
			if b := r.Take(-1); b != nil {
				t.Error(b)
			}
		},
		func() {
			if r.Skip(1) || r.Skip(0) || r.Skip(9) || r.Skip(-1) {
				t.Error("skipped")
			}
		},
	} {
		do()
		expect(t, r, 1, 2, want)
	}
	q := cursor.New([]byte{1})
	q.Fail(api.OK, 5) // as fault.At: no fault, and no position
	expect(t, q, 0, 1, good)
	q.Fail(api.ErrForm, -4)
	expect(t, q, 0, 1, api.Fault{Code: api.ErrForm, At: -4})
	o := cursor.New(nil)
	o.Fail(99, 2)
	expect(t, o, 0, 0, api.Fault{Code: 99, At: 2})
}

// P2.2: End gives ErrRest at the position if bytes are left.
func TestEnd(t *testing.T) {
	r := cursor.New([]byte{1, 2})
	r.Skip(1)
	r.End()
	expect(t, r, 1, 1, api.Fault{Code: api.ErrRest, At: 1})
	q := cursor.New([]byte{1, 2})
	q.Skip(2)
	q.End()
	expect(t, q, 2, 0, good)
	e := cursor.New(nil)
	e.End()
	expect(t, e, 0, 0, good)
	p := cursor.New([]byte{1, 2, 3}).Part(2)
	p.Skip(2)
	p.End() // of the part, not of the bytes
	expect(t, p, 2, 0, good)
}

// P2.2: Part reads what is asked for, as far as it is there, at the same positions.
func TestPart(t *testing.T) {
	for _, c := range [][2]int{{0, 0}, {1, 1}, {2, 2}, {3, 2}, {9, 2}, {math.MaxInt, 2}, {-1, 0}, {math.MinInt, 0}} {
		r := cursor.New([]byte{1, 2, 3})
		r.Skip(1)
		p := r.Part(c[0])
		expect(t, p, 1, c[1], good)
		if b := p.Take(c[1]); !bytes.Equal(b, []byte{2, 3}[:c[1]]) {
			t.Errorf("Part(%d): %v", c[0], b)
		}
		p.Byte()
		expect(t, p, 1+c[1], 0, api.Fault{Code: api.ErrShort, At: 1 + c[1]})
		expect(t, r, 1, 2, good)
		if b := r.Byte(); b != 2 {
			t.Error(b)
		}
	}
}

// P2.2: a part has a fault of its own, at first none, and parts of parts are no longer than these.
func TestPartFaults(t *testing.T) {
	r := failed()
	p := r.Part(1)
	expect(t, p, 1, 1, good)
	if b := p.Byte(); b != 2 {
		t.Error(b)
	}
	p.Fail(api.ErrSum, 0)
	expect(t, p, 2, 0, api.Fault{Code: api.ErrSum, At: 0})
	expect(t, r, 1, 2, api.Fault{Code: api.ErrRest, At: 8})
	q := cursor.New([]byte{1, 2, 3, 4}).Part(3)
	q.Skip(1)
	s := q.Part(9)
	expect(t, s, 1, 2, good)
	q.Fail(api.ErrKind, 0)
	expect(t, s, 1, 2, good)
}

// P2.2: Since gives the bytes from a position on up to the reader's, and nothing for a position that is not there.
func TestSince(t *testing.T) {
	r := cursor.New([]byte{1, 2, 3})
	r.Skip(2)
	for at, want := range [][]byte{{1, 2}, {2}, {}} {
		if b := r.Since(at); !bytes.Equal(b, want) {
			t.Errorf("Since(%d) = %v", at, b)
		}
	}
	for _, at := range []int{-1, 3, 4, math.MinInt, math.MaxInt} {
		if b := r.Since(at); b != nil {
			t.Errorf("Since(%d) = %v", at, b)
		}
	}
	expect(t, r, 2, 1, good)
	p := r.Part(1)
	p.Skip(1)
	if b := p.Since(1); !bytes.Equal(b, []byte{2, 3}) { // also what stands ahead of the part
		t.Error(b)
	}
	if b := failed().Since(0); !bytes.Equal(b, []byte{1}) { // also after a fault
		t.Error(b)
	}
	if b := cursor.New(nil).Since(0); len(b) != 0 {
		t.Error(b)
	}
}

// P2.2: a nil reader gives nothing, and ErrNil at 0.
func TestNil(t *testing.T) {
	var r *cursor.Reader
	for range 2 {
		expect(t, r, 0, 0, api.Fault{Code: api.ErrNil, At: 0})
		if r.Byte() != 0 || r.Take(0) != nil || r.Take(1) != nil || r.Take(-1) != nil || r.Since(0) != nil || r.Since(-1) != nil {
			t.Error("bytes of a nil reader")
		}
		if r.Skip(0) || r.Skip(1) || r.Skip(-1) {
			t.Error("skipped")
		}
		if r.Part(0) != nil || r.Part(3) != nil {
			t.Error("a part of a nil reader")
		}
		r.Fail(api.ErrSum, 3)
		r.End()
	}
}

// P2.1, P2.2: what is handed out is a copy to which nothing can be appended without a new one.
func TestCopies(t *testing.T) {
	b := make([]byte, 4, 64)
	copy(b, []byte{1, 2, 3, 4})
	r := cursor.New(b)
	x, y := r.Take(2), r.Since(0)
	p := r.Part(1)
	z := p.Take(1)
	for _, l := range [][]byte{x, y, z} {
		if len(l) != cap(l) {
			t.Error(len(l), cap(l))
		}
		for i := range l {
			l[i] = 99
		}
		_ = append(l, 98, 97)
	}
	if !bytes.Equal(b[:8], []byte{1, 2, 3, 4, 0, 0, 0, 0}) || r.Byte() != 3 {
		t.Error(b[:8])
	}
	s := cursor.New(b)
	v := s.Take(4)
	b[0] = 77
	if v[0] != 1 {
		t.Error("what was taken changed with the bytes")
	}
}

// steps are the reads of which all short rows are tried below, each with what it gives.
func steps() []func(r *cursor.Reader) []byte {
	take := func(n int) func(r *cursor.Reader) []byte {
		return func(r *cursor.Reader) []byte { return r.Take(n) }
	}
	skip := func(n int) func(r *cursor.Reader) []byte {
		return func(r *cursor.Reader) []byte {
			at := r.At()
			r.Skip(n)
			return r.Since(at)
		}
	}
	one := func(r *cursor.Reader) []byte {
		if b := r.Byte(); r.Good() {
			return []byte{b}
		}
		return nil
	}
	part := func(r *cursor.Reader) []byte {
		p := r.Part(2)
		b := p.Take(p.Left())
		r.Skip(len(b))
		if !r.Good() {
			return nil
		}
		return b
	}
	end := func(r *cursor.Reader) []byte {
		r.End()
		return nil
	}
	return []func(r *cursor.Reader) []byte{take(-1), take(0), take(1), take(3), skip(-1), skip(2), one, part, end}
}

// P2.3: whatever is read, what was taken is the bytes up to the position, which never passes the end, and after a fault nothing changes.
func TestAllShortRows(t *testing.T) {
	l := steps()
	for n := range 6 {
		b := []byte{10, 11, 12, 13, 14}[:n]
		for row := range len(l) * len(l) * len(l) * len(l) {
			r := cursor.New(b)
			var taken []byte
			for k := row; k > 0; k /= len(l) {
				at, f := r.At(), r.Fault()
				got := l[k%len(l)](r)
				taken = append(taken, got...)
				if f != good && (r.At() != at || r.Fault() != f || len(got) != 0) {
					t.Fatalf("row %d of %d bytes: read on after %v", row, n, f)
				}
			}
			if r.At() < 0 || r.At() > n || r.At()+r.Left() != n || !bytes.Equal(taken, b[:r.At()]) {
				t.Fatalf("row %d of %d bytes: %v at %d", row, n, taken, r.At())
			}
			if f := r.Fault(); f != good && (f.At < 0 || f.At > n) {
				t.Fatalf("row %d of %d bytes: %v", row, n, f)
			}
		}
	}
}

// P2.3: the bytes that are read one by one are the bytes, and those of parts one behind the other too.
func TestBytesOfParts(t *testing.T) {
	var b []byte
	for i := range 300 {
		b = append(b, byte(i*7))
	}
	for size := 1; size <= 301; size += 50 {
		r := cursor.New(b)
		var got []byte
		for r.Left() > 0 {
			p := r.Part(size)
			for p.Left() > 0 {
				got = append(got, p.Byte())
			}
			p.End()
			if !p.Good() {
				t.Fatal(p.Fault())
			}
			r.Skip(p.At() - r.At())
		}
		if !bytes.Equal(got, b) || !r.Good() {
			t.Error(size, r.Fault())
		}
	}
}
