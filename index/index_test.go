package index_test

import (
	"bytes"
	"go/ast"
	"go/parser"
	"go/token"
	"math"
	"math/big"
	"math/rand"
	"slices"
	"testing"

	"tholepin/api"
	"tholepin/cursor"
	"tholepin/index"
	"tholepin/pen"
	"tholepin/varint"
)

var good = api.Fault{}

const (
	top  = uint64(1) << 62 // the first number that is no position
	most = 1<<40 - 1       // the greatest offset
)

// sample is the chapter's marks.
func sample() []api.Mark {
	return []api.Mark{{Pos: 5, Count: 3, At: 10}, {Pos: 9, Count: 1, At: 40}}
}

// marks are all marks of some numbers, valid or not.
func marks() []api.Mark {
	var l []api.Mark
	for _, pos := range []uint64{0, 1, 5, 8, 300, top - 16, top - 2, top - 1, top, 1 << 63, math.MaxUint64 - 15, math.MaxUint64} {
		for _, count := range []int{math.MinInt, -1, 0, 1, 3, 16, 17, math.MaxInt} {
			for _, at := range []int{math.MinInt, -1, 0, 1, 10, 11, 300, most - 1, most, most + 1, math.MaxInt} {
				l = append(l, api.Mark{Pos: pos, Count: count, At: at})
			}
		}
	}
	return l
}

// lists are lists of marks, each of which is likely to be valid behind the one before, and some that
// were changed a little.
func lists(n int, seed int64) [][]api.Mark {
	rnd := rand.New(rand.NewSource(seed))
	out := [][]api.Mark{nil, {}, sample(), full(16), full(17)}
	for range n {
		var l []api.Mark
		pos, at := rnd.Uint64()>>(2+rnd.Intn(62)), 0
		for range rnd.Intn(18) {
			pos += uint64(rnd.Intn(3)) * (rnd.Uint64() >> (4 + rnd.Intn(60)))
			at += 1 + rnd.Intn(1<<rnd.Intn(36))
			m := api.Mark{Pos: pos, Count: 1 + rnd.Intn(16), At: at}
			pos += uint64(m.Count)
			l = append(l, m)
		}
		if len(l) > 0 && rnd.Intn(3) == 0 {
			i := rnd.Intn(len(l))
			switch rnd.Intn(3) {
			case 0:
				l[i].Pos += uint64(rnd.Intn(5) - 2)
			case 1:
				l[i].Count += rnd.Intn(5) - 2
			case 2:
				l[i].At = l[max(i-1, 0)].At + rnd.Intn(3) - 1
			}
		}
		out = append(out, l)
	}
	return out
}

// full is n marks one behind the other, at the end of all positions and of all offsets.
func full(n int) []api.Mark {
	var l []api.Mark
	for k := range n {
		l = append(l, api.Mark{Pos: top - uint64(16*(n-k)), Count: 16, At: most - (n - 1 - k)})
	}
	return l
}

// valid is the definition's words, counted without a bound.
func valid(l []api.Mark) bool {
	if len(l) > 16 {
		return false
	}
	end, at := new(big.Int), 0
	for _, m := range l {
		pos := new(big.Int).SetUint64(m.Pos)
		if m.Count < 1 || m.Count > 16 || pos.Cmp(end) < 0 || m.At < 1 || m.At>>40 != 0 || m.At <= at {
			return false
		}
		end = pos.Add(pos, big.NewInt(int64(m.Count)))
		if end.Cmp(new(big.Int).SetUint64(top)) > 0 {
			return false
		}
		at = m.At
	}
	return true
}

// join is integers, one behind the other.
func join(l ...uint64) []byte {
	var b []byte
	for _, x := range l {
		b = append(b, varint.Bytes(x)...)
	}
	return b
}

// encoding is the definition's words, of valid marks.
func encoding(l []api.Mark) []byte {
	b := join(uint64(len(l)))
	for i, m := range l {
		if i == 0 {
			b = append(b, join(m.Pos, uint64(m.Count), uint64(m.At-1))...)
			continue
		}
		before := l[i-1]
		b = append(b, join(m.Pos-(before.Pos+uint64(before.Count)), uint64(m.Count), uint64(m.At-before.At-1))...)
	}
	return b
}

// at1 is a reader of one byte 5 and others, at position 1.
func at1(b ...byte) *cursor.Reader {
	r := cursor.New(append([]byte{5}, b...))
	r.Skip(1)
	return r
}

// expect checks where a reader is, and its fault.
func expect(t *testing.T, r *cursor.Reader, at int, f api.Fault) {
	t.Helper()
	if r.At() != at || r.Fault() != f {
		t.Errorf("at %d with %v, not %d with %v", r.At(), r.Fault(), at, f)
	}
}

// expected is the marks behind one byte, where the reader is then, and the fault, by the chapter's words.
func expected(b []byte) ([]api.Mark, int, api.Fault) {
	r := at1(b...)
	n := varint.ReadInt(r, 16)
	var l []api.Mark
	end, at := new(big.Int), 0
	for range n {
		first := r.At()
		step := varint.Read(r)
		count := varint.ReadMost(r, 16)
		gap := varint.ReadMost(r, most)
		if !r.Good() {
			break
		}
		pos := new(big.Int).Add(end, new(big.Int).SetUint64(step))
		end = new(big.Int).Add(pos, new(big.Int).SetUint64(count))
		at += int(gap) + 1
		if count == 0 || end.Cmp(new(big.Int).SetUint64(top)) > 0 || at > most {
			r.Fail(api.ErrInvalid, first)
			break
		}
		l = append(l, api.Mark{Pos: pos.Uint64(), Count: int(count), At: at})
	}
	if !r.Good() {
		return nil, 0, r.Fault()
	}
	return l, r.At(), good
}

// check holds what is read from some bytes against what is expected.
func check(t *testing.T, b []byte) {
	t.Helper()
	want, at, f := expected(b)
	r := at1(b...)
	l := index.Read(r)
	if !slices.Equal(l, want) || r.Fault() != f || f == good && r.At() != at || f != good && l != nil {
		t.Fatal(b, l, r.At(), r.Fault(), "not", want, at, f)
	}
}

// P32.1, P32.2, P32.4: the examples of the chapter.
func TestExamples(t *testing.T) {
	l := sample()
	b, code := index.Bytes(l)
	if code != api.OK || !bytes.Equal(b, []byte{0x02, 0x05, 0x03, 0x09, 0x01, 0x01, 0x1d}) || b[6] != 29 {
		t.Error(b, code)
	}
	if got := index.Read(cursor.New(b)); !slices.Equal(got, l) {
		t.Error(got)
	}
	if m, ok := index.Find(l, 7); m != l[0] || m.At != 10 || !ok {
		t.Error(m, ok)
	}
	if n := index.Entries(l); n != 4 {
		t.Error(n)
	}
	if first, end := index.Ends(l); first != 5 || end != 10 {
		t.Error(first, end)
	}
	if gaps := index.Gaps(l); !slices.Equal(gaps, [][2]uint64{{8, 9}}) {
		t.Error(gaps)
	}
	if pos, ok := index.Near(l, 8); pos != 9 || !ok {
		t.Error(pos, ok)
	}
}

// P32.1: which marks are valid, row by row.
func TestRightRows(t *testing.T) {
	for i, c := range []struct {
		l    []api.Mark
		want bool
	}{
		{nil, true},
		{[]api.Mark{}, true},
		{sample(), true},
		{[]api.Mark{{}}, false},
		{[]api.Mark{{Pos: 0, Count: 1, At: 1}}, true},
		// Count
		{[]api.Mark{{Pos: 0, Count: 0, At: 1}}, false},
		{[]api.Mark{{Pos: 0, Count: -1, At: 1}}, false},
		{[]api.Mark{{Pos: 5, Count: math.MinInt, At: 1}}, false},
		{[]api.Mark{{Pos: 0, Count: 16, At: 1}}, true},
		{[]api.Mark{{Pos: 0, Count: 17, At: 1}}, false},
		{[]api.Mark{{Pos: 0, Count: math.MaxInt, At: 1}}, false},
		// positions
		{[]api.Mark{{Pos: top - 1, Count: 1, At: 1}}, true},
		{[]api.Mark{{Pos: top, Count: 1, At: 1}}, false},
		{[]api.Mark{{Pos: top - 16, Count: 16, At: 1}}, true},
		{[]api.Mark{{Pos: top - 15, Count: 16, At: 1}}, false},
		{[]api.Mark{{Pos: top - 1, Count: 2, At: 1}}, false},
		{[]api.Mark{{Pos: math.MaxUint64, Count: 1, At: 1}}, false}, // the number behind it is 0
		{[]api.Mark{{Pos: math.MaxUint64 - 2, Count: 16, At: 1}}, false},
		// offsets
		{[]api.Mark{{Pos: 0, Count: 1, At: 0}}, false},
		{[]api.Mark{{Pos: 0, Count: 1, At: -1}}, false},
		{[]api.Mark{{Pos: 0, Count: 1, At: math.MinInt}}, false},
		{[]api.Mark{{Pos: 0, Count: 1, At: most}}, true},
		{[]api.Mark{{Pos: 0, Count: 1, At: most + 1}}, false},
		{[]api.Mark{{Pos: 0, Count: 1, At: math.MaxInt}}, false},
		// one behind the other
		{[]api.Mark{{Pos: 5, Count: 3, At: 10}, {Pos: 8, Count: 1, At: 11}}, true},
		{[]api.Mark{{Pos: 5, Count: 3, At: 10}, {Pos: 7, Count: 1, At: 11}}, false},
		{[]api.Mark{{Pos: 5, Count: 3, At: 10}, {Pos: 5, Count: 3, At: 11}}, false},
		{[]api.Mark{{Pos: 5, Count: 3, At: 10}, {Pos: 0, Count: 1, At: 11}}, false},
		{[]api.Mark{{Pos: 5, Count: 3, At: 10}, {Pos: 8, Count: 1, At: 10}}, false},
		{[]api.Mark{{Pos: 5, Count: 3, At: 10}, {Pos: 8, Count: 1, At: 9}}, false},
		{[]api.Mark{{Pos: 5, Count: 3, At: most}, {Pos: 8, Count: 1, At: most + 1}}, false},
		{[]api.Mark{{Pos: top - 1, Count: 1, At: 1}, {Pos: top, Count: 1, At: 2}}, false},
		{[]api.Mark{{Pos: 5, Count: 3, At: 10}, {Pos: 9, Count: 1, At: 40}, {Pos: 9, Count: 1, At: 50}}, false},
		{[]api.Mark{{Pos: 5, Count: 3, At: 10}, {Pos: 9, Count: 1, At: 40}, {Pos: 10, Count: 1, At: 50}}, true},
		{full(16), true},
		{full(17), false},
		{full(17)[1:], true},
	} {
		if index.Right(c.l) != c.want {
			t.Errorf("case %d: %v", i, !c.want)
		}
	}
}

// P32.1: which marks are valid, alone and in pairs.
func TestRight(t *testing.T) {
	all, rights := marks(), 0
	for _, m := range all {
		if l := []api.Mark{m}; index.Right(l) != valid(l) {
			t.Fatal(l, index.Right(l))
		}
		for _, n := range all {
			if l := []api.Mark{m, n}; n.Count >= 0 && n.Count < 4 && index.Right(l) != valid(l) {
				t.Fatal(l, index.Right(l))
			} else if index.Right(l) {
				rights++
			}
		}
	}
	if rights < 2000 {
		t.Error(rights)
	}
	rights = 0
	lists := lists(20000, 1)
	for _, l := range lists {
		if index.Right(l) != valid(l) {
			t.Fatal(l, index.Right(l))
		}
		if valid(l) {
			rights++
		}
	}
	if rights < 5000 || len(lists)-rights < 1000 {
		t.Error(rights, len(lists))
	}
}

// P32.1: Put and Bytes give the encoding, and nothing of marks that are not valid.
func TestPutAndBytes(t *testing.T) {
	all := lists(20000, 2)
	for _, m := range marks() {
		all = append(all, []api.Mark{m})
	}
	for _, l := range all {
		b, code := index.Bytes(l)
		w := pen.New(1000)
		w.Put(9)
		index.Put(w, l)
		if !valid(l) {
			if b != nil || code != api.ErrInvalid || w.Code() != api.ErrInvalid || w.Len() != 1 {
				t.Fatal(l, b, code, w.Code(), w.Len())
			}
			continue
		}
		if code != api.OK || !bytes.Equal(b, encoding(l)) {
			t.Fatal(l, b, code)
		}
		if got, code := w.Bytes(); code != api.OK || got[0] != 9 || !bytes.Equal(got[1:], b) {
			t.Fatal(l, got, code)
		}
	}
}

// P32.1: a writer with too little room has ErrLong, but marks that are not valid are ErrInvalid
// there too, and nothing of them is written.
func TestPutWithoutRoom(t *testing.T) {
	for _, l := range [][]api.Mark{nil, sample(), full(16)} {
		size := len(encoding(l))
		for room := range size {
			w := pen.New(room)
			index.Put(w, l)
			if got, code := w.Bytes(); got != nil || code != api.ErrLong || w.Len() > room {
				t.Error(l, room, got, code, w.Len())
			}
			w = pen.New(room)
			index.Put(w, append(slices.Clone(l), api.Mark{Pos: top, Count: 1, At: most}))
			if w.Code() != api.ErrInvalid || w.Len() != 0 {
				t.Error(l, room, w.Code(), w.Len())
			}
		}
		w := pen.New(size)
		index.Put(w, l)
		if w.Code() != api.OK || w.Room() != 0 {
			t.Error(l, w.Code(), w.Room())
		}
	}
}

// P32.1: with a code nothing is written and the code is kept, and a nil writer takes everything.
func TestPutAfterACode(t *testing.T) {
	for _, l := range [][]api.Mark{nil, sample(), {{}}, full(17)} {
		w := pen.New(1000)
		w.Fail(api.ErrSum)
		index.Put(w, l)
		if w.Code() != api.ErrSum || w.Len() != 0 {
			t.Error(l, w.Code(), w.Len())
		}
		index.Put(nil, l)
	}
	w := pen.New(1000)
	index.Put(w, full(17))
	index.Put(w, sample())
	if w.Code() != api.ErrInvalid || w.Len() != 0 {
		t.Error(w.Code(), w.Len())
	}
}

// P32.1: each fault of Read, the first one in the order of the bytes, and nothing beside it.
func TestReadRefuses(t *testing.T) {
	over := append(bytes.Repeat([]byte{255}, 9), 2)
	for i, c := range []struct {
		b []byte
		f api.Fault
	}{
		// their number
		{nil, api.Fault{Code: api.ErrShort, At: 1}},
		{[]byte{130}, api.Fault{Code: api.ErrShort, At: 2}},
		{[]byte{130, 0}, api.Fault{Code: api.ErrNonMinimal, At: 2}},
		{over, api.Fault{Code: api.ErrOverflow, At: 10}},
		{join(17, 0, 1, 0), api.Fault{Code: api.ErrLong, At: 1}},
		{join(17), api.Fault{Code: api.ErrLong, At: 1}},
		{join(1 << 63), api.Fault{Code: api.ErrLong, At: 1}},
		{join(16), api.Fault{Code: api.ErrShort, At: 2}},
		// Pos
		{join(1), api.Fault{Code: api.ErrShort, At: 2}},
		{[]byte{1, 128}, api.Fault{Code: api.ErrShort, At: 3}},
		{[]byte{1, 128, 0, 1, 0}, api.Fault{Code: api.ErrNonMinimal, At: 3}},
		{append([]byte{1}, over...), api.Fault{Code: api.ErrOverflow, At: 11}},
		{join(1, top), api.Fault{Code: api.ErrShort, At: 11}}, // what is missing is ahead of ErrInvalid
		// Count
		{join(1, 300), api.Fault{Code: api.ErrShort, At: 4}},
		{join(1, 300, 17, 0), api.Fault{Code: api.ErrLong, At: 4}},
		{join(1, 300, 17), api.Fault{Code: api.ErrLong, At: 4}},
		{join(1, 300, math.MaxUint64, 0), api.Fault{Code: api.ErrLong, At: 4}},
		{join(1, top, 17, 0), api.Fault{Code: api.ErrLong, At: 11}}, // ahead of ErrInvalid, which is for the whole mark
		{[]byte{1, 5, 129, 0, 0}, api.Fault{Code: api.ErrNonMinimal, At: 4}},
		{join(1, 5, 0), api.Fault{Code: api.ErrShort, At: 4}},
		// At
		{join(1, 300, 16), api.Fault{Code: api.ErrShort, At: 5}},
		{join(1, 300, 16, most+1), api.Fault{Code: api.ErrLong, At: 5}},
		{join(1, 300, 16, math.MaxUint64), api.Fault{Code: api.ErrLong, At: 5}},
		{join(1, 5, 0, most+1), api.Fault{Code: api.ErrLong, At: 4}}, // ahead of ErrInvalid
		{join(1, top, 1, most+1), api.Fault{Code: api.ErrLong, At: 12}},
		{[]byte{1, 5, 1, 128, 0}, api.Fault{Code: api.ErrNonMinimal, At: 5}},
		// the whole mark
		{join(1, 300, 0, 0), api.Fault{Code: api.ErrInvalid, At: 2}},
		{join(1, 300, 1, most), api.Fault{Code: api.ErrInvalid, At: 2}}, // the first offset is one more
		{join(1, 300, 1, most-1), good},
		{join(1, top, 1, 0), api.Fault{Code: api.ErrInvalid, At: 2}},
		{join(1, top-1, 1, 0), good},
		{join(1, top-1, 2, 0), api.Fault{Code: api.ErrInvalid, At: 2}},
		{join(1, top-16, 16, 0), good},
		{join(1, top-15, 16, 0), api.Fault{Code: api.ErrInvalid, At: 2}},
		{join(1, math.MaxUint64, 1, 0), api.Fault{Code: api.ErrInvalid, At: 2}},
		{join(1, math.MaxUint64-7, 16, 0), api.Fault{Code: api.ErrInvalid, At: 2}}, // the position behind it is 8 again
		// the second mark
		{join(2, 5, 3, 9), api.Fault{Code: api.ErrShort, At: 5}},
		{join(2, 5, 3, 9, 1), api.Fault{Code: api.ErrShort, At: 6}},
		{join(2, 5, 3, 9, 1, 1), api.Fault{Code: api.ErrShort, At: 7}},
		{join(2, 5, 3, 9, 1, 1, 29), good},
		{join(2, 5, 3, 9, 0, 1, 0), good},
		{join(2, 5, 3, 9, 0, 0, 0), api.Fault{Code: api.ErrInvalid, At: 5}},
		{join(2, 5, 3, 9, 0, 17, 0), api.Fault{Code: api.ErrLong, At: 6}},
		{join(2, 5, 3, 9, 0, 1, most), api.Fault{Code: api.ErrInvalid, At: 5}},
		{join(2, 5, 3, 9, 0, 1, most-10), api.Fault{Code: api.ErrInvalid, At: 5}},
		{join(2, 5, 3, 9, 0, 1, most-11), good},
		{join(2, 5, 3, most-1, 0, 1, 0), api.Fault{Code: api.ErrInvalid, At: 9 + 1}},
		{join(2, 5, 3, 9, top-8, 1, 0), api.Fault{Code: api.ErrInvalid, At: 5}},
		{join(2, 5, 3, 9, top-9, 1, 0), good},
		{join(2, 5, 3, 9, top-9, 2, 0), api.Fault{Code: api.ErrInvalid, At: 5}},
		{join(2, top-1, 1, 0, 0, 1, 0), api.Fault{Code: api.ErrInvalid, At: 13}},           // behind the last position
		{join(2, 5, 3, 9, math.MaxUint64-7, 1, 0), api.Fault{Code: api.ErrInvalid, At: 5}}, // a sum that is 0 again
		{join(2, 5, 3, 9, math.MaxUint64, 1, 0), api.Fault{Code: api.ErrInvalid, At: 5}},   // a sum that is 7
		{join(2, 5, 3, 9, math.MaxUint64, 1), api.Fault{Code: api.ErrShort, At: 16}},
		// the first of two
		{join(2, 5, 0, 9, 0, 17, 0), api.Fault{Code: api.ErrInvalid, At: 2}},
		{join(2, top, 1, 9), api.Fault{Code: api.ErrInvalid, At: 2}},
		// what follows is left
		{join(0), good},
		{[]byte{0, 128}, good},
		{[]byte{1, 5, 3, 9, 128}, good},
	} {
		r := at1(c.b...)
		l := index.Read(r)
		if r.Fault() != c.f || c.f != good && l != nil {
			t.Errorf("case %d: %v with %v", i, l, r.Fault())
		}
		check(t, c.b)
	}
}

// P32.1: a reader with a fault keeps it and its position, and a nil reader gives nothing.
func TestFaultIsKept(t *testing.T) {
	for _, b := range [][]byte{encoding(sample()), {0}, {17}, {1, 5, 0, 0}, {128, 0}, nil} {
		r := at1(b...)
		r.Fail(api.ErrRest, 8)
		if l := index.Read(r); l != nil {
			t.Error(b, l)
		}
		expect(t, r, 1, api.Fault{Code: api.ErrRest, At: 8})
	}
	if l := index.Read(nil); l != nil {
		t.Error(l)
	}
}

// P32.1: marks are read one behind the other, within their part of the bytes, each from the beginning.
func TestReadOn(t *testing.T) {
	all := [][]api.Mark{sample(), nil, full(16), {{Pos: 0, Count: 1, At: 1}}}
	var b []byte
	for _, l := range all {
		b = append(b, encoding(l)...)
	}
	r := at1(b...)
	at := 1
	for _, want := range all {
		size := len(encoding(want))
		p := r.Part(size - 1)
		if l := index.Read(p); l != nil || p.Fault() != (api.Fault{Code: api.ErrShort, At: at + size - 1}) {
			t.Error(l, p.Fault())
		}
		if l := index.Read(r); !slices.Equal(l, want) {
			t.Error(l, want)
		}
		at += size
		expect(t, r, at, good)
	}
}

// P32.3: what was written is read back, whatever follows, and no beginning of it is the marks.
func TestRoundTrip(t *testing.T) {
	read := 0
	for _, l := range lists(5000, 3) {
		if !valid(l) {
			continue
		}
		read++
		b := encoding(l)
		for _, behind := range [][]byte{nil, {0}, {128}, {255, 255, 255}} {
			r := at1(append(slices.Clone(b), behind...)...)
			if got := index.Read(r); !slices.Equal(got, l) {
				t.Fatal(l, got)
			}
			expect(t, r, 1+len(b), good)
		}
		for n := range b {
			r := at1(b[:n]...)
			if got := index.Read(r); got != nil || r.Fault() != (api.Fault{Code: api.ErrShort, At: 1 + n}) {
				t.Fatal(l, n, got, r.Fault())
			}
		}
	}
	if read < 1000 {
		t.Error(read)
	}
}

// P32.1, P32.3: what was read is valid, and writing it gives the bytes that were read.
func TestOneEncoding(t *testing.T) {
	parts := [][]byte{{0}, {1}, {2}, {16}, {17}, {128, 0}, {172, 2}, join(most - 1), join(most), join(top - 1), join(top), join(math.MaxUint64)}
	level := [][]byte{nil}
	var texts [][]byte
	for range 4 {
		var next [][]byte
		for _, b := range level {
			for _, p := range parts {
				next = append(next, append(slices.Clone(b), p...))
			}
		}
		texts, level = append(texts, next...), next
	}
	rnd := rand.New(rand.NewSource(4))
	for range 60000 {
		b := []byte{byte(rnd.Intn(4))}
		for range 3 * int(b[0]) {
			p := parts[rnd.Intn(len(parts))]
			if rnd.Intn(3) > 0 {
				p = parts[rnd.Intn(4)]
			}
			b = append(b, p...)
		}
		texts = append(texts, b)
	}
	accepted, refused := 0, 0
	for _, b := range texts {
		check(t, b)
		r := cursor.New(b)
		l := index.Read(r)
		if !r.Good() {
			refused++
			continue
		}
		accepted++
		if again, code := index.Bytes(l); !valid(l) || code != api.OK || !bytes.Equal(again, r.Since(0)) {
			t.Fatalf("%v is read as %v, which is written as %v", b, l, again)
		}
	}
	if accepted < 10000 || refused < 10000 {
		t.Error("too few to tell:", accepted, refused)
	}
}

// P32.1: bytes that were changed, and any bytes at all.
func TestAnyBytes(t *testing.T) {
	rnd := rand.New(rand.NewSource(32))
	for _, l := range lists(20000, 5) {
		if valid(l) {
			b := encoding(l)
			for range 1 + rnd.Intn(2) {
				b[rnd.Intn(len(b))] = byte(rnd.Intn(1 << rnd.Intn(9)))
			}
			check(t, b)
		}
		b := []byte{byte(rnd.Intn(5))}
		for range rnd.Intn(12) {
			b = append(b, byte(rnd.Intn(1<<rnd.Intn(9))))
		}
		check(t, b)
	}
}

// near are positions around those of marks, and some others.
func near(l []api.Mark) []uint64 {
	out := []uint64{0, 1, 5, 7, 8, 9, 10, top - 1, top, top + 1, 1 << 63, math.MaxUint64}
	for _, m := range l {
		end := m.Pos + uint64(m.Count)
		out = append(out, m.Pos-2, m.Pos-1, m.Pos, m.Pos+1, end-1, end, end+1)
	}
	return out
}

// P32.2, P32.4: Find and Near, against a search through all marks.
func TestFindAndNear(t *testing.T) {
	found, none, invalid := 0, 0, 0
	for _, l := range lists(20000, 6) {
		for _, pos := range near(l) {
			var want api.Mark
			var next uint64
			wanted, follows := false, false
			for _, m := range slices.Backward(l) { // so that the first one is the last to be kept
				for k := range uint64(max(m.Count, 0)) {
					if m.Pos+k == pos {
						want, wanted = m, true
					}
				}
				for k := range uint64(max(m.Count, 0)) {
					if x := m.Pos + k; x >= pos && (!follows || x < next) {
						next, follows = x, true
					}
				}
			}
			if !valid(l) {
				want, wanted, next, follows = api.Mark{}, false, 0, false
				invalid++
			}
			if m, ok := index.Find(l, pos); m != want || ok != wanted {
				t.Fatal(l, pos, m, ok, "not", want, wanted)
			}
			if x, ok := index.Near(l, pos); x != next || ok != follows {
				t.Fatal(l, pos, x, ok, "not", next, follows)
			}
			if wanted {
				found++
			} else if !follows {
				none++
			}
		}
	}
	if min(found, none, invalid) < 10000 {
		t.Error(found, none, invalid)
	}
}

// P32.2, P32.4: Find and Near, row by row.
func TestFindAndNearRows(t *testing.T) {
	l := sample()
	for _, c := range []struct {
		pos    uint64
		at     int // 0 if there is no mark of it
		near   uint64
		follow bool
	}{
		{0, 0, 5, true},
		{4, 0, 5, true},
		{5, 10, 5, true},
		{6, 10, 6, true},
		{7, 10, 7, true},
		{8, 0, 9, true},
		{9, 40, 9, true},
		{10, 0, 0, false},
		{top, 0, 0, false},
		{math.MaxUint64, 0, 0, false},
	} {
		m, ok := index.Find(l, c.pos)
		if m.At != c.at || ok != (c.at > 0) || !ok && m != (api.Mark{}) {
			t.Error(c.pos, m, ok)
		}
		if x, ok := index.Near(l, c.pos); x != c.near || ok != c.follow {
			t.Error(c.pos, x, ok)
		}
	}
	for _, none := range [][]api.Mark{nil, {}, full(17), {{Pos: 5, Count: 3, At: 10}, {Pos: 9, Count: 1, At: 10}}, {{Pos: 5, Count: 3}}} {
		for _, pos := range append(near(none), 5, 9) {
			if m, ok := index.Find(none, pos); m != (api.Mark{}) || ok {
				t.Error(none, pos, m, ok)
			}
			if x, ok := index.Near(none, pos); x != 0 || ok {
				t.Error(none, pos, x, ok)
			}
		}
	}
	last := full(16)
	if m, ok := index.Find(last, top-1); m != last[15] || !ok {
		t.Error(m, ok)
	}
	if m, ok := index.Find(last, top); m != (api.Mark{}) || ok {
		t.Error(m, ok)
	}
	first := []api.Mark{{Pos: 0, Count: 1, At: 1}}
	if m, ok := index.Find(first, 0); m != first[0] || !ok {
		t.Error(m, ok)
	}
	if x, ok := index.Near(first, 0); x != 0 || !ok {
		t.Error(x, ok)
	}
}

// P32.2, P32.4: Entries, Ends and Gaps of valid marks, and of others.
func TestEntriesEndsAndGaps(t *testing.T) {
	whole, gapped := 0, 0
	for _, l := range lists(20000, 7) {
		n, first, end := 0, uint64(0), uint64(0)
		var gaps [][2]uint64
		if valid(l) {
			for i, m := range l {
				n += m.Count
				if i == 0 {
					first = m.Pos
				} else if end != m.Pos {
					gaps = append(gaps, [2]uint64{end, m.Pos})
				}
				end = m.Pos + uint64(m.Count)
			}
			whole++
			gapped += len(gaps)
		}
		if got := index.Entries(l); got != n {
			t.Fatal(l, got, n)
		}
		if x, y := index.Ends(l); x != first || y != end {
			t.Fatal(l, x, y, first, end)
		}
		got := index.Gaps(l)
		if !slices.Equal(got, gaps) || !valid(l) && got != nil {
			t.Fatal(l, got, gaps)
		}
	}
	if whole < 5000 || gapped < 5000 {
		t.Error(whole, gapped)
	}
}

// P32.2, P32.4: Entries, Ends and Gaps, row by row.
func TestEntriesEndsAndGapsRows(t *testing.T) {
	for i, c := range []struct {
		l          []api.Mark
		n          int
		first, end uint64
		gaps       [][2]uint64
	}{
		{nil, 0, 0, 0, nil},
		{[]api.Mark{}, 0, 0, 0, nil},
		{sample(), 4, 5, 10, [][2]uint64{{8, 9}}},
		{sample()[:1], 3, 5, 8, nil},
		{sample()[1:], 1, 9, 10, nil}, // what is ahead of the first one is no gap
		{[]api.Mark{{Pos: 0, Count: 16, At: 1}, {Pos: 16, Count: 1, At: 2}}, 17, 0, 17, nil},
		{[]api.Mark{{Pos: 0, Count: 1, At: 1}, {Pos: top - 1, Count: 1, At: 2}}, 2, 0, top, [][2]uint64{{1, top - 1}}},
		{[]api.Mark{{Pos: 1, Count: 1, At: 1}, {Pos: 3, Count: 1, At: 2}, {Pos: 4, Count: 2, At: 3}, {Pos: 9, Count: 1, At: 4}}, 5, 1, 10, [][2]uint64{{2, 3}, {6, 9}}},
		{full(16), 256, top - 256, top, nil},
		{full(17), 0, 0, 0, nil},
		{[]api.Mark{{Pos: 5, Count: 3, At: 10}, {Pos: 9, Count: 1, At: 10}}, 0, 0, 0, nil},
		{[]api.Mark{{Pos: 9, Count: 1, At: 10}, {Pos: 5, Count: 3, At: 40}}, 0, 0, 0, nil},
		{[]api.Mark{{Pos: 9, Count: 1, At: 10}, {Pos: 15, Count: 0, At: 40}}, 0, 0, 0, nil},
	} {
		if n := index.Entries(c.l); n != c.n {
			t.Errorf("case %d: %d", i, n)
		}
		if x, y := index.Ends(c.l); x != c.first || y != c.end {
			t.Errorf("case %d: %d, %d", i, x, y)
		}
		if gaps := index.Gaps(c.l); !slices.Equal(gaps, c.gaps) {
			t.Errorf("case %d: %v", i, gaps)
		}
	}
}

// P32.2: Same holds all fields against each other, of any marks.
func TestSame(t *testing.T) {
	invalid := api.Mark{Pos: math.MaxUint64, Count: -1, At: -1}
	for i, c := range []struct {
		a, b []api.Mark
		want bool
	}{
		{nil, nil, true},
		{nil, []api.Mark{}, true},
		{[]api.Mark{}, nil, true},
		{nil, []api.Mark{{}}, false},
		{[]api.Mark{{}}, nil, false},
		{sample(), sample(), true},
		{sample(), sample()[:1], false},
		{sample()[:1], sample(), false},
		{sample(), []api.Mark{{Pos: 5, Count: 3, At: 10}, {Pos: 8, Count: 1, At: 40}}, false},
		{sample(), []api.Mark{{Pos: 5, Count: 3, At: 10}, {Pos: 9, Count: 2, At: 40}}, false},
		{sample(), []api.Mark{{Pos: 5, Count: 3, At: 10}, {Pos: 9, Count: 1, At: 41}}, false},
		{sample(), []api.Mark{{Pos: 4, Count: 3, At: 10}, {Pos: 9, Count: 1, At: 40}}, false},
		{sample(), []api.Mark{{Pos: 9, Count: 1, At: 40}, {Pos: 5, Count: 3, At: 10}}, false},
		{[]api.Mark{invalid}, []api.Mark{invalid}, true},
		{[]api.Mark{invalid}, []api.Mark{{}}, false},
		{full(17), full(17), true},
		{full(17), full(16), false},
	} {
		if index.Same(c.a, c.b) != c.want {
			t.Errorf("case %d: %v", i, !c.want)
		}
	}
}

// P32.3, P32.5: each position from the first to the last one is in one mark or in one gap, and no
// other one is in any.
func TestEachPositionOnce(t *testing.T) {
	rnd := rand.New(rand.NewSource(8))
	gapped := 0
	for range 3000 {
		var l []api.Mark
		pos, at := uint64(rnd.Intn(20)), 0
		for range rnd.Intn(17) {
			pos += uint64(rnd.Intn(3) * rnd.Intn(4))
			at += 1 + rnd.Intn(9)
			l = append(l, api.Mark{Pos: pos, Count: 1 + rnd.Intn(16), At: at})
			pos += uint64(l[len(l)-1].Count)
		}
		times := make([]int, pos+20)
		for _, m := range l {
			for k := range m.Count {
				times[m.Pos+uint64(k)]++
			}
		}
		gaps := index.Gaps(l)
		gapped += len(gaps)
		for i, g := range gaps {
			if g[0] >= g[1] || i > 0 && g[0] <= gaps[i-1][1] {
				t.Fatal(l, gaps)
			}
			for x := g[0]; x < g[1]; x++ {
				times[x]++
			}
		}
		first, end := index.Ends(l)
		for x, n := range times {
			want := 0
			if uint64(x) >= first && uint64(x) < end {
				want = 1
			}
			if n != want {
				t.Fatal(l, gaps, x, n)
			}
			m, ok := index.Find(l, uint64(x))
			in := 0
			for _, g := range gaps {
				if uint64(x) >= g[0] && uint64(x) < g[1] {
					in++
				}
			}
			if ok {
				in++
			}
			if in != want || ok && (uint64(x) < m.Pos || uint64(x) >= m.Pos+uint64(m.Count)) {
				t.Fatal(l, gaps, x, m, ok)
			}
		}
	}
	if gapped < 3000 {
		t.Error(gapped)
	}
}

// Rules 4 and 7: arguments stay as they are, and what is given is new memory.
func TestMemory(t *testing.T) {
	l := append(sample(), api.Mark{Pos: 20, Count: 2, At: 50})
	before := slices.Clone(l)
	b, _ := index.Bytes(l)
	c, _ := index.Bytes(l)
	b[0] = 77
	if !bytes.Equal(c, encoding(l)) {
		t.Error(c)
	}
	x, y := index.Gaps(l), index.Gaps(l)
	x[0] = [2]uint64{77, 78}
	if !slices.Equal(y, [][2]uint64{{8, 9}, {10, 20}}) {
		t.Error(y)
	}
	p, q := index.Read(cursor.New(c)), index.Read(cursor.New(c))
	p[0].Pos = 77
	if !slices.Equal(q, l) || !bytes.Equal(c, encoding(l)) {
		t.Error(q, c)
	}
	index.Find(l, 7)
	index.Near(l, 7)
	index.Same(l, l)
	index.Put(pen.New(5), l)
	if !slices.Equal(l, before) {
		t.Error(l)
	}
}

// Ways of layer 32: what Find and Near search with is a loop of a goto, and they have no other one.
func TestMarksAreFoundByGoto(t *testing.T) {
	file, err := parser.ParseFile(token.NewFileSet(), "index.go", nil, 0)
	if err != nil {
		t.Fatal(err)
	}
	decls := map[string]*ast.FuncDecl{}
	for _, d := range file.Decls {
		if f, ok := d.(*ast.FuncDecl); ok {
			decls[f.Name.Name] = f
		}
	}
	for _, name := range []string{"Find", "Near"} {
		jumps := 0
		look := func(n ast.Node) bool {
			switch x := n.(type) {
			case *ast.BranchStmt:
				if x.Tok == token.GOTO {
					jumps++
				}
			case *ast.ForStmt, *ast.RangeStmt:
				t.Error(name, "has another loop")
			}
			return true
		}
		ast.Inspect(decls[name], func(n ast.Node) bool {
			if call, ok := n.(*ast.CallExpr); ok {
				if f, ok := call.Fun.(*ast.Ident); ok && decls[f.Name] != nil {
					ast.Inspect(decls[f.Name], look)
				}
			}
			return look(n)
		})
		if jumps != 1 {
			t.Error(name, jumps)
		}
	}
}
