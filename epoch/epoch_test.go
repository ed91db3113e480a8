package epoch_test

import (
	"bytes"
	"go/ast"
	"go/parser"
	"go/token"
	"math"
	"slices"
	"testing"

	"tholepin/api"
	"tholepin/cursor"
	"tholepin/epoch"
	"tholepin/pen"
	"tholepin/varint"
)

var good = api.Fault{}

// top is 2^62, which is no epoch and no position, but a tail.
const top = uint64(1) << 62

// edges are small numbers, those around each power of two, and the greatest ones.
func edges() []uint64 {
	l := []uint64{0, 3, 5, 6, 7, 9, 10, 200, 300, 301, 1000, math.MaxUint64 - 1, math.MaxUint64, top + top/2}
	for k := range 64 {
		p := uint64(1) << k
		l = append(l, p-1, p, p+1)
	}
	slices.Sort(l)
	return slices.Compact(l)
}

// The definitions' words, counted in bits: all three kinds of number have at most 62, but for a
// tail that is the next number.
func isEpoch(x uint64) bool { return x>>62 == 0 && x != 0 }
func isPos(x uint64) bool   { return x>>62 == 0 }
func isTail(x uint64) bool  { return x>>62 == 0 || x == 4611686018427387904 }

// writer is one of the writing functions, with the numbers that it writes.
type writer struct {
	name string
	put  func(w *pen.Writer, x uint64)
	is   func(x uint64) bool
}

func writers() []writer {
	return []writer{{"Put", epoch.Put, isEpoch}, {"PutPos", epoch.PutPos, isPos}}
}

// reader is one of the reading functions, with the numbers that it reads.
type reader struct {
	name string
	read func(r *cursor.Reader) uint64
	is   func(x uint64) bool
}

func readers() []reader {
	return []reader{{"Read", epoch.Read, isEpoch}, {"ReadPos", epoch.ReadPos, isPos}, {"ReadTail", epoch.ReadTail, isTail}}
}

// at1 is a reader of one byte 5 and others, at position 1.
func at1(b ...byte) *cursor.Reader {
	r := cursor.New(append([]byte{5}, b...))
	r.Skip(1)
	return r
}

// expect checks where a reader is, and its fault.
func expect(t *testing.T, r *cursor.Reader, at int, f api.Fault) {
	t.Helper()
	if r.At() != at || r.Fault() != f {
		t.Errorf("at %d with %v, not %d with %v", r.At(), r.Fault(), at, f)
	}
}

// wrong are bytes that are no integer.
func wrong() [][]byte {
	return [][]byte{
		nil, {128}, {255, 255}, {128, 0}, {129, 0, 1}, {128, 128, 0},
		bytes.Repeat([]byte{128}, 9), append(bytes.Repeat([]byte{128}, 9), 2), append(bytes.Repeat([]byte{255}, 9), 0),
		bytes.Repeat([]byte{255}, 20),
	}
}

// P17.1, P17.2: the examples of the chapter.
func TestExamples(t *testing.T) {
	if epoch.Right(0) || !epoch.Right(1<<62-1) {
		t.Error(epoch.Right(0), epoch.Right(1<<62-1))
	}
	if epoch.Pos(1 << 62) {
		t.Error("2^62 is a position")
	}
	if e, ok := epoch.Latest(3, 9, 2); e != 9 || !ok {
		t.Error(e, ok)
	}
	if c := epoch.Admit(3, true, 3); c != api.ErrState {
		t.Error(c)
	}
	if c := epoch.Admit(3, false, 3); c != api.OK {
		t.Error(c)
	}
	if c := epoch.Admit(3, false, 4); c != api.ErrOrder {
		t.Error(c)
	}
	if c := epoch.Admit(3, true, 4); c != api.ErrOrder {
		t.Error(c)
	}
}

// P17.1: which numbers are epochs, and which are positions.
func TestRightAndPos(t *testing.T) {
	for x, want := range map[uint64][2]bool{
		0: {false, true}, 1: {true, true}, 2: {true, true}, 300: {true, true}, top - 2: {true, true}, top - 1: {true, true},
		top: {false, false}, top + 1: {false, false}, 1 << 63: {false, false}, 1<<63 + 1: {false, false}, math.MaxUint64: {false, false},
	} {
		if epoch.Right(x) != want[0] || epoch.Pos(x) != want[1] {
			t.Error(x, epoch.Right(x), epoch.Pos(x))
		}
	}
	for _, x := range edges() {
		if epoch.Right(x) != isEpoch(x) || epoch.Pos(x) != isPos(x) {
			t.Error(x, epoch.Right(x), epoch.Pos(x))
		}
	}
}

// P17.1: Put and PutPos write the integer behind what was written, and nothing of another number.
func TestPut(t *testing.T) {
	for _, c := range writers() {
		for _, x := range edges() {
			w := pen.New(20)
			w.Put(9)
			c.put(w, x)
			got, code := w.Bytes()
			switch {
			case !c.is(x):
				if code != api.ErrInvalid || w.Len() != 1 {
					t.Errorf("%s of %d: %d bytes with %d", c.name, x, w.Len(), code)
				}
			case code != api.OK || !bytes.Equal(got[1:], varint.Bytes(x)) || got[0] != 9:
				t.Errorf("%s of %d: %v with %d", c.name, x, got, code)
			}
		}
	}
}

// P17.1: a writer without room for all of a number has ErrLong and nothing of it, but a number
// that is none is ErrInvalid there too.
func TestPutWithoutRoom(t *testing.T) {
	for _, c := range writers() {
		for _, x := range edges() {
			want := api.ErrLong
			if !c.is(x) {
				want = api.ErrInvalid
			}
			for room := range varint.Size(x) {
				w := pen.New(room)
				c.put(w, x)
				if w.Code() != want || w.Len() != 0 {
					t.Errorf("%s of %d, room %d: %d bytes with %d", c.name, x, room, w.Len(), w.Code())
				}
			}
			w := pen.New(varint.Size(x))
			c.put(w, x)
			if c.is(x) && (w.Code() != api.OK || w.Room() != 0) {
				t.Errorf("%s of %d: room %d with %d", c.name, x, w.Room(), w.Code())
			}
		}
	}
}

// P17.1: with a code nothing is written and the code is kept, and a nil writer takes everything.
func TestPutAfterACode(t *testing.T) {
	for _, c := range writers() {
		for _, x := range []uint64{0, 1, 300, top, math.MaxUint64} {
			w := pen.New(20)
			w.Fail(api.ErrSum)
			c.put(w, x)
			if w.Code() != api.ErrSum || w.Len() != 0 {
				t.Error(c.name, x, w.Code(), w.Len())
			}
			c.put(nil, x)
		}
		w := pen.New(20)
		c.put(w, top)
		c.put(w, 300) // after ErrInvalid nothing more is written
		if w.Code() != api.ErrInvalid || w.Len() != 0 {
			t.Error(c.name, w.Code(), w.Len())
		}
	}
}

// P17.1: each number is read if it is one of its kind, and is ErrInvalid at its first byte otherwise.
func TestRead(t *testing.T) {
	for _, c := range readers() {
		for _, x := range edges() {
			b := varint.Bytes(x)
			for _, behind := range [][]byte{nil, {0}, {128}, {255, 255}} {
				r := at1(append(slices.Clone(b), behind...)...)
				got, want, f := c.read(r), x, good
				if !c.is(x) {
					want, f = 0, api.Fault{Code: api.ErrInvalid, At: 1}
				}
				if got != want || r.Fault() != f {
					t.Errorf("%s of %d: %d with %v", c.name, x, got, r.Fault())
				}
				if f == good {
					expect(t, r, 1+len(b), good)
				}
			}
			for n := range b { // nothing less than all of it
				r := at1(b[:n]...)
				if got := c.read(r); got != 0 || r.Fault() != (api.Fault{Code: api.ErrShort, At: 1 + n}) {
					t.Errorf("%s of %d bytes of %d: %d with %v", c.name, n, x, got, r.Fault())
				}
			}
		}
	}
}

// P17.1: what is no integer has the fault of varint.Read, ahead of ErrInvalid.
func TestReadRefuses(t *testing.T) {
	for _, b := range wrong() {
		q := at1(b...)
		varint.Read(q)
		if q.Good() {
			t.Fatal(b, "is an integer")
		}
		for _, c := range readers() {
			r := at1(b...)
			if got := c.read(r); got != 0 {
				t.Errorf("%s of %v: %d", c.name, b, got)
			}
			expect(t, r, q.At(), q.Fault())
		}
	}
	r := at1(128, 0) // no epoch either way
	if epoch.Read(r) != 0 || r.Fault() != (api.Fault{Code: api.ErrNonMinimal, At: 2}) {
		t.Error(r.Fault())
	}
}

// P17.1: a reader with a fault keeps it and its position, and a nil reader gives 0.
func TestFaultIsKept(t *testing.T) {
	for _, c := range readers() {
		for _, b := range append(wrong(), []byte{0}, []byte{7}, []byte{172, 2}, varint.Bytes(top+1)) {
			r := at1(b...)
			r.Fail(api.ErrRest, 8)
			if got := c.read(r); got != 0 {
				t.Errorf("%s of %v: %d", c.name, b, got)
			}
			expect(t, r, 1, api.Fault{Code: api.ErrRest, At: 8})
		}
		if got := c.read(nil); got != 0 {
			t.Error(c.name, got)
		}
	}
}

// P17.1: numbers are read one behind the other, within their part of the bytes.
func TestReadRowsAndParts(t *testing.T) {
	r := at1(slices.Concat([]byte{3, 172, 2, 0}, varint.Bytes(top), varint.Bytes(top), []byte{1})...)
	if e, x, y, z := epoch.Read(r), epoch.ReadPos(r), epoch.ReadPos(r), epoch.ReadTail(r); e != 3 || x != 300 || y != 0 || z != top {
		t.Error(e, x, y, z)
	}
	expect(t, r, 14, good)
	if x := epoch.ReadPos(r); x != 0 || r.Fault() != (api.Fault{Code: api.ErrInvalid, At: 14}) {
		t.Error(x, r.Fault())
	}
	if e := epoch.Read(r); e != 0 || r.Fault() != (api.Fault{Code: api.ErrInvalid, At: 14}) {
		t.Error(e, r.Fault())
	}
	q := at1(172, 2)
	p := q.Part(1)
	if e := epoch.Read(p); e != 0 || p.Fault() != (api.Fault{Code: api.ErrShort, At: 2}) {
		t.Error(e, p.Fault())
	}
	expect(t, q, 1, good)
}

// P17.2: Next is one more, if both are epochs.
func TestNext(t *testing.T) {
	for _, e := range edges() {
		next, ok := epoch.Next(e)
		switch {
		case e == 0 || e >= top-1:
			if next != 0 || ok {
				t.Error(e, next, ok)
			}
		case next != e+1 || !ok:
			t.Error(e, next, ok)
		}
	}
	if e, ok := epoch.Next(top - 2); e != top-1 || !ok {
		t.Error(e, ok)
	}
	if e, ok := epoch.Next(math.MaxUint64); e != 0 || ok { // the next number is 0
		t.Error(e, ok)
	}
}

// P17.2: Latest of all lists of up to four of some numbers is the last of them in order, if all are epochs.
func TestLatest(t *testing.T) {
	lists := [][]uint64{nil}
	for i := 0; i < len(lists) && len(lists[i]) < 4; i++ {
		for _, e := range []uint64{0, 1, 2, 9, top - 1, top, math.MaxUint64} {
			lists = append(lists, append(slices.Clone(lists[i]), e))
		}
	}
	for _, l := range lists {
		sorted := slices.Clone(l)
		slices.Sort(sorted)
		want, wanted := uint64(0), len(l) > 0 && isEpoch(sorted[0]) && isEpoch(sorted[len(l)-1])
		if wanted {
			want = sorted[len(l)-1]
		}
		before := slices.Clone(l)
		if e, ok := epoch.Latest(l...); e != want || ok != wanted {
			t.Fatal(l, e, ok)
		}
		if !slices.Equal(l, before) {
			t.Fatal(before, l)
		}
	}
	if e, ok := epoch.Latest(); e != 0 || ok {
		t.Error(e, ok)
	}
	var long []uint64
	for k := range uint64(1000) {
		long = append(long, 1+(k*617)%1000)
	}
	if e, ok := epoch.Latest(long...); e != 1000 || !ok {
		t.Error(e, ok)
	}
	if e, ok := epoch.Latest(append(long, 0)...); e != 0 || ok {
		t.Error(e, ok)
	}
}

// P17.2: Admit, for all pairs of edges, sealed or not.
func TestAdmit(t *testing.T) {
	seen := map[api.Errno]int{}
	for _, own := range edges() {
		for _, e := range edges() {
			for _, sealed := range []bool{false, true} {
				want := api.ErrState
				if !isEpoch(own) || !isEpoch(e) {
					want = api.ErrInvalid
				} else if own == e && !sealed {
					want = api.OK
				} else if own < e {
					want = api.ErrOrder
				}
				seen[want]++
				if got := epoch.Admit(own, sealed, e); got != want {
					t.Errorf("Admit(%d, %v, %d) = %d, not %d", own, sealed, e, got, want)
				}
			}
		}
	}
	if len(seen) != 4 {
		t.Error(seen)
	}
}

// P17.2: Admit, row by row, as the chapter words it.
func TestAdmitRows(t *testing.T) {
	for _, c := range []struct {
		own    uint64
		sealed bool
		e      uint64
		want   api.Errno
	}{
		{3, false, 2, api.ErrState},
		{3, true, 2, api.ErrState},
		{3, false, top - 1, api.ErrOrder},
		{top - 1, false, top - 1, api.OK},
		{top - 1, true, top - 1, api.ErrState},
		{1, false, 1, api.OK},
		{0, false, 0, api.ErrInvalid},
		{0, true, 3, api.ErrInvalid},
		{3, false, 0, api.ErrInvalid},
		{3, true, 0, api.ErrInvalid},
		{3, false, top, api.ErrInvalid}, // ahead of ErrOrder
		{top, false, 3, api.ErrInvalid}, // ahead of ErrState
		{top, false, top, api.ErrInvalid},
		{math.MaxUint64, true, math.MaxUint64, api.ErrInvalid},
	} {
		if got := epoch.Admit(c.own, c.sealed, c.e); got != c.want {
			t.Errorf("Admit(%d, %v, %d) = %d, not %d", c.own, c.sealed, c.e, got, c.want)
		}
	}
}

// P17.3: what was written is read back.
func TestRoundTrip(t *testing.T) {
	for _, x := range edges() {
		w := pen.New(40)
		epoch.PutPos(w, x)
		if b, code := w.Bytes(); code == api.OK {
			for _, read := range []func(r *cursor.Reader) uint64{epoch.ReadPos, epoch.ReadTail} {
				r := at1(b...)
				if got := read(r); got != x || r.Left() != 0 || !r.Good() {
					t.Error(x, got, r.Fault())
				}
			}
		} else if isPos(x) {
			t.Error(x, code)
		}
		w = pen.New(40)
		epoch.Put(w, x)
		if b, code := w.Bytes(); code == api.OK {
			r := at1(b...)
			if got := epoch.Read(r); got != x || r.Left() != 0 || !r.Good() {
				t.Error(x, got, r.Fault())
			}
		} else if isEpoch(x) {
			t.Error(x, code)
		}
	}
}

// P17.3: what is accepted is written with the same bytes.
func TestOneEncoding(t *testing.T) {
	accepted, refused := 0, 0
	for k := range 1 << 16 {
		for _, b := range [][]byte{{byte(k), byte(k >> 8)}, {128, byte(k), byte(k >> 8)}} {
			for i, c := range readers()[:2] {
				r, w := cursor.New(b), pen.New(9)
				writers()[i].put(w, c.read(r))
				if !r.Good() {
					refused++
					continue
				}
				accepted++
				if got, code := w.Bytes(); code != api.OK || !bytes.Equal(got, r.Since(0)) {
					t.Fatal(c.name, b, got, code)
				}
			}
		}
	}
	if accepted < 10000 || refused < 1000 {
		t.Error(accepted, refused)
	}
}

// P17.3: a sealed node does not admit the epoch that it admitted unsealed, and nodes that admit
// the same epoch have the same one.
func TestAdmitConsequences(t *testing.T) {
	admitted := 0
	for _, e := range edges() {
		var nodes []uint64
		for _, own := range edges() {
			if epoch.Admit(own, true, e) == api.OK {
				t.Error("sealed in", own, "admits", e)
			}
			if epoch.Admit(own, false, e) == api.OK {
				nodes = append(nodes, own)
			}
		}
		if len(nodes) > 1 || len(nodes) == 1 != isEpoch(e) {
			t.Error(e, nodes)
		}
		admitted += len(nodes)
	}
	if admitted < 60 {
		t.Error(admitted)
	}
}

// P17.1: the bytes that are read are not changed.
func TestBytesStay(t *testing.T) {
	b := []byte{3, 172, 2, 0, 128}
	r := cursor.New(b)
	epoch.Read(r)
	epoch.ReadPos(r)
	epoch.ReadTail(r)
	epoch.Read(r)
	if !bytes.Equal(b, []byte{3, 172, 2, 0, 128}) {
		t.Error(b)
	}
}

// Ways of layer 17: Latest takes any number of epochs.
func TestLatestIsVariadic(t *testing.T) {
	file, err := parser.ParseFile(token.NewFileSet(), "epoch.go", nil, 0)
	if err != nil {
		t.Fatal(err)
	}
	found := false
	for _, d := range file.Decls {
		f, ok := d.(*ast.FuncDecl)
		if !ok || f.Name.Name != "Latest" {
			continue
		}
		l := f.Type.Params.List
		_, found = l[len(l)-1].Type.(*ast.Ellipsis)
	}
	if !found {
		t.Error("Latest is not variadic")
	}
}
