package zigzag_test

import (
	"bytes"
	"go/ast"
	"go/parser"
	"go/token"
	"math"
	"math/big"
	"slices"
	"testing"

	"tholepin/api"
	"tholepin/cursor"
	"tholepin/pen"
	"tholepin/varint"
	"tholepin/zigzag"
)

var good = api.Fault{}

// signed are small numbers of both signs, and those around each power of two.
func signed() []int64 {
	var l []int64
	for n := range int64(3000) {
		l = append(l, n, -n)
	}
	for k := range 63 {
		p := int64(1) << k
		l = append(l, p-1, p, p+1, -p-1, -p, -p+1)
	}
	return append(l, math.MaxInt64-1, math.MaxInt64, math.MinInt64, math.MinInt64+1)
}

// form is the definition's words, counted without a bound: 2n, or -2n - 1 for a negative n.
func form(n int64) uint64 {
	x := new(big.Int).Mul(big.NewInt(2), big.NewInt(n))
	if n < 0 {
		x.Neg(x).Sub(x, big.NewInt(1))
	}
	return x.Uint64()
}

// rises is the definition's words.
func rises(l []uint64) bool {
	for k := 1; k < len(l); k++ {
		if !(l[k] > l[k-1]) {
			return false
		}
	}
	return true
}

// encoding is the definition's words: the first number, then each difference minus 1.
func encoding(l []uint64) []byte {
	var b []byte
	for k, x := range l {
		if k > 0 {
			x = x - l[k-1] - 1
		}
		b = append(b, varint.Bytes(x)...)
	}
	return b
}

// lists are all lists of up to four of some numbers, rising or not.
func lists() [][]uint64 {
	l := [][]uint64{nil}
	for i := 0; i < len(l) && len(l[i]) < 4; i++ {
		for _, x := range []uint64{0, 1, 2, 127, 128, 300, 1 << 63, math.MaxUint64 - 1, math.MaxUint64} {
			l = append(l, append(slices.Clone(l[i]), x))
		}
	}
	return l
}

// at1 is a reader of one byte 5 and others, at position 1.
func at1(b ...byte) *cursor.Reader {
	r := cursor.New(append([]byte{5}, b...))
	r.Skip(1)
	return r
}

// expect checks where a reader is, and its fault.
func expect(t *testing.T, r *cursor.Reader, at int, f api.Fault) {
	t.Helper()
	if r.At() != at || r.Fault() != f {
		t.Errorf("at %d with %v, not %d with %v", r.At(), r.Fault(), at, f)
	}
}

// join is integers, one behind the other.
func join(l ...uint64) []byte {
	var b []byte
	for _, x := range l {
		b = append(b, varint.Bytes(x)...)
	}
	return b
}

// P5.1, P5.2: the examples of the chapter.
func TestExamples(t *testing.T) {
	if zigzag.Zig(-2) != 3 || zigzag.Zig(-1) != 1 || zigzag.Zag(4) != 2 {
		t.Error(zigzag.Zig(-2), zigzag.Zig(-1), zigzag.Zag(4))
	}
	if zigzag.Rises([]uint64{1, 1}) {
		t.Error("1, 1 rises")
	}
	w := pen.New(9)
	zigzag.PutRising(w, []uint64{5, 6, 300})
	if b, code := w.Bytes(); code != api.OK || !bytes.Equal(b, []byte{0x05, 0x00, 0xa5, 0x02}) {
		t.Error(b, code)
	}
	if n := zigzag.RisingSize([]uint64{5, 6, 300}); n != 4 {
		t.Error(n)
	}
	if l := zigzag.ReadRising(cursor.New([]byte{5, 0, 165, 2}), 3); !slices.Equal(l, []uint64{5, 6, 300}) {
		t.Error(l)
	}
	v := pen.New(9)
	zigzag.PutRising(v, []uint64{2, 1})
	if v.Code() != api.ErrInvalid || v.Len() != 0 {
		t.Error(v.Code(), v.Len())
	}
}

// P5.1: Zig is the zigzag form, and Zag finds the number that has it.
func TestZigAndZag(t *testing.T) {
	for n, x := range map[int64]uint64{
		0: 0, -1: 1, 1: 2, -2: 3, 2: 4, 63: 126, -64: 127, 64: 128,
		math.MaxInt64: math.MaxUint64 - 1, math.MinInt64: math.MaxUint64, math.MinInt64 + 1: math.MaxUint64 - 2,
	} {
		if zigzag.Zig(n) != x || zigzag.Zag(x) != n {
			t.Errorf("Zig(%d) = %d, Zag(%d) = %d", n, zigzag.Zig(n), x, zigzag.Zag(x))
		}
	}
	for _, n := range signed() {
		x := zigzag.Zig(n)
		if x != form(n) || zigzag.Zag(x) != n {
			t.Errorf("Zig(%d) = %d, Zag of it %d", n, x, zigzag.Zag(x))
		}
	}
	for x := range uint64(1 << 12) {
		for _, y := range []uint64{x, math.MaxUint64 - x, 1<<63 - x, 1<<63 + x} {
			if zigzag.Zig(zigzag.Zag(y)) != y {
				t.Errorf("Zag(%d) = %d", y, zigzag.Zag(y))
			}
		}
	}
}

// P5.1: Put writes the form as an integer, whole or not at all.
func TestPut(t *testing.T) {
	for _, n := range signed() {
		want := varint.Bytes(form(n))
		w := pen.New(len(want) + 1)
		w.Put(9)
		zigzag.Put(w, n)
		if b, code := w.Bytes(); code != api.OK || !bytes.Equal(b[1:], want) {
			t.Fatal(n, b, code)
		}
		v := pen.New(len(want) - 1)
		zigzag.Put(v, n)
		if v.Code() != api.ErrLong || v.Len() != 0 {
			t.Fatal(n, v.Code(), v.Len())
		}
	}
	w := pen.New(9)
	w.Fail(api.ErrSum)
	zigzag.Put(w, 1)
	if w.Code() != api.ErrSum || w.Len() != 0 {
		t.Error(w.Code(), w.Len())
	}
	zigzag.Put(nil, 1)
}

// P5.1, P5.3: Read gives back what Put wrote, whatever follows, and writing it gives the same bytes.
func TestRead(t *testing.T) {
	for _, n := range signed() {
		b := varint.Bytes(form(n))
		for _, behind := range [][]byte{nil, {0}, {1}, {128}, {255, 255}} {
			r := at1(append(slices.Clone(b), behind...)...)
			if got := zigzag.Read(r); got != n {
				t.Fatalf("%v is read as %d, not %d", b, got, n)
			}
			expect(t, r, 1+len(b), good)
		}
	}
}

// P5.1: Read has the faults of varint.Read, and then gives 0.
func TestReadRefuses(t *testing.T) {
	for _, c := range []struct {
		b []byte
		f api.Fault
	}{
		{nil, api.Fault{Code: api.ErrShort, At: 1}},
		{[]byte{128}, api.Fault{Code: api.ErrShort, At: 2}},
		{[]byte{131, 0}, api.Fault{Code: api.ErrNonMinimal, At: 2}},
		{append(bytes.Repeat([]byte{255}, 9), 2), api.Fault{Code: api.ErrOverflow, At: 10}},
	} {
		r := at1(c.b...)
		if n := zigzag.Read(r); n != 0 || r.Fault() != c.f {
			t.Errorf("%v is read as %d with %v", c.b, n, r.Fault())
		}
	}
	r := at1(3)
	r.Fail(api.ErrRest, 8)
	if n := zigzag.Read(r); n != 0 {
		t.Error(n)
	}
	expect(t, r, 1, api.Fault{Code: api.ErrRest, At: 8})
	if n := zigzag.Read(nil); n != 0 {
		t.Error(n)
	}
}

// P5.2: a list rises if each number is greater than the one before.
func TestRises(t *testing.T) {
	for _, l := range [][]uint64{nil, {}, {0}, {math.MaxUint64}, {0, 1}, {5, 6, 300}, {0, math.MaxUint64}} {
		if !zigzag.Rises(l) {
			t.Errorf("%v does not rise", l)
		}
	}
	for _, l := range [][]uint64{{0, 0}, {1, 1}, {2, 1}, {1, 0}, {math.MaxUint64, 0}, {1, 2, 2}, {1, 3, 2}, {2, 1, 3}, {1, 1, 2}, {math.MaxUint64, math.MaxUint64}} {
		if zigzag.Rises(l) {
			t.Errorf("%v rises", l)
		}
	}
	for _, l := range lists() {
		if zigzag.Rises(l) != rises(l) {
			t.Errorf("Rises(%v) = %v", l, zigzag.Rises(l))
		}
	}
}

// P5.2: PutRising writes the encoding of a rising list, of RisingSize bytes, and nothing of another one.
func TestPutRisingAndSize(t *testing.T) {
	for _, l := range lists() {
		want := encoding(l)
		if !rises(l) {
			for _, room := range []int{0, 1, 100} {
				w := pen.New(1 + room)
				w.Put(9)
				zigzag.PutRising(w, l)
				if w.Code() != api.ErrInvalid || w.Len() != 1 {
					t.Fatal(l, room, w.Code(), w.Len())
				}
			}
			if n := zigzag.RisingSize(l); n != 0 {
				t.Fatal(l, n)
			}
			continue
		}
		w := pen.New(1 + len(want))
		w.Put(9)
		zigzag.PutRising(w, l)
		if b, code := w.Bytes(); code != api.OK || !bytes.Equal(b[1:], want) {
			t.Fatal(l, b, code)
		}
		if n := zigzag.RisingSize(l); n != len(want) {
			t.Fatal(l, n)
		}
	}
}

// P5.2: with less room than it needs a list gives ErrLong, and with a code nothing is written.
func TestPutRisingIntoLittleRoom(t *testing.T) {
	l := []uint64{5, 6, 300}
	for room := range 4 {
		w := pen.New(room)
		zigzag.PutRising(w, l)
		b, code := w.Bytes()
		if code != api.ErrLong || b != nil || w.Len() > room {
			t.Error(room, b, code, w.Len())
		}
	}
	for _, l := range [][]uint64{l, {2, 1}, nil} {
		w := pen.New(9)
		w.Fail(api.ErrSum)
		zigzag.PutRising(w, l)
		if w.Code() != api.ErrSum || w.Len() != 0 {
			t.Error(l, w.Code(), w.Len())
		}
		zigzag.PutRising(nil, l)
	}
	w := pen.New(0) // there is room for nothing
	zigzag.PutRising(w, nil)
	zigzag.PutRising(w, []uint64{})
	if w.Code() != api.OK {
		t.Error(w.Code())
	}
}

// P5.2: ReadRising reads as many numbers as are asked for, and no more.
func TestReadRising(t *testing.T) {
	b := []byte{5, 0, 165, 2, 128}
	for n, want := range [][]uint64{{}, {5}, {5, 6}, {5, 6, 300}} {
		r := at1(b...)
		if l := zigzag.ReadRising(r, n); !slices.Equal(l, want) {
			t.Errorf("%d numbers are %v", n, l)
		}
		expect(t, r, 1+[]int{0, 1, 2, 4}[n], good)
	}
	for _, n := range []int{-1, -3, math.MinInt} {
		r := at1(b...)
		if l := zigzag.ReadRising(r, n); len(l) != 0 {
			t.Error(n, l)
		}
		expect(t, r, 1, good)
	}
	for _, n := range []int{4, 5, 1 << 40, math.MaxInt} { // ends at the first fault
		r := at1(b...)
		if l := zigzag.ReadRising(r, n); l != nil || r.Fault() != (api.Fault{Code: api.ErrShort, At: 6}) {
			t.Error(n, l, r.Fault())
		}
	}
}

// P5.2: each fault of ReadRising, the first one, and nothing beside it.
func TestReadRisingRefuses(t *testing.T) {
	const top = math.MaxUint64
	for i, c := range []struct {
		b    []byte
		n    int
		want []uint64
		f    api.Fault
	}{
		{nil, 1, nil, api.Fault{Code: api.ErrShort, At: 1}},
		{[]byte{7}, 2, nil, api.Fault{Code: api.ErrShort, At: 2}},
		{[]byte{7, 128}, 2, nil, api.Fault{Code: api.ErrShort, At: 3}},
		{[]byte{7, 128, 0}, 2, nil, api.Fault{Code: api.ErrNonMinimal, At: 3}},
		{append([]byte{7}, append(bytes.Repeat([]byte{255}, 9), 2)...), 2, nil, api.Fault{Code: api.ErrOverflow, At: 11}},
		{[]byte{128, 0, 7}, 2, nil, api.Fault{Code: api.ErrNonMinimal, At: 2}},
		{join(top), 1, []uint64{top}, good},
		{join(top, 0), 2, nil, api.Fault{Code: api.ErrOrder, At: 11}},
		{join(top, top), 2, nil, api.Fault{Code: api.ErrOrder, At: 11}},
		{join(top-1, 0), 2, []uint64{top - 1, top}, good},
		{join(top-1, 1), 2, nil, api.Fault{Code: api.ErrOrder, At: 11}},
		{join(top-1, 0, 0), 3, nil, api.Fault{Code: api.ErrOrder, At: 12}},
		{join(0, top-1), 2, []uint64{0, top}, good},
		{join(0, top), 2, nil, api.Fault{Code: api.ErrOrder, At: 2}},
		{join(5, top-6), 2, []uint64{5, top}, good},
		{join(5, top-5), 2, nil, api.Fault{Code: api.ErrOrder, At: 2}},
		{join(300, 1, top), 3, nil, api.Fault{Code: api.ErrOrder, At: 4}},
		{append(join(top, 0), 128), 3, nil, api.Fault{Code: api.ErrOrder, At: 11}},                   // ahead of the later ErrShort
		{append(join(top), 128), 2, nil, api.Fault{Code: api.ErrShort, At: 12}},                      // no number, so none that is too great
		{append(join(top), 128, 0), 2, nil, api.Fault{Code: api.ErrNonMinimal, At: 12}},              // likewise
		{append(join(1<<63), join(1<<63-1)...), 2, nil, api.Fault{Code: api.ErrOrder, At: 11}},       // 2^64
		{append(join(1<<63), join(1<<63-2)...), 2, []uint64{1 << 63, top}, good},                     // 2^64 - 1
		{append(join(1<<63), join(1<<63-3)...), 2, []uint64{1 << 63, math.MaxUint64 - 1}, good},      // 2^64 - 2
		{append(join(1<<63+5), join(1<<63+5)...), 2, nil, api.Fault{Code: api.ErrOrder, At: 1 + 10}}, // far beyond
	} {
		r := at1(c.b...)
		l := zigzag.ReadRising(r, c.n)
		if !slices.Equal(l, c.want) || r.Fault() != c.f || c.f != good && l != nil {
			t.Errorf("case %d: %v with %v", i, l, r.Fault())
		}
	}
}

// P5.2: a reader with a fault keeps it and its position, and gives nothing.
func TestFaultIsKept(t *testing.T) {
	for _, n := range []int{-1, 0, 1, 3, math.MaxInt} {
		r := at1(5, 0, 165, 2)
		r.Fail(api.ErrRest, 8)
		if l := zigzag.ReadRising(r, n); l != nil {
			t.Error(n, l)
		}
		expect(t, r, 1, api.Fault{Code: api.ErrRest, At: 8})
		if l := zigzag.ReadRising(nil, n); l != nil {
			t.Error(n, l)
		}
	}
}

// P5.3: what was written is read back, whatever follows, and nothing less than all of it is the list.
func TestRoundTrip(t *testing.T) {
	all := lists()
	var long []uint64
	for k := range uint64(2000) {
		long = append(long, k*k*k*k*5+k)
	}
	for _, l := range append(all, long) {
		if !rises(l) {
			continue
		}
		w := pen.New(1 << 20)
		zigzag.PutRising(w, l)
		b, _ := w.Bytes()
		for _, behind := range [][]byte{nil, {0}, {128}, {255, 255, 255}} {
			r := at1(append(slices.Clone(b), behind...)...)
			if got := zigzag.ReadRising(r, len(l)); !slices.Equal(got, l) {
				t.Fatalf("%v is read back as %v", l, got)
			}
			expect(t, r, 1+len(b), good)
		}
		if len(l) == 0 {
			continue
		}
		r := at1(b[:len(b)-1]...)
		if got := zigzag.ReadRising(r, len(l)); got != nil || r.Fault() != (api.Fault{Code: api.ErrShort, At: len(b)}) {
			t.Fatalf("all but a byte of %v: %v with %v", l, got, r.Fault())
		}
	}
}

// P5.3: a list that was read rises, and writing it gives the bytes that were read.
func TestOneEncoding(t *testing.T) {
	parts := [][]byte{{0}, {1}, {127}, {128, 0}, {128, 1}, {172, 2}, {255}, join(1 << 63), join(math.MaxUint64 - 1), join(math.MaxUint64)}
	texts := [][]byte{nil}
	for range 4 {
		for _, b := range slices.Clone(texts) {
			for _, p := range parts {
				texts = append(texts, append(slices.Clone(b), p...))
			}
		}
	}
	accepted, refused := 0, 0
	for _, b := range texts {
		for n := range 5 {
			r := cursor.New(b)
			l := zigzag.ReadRising(r, n)
			if !r.Good() {
				refused++
				continue
			}
			accepted++
			w := pen.New(len(b))
			zigzag.PutRising(w, l)
			if got, code := w.Bytes(); !rises(l) || len(l) != n || code != api.OK || !bytes.Equal(got, r.Since(0)) {
				t.Fatalf("%v is read as %v, which is written as %v", b, l, got)
			}
		}
	}
	if accepted < 10000 || refused < 10000 {
		t.Error("too few to tell:", accepted, refused)
	}
}

// P5.2: arguments are not changed, and results are new memory.
func TestMemory(t *testing.T) {
	l := []uint64{5, 6, 300}
	w := pen.New(9)
	zigzag.PutRising(w, l)
	zigzag.RisingSize(l)
	zigzag.Rises(l)
	if !slices.Equal(l, []uint64{5, 6, 300}) {
		t.Error(l)
	}
	b := []byte{5, 0, 165, 2}
	x, y := zigzag.ReadRising(cursor.New(b), 3), zigzag.ReadRising(cursor.New(b), 3)
	x[0] = 9
	b[1] = 9
	if !slices.Equal(y, []uint64{5, 6, 300}) || !bytes.Equal(b, []byte{5, 9, 165, 2}) {
		t.Error(y, b)
	}
}

// Ways of layer 5: each function that visits a list ranges over an integer, and has no other loop.
func TestListsAreVisitedByIntegers(t *testing.T) {
	file, err := parser.ParseFile(token.NewFileSet(), "zigzag.go", nil, 0)
	if err != nil {
		t.Fatal(err)
	}
	ranges := map[string]int{}
	for _, d := range file.Decls {
		f, ok := d.(*ast.FuncDecl)
		if !ok {
			continue
		}
		ast.Inspect(f, func(n ast.Node) bool {
			switch x := n.(type) {
			case *ast.RangeStmt:
				list, isName := x.X.(*ast.Ident)
				if x.Value != nil || isName && list.Name == "l" {
					t.Error(f.Name.Name, "ranges over a list")
				}
				ranges[f.Name.Name]++
			case *ast.ForStmt:
				t.Error(f.Name.Name, "has another loop")
			}
			return true
		})
	}
	for _, name := range []string{"Rises", "PutRising", "ReadRising", "RisingSize"} {
		if ranges[name] == 0 {
			t.Error(name, "ranges over nothing")
		}
	}
}
