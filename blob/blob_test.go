package blob_test

import (
	"bytes"
	"go/ast"
	"go/parser"
	"go/token"
	"math"
	"slices"
	"testing"

	"tholepin/api"
	"tholepin/blob"
	"tholepin/cursor"
	"tholepin/pen"
	"tholepin/varint"
)

var good = api.Fault{}

// at1 is a reader of one byte 5 and others, at position 1.
func at1(b ...byte) *cursor.Reader {
	r := cursor.New(append([]byte{5}, b...))
	r.Skip(1)
	return r
}

// failed is such a reader with a fault.
func failed(b ...byte) *cursor.Reader {
	r := at1(b...)
	r.Fail(api.ErrRest, 8)
	return r
}

// expect checks where a reader is, and its fault.
func expect(t *testing.T, r *cursor.Reader, at int, f api.Fault) {
	t.Helper()
	if r.At() != at || r.Fault() != f {
		t.Errorf("at %d with %v, not %d with %v", r.At(), r.Fault(), at, f)
	}
}

// count is n bytes that differ.
func count(n int) []byte {
	b := make([]byte, n)
	for i := range b {
		b[i] = byte(i * 7)
	}
	return b
}

// blobs are byte strings of each length at which the length's encoding grows.
func blobs() [][]byte {
	return [][]byte{nil, {}, {0}, {128}, {7, 8}, count(127), count(128), count(200), count(16383), count(16384), count(100000)}
}

// lists are all lists of up to three of some integers, and a long one.
func lists() [][]uint64 {
	l := [][]uint64{nil}
	for i := 0; i < len(l) && len(l[i]) < 3; i++ {
		for _, x := range []uint64{0, 1, 127, 128, 300, 1 << 63, math.MaxUint64} {
			l = append(l, append(slices.Clone(l[i]), x))
		}
	}
	var long []uint64
	for k := range uint64(300) {
		long = append(long, (300-k)*k*k*k*k)
	}
	return append(l, long)
}

// encoding is the definition's words: how many integers, and the integers.
func encoding(l []uint64) []byte {
	b := varint.Bytes(uint64(len(l)))
	for _, x := range l {
		b = append(b, varint.Bytes(x)...)
	}
	return b
}

// P6.1, P6.2: the examples of the chapter.
func TestExamples(t *testing.T) {
	w := pen.New(9)
	blob.Put(w, []byte{7, 8})
	if b, code := w.Bytes(); code != api.OK || !bytes.Equal(b, []byte{0x02, 0x07, 0x08}) {
		t.Error(b, code)
	}
	v := pen.New(9)
	blob.PutList(v, []uint64{300, 1})
	if b, code := v.Bytes(); code != api.OK || !bytes.Equal(b, []byte{0x02, 0xac, 0x02, 0x01}) {
		t.Error(b, code)
	}
	r := cursor.New([]byte{3, 1})
	if b := blob.Read(r, 2); b != nil || r.Fault() != (api.Fault{Code: api.ErrLong, At: 0}) {
		t.Error(b, r.Fault())
	}
	if n := blob.Size(200); n != 202 {
		t.Error(n)
	}
	if x := blob.ReadFixed(cursor.New([]byte{1, 2}), 2); x != 513 {
		t.Error(x)
	}
	if l := blob.ReadList(cursor.New([]byte{1, 5}), 1); !slices.Equal(l, []uint64{5}) {
		t.Error(l)
	}
}

// P6.1: Put writes the length and the bytes, of Size bytes in all.
func TestPutAndSize(t *testing.T) {
	for _, b := range blobs() {
		want := append(varint.Bytes(uint64(len(b))), b...)
		w := pen.New(1 + len(want))
		w.Put(9)
		blob.Put(w, b)
		if got, code := w.Bytes(); code != api.OK || !bytes.Equal(got[1:], want) {
			t.Errorf("a blob of %d bytes: %d bytes with %d", len(b), len(got), code)
		}
		if n := blob.Size(len(b)); n != len(want) {
			t.Errorf("Size(%d) = %d", len(b), n)
		}
		v := pen.New(len(want) - 1)
		blob.Put(v, b)
		if got, code := v.Bytes(); code != api.ErrLong || got != nil || v.Len() > len(want)-1 {
			t.Errorf("a blob of %d bytes in too little room: %d with %d", len(b), v.Len(), code)
		}
	}
	for n, want := range map[int]int{-1: 1, -200: 1, math.MinInt: 1, 0: 1, 1: 2, 127: 128, 128: 130, 1 << 20: 1<<20 + 3, 1<<31 - 1: 1<<31 + 4} {
		if got := blob.Size(n); got != want {
			t.Errorf("Size(%d) = %d", n, got)
		}
	}
}

// P6.1, P6.2: with a code nothing is written, and a nil writer takes everything.
func TestPutAfterACode(t *testing.T) {
	w := pen.New(9)
	w.Fail(api.ErrSum)
	blob.Put(w, []byte{7, 8})
	blob.Put(w, nil)
	blob.PutList(w, []uint64{300, 1})
	blob.PutList(w, nil)
	if w.Code() != api.ErrSum || w.Len() != 0 {
		t.Error(w.Code(), w.Len())
	}
	blob.Put(nil, []byte{7, 8})
	blob.PutList(nil, []uint64{300, 1})
}

// P6.1, P6.3: Read gives back what Put wrote, whatever follows, up to most bytes and no more.
func TestRead(t *testing.T) {
	for _, want := range blobs() {
		b := append(varint.Bytes(uint64(len(want))), want...)
		for _, behind := range [][]byte{nil, {0}, {128}, {255, 255}} {
			for _, most := range []int{len(want), len(want) + 1, math.MaxInt} {
				r := at1(append(slices.Clone(b), behind...)...)
				if got := blob.Read(r, most); !bytes.Equal(got, want) {
					t.Errorf("%d bytes are read back as %d", len(want), len(got))
				}
				expect(t, r, 1+len(b), good)
			}
		}
		for _, most := range []int{len(want) - 1, -1, math.MinInt} {
			r := at1(b...)
			if got := blob.Read(r, most); got != nil || r.Fault() != (api.Fault{Code: api.ErrLong, At: 1}) {
				t.Errorf("%d bytes, at most %d: %d with %v", len(want), most, len(got), r.Fault())
			}
		}
	}
}

// P6.1: each fault of Read, the first one, and nothing beside it.
func TestReadRefuses(t *testing.T) {
	for i, c := range []struct {
		b    []byte
		most int
		f    api.Fault
	}{
		{nil, 9, api.Fault{Code: api.ErrShort, At: 1}},
		{[]byte{128}, 9, api.Fault{Code: api.ErrShort, At: 2}},
		{[]byte{129, 0, 1}, 9, api.Fault{Code: api.ErrNonMinimal, At: 2}},
		{append(bytes.Repeat([]byte{255}, 9), 2), 9, api.Fault{Code: api.ErrOverflow, At: 10}},
		{append(bytes.Repeat([]byte{255}, 9), 1), math.MaxInt, api.Fault{Code: api.ErrLong, At: 1}},
		{[]byte{1}, 9, api.Fault{Code: api.ErrShort, At: 2}},
		{[]byte{3, 1, 2}, 3, api.Fault{Code: api.ErrShort, At: 4}},
		{[]byte{3, 1}, 2, api.Fault{Code: api.ErrLong, At: 1}}, // ahead of ErrShort
		{varint.Bytes(math.MaxInt), math.MaxInt, api.Fault{Code: api.ErrShort, At: 10}},
	} {
		r := at1(c.b...)
		if b := blob.Read(r, c.most); b != nil || r.Fault() != c.f {
			t.Errorf("case %d: %v with %v", i, b, r.Fault())
		}
	}
}

// P6.1: ReadFixed reads n bytes, the lowest first, none for a negative number and eight for one above.
func TestReadFixed(t *testing.T) {
	for _, x := range []uint64{0, 1, 255, 256, 513, 0x0807060504030201, 0xfffefdfcfbfaf9f8, 1 << 63, math.MaxUint64} {
		for _, c := range [][2]int{{0, 0}, {1, 1}, {2, 2}, {3, 3}, {4, 4}, {5, 5}, {6, 6}, {7, 7}, {8, 8}, {9, 8}, {math.MaxInt, 8}, {-1, 0}, {math.MinInt, 0}} {
			want := uint64(0)
			for k := c[1] - 1; k >= 0; k-- {
				want = want*256 + x>>(8*k)%256
			}
			b := pen.Fixed(x, 8)
			r := at1(append(b, 77, 88)...)
			if got := blob.ReadFixed(r, c[0]); got != want {
				t.Errorf("ReadFixed of %v, %d bytes: %d, not %d", b, c[0], got, want)
			}
			expect(t, r, 1+c[1], good)
			if c[1] == 0 {
				continue
			}
			r = at1(b[:c[1]-1]...)
			if got := blob.ReadFixed(r, c[0]); got != 0 {
				t.Error(got)
			}
			expect(t, r, 1, api.Fault{Code: api.ErrShort, At: c[1]})
		}
	}
}

// P6.3: a fixed integer that the writer wrote is read back.
func TestFixedRoundTrip(t *testing.T) {
	for n := range 9 {
		x := uint64(0xfedcba9876543210) &^ (math.MaxUint64 << (8 * n))
		w := pen.New(9)
		w.Fixed(x, n)
		b, _ := w.Bytes()
		if got := blob.ReadFixed(cursor.New(b), n); got != x {
			t.Errorf("%d of %d bytes is read back as %d", x, n, got)
		}
	}
}

// P6.2: PutList writes how many integers there are and the integers, in ListSize bytes.
func TestPutListAndSize(t *testing.T) {
	for _, l := range lists() {
		want := encoding(l)
		w := pen.New(1 + len(want))
		w.Put(9)
		blob.PutList(w, l)
		if got, code := w.Bytes(); code != api.OK || !bytes.Equal(got[1:], want) {
			t.Fatal(l, got, code)
		}
		if n := blob.ListSize(l); n != len(want) {
			t.Fatal(l, n)
		}
		v := pen.New(len(want) - 1)
		blob.PutList(v, l)
		if got, code := v.Bytes(); code != api.ErrLong || got != nil || v.Len() > len(want)-1 {
			t.Fatal(l, got, code, v.Len())
		}
	}
	if blob.ListSize(nil) != 1 || blob.ListSize([]uint64{}) != 1 {
		t.Error(blob.ListSize(nil))
	}
}

// P6.2, P6.3: ReadList gives back what PutList wrote, whatever follows, up to most integers and no more.
func TestReadList(t *testing.T) {
	for _, want := range lists() {
		b := encoding(want)
		for _, behind := range [][]byte{nil, {0}, {128}, {255, 255}} {
			for _, most := range []int{len(want), len(want) + 1, math.MaxInt} {
				r := at1(append(slices.Clone(b), behind...)...)
				if got := blob.ReadList(r, most); !slices.Equal(got, want) {
					t.Fatalf("%v is read back as %v", want, got)
				}
				expect(t, r, 1+len(b), good)
			}
		}
		for _, most := range []int{len(want) - 1, -1, math.MinInt} {
			r := at1(b...)
			if got := blob.ReadList(r, most); got != nil || r.Fault() != (api.Fault{Code: api.ErrLong, At: 1}) {
				t.Fatalf("%v, at most %d: %v with %v", want, most, got, r.Fault())
			}
		}
		r := at1(b[:len(b)-1]...)
		if got := blob.ReadList(r, len(want)); got != nil || r.Fault() != (api.Fault{Code: api.ErrShort, At: len(b)}) {
			t.Fatalf("all but a byte of %v: %v with %v", want, got, r.Fault())
		}
	}
}

// P6.2: each fault of ReadList, the first one, and nothing beside it.
func TestReadListRefuses(t *testing.T) {
	for i, c := range []struct {
		b    []byte
		most int
		f    api.Fault
	}{
		{nil, 9, api.Fault{Code: api.ErrShort, At: 1}},
		{[]byte{128, 0}, 9, api.Fault{Code: api.ErrNonMinimal, At: 2}},
		{[]byte{2, 7}, 9, api.Fault{Code: api.ErrShort, At: 3}},
		{[]byte{2, 7, 128}, 9, api.Fault{Code: api.ErrShort, At: 4}},
		{[]byte{2, 7, 128, 0}, 9, api.Fault{Code: api.ErrNonMinimal, At: 4}},
		{[]byte{3, 128, 0, 128, 0}, 9, api.Fault{Code: api.ErrNonMinimal, At: 3}},
		{append([]byte{1}, append(bytes.Repeat([]byte{255}, 9), 2)...), 9, api.Fault{Code: api.ErrOverflow, At: 11}},
		{append(bytes.Repeat([]byte{255}, 9), 1), math.MaxInt, api.Fault{Code: api.ErrLong, At: 1}},
		{[]byte{3, 128, 0}, 2, api.Fault{Code: api.ErrLong, At: 1}},                                // ahead of the integers' faults
		{append(varint.Bytes(math.MaxInt), 7), math.MaxInt, api.Fault{Code: api.ErrShort, At: 11}}, // ends at the first fault
	} {
		r := at1(c.b...)
		if l := blob.ReadList(r, c.most); l != nil || r.Fault() != c.f {
			t.Errorf("case %d: %v with %v", i, l, r.Fault())
		}
	}
}

// P6.1, P6.2: a reader with a fault keeps it and its position, and gives nothing; so does a nil reader.
func TestFaultIsKept(t *testing.T) {
	for _, b := range [][]byte{nil, {0}, {1, 5}, {2, 7, 8}, {128, 0}, {9}} {
		r := failed(b...)
		for _, n := range []int{-1, 0, 1, 9} {
			if blob.Read(r, n) != nil || blob.ReadFixed(r, n) != 0 || blob.ReadList(r, n) != nil {
				t.Error("something of a reader with a fault", b, n)
			}
			expect(t, r, 1, api.Fault{Code: api.ErrRest, At: 8})
			if blob.Read(nil, n) != nil || blob.ReadFixed(nil, n) != 0 || blob.ReadList(nil, n) != nil {
				t.Error("something of a nil reader", n)
			}
		}
	}
}

// P6.1: a blob ends with its part of the bytes.
func TestReadPart(t *testing.T) {
	r := at1(2, 7, 8, 9)
	p := r.Part(2)
	if b := blob.Read(p, 9); b != nil {
		t.Error(b)
	}
	expect(t, p, 2, api.Fault{Code: api.ErrShort, At: 3})
	expect(t, r, 1, good)
}

// P6.3: writing what was read gives the same bytes.
func TestOneEncoding(t *testing.T) {
	letters := []byte{0, 1, 2, 3, 5, 127, 128, 129, 255}
	texts := [][]byte{nil}
	for i := 0; i < len(texts) && len(texts[i]) < 5; i++ {
		for _, c := range letters {
			texts = append(texts, append(slices.Clone(texts[i]), c))
		}
	}
	accepted, refused := 0, 0
	check := func(r *cursor.Reader, w *pen.Writer) {
		got, code := w.Bytes()
		switch {
		case !r.Good():
			refused++
		case code != api.OK || !bytes.Equal(got, r.Since(0)):
			t.Fatalf("%v is written as %v with %d", r.Since(0), got, code)
		default:
			accepted++
		}
	}
	for _, b := range texts {
		r, w := cursor.New(b), pen.New(9)
		blob.Put(w, blob.Read(r, 300))
		check(r, w)
		r, w = cursor.New(b), pen.New(9)
		blob.PutList(w, blob.ReadList(r, 300))
		check(r, w)
	}
	if accepted < 10000 || refused < 10000 {
		t.Error("too few to tell:", accepted, refused)
	}
}

// P6.1, P6.2: arguments are not changed or kept, and results are new memory.
func TestMemory(t *testing.T) {
	b, l := make([]byte, 2, 9), []uint64{300, 1}
	copy(b, []byte{7, 8})
	w := pen.New(9)
	blob.Put(w, b)
	blob.PutList(w, l)
	blob.ListSize(l)
	b[0], l[0] = 99, 99
	if got, _ := w.Bytes(); !bytes.Equal(got, []byte{2, 7, 8, 2, 172, 2, 1}) || b[1] != 8 || l[1] != 1 {
		t.Error(got, b, l)
	}
	in := []byte{2, 7, 8, 9}
	x, y := blob.Read(cursor.New(in), 9), blob.Read(cursor.New(in), 9)
	x[0] = 99
	_ = append(x, 98)
	if !bytes.Equal(y, []byte{7, 8}) || !bytes.Equal(in, []byte{2, 7, 8, 9}) {
		t.Error(y, in)
	}
	p, q := blob.ReadList(cursor.New(in), 9), blob.ReadList(cursor.New(in), 9)
	p[0] = 99
	if !slices.Equal(q, []uint64{7, 8}) {
		t.Error(q)
	}
}

// Ways of layer 6: ReadList leaves its loop by a label.
func TestReadListLeavesByLabel(t *testing.T) {
	file, err := parser.ParseFile(token.NewFileSet(), "blob.go", nil, 0)
	if err != nil {
		t.Fatal(err)
	}
	loops, left := map[string]bool{}, map[string]bool{}
	for _, d := range file.Decls {
		f, ok := d.(*ast.FuncDecl)
		if !ok || f.Name.Name != "ReadList" {
			continue
		}
		ast.Inspect(f, func(n ast.Node) bool {
			switch x := n.(type) {
			case *ast.LabeledStmt:
				if _, ok := x.Stmt.(*ast.ForStmt); ok {
					loops[x.Label.Name] = true
				}
			case *ast.BranchStmt:
				if x.Tok == token.BREAK && x.Label != nil {
					left[x.Label.Name] = true
				}
			}
			return true
		})
	}
	if len(loops) != 1 || len(left) != 1 {
		t.Fatal(loops, left)
	}
	for label := range left {
		if !loops[label] {
			t.Error(label, "is not the loop's label")
		}
	}
}
