package varint_test

import (
	"bytes"
	"go/ast"
	"go/parser"
	"go/token"
	"math"
	"testing"

	"tholepin/api"
	"tholepin/cursor"
	"tholepin/pen"
	"tholepin/varint"
)

var good = api.Fault{}

// numbers are small ones, and those around each power of two.
func numbers() []uint64 {
	var l []uint64
	for x := range uint64(1 << 15) {
		l = append(l, x)
	}
	for k := 15; k < 64; k++ {
		p := uint64(1) << k
		l = append(l, p-1, p, p+1, p+p/2, p|0x2a2a2a2a2a2a2a2a&(p-1))
	}
	return append(l, math.MaxUint64-1, math.MaxUint64)
}

// encoding is the definition's words: seven bits in each byte, the lowest first, until nothing is left.
func encoding(x uint64) []byte {
	var b []byte
	for ; x > 127; x /= 128 {
		b = append(b, byte(128+x%128))
	}
	return append(b, byte(x))
}

// wanted is what Get is to answer, by the chapter's words.
func wanted(b []byte) (uint64, int, api.Fault) {
	x, unit := uint64(0), uint64(1)
	for i, c := range b {
		if i == 9 && c > 1 {
			return 0, 0, api.Fault{Code: api.ErrOverflow, At: 9}
		}
		x += uint64(c%128) * unit
		unit *= 128
		if c >= 128 {
			continue
		}
		if c == 0 && i > 0 {
			return 0, 0, api.Fault{Code: api.ErrNonMinimal, At: i}
		}
		return x, i + 1, good
	}
	return 0, 0, api.Fault{Code: api.ErrShort, At: len(b)}
}

// repeat is n times one byte, and then others.
func repeat(c byte, n int, then ...byte) []byte {
	return append(bytes.Repeat([]byte{c}, n), then...)
}

// at1 is a reader of one byte 5 and others, at position 1.
func at1(b ...byte) *cursor.Reader {
	r := cursor.New(append([]byte{5}, b...))
	r.Skip(1)
	return r
}

// failed is such a reader with a fault.
func failed(b ...byte) *cursor.Reader {
	r := at1(b...)
	r.Fail(api.ErrRest, 8)
	return r
}

// expect checks where a reader is, and its fault.
func expect(t *testing.T, r *cursor.Reader, at int, f api.Fault) {
	t.Helper()
	if r.At() != at || r.Fault() != f {
		t.Errorf("at %d with %v, not %d with %v", r.At(), r.Fault(), at, f)
	}
}

// texts are byte strings with every fault that there is, at every length that an integer can have and beyond.
func texts() [][]byte {
	var tails [][]byte
	letters := []byte{0, 1, 2, 3, 127, 128, 129, 255}
	tails = append(tails, nil)
	for i := 0; i < len(tails) && len(tails[i]) < 3; i++ {
		for _, c := range letters {
			tails = append(tails, append(append([]byte(nil), tails[i]...), c))
		}
	}
	var l [][]byte
	for n := range 12 {
		for _, c := range []byte{128, 129, 170, 255} {
			for _, s := range tails {
				l = append(l, repeat(c, n, s...))
			}
		}
	}
	return l
}

// P4.1: Size is the number of bytes, at the edges of each.
func TestSize(t *testing.T) {
	for x, n := range map[uint64]int{
		0: 1, 1: 1, 127: 1, 128: 2, 300: 2, 1<<14 - 1: 2, 1 << 14: 3, 1<<21 - 1: 3, 1 << 21: 4, 1<<28 - 1: 4, 1 << 28: 5,
		1<<35 - 1: 5, 1 << 35: 6, 1<<42 - 1: 6, 1 << 42: 7, 1<<49 - 1: 7, 1 << 49: 8, 1<<56 - 1: 8, 1 << 56: 9,
		1<<63 - 1: 9, 1 << 63: 10, math.MaxUint64: 10,
	} {
		if varint.Size(x) != n {
			t.Errorf("Size(%d) = %d, not %d", x, varint.Size(x), n)
		}
	}
}

// P4.1: Bytes is the encoding, of Size bytes.
func TestBytes(t *testing.T) {
	for x, want := range map[uint64][]byte{
		0: {0}, 1: {1}, 127: {127}, 128: {128, 1}, 300: {172, 2}, 16383: {255, 127}, 16384: {128, 128, 1},
		1 << 63:        repeat(128, 9, 1),
		math.MaxUint64: repeat(255, 9, 1),
	} {
		if b := varint.Bytes(x); !bytes.Equal(b, want) {
			t.Errorf("Bytes(%d) = %v", x, b)
		}
	}
	for _, x := range numbers() {
		if b := varint.Bytes(x); !bytes.Equal(b, encoding(x)) || len(b) != varint.Size(x) {
			t.Errorf("Bytes(%d) = %v, Size %d", x, b, varint.Size(x))
		}
	}
	b := varint.Bytes(300)
	b[0] = 1
	if c := varint.Bytes(300); c[0] != 172 {
		t.Error("two results share their memory")
	}
}

// P4.1: Put writes the encoding whole, or fails as the writer's Put does.
func TestPut(t *testing.T) {
	w := pen.New(100)
	var want []byte
	for _, x := range []uint64{0, 300, 127, math.MaxUint64, 1 << 63, 1} {
		varint.Put(w, x)
		want = append(want, encoding(x)...)
	}
	if b, code := w.Bytes(); code != api.OK || !bytes.Equal(b, want) {
		t.Error(b, code)
	}
	for _, x := range []uint64{0, 300, 1 << 63} {
		v := pen.New(varint.Size(x))
		varint.Put(v, x)
		if v.Code() != api.OK || v.Room() != 0 {
			t.Error(x, v.Code(), v.Room())
		}
		v = pen.New(varint.Size(x) - 1)
		varint.Put(v, x)
		if v.Code() != api.ErrLong || v.Len() != 0 {
			t.Error(x, v.Code(), v.Len())
		}
	}
	v := pen.New(9)
	v.Fail(api.ErrInvalid)
	varint.Put(v, 300)
	if v.Code() != api.ErrInvalid || v.Len() != 0 {
		t.Error(v.Code(), v.Len())
	}
	varint.Put(nil, 300)
}

// P4.2: the examples of the chapter.
func TestExamples(t *testing.T) {
	for i, c := range []struct {
		b []byte
		x uint64
		n int
		f api.Fault
	}{
		{[]byte{0xac, 0x02}, 300, 2, good},
		{[]byte{0x80, 0x00}, 0, 0, api.Fault{Code: api.ErrNonMinimal, At: 1}},
		{[]byte{0x80}, 0, 0, api.Fault{Code: api.ErrShort, At: 1}},
		{repeat(255, 9, 2), 0, 0, api.Fault{Code: api.ErrOverflow, At: 9}},
	} {
		if x, n, f := varint.Get(c.b); x != c.x || n != c.n || f != c.f {
			t.Errorf("case %d: %d, %d, %v", i, x, n, f)
		}
	}
	r := at1(200, 1)
	if x := varint.ReadInt(r, 100); x != 0 {
		t.Error(x)
	}
	expect(t, r, 3, api.Fault{Code: api.ErrLong, At: 1})
}

// P4.2: each fault of Get, at its place, and no other results beside it.
func TestGet(t *testing.T) {
	for i, c := range []struct {
		b []byte
		x uint64
		n int
		f api.Fault
	}{
		{nil, 0, 0, api.Fault{Code: api.ErrShort, At: 0}},
		{[]byte{0}, 0, 1, good},
		{[]byte{0, 0}, 0, 1, good}, // 0 as the first byte is the last one
		{[]byte{127, 9}, 127, 1, good},
		{[]byte{128, 1, 0}, 128, 2, good},
		{[]byte{129, 0}, 0, 0, api.Fault{Code: api.ErrNonMinimal, At: 1}},
		{[]byte{128, 128, 0}, 0, 0, api.Fault{Code: api.ErrNonMinimal, At: 2}},
		{[]byte{128, 0, 0}, 0, 0, api.Fault{Code: api.ErrNonMinimal, At: 1}},
		{[]byte{255, 255}, 0, 0, api.Fault{Code: api.ErrShort, At: 2}},
		{repeat(255, 8, 127), 1<<63 - 1, 9, good},
		{repeat(128, 9), 0, 0, api.Fault{Code: api.ErrShort, At: 9}},
		{repeat(128, 9, 1), 1 << 63, 10, good},
		{repeat(255, 9, 1, 255), math.MaxUint64, 10, good},
		{repeat(255, 9, 0), 0, 0, api.Fault{Code: api.ErrNonMinimal, At: 9}},
		{repeat(128, 9, 2), 0, 0, api.Fault{Code: api.ErrOverflow, At: 9}},
		{repeat(128, 10), 0, 0, api.Fault{Code: api.ErrOverflow, At: 9}}, // not short: the tenth byte is there
		{repeat(128, 9, 129, 0), 0, 0, api.Fault{Code: api.ErrOverflow, At: 9}},
		{repeat(255, 1000), 0, 0, api.Fault{Code: api.ErrOverflow, At: 9}},
	} {
		if x, n, f := varint.Get(c.b); x != c.x || n != c.n || f != c.f {
			t.Errorf("case %d: %d, %d, %v", i, x, n, f)
		}
	}
}

// P4.2: Read answers as Get from any position on, and stands behind the last byte that it read.
func TestRead(t *testing.T) {
	for _, b := range texts() {
		x, n, f := wanted(b)
		if gx, gn, gf := varint.Get(b); gx != x || gn != n || gf != f {
			t.Fatalf("Get(%v) = %d, %d, %v, not %d, %d, %v", b, gx, gn, gf, x, n, f)
		}
		r := at1(b...)
		if got := varint.Read(r); got != x {
			t.Fatalf("Read of %v = %d, not %d", b, got, x)
		}
		switch f.Code {
		case api.ErrShort:
			n = f.At
		case api.ErrOverflow, api.ErrNonMinimal:
			n = f.At + 1
		}
		if f != good {
			f.At++
		}
		expect(t, r, 1+n, f)
		if t.Failed() {
			t.Fatal(b)
		}
	}
}

// P4.2: an integer ends with its part of the bytes, and integers are read one behind the other.
func TestReadPartsAndRows(t *testing.T) {
	r := at1(172, 2, 172, 2, 0, 128)
	p := r.Part(3)
	if x := varint.Read(p); x != 300 {
		t.Error(x)
	}
	if x := varint.Read(p); x != 0 {
		t.Error(x)
	}
	expect(t, p, 4, api.Fault{Code: api.ErrShort, At: 4})
	expect(t, r, 1, good)
	for i, want := range []uint64{300, 300, 0} {
		if x := varint.Read(r); x != want {
			t.Errorf("number %d: %d", i, x)
		}
	}
	expect(t, r, 6, good)
	varint.Read(r)
	expect(t, r, 7, api.Fault{Code: api.ErrShort, At: 7})
}

// P4.2: an integer may be as great as most, and a greater one is ErrLong at its first byte.
func TestReadMost(t *testing.T) {
	edges := []uint64{0, 1, 99, 127, 128, 200, 300, 1 << 20, math.MaxInt64, 1 << 63, math.MaxUint64 - 1, math.MaxUint64}
	for _, x := range edges {
		for _, most := range edges {
			r := at1(append(encoding(x), 9)...)
			got, want, f := varint.ReadMost(r, most), x, good
			if x > most {
				want, f = 0, api.Fault{Code: api.ErrLong, At: 1}
			}
			if got != want {
				t.Errorf("ReadMost of %d, at most %d: %d", x, most, got)
			}
			expect(t, r, 1+varint.Size(x), f)
		}
	}
}

// P4.2: ReadInt does the same for an int, and all integers are above a negative one.
func TestReadInt(t *testing.T) {
	for _, x := range []uint64{0, 1, 100, 101, 200, 300, math.MaxInt64 - 1, math.MaxInt64, 1 << 63, math.MaxUint64} {
		for _, most := range []int{0, 1, 99, 100, 101, 300, math.MaxInt64 - 1, math.MaxInt64, -1, -100, -300, math.MinInt64} {
			r := at1(append(encoding(x), 9)...)
			got, want, f := varint.ReadInt(r, most), 0, api.Fault{Code: api.ErrLong, At: 1}
			if most >= 0 && x <= uint64(most) {
				want, f = int(x), good
			}
			if got != want {
				t.Errorf("ReadInt of %d, at most %d: %d", x, most, got)
			}
			expect(t, r, 1+varint.Size(x), f)
		}
	}
}

// P4.2: what is no encoding has the fault of Read, whatever the most.
func TestFaultsAheadOfMost(t *testing.T) {
	for _, b := range texts() {
		_, _, f := wanted(b)
		if f == good {
			continue
		}
		f.At++
		for _, most := range []int{-1, 0, 100, math.MaxInt64} {
			r, q := at1(b...), at1(b...)
			if x := varint.ReadInt(r, most); x != 0 || r.Fault() != f {
				t.Fatalf("ReadInt of %v: %d, %v", b, x, r.Fault())
			}
			if x := varint.ReadMost(q, uint64(most)); x != 0 || q.Fault() != f {
				t.Fatalf("ReadMost of %v: %d, %v", b, x, q.Fault())
			}
		}
	}
}

// P4.2: a reader with a fault keeps it and its position.
func TestFaultIsKept(t *testing.T) {
	for _, b := range [][]byte{nil, {0}, {7}, {172, 2}, {128, 0}, {128}, repeat(255, 9, 2)} {
		r := failed(b...)
		if varint.Read(r) != 0 || varint.ReadMost(r, 0) != 0 || varint.ReadMost(r, 9) != 0 ||
			varint.ReadInt(r, 9) != 0 || varint.ReadInt(r, 0) != 0 || varint.ReadInt(r, -1) != 0 {
			t.Error("an integer of a reader with a fault", b)
		}
		expect(t, r, 1, api.Fault{Code: api.ErrRest, At: 8})
	}
}

// P4.2: a nil reader gives 0.
func TestNil(t *testing.T) {
	if varint.Read(nil) != 0 || varint.ReadMost(nil, 9) != 0 || varint.ReadInt(nil, 9) != 0 || varint.ReadInt(nil, -1) != 0 {
		t.Error("an integer of a nil reader")
	}
}

// P4.2: the bytes that are read are not changed.
func TestBytesStay(t *testing.T) {
	b := []byte{172, 2, 128}
	varint.Get(b)
	varint.Get(b[2:])
	if !bytes.Equal(b, []byte{172, 2, 128}) {
		t.Error(b)
	}
}

// P4.3: an encoded integer is read back, whatever follows, and nothing less than all of it is one.
func TestRoundTrip(t *testing.T) {
	for _, x := range numbers() {
		b := varint.Bytes(x)
		for _, behind := range [][]byte{nil, {0}, {1}, {128}, {255, 255, 255}, b} {
			if y, n, f := varint.Get(append(append([]byte(nil), b...), behind...)); y != x || n != len(b) || f != good {
				t.Fatalf("%d is read back as %d, %d, %v", x, y, n, f)
			}
		}
		for n := range b {
			if _, _, f := varint.Get(b[:n]); f != (api.Fault{Code: api.ErrShort, At: n}) {
				t.Fatalf("%d bytes of %d: %v", n, x, f)
			}
		}
	}
}

// P4.3: all bytes that are read as an integer are those that are written for it.
func TestOneEncoding(t *testing.T) {
	check := func(b []byte) bool {
		x, n, f := varint.Get(b)
		if f == good && !bytes.Equal(varint.Bytes(x), b[:n]) {
			t.Fatalf("%v is read as %d of %d bytes", b, x, n)
		}
		return f == good
	}
	accepted := 0
	for k := range 1 << 16 {
		for _, b := range [][]byte{{byte(k)}, {byte(k), byte(k >> 8)}, {128, byte(k), byte(k >> 8)}} {
			if check(b) {
				accepted++
			}
		}
	}
	for _, b := range texts() {
		if check(b) {
			accepted++
		}
	}
	if accepted < 100000 {
		t.Error("too few were accepted to tell:", accepted)
	}
}

// P4.3: a larger integer does not have a shorter encoding.
func TestLargerIsNotShorter(t *testing.T) {
	most := 0
	for x := range uint64(1 << 15) {
		n := len(varint.Bytes(x))
		if n < most || n > most+1 {
			t.Fatalf("%d has %d bytes, the one before it %d", x, n, most)
		}
		most = n
	}
	for k := 15; k < 64; k++ {
		p := uint64(1) << k
		if len(varint.Bytes(p-1)) > len(varint.Bytes(p)) || len(varint.Bytes(p)) > len(varint.Bytes(p+(p-1))) {
			t.Error("around", p)
		}
	}
}

// Ways of layer 4: Read forms its loop by a goto, and has no other one.
func TestReadLoopsByGoto(t *testing.T) {
	file, err := parser.ParseFile(token.NewFileSet(), "varint.go", nil, 0)
	if err != nil {
		t.Fatal(err)
	}
	gotos, loops := 0, 0
	for _, d := range file.Decls {
		f, ok := d.(*ast.FuncDecl)
		if !ok || f.Name.Name != "Read" {
			continue
		}
		ast.Inspect(f, func(n ast.Node) bool {
			switch x := n.(type) {
			case *ast.BranchStmt:
				if x.Tok == token.GOTO {
					gotos++
				}
			case *ast.ForStmt, *ast.RangeStmt:
				loops++
			}
			return true
		})
	}
	if gotos == 0 || loops > 0 {
		t.Error(gotos, loops)
	}
}
