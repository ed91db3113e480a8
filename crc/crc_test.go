package crc_test

import (
	"bytes"
	"go/ast"
	"go/parser"
	"go/token"
	"hash/crc32"
	"math"
	"slices"
	"testing"

	"tholepin/crc"
)

// states are each digit by itself, the ends, and some with many digits.
func states() []uint32 {
	l := []uint32{0, 7, 0xffffffff, 0x82f63b78, 0x12345678, 0xdeadbeef, 0x55555555}
	for k := range 32 {
		l = append(l, 1<<k, ^uint32(1<<k))
	}
	return l
}

// feed is the definition's words.
func feed(state uint32, b ...byte) uint32 {
	for _, c := range b {
		state ^= uint32(c)
		for range 8 {
			out := state & 1
			state >>= 1
			if out == 1 {
				state ^= 0x82f63b78
			}
		}
	}
	return state
}

// count is n bytes that differ.
func count(n int) []byte {
	b := make([]byte, n)
	for i := range b {
		b[i] = byte(i*i*7 + i*31 + i>>3)
	}
	return b
}

// texts are byte strings of many lengths.
func texts() [][]byte {
	l := [][]byte{nil, {}, {0}, {0, 0, 0, 0, 0}, {128}, {255}, bytes.Repeat([]byte{255}, 40), []byte("123456789")}
	for n := range 70 {
		l = append(l, count(n))
	}
	return append(l, count(5000), count(100001))
}

// P7.1, P7.2, P7.3: the examples of the chapter.
func TestExamples(t *testing.T) {
	const sum = 0xe3069283
	if x := crc.Sum([]byte("123456789")); x != sum {
		t.Errorf("%08x", x)
	}
	if x := crc.Sum(nil); x != 0 {
		t.Errorf("%08x", x)
	}
	if x := crc.Parts([]byte("1234"), nil, []byte("56789")); x != sum {
		t.Errorf("%08x", x)
	}
	if x := crc.Zeros(7, -1); x != 7 {
		t.Errorf("%08x", x)
	}
	if x := crc.Join(crc.Sum([]byte("1234")), crc.Sum([]byte("56789")), 5); x != sum {
		t.Errorf("%08x", x)
	}
	if b := crc.Turn([]byte{0, 0}, 7, 3); !bytes.Equal(b, []byte{128, 1}) {
		t.Error(b)
	}
}

// P7.1: Begin is the state of digits 1, and End turns all digits about.
func TestBeginAndEnd(t *testing.T) {
	if crc.Begin() != 0xffffffff {
		t.Errorf("%08x", crc.Begin())
	}
	for _, s := range states() {
		if crc.End(s) != s^0xffffffff {
			t.Errorf("End(%08x) = %08x", s, crc.End(s))
		}
	}
}

// P7.1: Add feeds each byte as the definition says, into each state.
func TestAdd(t *testing.T) {
	for _, s := range states() {
		if x := crc.Add(s); x != s {
			t.Errorf("%08x behind no bytes is %08x", s, x)
		}
		for c := range 256 {
			if x := crc.Add(s, byte(c)); x != feed(s, byte(c)) {
				t.Errorf("%08x behind %02x is %08x, not %08x", s, c, x, feed(s, byte(c)))
			}
		}
		for _, b := range texts()[:40] {
			if x := crc.Add(s, b...); x != feed(s, b...) {
				t.Errorf("%08x behind %v is %08x, not %08x", s, b, x, feed(s, b...))
			}
		}
	}
}

// P7.1: Sum is the checksum, by the definition and by the library.
func TestSum(t *testing.T) {
	for _, b := range texts() {
		x := crc.Sum(b)
		if x != ^feed(0xffffffff, b...) || x != crc32.Checksum(b, crc32.MakeTable(crc32.Castagnoli)) {
			t.Errorf("the sum of %d bytes is %08x", len(b), x)
		}
		if x != crc.End(crc.Add(crc.Begin(), b...)) {
			t.Errorf("the sum of %d bytes is %08x, fed by hand another", len(b), x)
		}
	}
}

// P7.1, P7.4: the checksum does not depend on the parts.
func TestParts(t *testing.T) {
	if crc.Parts() != 0 || crc.Parts(nil) != 0 || crc.Parts(nil, []byte{}, nil) != 0 {
		t.Error("the sum of nothing")
	}
	b := count(40)
	want := crc.Sum(b)
	for i := range len(b) + 1 {
		for k := i; k <= len(b); k++ {
			if x := crc.Parts(b[:i], b[i:k], b[k:]); x != want {
				t.Errorf("cut at %d and %d: %08x", i, k, x)
			}
			state := crc.Add(crc.Add(crc.Add(crc.Begin(), b[:i]...), b[i:k]...), b[k:]...)
			if crc.End(state) != want {
				t.Errorf("fed in parts cut at %d and %d: %08x", i, k, crc.End(state))
			}
		}
	}
	var each [][]byte
	for _, c := range b {
		each = append(each, []byte{c})
	}
	if x := crc.Parts(each...); x != want {
		t.Errorf("byte by byte: %08x", x)
	}
	if crc.Parts(b[:9], b[9:]) == crc.Parts(b[9:], b[:9]) {
		t.Error("the order of the parts does not count")
	}
}

// P7.2: Zeros is the state behind so many bytes 0, and a negative number counts as 0.
func TestZeros(t *testing.T) {
	zeros := make([]byte, 300)
	for _, s := range states() {
		for n := range zeros {
			if x := crc.Zeros(s, n); x != feed(s, zeros[:n]...) {
				t.Fatalf("Zeros(%08x, %d) = %08x", s, n, x)
			}
		}
		for _, n := range []int{0, -1, -2, -300, math.MinInt, math.MinInt + 1} {
			if x := crc.Zeros(s, n); x != s {
				t.Errorf("Zeros(%08x, %d) = %08x", s, n, x)
			}
		}
	}
	for _, n := range []int{1 << 16, 1<<20 + 7, 3_000_001} {
		if x := crc.Zeros(7, n); x != crc.Add(7, make([]byte, n)...) {
			t.Errorf("Zeros(7, %d) = %08x", n, x)
		}
	}
}

// P7.2: Zeros ends soon for numbers of bytes that no loop over the bytes could
// come to the end of. States come round after 2^31 - 1 digits.
func TestZerosOfGreatNumbers(t *testing.T) {
	const round = 1<<31 - 1
	for _, s := range states() {
		if x := crc.Zeros(s, round); x != s {
			t.Errorf("once round, %08x is %08x", s, x)
		}
		for _, n := range []int{1 << 40, 1<<62 + 12345, math.MaxInt - 1, math.MaxInt} {
			if x, y := crc.Zeros(s, n), crc.Zeros(s, n%round); x != y {
				t.Errorf("Zeros(%08x, %d) = %08x, not %08x", s, n, x, y)
			}
			if x, y := crc.Zeros(crc.Zeros(s, n/3), n-n/3), crc.Zeros(s, n); x != y {
				t.Errorf("Zeros(%08x, %d) in two parts is %08x, not %08x", s, n, x, y)
			}
		}
	}
}

// P7.2: Join is the checksum of both parts, and no bytes are no part.
func TestJoin(t *testing.T) {
	for _, b := range texts() {
		for i := 0; i <= len(b); i += 1 + len(b)/50 {
			if x := crc.Join(crc.Sum(b[:i]), crc.Sum(b[i:]), len(b)-i); x != crc.Sum(b) {
				t.Fatalf("%d bytes cut at %d: %08x", len(b), i, x)
			}
		}
	}
	for _, s := range states() {
		for _, n := range []int{0, -1, -9, math.MinInt} {
			if x := crc.Join(s, crc.Sum(nil), n); x != s {
				t.Errorf("%08x and %d bytes are %08x", s, n, x)
			}
		}
		b := count(77)
		if x := crc.Join(crc.Sum(nil), crc.Sum(b), len(b)); x != crc.Sum(b) {
			t.Errorf("no bytes and others are %08x", x)
		}
	}
	long := count(1<<20 + 3)
	a, b := crc.Sum(long[:5]), crc.Sum(long[5:])
	if x := crc.Join(a, b, len(long)-5); x != crc.Sum(long) {
		t.Errorf("%08x", x)
	}
}

// turned is the definition's words: each bit that exists, one by one.
func turned(b []byte, at int, digits uint32) []byte {
	out := slices.Clone(b)
	for k := range b {
		for j := range 8 {
			if i := 8*k + j - at; i >= 0 && i < 32 && digits>>i&1 == 1 {
				out[k] ^= 1 << j
			}
		}
	}
	return out
}

// P7.3: Turn inverts the digits that exist, and none beside them.
func TestTurn(t *testing.T) {
	all := uint32(0xffffffff)
	for _, c := range []struct {
		b      []byte
		at     int
		digits uint32
		want   []byte
	}{
		{[]byte{0, 0}, 0, 1, []byte{1, 0}},
		{[]byte{0, 0}, 8, 1, []byte{0, 1}},
		{[]byte{255, 0}, 0, 0x8001, []byte{254, 128}},
		{[]byte{1, 2, 3, 4, 5, 6}, 8, all, []byte{1, 253, 252, 251, 250, 6}},
		{[]byte{0, 0}, 15, all, []byte{0, 128}},
		{[]byte{0, 0}, 16, all, []byte{0, 0}},
		{[]byte{0, 0}, -1, all, []byte{255, 255}},
		{[]byte{0, 0}, -31, all, []byte{1, 0}},
		{[]byte{0, 0}, -32, all, []byte{0, 0}},
		{[]byte{0, 0}, -1, 1, []byte{0, 0}},
		{[]byte{0, 0}, -1, 2, []byte{1, 0}},
		{[]byte{9, 8}, 3, 0, []byte{9, 8}},
		{nil, 0, all, nil},
	} {
		if got := crc.Turn(c.b, c.at, c.digits); !bytes.Equal(got, c.want) {
			t.Errorf("Turn(%v, %d, %x) = %v", c.b, c.at, c.digits, got)
		}
	}
	for n := range 8 {
		b := count(n)
		for at := -40; at < 8*n+10; at++ {
			for _, digits := range states() {
				if got := crc.Turn(b, at, digits); !bytes.Equal(got, turned(b, at, digits)) {
					t.Fatalf("Turn(%v, %d, %x) = %v", b, at, digits, got)
				}
			}
		}
		for _, at := range []int{math.MinInt, math.MinInt + 5, math.MinInt + 31, -1 << 40, 1 << 40, math.MaxInt - 31, math.MaxInt - 30, math.MaxInt} {
			if got := crc.Turn(b, at, all); !bytes.Equal(got, b) {
				t.Errorf("Turn(%v, %d) = %v", b, at, got)
			}
		}
	}
}

// P7.3: turning twice gives the bytes back, which were not changed meanwhile.
func TestTurnIsACopy(t *testing.T) {
	b := count(20)
	for at := range 160 {
		x := crc.Turn(b, at, 0xdeadbeef)
		if !bytes.Equal(b, count(20)) || bytes.Equal(x, b) {
			t.Fatal(at, b, x)
		}
		if y := crc.Turn(x, at, 0xdeadbeef); !bytes.Equal(y, b) {
			t.Fatal(at, y)
		}
	}
	x := crc.Turn(b, 0, 0)
	x[0]++
	if !bytes.Equal(b, count(20)) {
		t.Error("the copy shares memory with the bytes")
	}
}

// P7.4: a burst changes the checksum, wherever it lies and whichever its digits are.
func TestBursts(t *testing.T) {
	for n := range 12 {
		b := count(n)
		sum := crc.Sum(b)
		for at := -31; at < 8*n; at++ {
			for k := range 400 {
				digits := uint32(k)
				if k >= 200 {
					digits = uint32(k) * 2654435761
				}
				if c := crc.Turn(b, at, digits); !bytes.Equal(c, b) && crc.Sum(c) == sum {
					t.Fatalf("%v and %v have the same checksum", b, c)
				}
			}
		}
	}
	b := count(3000)
	sum := crc.Sum(b)
	for at := 0; at < 8*len(b); at += 61 {
		for _, digits := range states()[1:] {
			if c := crc.Turn(b, at, digits); !bytes.Equal(c, b) && crc.Sum(c) == sum {
				t.Fatalf("the burst %x at %d does not change the checksum", digits, at)
			}
		}
	}
}

// P7.4: the checksum of the exclusive or of three byte strings is that of their checksums.
func TestThree(t *testing.T) {
	for n := range 60 {
		a, b, c, d := count(n), bytes.Repeat([]byte{165}, n), count(2 * n)[n:], make([]byte, n)
		for i := range d {
			d[i] = a[i] ^ b[i] ^ c[i]
		}
		if crc.Sum(d) != crc.Sum(a)^crc.Sum(b)^crc.Sum(c) {
			t.Errorf("three of %d bytes", n)
		}
	}
}

// P7.1: arguments are not changed.
func TestMemory(t *testing.T) {
	b := count(30)
	crc.Add(7, b...)
	crc.Sum(b)
	crc.Parts(b[:5], b[5:])
	if !bytes.Equal(b, count(30)) {
		t.Error(b)
	}
}

// Ways of layer 7: an array of 32 states is what a state is multiplied by.
func TestStatesAreMultipliedByArrays(t *testing.T) {
	file, err := parser.ParseFile(token.NewFileSet(), "crc.go", nil, 0)
	if err != nil {
		t.Fatal(err)
	}
	made, taken := 0, 0
	count := func(l *ast.FieldList, n *int) {
		if l == nil {
			return
		}
		for _, f := range l.List {
			if a, ok := f.Type.(*ast.ArrayType); ok {
				if size, ok := a.Len.(*ast.BasicLit); ok && size.Value == "32" {
					*n++
				}
			}
		}
	}
	for _, d := range file.Decls {
		if f, ok := d.(*ast.FuncDecl); ok {
			count(f.Type.Results, &made)
			count(f.Type.Params, &taken)
		}
	}
	if made == 0 || taken == 0 {
		t.Error("no function makes such an array, or none takes one:", made, taken)
	}
}
