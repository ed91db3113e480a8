package token_test

import (
	"bytes"
	"go/ast"
	"go/parser"
	gotoken "go/token"
	"math"
	"slices"
	"testing"

	"tholepin/api"
	"tholepin/cursor"
	"tholepin/pen"
	"tholepin/token"
	"tholepin/varint"
)

var good = api.Fault{}

// at1 is a reader of one byte 5 and others, at position 1.
func at1(b ...byte) *cursor.Reader {
	r := cursor.New(append([]byte{5}, b...))
	r.Skip(1)
	return r
}

// failed is such a reader with a fault.
func failed(b ...byte) *cursor.Reader {
	r := at1(b...)
	r.Fail(api.ErrRest, 8)
	return r
}

// expect checks where a reader is, and its fault.
func expect(t *testing.T, r *cursor.Reader, at int, f api.Fault) {
	t.Helper()
	if r.At() != at || r.Fault() != f {
		t.Errorf("at %d with %v, not %d with %v", r.At(), r.Fault(), at, f)
	}
}

// count is n bytes that differ.
func count(n int) []byte {
	b := make([]byte, n)
	for i := range b {
		b[i] = byte(i*i*7 + i*31 + i>>3)
	}
	return b
}

func run(b ...byte) api.Token { return api.Token{Lit: b} }

func back(off, n int) api.Token { return api.Token{Off: off, Len: n} }

// isZero tells whether a token is the zero token.
func isZero(t api.Token) bool { return t.Lit == nil && t.Off == 0 && t.Len == 0 }

// tokens are runs and copies at each limit, and where the number of their bytes changes.
func tokens() []api.Token {
	var l []api.Token
	for _, n := range []int{1, 2, 3, 64, 65, 8192, 8193, 1<<20 - 1, 1 << 20} {
		l = append(l, run(count(n)...))
	}
	for _, off := range []int{1, 2, 3, 127, 128, 129, 16384, 16385, 1<<16 - 1, 1 << 16} {
		for _, n := range []int{4, 5, 67, 68, 8195, 8196, 1<<20 - 1, 1 << 20} {
			l = append(l, back(off, n))
		}
	}
	return l
}

// others are no tokens.
func others() []api.Token {
	return []api.Token{
		{}, {Lit: []byte{}}, run(count(1<<20 + 1)...), run(count(1 << 21)...),
		{Len: 1}, {Len: 4}, {Len: -1}, {Lit: []byte{7}, Len: 1}, {Lit: []byte{7, 8, 9, 10}, Len: 4}, {Lit: []byte{7}, Len: -1},
		{Lit: []byte{7}, Off: 1}, {Lit: []byte{7}, Off: -1}, {Lit: []byte{7}, Off: 1, Len: 4}, {Lit: []byte{7, 8, 9, 10}, Off: 1, Len: 4},
		{Off: 1}, back(1, 1), back(1, 3), back(1, -4), back(1, math.MinInt), back(1, 1<<20+1), back(1, math.MaxInt),
		back(0, 4), back(0, 5), back(-1, 4), back(-1, 0), back(math.MinInt, 4), back(1<<16+1, 4), back(1<<16+1, 3), back(math.MaxInt, 4), back(math.MaxInt, math.MaxInt),
		{Lit: count(1<<20 + 1), Off: 1, Len: 4},
	}
}

// made is the definition's words: how many bytes a token makes.
func made(t api.Token) int {
	if t.Off == 0 {
		return len(t.Lit)
	}
	return t.Len
}

// encoding is the definition's words.
func encoding(t api.Token) []byte {
	if t.Off == 0 {
		return append(varint.Bytes(uint64(2*(len(t.Lit)-1))), t.Lit...)
	}
	return append(varint.Bytes(uint64(2*(t.Len-4)+1)), varint.Bytes(uint64(t.Off-1))...)
}

// P11.1, P11.2: the examples of the chapter.
func TestExamples(t *testing.T) {
	if b, code := token.Bytes([]api.Token{run(7, 8), back(1, 4)}); code != api.OK || !bytes.Equal(b, []byte{2, 7, 8, 1, 0}) {
		t.Error(b, code)
	}
	if b, code := token.Bytes([]api.Token{run(7, 8)}); code != api.OK || !bytes.Equal(b, []byte{0x02, 0x07, 0x08}) {
		t.Error(b, code)
	}
	if b, code := token.Bytes([]api.Token{back(1, 4)}); code != api.OK || !bytes.Equal(b, []byte{0x01, 0x00}) {
		t.Error(b, code)
	}
	if l, f := token.Get([]byte{3, 255, 255, 3}); len(l) != 1 || l[0].Lit != nil || l[0].Off != 65536 || l[0].Len != 5 || f != good {
		t.Error(l, f)
	}
	if l, f := token.Get([]byte{3, 128, 128, 4}); l != nil || f != (api.Fault{Code: api.ErrToken, At: 1}) {
		t.Error(l, f)
	}
}

// P11.1: a token is a run or a copy within the limits, and makes their bytes.
func TestRightAndLen(t *testing.T) {
	for _, x := range tokens() {
		if !token.Right(x) || token.Len(x) != made(x) {
			t.Errorf("%d bytes, %d, %d: %t, %d", len(x.Lit), x.Off, x.Len, token.Right(x), token.Len(x))
		}
	}
	for _, x := range others() {
		if token.Right(x) || token.Len(x) != 0 {
			t.Errorf("%d bytes, %d, %d: %t, %d", len(x.Lit), x.Off, x.Len, token.Right(x), token.Len(x))
		}
	}
	if x := (api.Token{Lit: []byte{}, Off: 1, Len: 4}); !token.Right(x) || token.Len(x) != 4 {
		t.Error("a copy with an empty list is none")
	}
}

// P11.1: around each limit a token is one exactly if the definition says so.
func TestRightAroundTheLimits(t *testing.T) {
	around := []int{-5, -1, 0, 1, 2, 3, 4, 5, 1<<16 - 1, 1 << 16, 1<<16 + 1, 1<<20 - 1, 1 << 20, 1<<20 + 1}
	for _, off := range around {
		for _, n := range around {
			for _, lit := range [][]byte{nil, {}, {7}, {7, 8, 9, 10}} {
				isRun := off == 0 && n == 0 && len(lit) > 0
				isCopy := len(lit) == 0 && 1 <= off && off <= 1<<16 && 4 <= n && n <= 1<<20
				x := api.Token{Lit: lit, Off: off, Len: n}
				if token.Right(x) != (isRun || isCopy) || (token.Len(x) > 0) != (isRun || isCopy) {
					t.Error(lit, off, n, token.Right(x), token.Len(x))
				}
			}
		}
	}
}

// P11.1: Put writes the encoding, behind what was written.
func TestPut(t *testing.T) {
	for _, x := range tokens() {
		want := encoding(x)
		w := pen.New(1 + len(want))
		w.Put(9)
		token.Put(w, x)
		if got, code := w.Bytes(); code != api.OK || got[0] != 9 || !bytes.Equal(got[1:], want) {
			t.Errorf("%d bytes, %d, %d: %d bytes with %d", len(x.Lit), x.Off, x.Len, len(got), code)
		}
		v := pen.New(len(want) - 1)
		token.Put(v, x)
		if got, code := v.Bytes(); code != api.ErrLong || got != nil || v.Len() > len(want)-1 {
			t.Errorf("%d bytes, %d, %d in too little room: %d with %d", len(x.Lit), x.Off, x.Len, v.Len(), code)
		}
	}
}

// P11.1: of what is no token nothing is written, whether there is room or not.
func TestPutRefuses(t *testing.T) {
	for _, x := range others() {
		for _, room := range []int{0, 1, 1 << 22} {
			w := pen.New(1 + room)
			w.Put(9)
			token.Put(w, x)
			if w.Code() != api.ErrInvalid || w.Len() != 1 {
				t.Errorf("%d bytes, %d, %d: %d, %d", len(x.Lit), x.Off, x.Len, w.Code(), w.Len())
			}
			token.Put(w, run(7))
			if w.Code() != api.ErrInvalid || w.Len() != 1 {
				t.Error("a token was written behind it")
			}
		}
	}
}

// P11.1: with a code nothing is written and the code stays, and a nil writer takes everything.
func TestPutAfterACode(t *testing.T) {
	w := pen.New(99)
	w.Fail(api.ErrSum)
	for _, x := range append(tokens(), others()...) {
		token.Put(w, x)
		token.Put(nil, x)
	}
	if w.Len() != 0 || w.Code() != api.ErrSum {
		t.Error(w.Len(), w.Code())
	}
}

// P11.1: Bytes is the encodings one behind the other, or nothing if one is no token.
func TestBytes(t *testing.T) {
	var want []byte
	for _, x := range tokens() {
		want = append(want, encoding(x)...)
	}
	if b, code := token.Bytes(tokens()); code != api.OK || !bytes.Equal(b, want) {
		t.Error(len(b), code)
	}
	for _, l := range [][]api.Token{nil, {}} {
		if b, code := token.Bytes(l); len(b) != 0 || code != api.OK {
			t.Error(b, code)
		}
	}
	for _, x := range others() {
		for _, l := range [][]api.Token{{x}, {x, run(7)}, {run(7), x}, {back(1, 4), x, run(7)}, {x, x}} {
			if b, code := token.Bytes(l); b != nil || code != api.ErrInvalid {
				t.Error(len(b), code)
			}
		}
	}
}

// P11.1: Total is the sum of the Lens; what is no token counts for nothing.
func TestTotal(t *testing.T) {
	if token.Total(nil) != 0 || token.Total([]api.Token{}) != 0 || token.Total(others()) != 0 {
		t.Error(token.Total(nil), token.Total(others()))
	}
	want := 0
	var l []api.Token
	for i, x := range tokens() {
		want += made(x)
		l = append(l, x, others()[i%len(others())])
		if got := token.Total(l); got != want {
			t.Fatal(got, want)
		}
	}
	if got := token.Total(slices.Repeat([]api.Token{back(1, 1<<20)}, 1<<14)); got != 1<<34 {
		t.Error(got)
	}
}

// P11.1: Same compares lists token by token, whatever stands in them; nil is empty.
func TestSame(t *testing.T) {
	each := []api.Token{{}, run(7), run(8), run(7, 8), back(1, 4), back(2, 4), back(1, 5), {Len: 4}, {Off: 1}, {Lit: []byte{7}, Off: 1}, {Lit: []byte{7}, Len: 4}, {Lit: []byte{7}, Off: 1, Len: 4}, back(-1, -1)}
	lists := [][]api.Token{nil}
	index := [][]int{nil}
	for i := 0; i < len(lists) && len(lists[i]) < 2; i++ {
		for k, x := range each {
			lists = append(lists, append(slices.Clone(lists[i]), x))
			index = append(index, append(slices.Clone(index[i]), k))
		}
	}
	for i, a := range lists {
		for k, b := range lists {
			if token.Same(a, b) != slices.Equal(index[i], index[k]) {
				t.Error(a, b, token.Same(a, b))
			}
		}
	}
	if !token.Same(nil, []api.Token{}) || !token.Same([]api.Token{{}}, []api.Token{{Lit: []byte{}}}) || token.Same([]api.Token{{}}, nil) {
		t.Error("nil and empty")
	}
	for i, x := range tokens() {
		for k, y := range tokens() {
			if token.Same([]api.Token{x}, []api.Token{y}) != (i == k) {
				t.Error(i, k)
			}
		}
	}
}

// P11.2: Head is whether it is a copy, and how many bytes it makes, up to the limits.
func TestHead(t *testing.T) {
	var l []uint64
	for x := range uint64(300) {
		l = append(l, x, 1<<21-150+x, 1<<63-150+x, math.MaxUint64-x)
	}
	for k := range 64 {
		l = append(l, 1<<k-1, 1<<k, 1<<k+1)
	}
	for _, x := range l {
		isCopy, n, f := false, x/2+1, api.Fault{}
		if x%2 == 1 {
			isCopy, n = true, x/2+4
		}
		if n > 1<<20 {
			isCopy, n, f = false, 0, api.Fault{Code: api.ErrLong, At: 1}
		}
		r := at1(append(varint.Bytes(x), 200)...)
		if c, m := token.Head(r); c != isCopy || m != int(n) {
			t.Errorf("%d: %t, %d", x, c, m)
		}
		expect(t, r, 1+varint.Size(x), f)
	}
}

// P11.2: the greatest heads, and the next ones.
func TestHeadAtTheLimits(t *testing.T) {
	for _, c := range []struct {
		x      uint64
		isCopy bool
		n      int
		code   api.Errno
	}{
		{0, false, 1, api.OK}, {1, true, 4, api.OK}, {2, false, 2, api.OK}, {3, true, 5, api.OK},
		{2*(1<<20) - 2, false, 1 << 20, api.OK}, {2 * (1 << 20), false, 0, api.ErrLong},
		{2*(1<<20-4) + 1, true, 1 << 20, api.OK}, {2*(1<<20-3) + 1, false, 0, api.ErrLong},
		{math.MaxUint64, false, 0, api.ErrLong}, {math.MaxUint64 - 1, false, 0, api.ErrLong},
	} {
		r := at1(varint.Bytes(c.x)...)
		if isCopy, n := token.Head(r); isCopy != c.isCopy || n != c.n || r.Fault().Code != c.code {
			t.Error(c.x, isCopy, n, r.Fault())
		}
	}
}

// P11.2: Offset is up to the window.
func TestOffset(t *testing.T) {
	l := []uint64{1<<16 - 2, 1<<16 - 1, 1 << 16, 1<<16 + 1, math.MaxUint64 - 1, math.MaxUint64}
	for x := range uint64(300) {
		l = append(l, x)
	}
	for k := range 64 {
		l = append(l, 1<<k-1, 1<<k, 1<<k+1)
	}
	for _, x := range l {
		want, f := int(x+1), api.Fault{}
		if x > 65535 {
			want, f = 0, api.Fault{Code: api.ErrToken, At: 1}
		}
		r := at1(append(varint.Bytes(x), 200)...)
		if got := token.Offset(r); got != want {
			t.Errorf("%d: %d", x, got)
		}
		expect(t, r, 1+varint.Size(x), f)
	}
}

// P11.2: an integer that is none has the fault of varint.Read.
func TestIntegersThatAreNone(t *testing.T) {
	for _, b := range [][]byte{nil, {128}, {255, 255}, {128, 0}, {129, 128, 0}, bytes.Repeat([]byte{255}, 9), append(bytes.Repeat([]byte{255}, 9), 2)} {
		q := at1(b...)
		varint.Read(q)
		r := at1(b...)
		if isCopy, n := token.Head(r); isCopy || n != 0 {
			t.Error("Head", b, isCopy, n)
		}
		expect(t, r, q.At(), q.Fault())
		r = at1(b...)
		if off := token.Offset(r); off != 0 {
			t.Error("Offset", b, off)
		}
		expect(t, r, q.At(), q.Fault())
		r = at1(b...)
		if x := token.Read(r); !isZero(x) {
			t.Error("Read", b, x)
		}
		expect(t, r, q.At(), q.Fault())
	}
}

// P11.2: Read reads the next token, and nothing behind it.
func TestRead(t *testing.T) {
	for _, x := range tokens() {
		b := encoding(x)
		for _, behind := range [][]byte{nil, {0}, {200, 1}} {
			r := at1(slices.Concat(b, behind)...)
			got := token.Read(r)
			if !bytes.Equal(got.Lit, x.Lit) || got.Off != x.Off || got.Len != x.Len {
				t.Errorf("%d bytes, %d, %d are read as %d bytes, %d, %d", len(x.Lit), x.Off, x.Len, len(got.Lit), got.Off, got.Len)
			}
			expect(t, r, 1+len(b), good)
		}
	}
}

// P11.2: the fault of Head, then that of a run's bytes or of a copy's offset; no
// more is read than up to there.
func TestReadRefuses(t *testing.T) {
	long := append(bytes.Repeat([]byte{255}, 9), 1)
	for _, c := range []struct {
		b  []byte
		at int
		f  api.Fault
	}{
		{nil, 1, api.Fault{Code: api.ErrShort, At: 1}},
		{[]byte{0}, 2, api.Fault{Code: api.ErrShort, At: 2}},
		{[]byte{4, 1, 2}, 2, api.Fault{Code: api.ErrShort, At: 4}},
		{[]byte{254, 255, 127, 1}, 4, api.Fault{Code: api.ErrShort, At: 5}}, // 2^20 bytes
		{[]byte{128, 128, 128, 1}, 5, api.Fault{Code: api.ErrLong, At: 1}},  // one more, ahead of ErrShort
		{[]byte{249, 255, 127}, 4, api.Fault{Code: api.ErrShort, At: 4}},    // a copy of 2^20 bytes
		{[]byte{251, 255, 127, 128, 0}, 4, api.Fault{Code: api.ErrLong, At: 1}},
		{long, 11, api.Fault{Code: api.ErrLong, At: 1}},
		{[]byte{1}, 2, api.Fault{Code: api.ErrShort, At: 2}},
		{[]byte{1, 128}, 3, api.Fault{Code: api.ErrShort, At: 3}},
		{[]byte{1, 128, 0}, 4, api.Fault{Code: api.ErrNonMinimal, At: 3}},
		{[]byte{1, 128, 128, 4}, 5, api.Fault{Code: api.ErrToken, At: 2}},
		{append([]byte{1}, long...), 12, api.Fault{Code: api.ErrToken, At: 2}},
		{[]byte{129, 0, 128, 128, 4}, 3, api.Fault{Code: api.ErrNonMinimal, At: 2}},
	} {
		r := at1(c.b...)
		if x := token.Read(r); !isZero(x) {
			t.Error(c.b, x)
		}
		expect(t, r, c.at, c.f)
	}
}

// P11.2: a reader with a fault keeps it and its position, and a nil one has nothing.
func TestFaultIsKept(t *testing.T) {
	for _, b := range [][]byte{nil, {0}, {0, 7}, {1, 0}, {3, 255, 255, 3}, {3, 128, 128, 4}, {128, 0}, {128, 128, 128, 1}} {
		r := failed(b...)
		isCopy, n := token.Head(r)
		if off, x := token.Offset(r), token.Read(r); isCopy || n != 0 || off != 0 || !isZero(x) {
			t.Error(b, isCopy, n, off, x)
		}
		expect(t, r, 1, api.Fault{Code: api.ErrRest, At: 8})
	}
	isCopy, n := token.Head(nil)
	if off, x := token.Offset(nil), token.Read(nil); isCopy || n != 0 || off != 0 || !isZero(x) {
		t.Error(isCopy, n, off, x)
	}
}

// P11.2: a part's end is the end of a token too.
func TestReadPart(t *testing.T) {
	r := at1(2, 7, 8, 9)
	p := r.Part(2)
	if x := token.Read(p); !isZero(x) {
		t.Error(x)
	}
	expect(t, p, 2, api.Fault{Code: api.ErrShort, At: 3})
	expect(t, r, 1, good)
}

// tokensOf is the definition's words: what Get gives.
func tokensOf(b []byte) ([]api.Token, api.Fault) {
	var l []api.Token
	for at := 0; at < len(b); {
		x, n, f := varint.Get(b[at:])
		if f != good {
			return nil, api.Fault{Code: f.Code, At: at + f.At}
		}
		if x > 2*(1<<20-1) && x%2 == 0 || x > 2*(1<<20-4)+1 && x%2 == 1 {
			return nil, api.Fault{Code: api.ErrLong, At: at}
		}
		at += n
		if x%2 == 0 {
			if uint64(len(b)-at) < x/2+1 {
				return nil, api.Fault{Code: api.ErrShort, At: len(b)}
			}
			l = append(l, run(b[at:at+int(x/2)+1]...))
			at += int(x/2) + 1
			continue
		}
		off, n, f := varint.Get(b[at:])
		if f != good {
			return nil, api.Fault{Code: f.Code, At: at + f.At}
		}
		if off > 65535 {
			return nil, api.Fault{Code: api.ErrToken, At: at}
		}
		l = append(l, back(int(off)+1, int(x/2)+4))
		at += n
	}
	return l, good
}

// texts are all byte strings of at most n of some bytes.
func texts(n int, each ...byte) [][]byte {
	l := [][]byte{nil}
	for i := 0; i < len(l) && len(l[i]) < n; i++ {
		for _, c := range each {
			l = append(l, append(slices.Clone(l[i]), c))
		}
	}
	return l
}

// P11.2, P11.3: Get gives what the definition says, and writing what was read gives the same bytes.
func TestGetAndOneEncoding(t *testing.T) {
	all := append(texts(6, 0, 1, 2, 3, 5, 128), texts(5, 0, 1, 4, 127, 128, 129, 251, 255)...)
	accepted := 0
	for _, b := range all {
		before := slices.Clone(b)
		want, fault := tokensOf(b)
		l, f := token.Get(b)
		if f != fault || !token.Same(l, want) || (f != good && l != nil) {
			t.Fatalf("%v: %v, %v, not %v, %v", b, l, f, want, fault)
		}
		if !bytes.Equal(b, before) {
			t.Fatal(before, "was changed")
		}
		if f != good {
			continue
		}
		accepted++
		if again, code := token.Bytes(l); code != api.OK || !bytes.Equal(again, b) {
			t.Fatalf("%v: %v is written as %v", b, l, again)
		}
	}
	if accepted < 1000 {
		t.Error("too few were accepted to tell:", accepted)
	}
}

// P11.3: encoded tokens are read back; where bytes are missing they are others, or a fault.
func TestRoundTrip(t *testing.T) {
	lists := [][]api.Token{nil, tokens()}
	for _, x := range tokens() {
		lists = append(lists, []api.Token{x}, []api.Token{run(7), x}, []api.Token{x, x, back(3, 9)})
	}
	for _, l := range lists {
		b, code := token.Bytes(l)
		if code != api.OK {
			t.Fatal(code)
		}
		if got, f := token.Get(b); f != good || !token.Same(got, l) {
			t.Fatalf("%d tokens are read back as %d, %v", len(l), len(got), f)
		}
	}
	l := []api.Token{run(7, 8, 9), back(2, 300), run(count(70)...), back(1<<16, 4)}
	b, _ := token.Bytes(l)
	ends := map[int]int{0: 0, 4: 1, 7: 2, 79: 3, 83: 4}
	for n := range len(b) + 1 {
		got, f := token.Get(b[:n])
		if whole, ok := ends[n]; ok {
			if f != good || !token.Same(got, l[:whole]) {
				t.Error(n, got, f)
			}
		} else if got != nil || f != (api.Fault{Code: api.ErrShort, At: n}) {
			t.Error(n, got, f)
		}
	}
}

// P11.1, P11.2: results are new memory, of which no two share any, and arguments stay as they are.
func TestMemory(t *testing.T) {
	b := []byte{2, 7, 8, 0, 9, 2, 10, 11}
	l, f := token.Get(b)
	if f != good || len(l) != 3 {
		t.Fatal(l, f)
	}
	for i := range b {
		b[i] = 200
	}
	l[0].Lit = append(l[0].Lit, 201)
	l[0].Lit[0] = 202
	if !bytes.Equal(l[1].Lit, []byte{9}) || !bytes.Equal(l[2].Lit, []byte{10, 11}) || l[0].Lit[1] != 8 {
		t.Error(l)
	}
	for _, c := range b {
		if c != 200 {
			t.Error(b)
		}
	}
	lit := []byte{7, 8}
	out, _ := token.Bytes([]api.Token{{Lit: lit}})
	lit[0] = 3
	out[2] = 4
	if out[1] != 7 || lit[1] != 8 {
		t.Error(out, lit)
	}
	w := pen.New(9)
	token.Put(w, api.Token{Lit: lit})
	lit[0] = 5
	if got, _ := w.Bytes(); !bytes.Equal(got, []byte{2, 3, 8}) {
		t.Error(got)
	}
}

// Ways of layer 11: tokens are distinguished by a switch without an expression whose first case falls through.
func TestSwitchFallsThrough(t *testing.T) {
	file, err := parser.ParseFile(gotoken.NewFileSet(), "token.go", nil, 0)
	if err != nil {
		t.Fatal(err)
	}
	found := 0
	ast.Inspect(file, func(n ast.Node) bool {
		s, ok := n.(*ast.SwitchStmt)
		if !ok || s.Tag != nil || len(s.Body.List) < 2 {
			return true
		}
		first := s.Body.List[0].(*ast.CaseClause).Body
		if b, ok := first[len(first)-1].(*ast.BranchStmt); ok && b.Tok == gotoken.FALLTHROUGH {
			found++
		}
		return true
	})
	if found != 1 {
		t.Error(found)
	}
}
