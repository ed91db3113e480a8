package block_test

import (
	"bytes"
	"go/ast"
	"go/parser"
	"go/token"
	"math"
	"math/rand"
	"slices"
	"testing"

	"tholepin/api"
	"tholepin/block"
	"tholepin/cursor"
	"tholepin/expand"
	"tholepin/pen"
	"tholepin/press"
	"tholepin/varint"
)

var good = api.Fault{}

// distinct is n bytes in which no four occur again.
func distinct(n int) []byte {
	b := make([]byte, n)
	for at := range b {
		part := at % 4
		b[at] = byte(part<<6 | at/4>>(6*part)&63)
	}
	return b
}

// repeated is a text of n bytes in which much occurs again.
func repeated(n, kinds int) []byte {
	r := rand.New(rand.NewSource(int64(n)))
	var b []byte
	for len(b) < n {
		from := r.Intn(len(b) + 1)
		b = append(b, b[from:min(len(b), from+r.Intn(90))]...)
		b = append(b, byte(r.Intn(kinds)))
	}
	return b[:n]
}

// letters is n bytes a.
func letters(n int) []byte { return bytes.Repeat([]byte("a"), n) }

// edges are payloads whose compressed form is just shorter, as long, or just longer.
func edges() [][]byte {
	var l [][]byte
	for n := range 12 {
		l = append(l, letters(n))
	}
	for n := 118; n < 140; n++ { // the length of the blob of tokens grows here
		for m := range 9 {
			l = append(l, append(distinct(n), distinct(m)...))
		}
	}
	return l
}

// payloads are no bytes, and others of each length at which an encoding grows.
func payloads() [][]byte {
	l := [][]byte{nil, {}, {0}, []byte("abc"), letters(40), distinct(200)}
	for _, n := range []int{127, 128, 129, 16383, 16384, 20000} {
		l = append(l, letters(n), distinct(n), repeated(n, 3), repeated(n, 200))
	}
	return append(l, edges()...)
}

// stored is the definition's words for the method 0, and compressed for the method 1.
func stored(p []byte) []byte {
	return slices.Concat(varint.Bytes(uint64(len(p))), []byte{0}, p)
}

func compressed(n int, tokens []byte) []byte {
	return slices.Concat(varint.Bytes(uint64(n)), []byte{1}, varint.Bytes(uint64(len(tokens))), tokens)
}

// canonical is the definition's words: compressed if the blob has fewer bytes.
func canonical(p []byte) ([]byte, int) {
	tokens, _ := press.Bytes(p)
	if len(varint.Bytes(uint64(len(tokens))))+len(tokens) < len(p) {
		return compressed(len(p), tokens), block.Compressed
	}
	return stored(p), block.Stored
}

// at1 is a reader of one byte 5 and others, at position 1.
func at1(b ...byte) *cursor.Reader {
	r := cursor.New(append([]byte{5}, b...))
	r.Skip(1)
	return r
}

// P16.1 to P16.3: the examples of the chapter.
func TestExamples(t *testing.T) {
	if b, code := block.Bytes([]byte("abc")); code != api.OK || !bytes.Equal(b, []byte{3, 0, 'a', 'b', 'c'}) {
		t.Error(b, code)
	}
	forty, code := block.Bytes(letters(40))
	if code != api.OK || !bytes.Equal(forty, []byte{40, 1, 4, 0, 97, 71, 0}) {
		t.Fatal(forty, code)
	}
	if p, n, f := block.Get(forty, 40); !bytes.Equal(p, letters(40)) || n != 7 || f != good {
		t.Error(p, n, f)
	}
	if p, n, f := block.Get(stored(letters(40)), 40); p != nil || n != 0 || f != (api.Fault{Code: api.ErrNonCanonical, At: 42}) {
		t.Error(p, n, f)
	}
	if p, own, n, f := block.GetLoose(stored(letters(40)), 40); !bytes.Equal(p, letters(40)) || own || n != 42 || f != good {
		t.Error(p, own, n, f)
	}
	if block.Stored != 0 || block.Compressed != 1 {
		t.Error(block.Stored, block.Compressed)
	}
}

// P16.1: the canonical block, its method and its size.
func TestCanonicalBlock(t *testing.T) {
	ways := [2]int{}
	for _, p := range payloads() {
		want, way := canonical(p)
		ways[way]++
		if got := block.Way(p); got != way {
			t.Error(p, got)
		}
		if got, code := block.Bytes(p); code != api.OK || !bytes.Equal(got, want) {
			t.Error(len(p), len(got), code)
		}
		if got := block.Size(p); got != len(want) {
			t.Error(len(p), got)
		}
		w := pen.New(1 + len(want))
		w.Put(9)
		block.Put(w, p)
		if got, code := w.Bytes(); code != api.OK || !bytes.Equal(got[1:], want) || got[0] != 9 {
			t.Error(len(p), len(got), code)
		}
		for _, room := range []int{0, 1, len(want) - 1} {
			w := pen.New(room)
			block.Put(w, p)
			if got, code := w.Bytes(); code != api.ErrLong || got != nil || w.Len() > room {
				t.Error(len(p), room, code, w.Len())
			}
		}
	}
	if ways[0] < 20 || ways[1] < 20 {
		t.Error(ways)
	}
}

// P16.1: a payload is compressed if that saves one byte, and not if it saves none, the blob's
// length counted.
func TestSavesAByte(t *testing.T) {
	seen := map[int]bool{}
	for _, p := range edges() {
		tokens, _ := press.Bytes(p)
		saved := len(p) - len(tokens) - len(varint.Bytes(uint64(len(tokens))))
		want := block.Stored
		if saved > 0 {
			want = block.Compressed
		}
		if got := block.Way(p); got != want {
			t.Error(p, saved, got)
		}
		if len(tokens) > 127 {
			saved += 100
		}
		seen[saved] = true
	}
	for _, saved := range []int{-1, 0, 1, 99, 100, 101} {
		if !seen[saved] {
			t.Error("no payload saves", saved)
		}
	}
}

// P16.1 to P16.4: payloads of MaxPayload bytes, and longer ones.
func TestMaxPayload(t *testing.T) {
	const n = api.MaxPayload
	for _, p := range [][]byte{make([]byte, n), distinct(n)} {
		want, way := canonical(p)
		b, code := block.Bytes(p)
		if code != api.OK || !bytes.Equal(b, want) || block.Way(p) != way {
			t.Error(len(b), code)
		}
		for _, most := range []int{n, n + 1, math.MaxInt} {
			if got, size, f := block.Get(b, most); !bytes.Equal(got, p) || size != len(b) || f != good {
				t.Error(most, len(got), size, f)
			}
		}
		if got, size, f := block.Get(b, n-1); got != nil || size != 0 || f != (api.Fault{Code: api.ErrLong}) {
			t.Error(len(got), size, f)
		}
	}
	long := make([]byte, n+1)
	if b, code := block.Bytes(long); b != nil || code != api.ErrLong {
		t.Error(len(b), code)
	}
	if block.Way(long) != block.Stored || block.Size(long) != 0 {
		t.Error(block.Way(long), block.Size(long))
	}
	w := pen.New(math.MaxInt)
	w.Put(9)
	block.Put(w, long)
	if w.Code() != api.ErrLong || w.Len() != 1 {
		t.Error(w.Code(), w.Len())
	}
	tokens, _ := press.Bytes(long[1:])
	tokens = append(tokens, 0, 0)
	for _, b := range [][]byte{stored(long), compressed(n+1, tokens)} {
		for _, most := range []int{n, n + 1, math.MaxInt} {
			if p, own, size, f := block.GetLoose(b, most); p != nil || own || size != 0 || f != (api.Fault{Code: api.ErrLong}) {
				t.Error(len(p), own, size, f)
			}
		}
	}
}

// P16.1: with a code nothing is written and the code is kept, and a nil writer takes everything.
func TestPutAfterACode(t *testing.T) {
	long := make([]byte, api.MaxPayload+1)
	w := pen.New(99)
	w.Fail(api.ErrSum)
	block.Put(w, []byte{7})
	block.Put(w, nil)
	block.Put(w, long)
	if w.Code() != api.ErrSum || w.Len() != 0 {
		t.Error(w.Code(), w.Len())
	}
	block.Put(nil, []byte{7})
	block.Put(nil, long)
}

// expected is what a reader of bytes at 1 is to find: the words of ReadLoose, one by one.
func expected(b []byte, most int) (payload []byte, own bool, at int, f api.Fault) {
	r := at1(b...)
	n := varint.ReadInt(r, min(most, 1<<20))
	method := r.Byte()
	if method > 1 {
		r.Fail(api.ErrKind, r.At()-1)
	}
	switch {
	case !r.Good():
	case method == 0:
		payload = r.Take(n)
	default:
		size := varint.ReadInt(r, 1<<20)
		from := r.At()
		tokens := r.Take(size)
		if !r.Good() {
			break
		}
		out, f := expand.Bytes(tokens, n)
		r.Fail(f.Code, f.At+from)
		if len(out) < n {
			r.Fail(api.ErrInvalid, r.At())
		}
		payload = out
	}
	if !r.Good() {
		return nil, false, r.At(), r.Fault()
	}
	want, _ := canonical(payload)
	return payload, bytes.Equal(want, b[:r.At()-1]), r.At(), good
}

// check holds all four ways of reading some bytes against what is expected.
func check(t *testing.T, b []byte, most int) {
	t.Helper()
	payload, own, at, f := expected(b, most)
	r := at1(b...)
	if p, o := block.ReadLoose(r, most); !bytes.Equal(p, payload) || o != own || r.Fault() != f || f != good && p != nil || f == good && r.At() != at {
		t.Fatal(b, most, p, o, r.Fault(), r.At(), payload, own, f, at)
	}
	back := f
	if f != good {
		back.At--
		at = 1
	}
	if p, o, n, g := block.GetLoose(b, most); !bytes.Equal(p, payload) || o != own || g != back || f != good && p != nil || n != at-1 {
		t.Fatal(b, most, p, o, n, g, payload, own, back)
	}
	if f == good && !own {
		f = api.Fault{Code: api.ErrNonCanonical, At: at}
		back = api.Fault{Code: api.ErrNonCanonical, At: at - 1}
		payload, at = nil, 1
	}
	r = at1(b...)
	if p := block.Read(r, most); !bytes.Equal(p, payload) || r.Fault() != f || f != good && p != nil || f == good && r.At() != at {
		t.Fatal(b, most, p, r.Fault(), payload, f)
	}
	if p, n, g := block.Get(b, most); !bytes.Equal(p, payload) || g != back || f != good && p != nil || n != at-1 {
		t.Fatal(b, most, p, n, g, payload, back)
	}
}

// bounds are limits of which some are too small for a payload of n bytes.
func bounds(n int) []int {
	return []int{math.MinInt, -1, 0, 1, n - 1, n, n + 1, api.MaxPayload, api.MaxPayload + 1, math.MaxInt}
}

// P16.2 to P16.4: what was written is read back, whatever follows and up to most bytes, and no
// beginning of it is a block.
func TestReads(t *testing.T) {
	for _, p := range payloads() {
		b, _ := canonical(p)
		for _, behind := range [][]byte{nil, {0}, {255, 255}} {
			all := slices.Concat(b, behind)
			for _, most := range bounds(len(p)) {
				check(t, all, most)
			}
			if got, n, f := block.Get(all, len(p)); !bytes.Equal(got, p) || n != len(b) || f != good {
				t.Fatal(len(p), len(got), n, f)
			}
			if got, own, n, f := block.GetLoose(all, len(p)); !bytes.Equal(got, p) || !own || n != len(b) || f != good {
				t.Fatal(len(p), len(got), own, n, f)
			}
		}
		for n := range min(len(b), 300) {
			if got, size, f := block.Get(b[:n], len(p)); got != nil || size != 0 || f != (api.Fault{Code: api.ErrShort, At: n}) {
				t.Fatal(len(p), n, len(got), size, f)
			}
		}
	}
}

// P16.2 to P16.4: blocks that are written otherwise are read loosely only.
func TestOtherBlocks(t *testing.T) {
	for _, p := range payloads() {
		want, way := canonical(p)
		tokens, _ := press.Bytes(p)
		runs, _ := press.Runs(p)
		var run []byte
		for _, t := range runs {
			run = append(varint.Bytes(uint64(2*(len(t.Lit)-1))), t.Lit...)
		}
		for _, b := range [][]byte{stored(p), compressed(len(p), tokens), compressed(len(p), run)} {
			check(t, b, len(p))
			check(t, append(b, 7), len(p))
			own := bytes.Equal(b, want)
			_, _, f := block.Get(b, len(p))
			if own && f != good || !own && f != (api.Fault{Code: api.ErrNonCanonical, At: len(b)}) {
				t.Fatal(len(p), way, f)
			}
			if got, o, n, f := block.GetLoose(b, len(p)); !bytes.Equal(got, p) || o != own || n != len(b) || f != good {
				t.Fatal(len(p), way, o, n, f)
			}
		}
	}
}

// P16.2, P16.3: each fault, in the order of the bytes.
func TestRefuses(t *testing.T) {
	for _, c := range []struct {
		b    []byte
		most int
		f    api.Fault
	}{
		{nil, 9, api.Fault{Code: api.ErrShort, At: 0}},
		{[]byte{128}, 9, api.Fault{Code: api.ErrShort, At: 1}},
		{[]byte{128, 0}, 9, api.Fault{Code: api.ErrNonMinimal, At: 1}},
		{[]byte{10, 2}, 9, api.Fault{Code: api.ErrLong, At: 0}},
		{[]byte{0, 0}, -1, api.Fault{Code: api.ErrLong, At: 0}},
		{[]byte{128, 128, 65, 2}, math.MaxInt, api.Fault{Code: api.ErrLong, At: 0}}, // 2^20 + 2^14
		{[]byte{3}, 9, api.Fault{Code: api.ErrShort, At: 1}},
		{[]byte{3, 2}, 9, api.Fault{Code: api.ErrKind, At: 1}},
		{[]byte{3, 255, 1, 1, 1}, 9, api.Fault{Code: api.ErrKind, At: 1}},
		{[]byte{3, 0, 7, 7}, 9, api.Fault{Code: api.ErrShort, At: 4}},
		{[]byte{3, 1}, 9, api.Fault{Code: api.ErrShort, At: 2}},
		{[]byte{3, 1, 128, 0}, 9, api.Fault{Code: api.ErrNonMinimal, At: 3}},
		{[]byte{3, 1, 129, 128, 64}, 9, api.Fault{Code: api.ErrLong, At: 2}},  // 2^20 + 1
		{[]byte{3, 1, 128, 128, 64}, 9, api.Fault{Code: api.ErrShort, At: 5}}, // 2^20
		{[]byte{3, 1, 2, 4}, 9, api.Fault{Code: api.ErrShort, At: 4}},
		{[]byte{5, 1, 4, 0, 9, 1, 1}, 9, api.Fault{Code: api.ErrToken, At: 6}},
		{[]byte{4, 1, 4, 0, 9, 1, 0}, 9, api.Fault{Code: api.ErrBound, At: 5}},
		{[]byte{0, 1, 2, 0, 9}, 9, api.Fault{Code: api.ErrBound, At: 3}},
		{[]byte{5, 1, 3, 0, 9, 1, 0}, 9, api.Fault{Code: api.ErrShort, At: 6}}, // the tokens end, though bytes follow
		{[]byte{6, 1, 4, 0, 9, 1, 0}, 9, api.Fault{Code: api.ErrInvalid, At: 7}},
		{[]byte{6, 1, 4, 0, 9, 1, 0, 0, 9}, 9, api.Fault{Code: api.ErrInvalid, At: 7}},
		{[]byte{1, 1, 0}, 9, api.Fault{Code: api.ErrInvalid, At: 3}},
	} {
		check(t, c.b, c.most)
		if p, own, n, f := block.GetLoose(c.b, c.most); p != nil || own || n != 0 || f != c.f {
			t.Error(c.b, p, own, n, f)
		}
		if p, n, f := block.Get(c.b, c.most); p != nil || n != 0 || f != c.f {
			t.Error(c.b, p, n, f)
		}
	}
	for _, b := range [][]byte{{0, 1, 0}, {1, 1, 2, 0, 9}, {5, 1, 4, 0, 9, 1, 0}} {
		check(t, b, 9)
	}
}

// P16.2 to P16.4: bytes that were changed, and any bytes at all.
func TestAnyBytes(t *testing.T) {
	r := rand.New(rand.NewSource(16))
	for range 20000 {
		p := repeated(r.Intn(40), 1+r.Intn(3))
		b, _ := canonical(p)
		if r.Intn(4) == 0 {
			b = compressed(len(p), func() []byte { e, _ := press.Bytes(p); return e }())
		}
		for range r.Intn(3) {
			b[r.Intn(len(b))] = byte(r.Intn(1 << r.Intn(9)))
		}
		check(t, b, 30+r.Intn(20))
	}
	for range 20000 {
		b := make([]byte, r.Intn(9))
		for i := range b {
			b[i] = byte(r.Intn(1 << r.Intn(9)))
		}
		check(t, b, r.Intn(9))
	}
}

// P16.4: writing what Read accepted gives the same bytes.
func TestOneEncoding(t *testing.T) {
	accepted := 0
	for x := range 1 << 20 { // small bytes, of which most are blocks
		b := []byte{byte(x & 7), byte(x >> 3 & 1), byte(x >> 4 & 7), byte(x >> 7 & 3), byte(x >> 9 & 3), byte(x >> 11 & 7), byte(x >> 14 & 3), byte(x >> 16 & 15)}
		p, n, f := block.Get(b, 9)
		if f != good {
			continue
		}
		accepted++
		if again, code := block.Bytes(p); code != api.OK || !bytes.Equal(again, b[:n]) {
			t.Fatal(b, p, again)
		}
	}
	if accepted < 1000 {
		t.Error(accepted)
	}
}

// P16.2, P16.3: the first fault is kept, and a nil reader reads nothing.
func TestFaultIsKept(t *testing.T) {
	want := api.Fault{Code: api.ErrRest, At: 8}
	for _, b := range [][]byte{{3, 0, 'a', 'b', 'c'}, stored(letters(40)), {3, 2}, nil} {
		r := at1(b...)
		r.Fail(api.ErrRest, 8)
		if p := block.Read(r, 99); p != nil || r.Fault() != want || r.At() != 1 {
			t.Error(p, r.Fault(), r.At())
		}
		if p, own := block.ReadLoose(r, 99); p != nil || own || r.Fault() != want || r.At() != 1 {
			t.Error(p, own, r.Fault(), r.At())
		}
	}
	if p := block.Read(nil, 99); p != nil {
		t.Error(p)
	}
	if p, own := block.ReadLoose(nil, 99); p != nil || own {
		t.Error(p, own)
	}
}

// P16.2, P16.3: blocks one behind the other, and within a part.
func TestReadOn(t *testing.T) {
	a, b := []byte("abc"), letters(40)
	one, _ := block.Bytes(a)
	two, _ := block.Bytes(b)
	r := at1(slices.Concat(one, two, stored(b), one)...)
	if p := block.Read(r, 99); !bytes.Equal(p, a) {
		t.Error(p)
	}
	if p, own := block.ReadLoose(r, 99); !bytes.Equal(p, b) || !own {
		t.Error(p, own)
	}
	if p, own := block.ReadLoose(r, 99); !bytes.Equal(p, b) || own || r.At() != 55 {
		t.Error(p, own, r.At())
	}
	part := r.Part(4)
	if p := block.Read(part, 99); p != nil || part.Fault() != (api.Fault{Code: api.ErrShort, At: 59}) {
		t.Error(p, part.Fault())
	}
	if p := block.Read(r, 99); !bytes.Equal(p, a) || !r.Good() || r.Left() != 0 {
		t.Error(p, r.Fault())
	}
}

// Rules 4 and 7: arguments stay as they are, and what is given is new memory.
func TestMemory(t *testing.T) {
	for _, p := range [][]byte{[]byte("abc"), letters(40)} {
		before := slices.Clone(p)
		b, _ := block.Bytes(p)
		written := slices.Clone(b)
		first, _, _ := block.Get(b, 99)
		loose, _, _, _ := block.GetLoose(b, 99)
		block.Way(p)
		block.Size(p)
		for i := range first {
			first[i] = 1
		}
		_ = append(first, 1, 1)
		if !bytes.Equal(loose, p) || !bytes.Equal(b, written) || !bytes.Equal(p, before) {
			t.Error(loose, b, p)
		}
		for i := range b {
			b[i] = 2
		}
		if !bytes.Equal(loose, p) || !bytes.Equal(p, before) {
			t.Error(loose, p)
		}
	}
}

// Ways, layer 16: both readers call one function, to which each passes a method as a value.
func TestMethodIsPassedAsValue(t *testing.T) {
	file, err := parser.ParseFile(token.NewFileSet(), "block.go", nil, 0)
	if err != nil {
		t.Fatal(err)
	}
	shared := map[string]string{}
	ast.Inspect(file, func(n ast.Node) bool {
		fn, ok := n.(*ast.FuncDecl)
		if !ok || fn.Name.Name != "Read" && fn.Name.Name != "ReadLoose" {
			return true
		}
		ast.Inspect(fn, func(n ast.Node) bool {
			call, ok := n.(*ast.CallExpr)
			if !ok {
				return true
			}
			called, ok := call.Fun.(*ast.Ident)
			for _, x := range call.Args {
				if _, isValue := x.(*ast.SelectorExpr); ok && isValue {
					shared[fn.Name.Name] = called.Name
				}
			}
			return true
		})
		return false
	})
	if len(shared) != 2 || shared["Read"] != shared["ReadLoose"] {
		t.Error(shared)
	}
}
