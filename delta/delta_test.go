package delta_test

import (
	"bytes"
	"go/ast"
	"go/parser"
	"go/token"
	"math"
	"math/big"
	"math/rand"
	"slices"
	"testing"

	"tholepin/api"
	"tholepin/cursor"
	"tholepin/delta"
	"tholepin/pen"
	"tholepin/varint"
)

var good = api.Fault{}

// top is the greatest number.
const top = uint64(math.MaxUint64)

// numbers are those that lists are made of, and those below which they are.
func numbers() []uint64 {
	return []uint64{0, 1, 2, 127, 128, 300, 1 << 62, 1 << 63, top - 1, top}
}

// lists are all lists of up to four of the numbers, decreasing or not.
func lists() [][]uint64 {
	l := [][]uint64{nil}
	for i := 0; i < len(l) && len(l[i]) < 4; i++ {
		for _, x := range numbers() {
			l = append(l, append(slices.Clone(l[i]), x))
		}
	}
	return l
}

// falls is the definition's words.
func falls(below uint64, l []uint64) bool {
	for k, x := range l {
		if k == 0 && !(x < below) || k > 0 && !(x < l[k-1]) {
			return false
		}
	}
	return true
}

// steps is the definition's words, counted without a bound; false if a difference is below 1.
func steps(below uint64, l []uint64) ([]uint64, bool) {
	ahead := new(big.Int).SetUint64(below)
	var out []uint64
	for _, x := range l {
		n := new(big.Int).SetUint64(x)
		d := new(big.Int).Sub(ahead, n)
		if d.Sub(d, big.NewInt(1)).Sign() < 0 {
			return nil, false
		}
		out = append(out, d.Uint64())
		ahead = n
	}
	return out, true
}

// list is the list of some steps, counted without a bound; false if a number is below 0.
func list(below uint64, steps []uint64) ([]uint64, bool) {
	n := new(big.Int).SetUint64(below)
	var out []uint64
	for _, x := range steps {
		n.Sub(n, new(big.Int).SetUint64(x)).Sub(n, big.NewInt(1))
		if n.Sign() < 0 {
			return nil, false
		}
		out = append(out, n.Uint64())
	}
	return out, true
}

// join is integers, one behind the other.
func join(l ...uint64) []byte {
	var b []byte
	for _, x := range l {
		b = append(b, varint.Bytes(x)...)
	}
	return b
}

// encoding is the definition's words, of a list that decreases.
func encoding(below uint64, l []uint64) []byte {
	out, _ := steps(below, l)
	return append(join(uint64(len(l))), join(out...)...)
}

// at1 is a reader of one byte 5 and others, at position 1.
func at1(b ...byte) *cursor.Reader {
	r := cursor.New(append([]byte{5}, b...))
	r.Skip(1)
	return r
}

// expect checks where a reader is, and its fault.
func expect(t *testing.T, r *cursor.Reader, at int, f api.Fault) {
	t.Helper()
	if r.At() != at || r.Fault() != f {
		t.Errorf("at %d with %v, not %d with %v", r.At(), r.Fault(), at, f)
	}
}

// expected is what is read from position 1 on, and the fault, by the chapter's words.
func expected(b []byte, below uint64, most int) ([]uint64, api.Fault) {
	r := at1(b...)
	n := varint.ReadInt(r, most)
	var l []uint64
	for k := 0; k < n && r.Good(); k++ {
		at := r.At()
		l = append(l, varint.Read(r))
		if _, ok := list(below, l); !ok {
			r.Fail(api.ErrOrder, at)
		}
	}
	if !r.Good() {
		return nil, r.Fault()
	}
	out, _ := list(below, l)
	return out, good
}

// check holds what is read from some bytes against what is expected.
func check(t *testing.T, b []byte, below uint64, most int) {
	t.Helper()
	want, f := expected(b, below, most)
	r := at1(b...)
	if l := delta.Read(r, below, most); !slices.Equal(l, want) || r.Fault() != f || f != good && l != nil {
		t.Fatal(b, below, most, l, r.Fault(), "not", want, f)
	}
}

// P22.1, P22.2: the examples of the chapter.
func TestExamples(t *testing.T) {
	l := []uint64{99, 90, 0}
	if s, ok := delta.Steps(100, l); !slices.Equal(s, []uint64{0, 8, 89}) || !ok {
		t.Error(s, ok)
	}
	w := pen.New(9)
	delta.Put(w, 100, l)
	if b, code := w.Bytes(); code != api.OK || !bytes.Equal(b, []byte{0x03, 0x00, 0x08, 0x59}) {
		t.Error(b, code)
	}
	r := cursor.New([]byte{2, 0, 99})
	if got := delta.Read(r, 100, 4); got != nil || r.Fault() != (api.Fault{Code: api.ErrOrder, At: 2}) {
		t.Error(got, r.Fault())
	}
	r = cursor.New([]byte{3, 0, 8, 89})
	if got := delta.Read(r, 100, 3); !slices.Equal(got, l) || !r.Good() || r.Left() != 0 {
		t.Error(got, r.Fault())
	}
}

// P22.1: which lists decrease, below which numbers.
func TestFalls(t *testing.T) {
	for i, c := range []struct {
		below uint64
		l     []uint64
		want  bool
	}{
		{0, nil, true},
		{0, []uint64{}, true},
		{top, nil, true},
		{0, []uint64{0}, false},
		{1, []uint64{0}, true},
		{1, []uint64{1}, false},
		{100, []uint64{100}, false}, // less than, not equal to
		{100, []uint64{99}, true},
		{100, []uint64{101}, false},
		{100, []uint64{99, 99}, false},
		{100, []uint64{99, 98}, true},
		{100, []uint64{98, 99}, false}, // each below 100, but the second one not below the first
		{100, []uint64{5, 4, 3, 2, 1, 0}, true},
		{100, []uint64{5, 4, 3, 3, 1, 0}, false},
		{100, []uint64{5, 4, 3, 2, 1, 2}, false},
		{100, []uint64{0, 0}, false},
		{100, []uint64{0, top}, false},
		{top, []uint64{top}, false},
		{top, []uint64{top - 1, 1 << 63, 0}, true},
		{0, []uint64{top}, false},
	} {
		if delta.Falls(c.below, c.l) != c.want {
			t.Errorf("case %d: %v", i, !c.want)
		}
	}
}

// P22.1: Falls, Steps and List, for all lists of some numbers below each of them.
func TestStepsAndList(t *testing.T) {
	fell, rose, listed, unlisted := 0, 0, 0, 0
	for _, l := range lists() {
		for _, below := range numbers() {
			want, ok := steps(below, l)
			if falls(below, l) != ok || delta.Falls(below, l) != ok {
				t.Fatal(below, l, delta.Falls(below, l))
			}
			got, does := delta.Steps(below, l)
			if !slices.Equal(got, want) || does != ok || !does && got != nil {
				t.Fatal(below, l, got, does, "not", want, ok)
			}
			if does {
				fell++
				if again, ok := delta.List(below, got); !slices.Equal(again, l) || !ok {
					t.Fatal(below, l, got, again, ok)
				}
			} else {
				rose++
			}
			want, ok = list(below, l) // the same numbers as steps
			got, does = delta.List(below, l)
			if !slices.Equal(got, want) || does != ok || !does && got != nil {
				t.Fatal(below, l, got, does, "not", want, ok)
			}
			if does {
				listed++
				if again, ok := delta.Steps(below, got); !slices.Equal(again, l) || !ok {
					t.Fatal(below, l, got, again, ok)
				}
			} else {
				unlisted++
			}
		}
	}
	if min(fell, rose, listed, unlisted) < 500 {
		t.Error(fell, rose, listed, unlisted)
	}
}

// P22.1: List, row by row, where a number would be below 0.
func TestListRows(t *testing.T) {
	for i, c := range []struct {
		below    uint64
		steps, l []uint64
		ok       bool
	}{
		{100, []uint64{0, 8, 89}, []uint64{99, 90, 0}, true},
		{100, []uint64{0, 8, 90}, nil, false},
		{100, []uint64{99}, []uint64{0}, true},
		{100, []uint64{100}, nil, false},
		{100, []uint64{99, 0}, nil, false},
		{100, []uint64{100, 0}, nil, false},
		{0, nil, nil, true},
		{0, []uint64{0}, nil, false},
		{0, []uint64{top}, nil, false}, // a step and 1 are 0 again
		{7, []uint64{top}, nil, false},
		{top, []uint64{top}, nil, false},
		{top, []uint64{top - 1}, []uint64{0}, true},
		{top, []uint64{0, top - 2}, []uint64{top - 1, 0}, true},
		{top, []uint64{0, top - 1}, nil, false},
	} {
		if l, ok := delta.List(c.below, c.steps); !slices.Equal(l, c.l) || ok != c.ok || !ok && l != nil {
			t.Errorf("case %d: %v, %v", i, l, ok)
		}
	}
}

// P22.2: Put writes the encoding of a decreasing list, of Size bytes, and nothing of another one.
func TestPutAndSize(t *testing.T) {
	for _, l := range lists() {
		for _, below := range numbers() {
			if !falls(below, l) {
				for _, room := range []int{0, 1, 100} { // too little room is no code of such a list
					w := pen.New(1 + room)
					w.Put(9)
					delta.Put(w, below, l)
					if w.Code() != api.ErrInvalid || w.Len() != 1 {
						t.Fatal(below, l, room, w.Code(), w.Len())
					}
				}
				if n := delta.Size(below, l); n != 0 {
					t.Fatal(below, l, n)
				}
				continue
			}
			want := encoding(below, l)
			w := pen.New(1 + len(want))
			w.Put(9)
			delta.Put(w, below, l)
			if b, code := w.Bytes(); code != api.OK || b[0] != 9 || !bytes.Equal(b[1:], want) {
				t.Fatal(below, l, b, code)
			}
			if n := delta.Size(below, l); n != len(want) {
				t.Fatal(below, l, n)
			}
		}
	}
}

// P22.2: with less room than it needs a list gives ErrLong; with a code nothing is written and the
// code is kept; a nil writer takes everything.
func TestPutWithoutRoomOrAfterACode(t *testing.T) {
	l := []uint64{99, 90, 0}
	for room := range delta.Size(1000, l) {
		w := pen.New(room)
		delta.Put(w, 1000, l)
		if b, code := w.Bytes(); b != nil || code != api.ErrLong || w.Len() > room {
			t.Error(room, b, code, w.Len())
		}
	}
	w := pen.New(0) // the length of an empty list is a byte too
	delta.Put(w, 0, nil)
	if w.Code() != api.ErrLong || w.Len() != 0 || delta.Size(0, nil) != 1 {
		t.Error(w.Code(), w.Len())
	}
	for _, l := range [][]uint64{l, {5, 6}, nil} {
		w := pen.New(9)
		w.Fail(api.ErrSum)
		delta.Put(w, 100, l)
		if w.Code() != api.ErrSum || w.Len() != 0 {
			t.Error(l, w.Code(), w.Len())
		}
		delta.Put(nil, 100, l)
	}
	w = pen.New(9)
	delta.Put(w, 100, []uint64{5, 6})
	delta.Put(w, 100, l)
	if w.Code() != api.ErrInvalid || w.Len() != 0 {
		t.Error(w.Code(), w.Len())
	}
}

// P22.2: each fault of Read, the first one in the order of the bytes, and nothing beside it.
func TestReadRefuses(t *testing.T) {
	over := append(bytes.Repeat([]byte{255}, 9), 2)
	for i, c := range []struct {
		b     []byte
		below uint64
		most  int
		l     []uint64
		f     api.Fault
	}{
		// the length
		{nil, 100, 4, nil, api.Fault{Code: api.ErrShort, At: 1}},
		{[]byte{128}, 100, 4, nil, api.Fault{Code: api.ErrShort, At: 2}},
		{[]byte{128, 0}, 100, 4, nil, api.Fault{Code: api.ErrNonMinimal, At: 2}},
		{over, 100, math.MaxInt, nil, api.Fault{Code: api.ErrOverflow, At: 10}},
		{[]byte{5, 0, 0, 0, 0, 0}, 100, 4, nil, api.Fault{Code: api.ErrLong, At: 1}},
		{[]byte{4, 0, 0, 0, 0}, 100, 4, []uint64{99, 98, 97, 96}, good},
		{[]byte{1, 0}, 100, 0, nil, api.Fault{Code: api.ErrLong, At: 1}},
		{[]byte{0}, 100, 0, nil, good},
		{[]byte{0}, 0, 4, nil, good},
		{[]byte{0}, 100, -1, nil, api.Fault{Code: api.ErrLong, At: 1}},
		{[]byte{0}, 100, math.MinInt, nil, api.Fault{Code: api.ErrLong, At: 1}},
		{join(1<<63, 0), 100, math.MaxInt, nil, api.Fault{Code: api.ErrLong, At: 1}},
		{join(top, 0), 100, math.MaxInt, nil, api.Fault{Code: api.ErrLong, At: 1}},
		{[]byte{5, 200}, 100, 4, nil, api.Fault{Code: api.ErrLong, At: 1}}, // ahead of the element
		// the elements
		{[]byte{1}, 100, 4, nil, api.Fault{Code: api.ErrShort, At: 2}},
		{[]byte{2, 7}, 100, 4, nil, api.Fault{Code: api.ErrShort, At: 3}},
		{[]byte{2, 7, 128}, 100, 4, nil, api.Fault{Code: api.ErrShort, At: 4}},
		{[]byte{2, 7, 128, 0}, 100, 4, nil, api.Fault{Code: api.ErrNonMinimal, At: 4}},
		{append([]byte{2, 7}, over...), 100, 4, nil, api.Fault{Code: api.ErrOverflow, At: 12}},
		{[]byte{1, 99}, 100, 4, []uint64{0}, good},
		{[]byte{1, 100}, 100, 4, nil, api.Fault{Code: api.ErrOrder, At: 2}},
		{[]byte{1, 101}, 100, 4, nil, api.Fault{Code: api.ErrOrder, At: 2}},
		{join(1, top), 100, 4, nil, api.Fault{Code: api.ErrOrder, At: 2}}, // a step and 1 are 0 again
		{join(1, top), top, 4, nil, api.Fault{Code: api.ErrOrder, At: 2}},
		{join(1, top-1), top, 4, []uint64{0}, good},
		{[]byte{1, 0}, 0, 4, nil, api.Fault{Code: api.ErrOrder, At: 2}}, // nothing is below 0
		{[]byte{1, 0}, 1, 4, []uint64{0}, good},
		{[]byte{2, 0, 0}, 1, 4, nil, api.Fault{Code: api.ErrOrder, At: 3}},
		{[]byte{2, 0, 99}, 100, 4, nil, api.Fault{Code: api.ErrOrder, At: 3}},
		{[]byte{2, 0, 98}, 100, 4, []uint64{99, 0}, good},
		{join(3, 300, 1, 698), 1000, 4, nil, api.Fault{Code: api.ErrOrder, At: 5}},
		{join(3, 300, 1, 696), 1000, 4, []uint64{699, 697, 0}, good},
		// the first of two
		{[]byte{2, 100, 128}, 100, 4, nil, api.Fault{Code: api.ErrOrder, At: 2}},
		{[]byte{2, 100, 100}, 100, 4, nil, api.Fault{Code: api.ErrOrder, At: 2}},
		{[]byte{2, 128, 0, 100}, 100, 4, nil, api.Fault{Code: api.ErrNonMinimal, At: 3}},
		{[]byte{1, 128}, 0, 4, nil, api.Fault{Code: api.ErrShort, At: 3}},         // no integer, so none that is too great
		{[]byte{1, 128, 0}, 0, 4, nil, api.Fault{Code: api.ErrNonMinimal, At: 3}}, // likewise
		{[]byte{1}, 0, 4, nil, api.Fault{Code: api.ErrShort, At: 2}},
		// what follows is left
		{[]byte{1, 99, 128}, 100, 4, []uint64{0}, good},
	} {
		r := at1(c.b...)
		l := delta.Read(r, c.below, c.most)
		if !slices.Equal(l, c.l) || r.Fault() != c.f || c.f != good && l != nil {
			t.Errorf("case %d: %v with %v", i, l, r.Fault())
		}
		check(t, c.b, c.below, c.most)
	}
}

// P22.2: a length that is far beyond what there is ends at the first fault, and sets nothing aside.
func TestReadOfAGreatLength(t *testing.T) {
	for _, n := range []uint64{1 << 31, 1 << 40, 1<<63 - 1} {
		b := append(join(n), 0, 0)
		r := at1(b...)
		if l := delta.Read(r, 100, math.MaxInt); l != nil || r.Fault() != (api.Fault{Code: api.ErrShort, At: 1 + len(b)}) {
			t.Error(n, l, r.Fault())
		}
		r = at1(b...)
		if l := delta.Read(r, 1, math.MaxInt); l != nil || r.Fault() != (api.Fault{Code: api.ErrOrder, At: len(b)}) {
			t.Error(n, l, r.Fault())
		}
	}
}

// P22.2: a reader with a fault keeps it and its position, and a nil reader gives nothing.
func TestFaultIsKept(t *testing.T) {
	for _, b := range [][]byte{{3, 0, 8, 89}, {0}, {5}, {1, 100}, {128, 0}, nil} {
		for _, most := range []int{-1, 0, 4, math.MaxInt} {
			r := at1(b...)
			r.Fail(api.ErrRest, 8)
			if l := delta.Read(r, 100, most); l != nil {
				t.Error(b, l)
			}
			expect(t, r, 1, api.Fault{Code: api.ErrRest, At: 8})
			if l := delta.Read(nil, 100, most); l != nil {
				t.Error(l)
			}
		}
	}
}

// P22.3: what was written is read back below the same number, whatever follows, and no beginning of
// it is the list.
func TestRoundTrip(t *testing.T) {
	var long []uint64
	for k := range uint64(2000) {
		n := 2000 - k
		long = append(long, n*n*n*n*5+n)
	}
	for _, l := range append(lists(), long) {
		for _, below := range numbers() {
			if !falls(below, l) {
				continue
			}
			w := pen.New(1 << 20)
			delta.Put(w, below, l)
			b, _ := w.Bytes()
			for _, behind := range [][]byte{nil, {0}, {128}, {255, 255, 255}} {
				r := at1(append(slices.Clone(b), behind...)...)
				if got := delta.Read(r, below, len(l)); !slices.Equal(got, l) {
					t.Fatalf("%v below %d is read back as %v", l, below, got)
				}
				expect(t, r, 1+len(b), good)
			}
			for n := range min(len(b), 40) {
				r := at1(b[:n]...)
				if got := delta.Read(r, below, len(l)); got != nil || r.Fault() != (api.Fault{Code: api.ErrShort, At: 1 + n}) {
					t.Fatalf("%d bytes of %v: %v with %v", n, l, got, r.Fault())
				}
			}
		}
	}
}

// P22.3: what was read decreases, and writing it gives the bytes that were read.
func TestOneEncoding(t *testing.T) {
	parts := [][]byte{{0}, {1}, {2}, {3}, {127}, {128, 0}, {128, 1}, {172, 2}, {255}, join(1 << 63), join(top - 1), join(top)}
	var texts [][]byte
	level := [][]byte{nil}
	for range 4 {
		var next [][]byte
		for _, b := range level {
			for _, p := range parts {
				next = append(next, append(slices.Clone(b), p...))
			}
		}
		texts, level = append(texts, next...), next
	}
	accepted, refused := 0, 0
	for _, b := range texts {
		for _, below := range []uint64{0, 1, 3, 300, 1 << 63, top} {
			check(t, b, below, 3)
			r := cursor.New(b)
			l := delta.Read(r, below, 3)
			if !r.Good() {
				refused++
				continue
			}
			accepted++
			w := pen.New(len(b))
			delta.Put(w, below, l)
			if got, code := w.Bytes(); !falls(below, l) || len(l) > 3 || code != api.OK || !bytes.Equal(got, r.Since(0)) {
				t.Fatalf("%v below %d is read as %v, which is written as %v", b, below, l, got)
			}
		}
	}
	if accepted < 10000 || refused < 10000 {
		t.Error("too few to tell:", accepted, refused)
	}
}

// P22.2, P22.3: any bytes, below any number.
func TestAnyBytes(t *testing.T) {
	rnd := rand.New(rand.NewSource(22))
	for range 20000 {
		b := []byte{byte(rnd.Intn(6))}
		for range rnd.Intn(8) {
			b = append(b, byte(rnd.Intn(1<<(1+rnd.Intn(8)))))
		}
		check(t, b, rnd.Uint64()>>rnd.Intn(64), rnd.Intn(7)-1)
	}
}

// P22.3: a list that is moved by the same amount as the number has the same steps, and the same bytes.
func TestMovedListHasTheSameSteps(t *testing.T) {
	moved := 0
	for _, l := range lists() {
		for _, below := range numbers() {
			if !falls(below, l) {
				continue
			}
			want, _ := delta.Steps(below, l)
			for _, by := range []uint64{1, 5, 1 << 40, 1 << 62, 1 << 63, top - below} {
				if by > top-below {
					continue
				}
				m := slices.Clone(l)
				for k := range m {
					m[k] += by
				}
				if got, ok := delta.Steps(below+by, m); !slices.Equal(got, want) || !ok || delta.Size(below+by, m) != delta.Size(below, l) {
					t.Fatal(below, l, by, got, ok)
				}
				if got, ok := delta.List(below+by, want); !slices.Equal(got, m) || !ok {
					t.Fatal(below, l, by, got, ok)
				}
				moved++
			}
		}
	}
	if moved < 1000 {
		t.Error(moved)
	}
}

// Rule 4: arguments are not changed, and results are new memory.
func TestMemory(t *testing.T) {
	l, s := []uint64{99, 90, 0}, []uint64{0, 8, 89}
	delta.Falls(100, l)
	delta.Size(100, l)
	delta.Put(pen.New(9), 100, l)
	made, again := [2][]uint64{}, [2][]uint64{}
	made[0], _ = delta.Steps(100, l)
	again[0], _ = delta.Steps(100, l)
	made[1], _ = delta.List(100, s)
	again[1], _ = delta.List(100, s)
	for i, want := range [][]uint64{s, l} {
		made[i][0] = 77
		if !slices.Equal(again[i], want) {
			t.Error(i, again[i])
		}
	}
	if !slices.Equal(l, []uint64{99, 90, 0}) || !slices.Equal(s, []uint64{0, 8, 89}) {
		t.Error(l, s)
	}
	b := []byte{3, 0, 8, 89}
	x, y := delta.Read(cursor.New(b), 100, 3), delta.Read(cursor.New(b), 100, 3)
	x[0], b[1] = 77, 9
	if !slices.Equal(y, l) || !bytes.Equal(b, []byte{3, 9, 8, 89}) {
		t.Error(y, b)
	}
}

// Ways of layer 22: each function that visits a list ranges over an integer, and has no other loop.
func TestListsAreVisitedByIntegers(t *testing.T) {
	file, err := parser.ParseFile(token.NewFileSet(), "delta.go", nil, 0)
	if err != nil {
		t.Fatal(err)
	}
	ranges := map[string]int{}
	for _, d := range file.Decls {
		f, ok := d.(*ast.FuncDecl)
		if !ok {
			continue
		}
		ast.Inspect(f, func(n ast.Node) bool {
			switch x := n.(type) {
			case *ast.RangeStmt:
				_, isName := x.X.(*ast.Ident)
				if x.Value != nil || isName { // the lists have names, their lengths are calls
					t.Error(f.Name.Name, "ranges over a list")
				}
				ranges[f.Name.Name]++
			case *ast.ForStmt:
				t.Error(f.Name.Name, "has another loop")
			}
			return true
		})
	}
	for _, name := range []string{"Falls", "Steps", "List", "Put", "Size", "Read"} {
		if ranges[name] == 0 {
			t.Error(name, "ranges over nothing")
		}
	}
}
