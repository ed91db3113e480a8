package link_test

import (
	"bytes"
	"cmp"
	"go/ast"
	"go/parser"
	"go/token"
	"math"
	"math/big"
	"math/rand"
	"path/filepath"
	"slices"
	"strconv"
	"strings"
	"testing"

	"tholepin/api"
	"tholepin/cursor"
	"tholepin/delta"
	"tholepin/link"
	"tholepin/pen"
	"tholepin/varint"
)

var good = api.Fault{}

// top is the greatest stream, and the greatest number at which links may be.
const top = uint64(math.MaxUint64)

// example is the chapter's links at 10.
func example() []api.Link { return []api.Link{{Stream: 0, Backs: []uint64{9, 3}}} }

// positions are those at which links are, rightly or not.
func positions() []uint64 { return []uint64{0, 1, 5, 10, 300, 1 << 62, top} }

// parts are links of which lists are made.
func parts() []api.Link {
	var l []api.Link
	for _, stream := range []uint64{0, 1, 7, 300, 1 << 63, top - 1, top} {
		for _, backs := range [][]uint64{nil, {0}, {9, 3}, {4, 3, 2, 1}, {299, 9}, {1 << 62}, {3, 9}, {3, 3}} {
			l = append(l, api.Link{Stream: stream, Backs: backs})
		}
	}
	return l
}

// lists are all lists of up to two of the parts, some of three, and those at the limits; valid or not.
func lists() [][]api.Link {
	l := [][]api.Link{nil}
	for i := 0; i < len(l) && len(l[i]) < 2; i++ {
		for _, x := range parts() {
			l = append(l, append(slices.Clone(l[i]), x))
		}
	}
	rnd := rand.New(rand.NewSource(23))
	for range 4000 {
		var three []api.Link
		for range 3 {
			three = append(three, parts()[rnd.Intn(len(parts()))])
		}
		if len(l)%4 != 0 { // most of them in order
			slices.SortFunc(three, func(a, b api.Link) int { return cmp.Compare(a.Stream, b.Stream) })
		}
		l = append(l, three)
	}
	for _, n := range []int{15, 16, 17, 300} {
		for _, backs := range []int{0, 3, 4, 5, 9} {
			l = append(l, row(n, backs))
		}
	}
	return l
}

// falling is so many numbers, down to 0.
func falling(n int) []uint64 {
	var l []uint64
	for k := range n {
		l = append(l, uint64(n-1-k))
	}
	return l
}

// row is so many links with so many backs each.
func row(n, backs int) []api.Link {
	var l []api.Link
	for k := range n {
		l = append(l, api.Link{Stream: uint64(k * k * 50), Backs: falling(backs)})
	}
	return l
}

// text is links in words, in which nil and empty lists are the same.
func text(l []api.Link) string {
	var b strings.Builder
	for _, x := range l {
		b.WriteString("[" + strconv.FormatUint(x.Stream, 10) + ":")
		for _, y := range x.Backs {
			b.WriteString(" " + strconv.FormatUint(y, 10))
		}
		b.WriteString("]")
	}
	return b.String()
}

// valid is the definition's words.
func valid(pos uint64, l []api.Link) bool {
	if len(l) > 16 {
		return false
	}
	for i, x := range l {
		if i > 0 && !(x.Stream > l[i-1].Stream) || len(x.Backs) > 4 {
			return false
		}
		for k, y := range x.Backs {
			if k == 0 && !(y < pos) || k > 0 && !(y < x.Backs[k-1]) {
				return false
			}
		}
	}
	return true
}

// join is integers, one behind the other.
func join(l ...uint64) []byte {
	var b []byte
	for _, x := range l {
		b = append(b, varint.Bytes(x)...)
	}
	return b
}

// encoding is the definition's words, of valid links.
func encoding(pos uint64, l []api.Link) []byte {
	b := join(uint64(len(l)))
	for i, x := range l {
		if i == 0 {
			b = append(b, join(x.Stream)...)
		} else {
			b = append(b, join(x.Stream-l[i-1].Stream-1)...)
		}
		b = append(b, join(uint64(len(x.Backs)))...)
		before := pos
		for _, y := range x.Backs {
			b = append(b, join(before-y-1)...)
			before = y
		}
	}
	return b
}

// at1 is a reader of one byte 5 and others, at position 1.
func at1(b ...byte) *cursor.Reader {
	r := cursor.New(append([]byte{5}, b...))
	r.Skip(1)
	return r
}

// expect checks where a reader is, and its fault.
func expect(t *testing.T, r *cursor.Reader, at int, f api.Fault) {
	t.Helper()
	if r.At() != at || r.Fault() != f {
		t.Errorf("at %d with %v, not %d with %v", r.At(), r.Fault(), at, f)
	}
}

// expected is what is read from position 1 on, where it ends, and the fault, by the chapter's words;
// streams are counted without a bound.
func expected(b []byte, pos uint64) ([]api.Link, int, api.Fault) {
	r := at1(b...)
	n := varint.ReadInt(r, 16)
	var l []api.Link
	next := new(big.Int)
	for k := 0; k < n && r.Good(); k++ {
		at := r.At()
		next.Add(next, new(big.Int).SetUint64(varint.Read(r)))
		if !next.IsUint64() {
			r.Fail(api.ErrOrder, at)
		}
		l = append(l, api.Link{Stream: next.Uint64(), Backs: delta.Read(r, pos, 4)})
		next.Add(next, big.NewInt(1))
	}
	if !r.Good() {
		return nil, r.At(), r.Fault()
	}
	return l, r.At(), good
}

// check holds what is read from some bytes against what is expected.
func check(t *testing.T, b []byte, pos uint64) bool {
	t.Helper()
	want, at, f := expected(b, pos)
	r := at1(b...)
	l := link.Read(r, pos)
	if text(l) != text(want) || r.Fault() != f || f == good && r.At() != at || f != good && l != nil {
		t.Fatal(b, pos, text(l), r.At(), r.Fault(), "not", text(want), at, f)
	}
	return f == good
}

// P23.1, P23.2: the examples of the chapter.
func TestExamples(t *testing.T) {
	w := pen.New(9)
	link.Put(w, 10, example())
	if b, code := w.Bytes(); code != api.OK || !bytes.Equal(b, []byte{0x01, 0x00, 0x02, 0x00, 0x05}) {
		t.Error(b, code)
	}
	if n := link.Size(10, example()); n != 5 {
		t.Error(n)
	}
	r := cursor.New([]byte{1, 0, 2, 0, 5})
	l := link.Read(r, 10)
	if text(l) != "[0: 9 3]" || !r.Good() || r.Left() != 0 {
		t.Error(text(l), r.Fault())
	}
	if x := link.Extend(l[0], 10); text([]api.Link{x}) != "[0: 10 9 3]" {
		t.Error(x)
	}
}

// P23.1: which links are valid, and where.
func TestRight(t *testing.T) {
	for i, c := range []struct {
		pos  uint64
		l    []api.Link
		want bool
	}{
		{0, nil, true},
		{0, []api.Link{}, true},
		{top, nil, true},
		{0, []api.Link{{}}, true}, // the stream 0 is one
		{0, []api.Link{{Stream: top}}, true},
		{10, example(), true},
		{9, example(), false}, // less than, not equal to
		{4, example(), false},
		{top, example(), true},
		{0, []api.Link{{Backs: []uint64{0}}}, false},
		{1, []api.Link{{Backs: []uint64{0}}}, true},
		{10, []api.Link{{Backs: []uint64{3, 9}}}, false},
		{10, []api.Link{{Backs: []uint64{3, 3}}}, false},
		{10, []api.Link{{Stream: 1}, {Stream: 1}}, false},
		{10, []api.Link{{Stream: 2}, {Stream: 1}}, false},
		{10, []api.Link{{Stream: 1}, {Stream: 2}}, true},
		{10, []api.Link{{Stream: 0}, {Stream: 0}}, false},
		{10, []api.Link{{Stream: 0}, {Stream: 1}}, true},
		{10, []api.Link{{Stream: 0}, {Stream: top}}, true},
		{10, []api.Link{{Stream: top}, {Stream: top}}, false},
		{10, []api.Link{{Stream: top}, {Stream: 0}}, false},
		{10, []api.Link{{Stream: 1}, {Stream: 3}, {Stream: 2}}, false},
		{10, []api.Link{{Stream: 1}, {Stream: 3}, {Stream: 3}}, false},
		{10, []api.Link{{Stream: 1, Backs: []uint64{3}}, {Stream: 2, Backs: []uint64{9}}}, true}, // each below the position alone
		{10, []api.Link{{Stream: 1, Backs: []uint64{3}}, {Stream: 2, Backs: []uint64{10}}}, false},
		{10, []api.Link{{Stream: 1, Backs: []uint64{10}}, {Stream: 2, Backs: []uint64{9}}}, false},
		{10, []api.Link{{Backs: falling(4)}}, true},
		{10, []api.Link{{Backs: falling(5)}}, false},
		{10, []api.Link{{}, {Stream: 1, Backs: falling(5)}}, false},
		{10, row(16, 4), true},
		{10, row(17, 0), false},
		{10, row(17, 4), false},
	} {
		if link.Right(c.pos, c.l) != c.want {
			t.Errorf("case %d: %v", i, !c.want)
		}
	}
}

// P23.1: Right, Put and Size of many lists at many positions. Put writes the encoding of valid links,
// of Size bytes, and nothing of others.
func TestPutAndSize(t *testing.T) {
	rights, wrongs := 0, 0
	for _, l := range lists() {
		for _, pos := range positions() {
			ok := valid(pos, l)
			if link.Right(pos, l) != ok {
				t.Fatal(pos, text(l), !ok)
			}
			if !ok {
				wrongs++
				for _, room := range []int{0, 1, 100} { // too little room is no code of such links
					w := pen.New(1 + room)
					w.Put(9)
					link.Put(w, pos, l)
					if w.Code() != api.ErrInvalid || w.Len() != 1 {
						t.Fatal(pos, text(l), room, w.Code(), w.Len())
					}
				}
				if n := link.Size(pos, l); n != 0 {
					t.Fatal(pos, text(l), n)
				}
				continue
			}
			rights++
			want := encoding(pos, l)
			w := pen.New(1 + len(want))
			w.Put(9)
			link.Put(w, pos, l)
			if b, code := w.Bytes(); code != api.OK || b[0] != 9 || !bytes.Equal(b[1:], want) {
				t.Fatal(pos, text(l), b, code)
			}
			if n := link.Size(pos, l); n != len(want) {
				t.Fatal(pos, text(l), n)
			}
		}
	}
	if min(rights, wrongs) < 5000 {
		t.Error(rights, wrongs)
	}
}

// P23.1: with less room than they need links give ErrLong; with a code nothing is written and the
// code is kept; a nil writer takes everything.
func TestPutWithoutRoomOrAfterACode(t *testing.T) {
	l := []api.Link{{Stream: 5, Backs: []uint64{999, 3}}, {Stream: 900}}
	for room := range link.Size(1000, l) {
		w := pen.New(room)
		link.Put(w, 1000, l)
		if b, code := w.Bytes(); b != nil || code != api.ErrLong || w.Len() > room {
			t.Error(room, b, code, w.Len())
		}
	}
	w := pen.New(0) // the number of no links is a byte too
	link.Put(w, 0, nil)
	if w.Code() != api.ErrLong || w.Len() != 0 || link.Size(0, nil) != 1 {
		t.Error(w.Code(), w.Len())
	}
	for _, l := range [][]api.Link{l, {{Stream: 5}, {Stream: 5}}, nil} {
		w := pen.New(99)
		w.Fail(api.ErrSum)
		link.Put(w, 1000, l)
		if w.Code() != api.ErrSum || w.Len() != 0 {
			t.Error(text(l), w.Code(), w.Len())
		}
		link.Put(nil, 1000, l)
	}
	w = pen.New(99)
	link.Put(w, 1000, []api.Link{{Stream: 5}, {Stream: 5}})
	link.Put(w, 1000, l)
	if w.Code() != api.ErrInvalid || w.Len() != 0 {
		t.Error(w.Code(), w.Len())
	}
}

// P23.1: each fault of Read, the first one in the order of the bytes, and nothing beside it.
func TestReadRefuses(t *testing.T) {
	over := append(bytes.Repeat([]byte{255}, 9), 2)
	for i, c := range []struct {
		b    []byte
		pos  uint64
		want string
		f    api.Fault
	}{
		// the number of links
		{nil, 10, "", api.Fault{Code: api.ErrShort, At: 1}},
		{[]byte{128}, 10, "", api.Fault{Code: api.ErrShort, At: 2}},
		{[]byte{128, 0}, 10, "", api.Fault{Code: api.ErrNonMinimal, At: 2}},
		{over, 10, "", api.Fault{Code: api.ErrOverflow, At: 10}},
		{[]byte{17}, 10, "", api.Fault{Code: api.ErrLong, At: 1}},
		{append([]byte{17}, make([]byte, 40)...), 10, "", api.Fault{Code: api.ErrLong, At: 1}},
		{[]byte{145, 0, 0, 0}, 10, "", api.Fault{Code: api.ErrNonMinimal, At: 2}}, // ahead of ErrLong
		{join(1<<63, 0), 10, "", api.Fault{Code: api.ErrLong, At: 1}},
		{[]byte{0}, 10, "", good},
		{[]byte{0}, 0, "", good},
		{[]byte{16}, 10, "", api.Fault{Code: api.ErrShort, At: 2}},
		// the stream
		{[]byte{1}, 10, "", api.Fault{Code: api.ErrShort, At: 2}},
		{[]byte{1, 128}, 10, "", api.Fault{Code: api.ErrShort, At: 3}},
		{[]byte{1, 133, 0, 0}, 10, "", api.Fault{Code: api.ErrNonMinimal, At: 3}},
		{append([]byte{1}, over...), 10, "", api.Fault{Code: api.ErrOverflow, At: 11}},
		{join(1, top, 0), 10, "[18446744073709551615:]", good},
		{join(2, top, 0, 0, 0), 10, "", api.Fault{Code: api.ErrOrder, At: 13}},
		{join(2, top, 0, top, 0), 10, "", api.Fault{Code: api.ErrOrder, At: 13}}, // the sum is a stream again
		{join(2, top-1, 0, 0, 0), 10, "[18446744073709551614:][18446744073709551615:]", good},
		{join(2, top-1, 0, 1, 0), 10, "", api.Fault{Code: api.ErrOrder, At: 13}},
		{join(2, 0, 0, top-1, 0), 10, "[0:][18446744073709551615:]", good},
		{join(2, 0, 0, top, 0), 10, "", api.Fault{Code: api.ErrOrder, At: 4}},
		{join(2, 7, 0, top-8, 0), 10, "[7:][18446744073709551615:]", good},
		{join(2, 7, 0, top-7, 0), 10, "", api.Fault{Code: api.ErrOrder, At: 4}},
		{join(2, 7, 0, top-6, 0), 10, "", api.Fault{Code: api.ErrOrder, At: 4}},
		{join(3, 7, 0, 300, 0, top, 0), 10, "", api.Fault{Code: api.ErrOrder, At: 7}},
		{join(3, 7, 0, 300, 0, 0, 0), 10, "[7:][308:][309:]", good},
		{[]byte{2, 0, 0}, 10, "", api.Fault{Code: api.ErrShort, At: 4}},
		{append(join(2, top, 0), 128), 10, "", api.Fault{Code: api.ErrShort, At: 14}},         // no integer, so none that is too great
		{append(join(2, top, 0), 128, 0), 10, "", api.Fault{Code: api.ErrNonMinimal, At: 14}}, // likewise
		{append(join(2, top, 0, 0), 5), 10, "", api.Fault{Code: api.ErrOrder, At: 13}},        // ahead of the backs' ErrLong
		// the backs
		{[]byte{1, 0}, 10, "", api.Fault{Code: api.ErrShort, At: 3}},
		{[]byte{1, 0, 128, 0}, 10, "", api.Fault{Code: api.ErrNonMinimal, At: 4}},
		{[]byte{1, 0, 5, 0, 0, 0, 0, 0}, 10, "", api.Fault{Code: api.ErrLong, At: 3}},
		{[]byte{1, 0, 4, 0, 0, 0, 0}, 10, "[0: 9 8 7 6]", good},
		{[]byte{1, 0, 4, 0, 0, 0}, 10, "", api.Fault{Code: api.ErrShort, At: 7}},
		{[]byte{1, 0, 1, 9}, 10, "[0: 0]", good},
		{[]byte{1, 0, 1, 10}, 10, "", api.Fault{Code: api.ErrOrder, At: 4}},
		{[]byte{1, 0, 1, 0}, 0, "", api.Fault{Code: api.ErrOrder, At: 4}}, // nothing is below 0
		{[]byte{1, 0, 1, 0}, 1, "[0: 0]", good},
		{[]byte{1, 0, 2, 0, 9}, 10, "", api.Fault{Code: api.ErrOrder, At: 5}},
		{[]byte{1, 0, 2, 0, 8}, 10, "[0: 9 0]", good},
		{[]byte{2, 0, 1, 5, 0, 1, 0}, 10, "[0: 4][1: 9]", good}, // each below the position again
		{[]byte{2, 0, 1, 5, 0, 1, 10}, 10, "", api.Fault{Code: api.ErrOrder, At: 7}},
		{[]byte{2, 0, 1, 10, 128, 0}, 10, "", api.Fault{Code: api.ErrOrder, At: 4}}, // the first link's one
		{join(1, 0, 1, top), top, "", api.Fault{Code: api.ErrOrder, At: 4}},
		{join(1, 0, 1, top-1), top, "[0: 0]", good},
		// what follows is left
		{[]byte{1, 0, 2, 0, 5, 128}, 10, "[0: 9 3]", good},
		{[]byte{0, 128}, 10, "", good},
	} {
		r := at1(c.b...)
		l := link.Read(r, c.pos)
		if text(l) != c.want || r.Fault() != c.f || c.f != good && l != nil {
			t.Errorf("case %d: %s with %v", i, text(l), r.Fault())
		}
		check(t, c.b, c.pos)
	}
}

// P23.1: as many links as there may be, and one more.
func TestReadsUpToTheLimits(t *testing.T) {
	for _, backs := range []int{0, 4} {
		b := encoding(10, row(16, backs))
		r := at1(b...)
		if l := link.Read(r, 10); text(l) != text(row(16, backs)) {
			t.Error(text(l))
		}
		expect(t, r, 1+len(b), good)
		r = at1(encoding(10, row(17, backs))...)
		if l := link.Read(r, 10); l != nil {
			t.Error(text(l))
		}
		expect(t, r, 2, api.Fault{Code: api.ErrLong, At: 1})
	}
	b := encoding(10, row(16, 5))
	r := at1(b...)
	if l := link.Read(r, 10); l != nil || r.Fault() != (api.Fault{Code: api.ErrLong, At: 3}) {
		t.Error(text(l), r.Fault())
	}
}

// P23.1: a reader with a fault keeps it and its position, and a nil reader gives nothing.
func TestFaultIsKept(t *testing.T) {
	for _, b := range [][]byte{{1, 0, 2, 0, 5}, {0}, {17}, {2, 0, 0, 0, 0}, {128, 0}, nil} {
		r := at1(b...)
		r.Fail(api.ErrRest, 8)
		if l := link.Read(r, 10); l != nil {
			t.Error(b, l)
		}
		expect(t, r, 1, api.Fault{Code: api.ErrRest, At: 8})
	}
	if l := link.Read(nil, 10); l != nil {
		t.Error(l)
	}
}

// P23.2: Find gives the first link of a stream, of any list.
func TestFind(t *testing.T) {
	l := []api.Link{{Stream: 5, Backs: []uint64{4}}, {Stream: 3}, {Stream: 5, Backs: []uint64{7, 8}}, {Stream: top, Backs: []uint64{1, 1, 1, 1, 1, 1}}}
	for i, c := range []struct {
		l      []api.Link
		stream uint64
		want   string
		ok     bool
	}{
		{l, 5, "[5: 4]", true},
		{l, 3, "[3:]", true},
		{l, top, "[18446744073709551615: 1 1 1 1 1 1]", true},
		{l, 0, "[0:]", false},
		{l, 4, "[0:]", false},
		{l, 6, "[0:]", false},
		{l[1:], 5, "[5: 7 8]", true},
		{l[:0], 5, "[0:]", false},
		{nil, 0, "[0:]", false},
		{nil, 5, "[0:]", false},
		{[]api.Link{{}}, 0, "[0:]", true}, // the stream 0 is one
		{[]api.Link{{Stream: 1}, {}}, 0, "[0:]", true},
		{example(), 0, "[0: 9 3]", true},
	} {
		x, ok := link.Find(c.l, c.stream)
		if text([]api.Link{x}) != c.want || ok != c.ok || !ok && x.Backs != nil {
			t.Errorf("case %d: %v, %v", i, x, ok)
		}
	}
	all := row(16, 4)
	for i, x := range all {
		if got, ok := link.Find(all, x.Stream); !ok || text([]api.Link{got}) != text(all[i:i+1]) {
			t.Error(i, got, ok)
		}
		if got, ok := link.Find(all, x.Stream+1); ok || got.Stream != 0 || got.Backs != nil {
			t.Error(i, got, ok)
		}
	}
}

// P23.2: Extend puts a position ahead of the Backs, of any link, and leaves out what is too much.
func TestExtend(t *testing.T) {
	for i, c := range []struct {
		backs []uint64
		pos   uint64
		want  []uint64
	}{
		{nil, 0, []uint64{0}},
		{[]uint64{}, 10, []uint64{10}},
		{[]uint64{9}, 10, []uint64{10, 9}},
		{[]uint64{9, 3}, 10, []uint64{10, 9, 3}},
		{[]uint64{9, 3, 1}, 10, []uint64{10, 9, 3, 1}},
		{[]uint64{9, 3, 1, 0}, 10, []uint64{10, 9, 3, 1}},
		{[]uint64{9, 8, 7, 6, 5, 4}, 10, []uint64{10, 9, 8, 7}},
		{[]uint64{9, 3}, 10, []uint64{10, 9, 3}},
		{[]uint64{3, 9}, 10, []uint64{10, 3, 9}}, // what is not valid is extended too
		{[]uint64{9, 3}, 9, []uint64{9, 9, 3}},
		{[]uint64{9, 3}, 0, []uint64{0, 9, 3}},
		{[]uint64{top}, top, []uint64{top, top}},
	} {
		for _, stream := range []uint64{0, 5, top} {
			x := link.Extend(api.Link{Stream: stream, Backs: c.backs}, c.pos)
			if x.Stream != stream || !slices.Equal(x.Backs, c.want) {
				t.Errorf("case %d: %v", i, x)
			}
		}
	}
}

// with is the chapter's words, one link after the other.
func with(l []api.Link, x api.Link) []api.Link {
	has := slices.ContainsFunc(l, func(y api.Link) bool { return y.Stream == x.Stream })
	var out []api.Link
	done := false
	for _, y := range l {
		switch {
		case !done && has && y.Stream == x.Stream:
			out, done = append(out, x), true
			continue
		case !done && !has && y.Stream > x.Stream:
			out, done = append(out, x), true
		}
		out = append(out, y)
	}
	if !done {
		out = append(out, x)
	}
	return out
}

// P23.2: With, of any list; a valid one stays valid while there is room.
func TestWith(t *testing.T) {
	a := []api.Link{{Stream: 2, Backs: []uint64{1}}, {Stream: 5}, {Stream: 5, Backs: []uint64{4}}, {Stream: 3}}
	for i, c := range []struct {
		l      []api.Link
		stream uint64
		want   string
	}{
		{nil, 5, "[5: 8 7]"},
		{nil, 0, "[0: 8 7]"},
		{a, 5, "[2: 1][5: 8 7][5: 4][3:]"},
		{a, 2, "[2: 8 7][5:][5: 4][3:]"},
		{a, 3, "[2: 1][5:][5: 4][3: 8 7]"}, // its own stream counts, though a greater one is ahead
		{a, 4, "[2: 1][4: 8 7][5:][5: 4][3:]"},
		{a, 0, "[0: 8 7][2: 1][5:][5: 4][3:]"},
		{a, 6, "[2: 1][5:][5: 4][3:][6: 8 7]"},
		{a, top, "[2: 1][5:][5: 4][3:][18446744073709551615: 8 7]"},
		{a[:1], 2, "[2: 8 7]"},
	} {
		if got := text(link.With(c.l, api.Link{Stream: c.stream, Backs: []uint64{8, 7}})); got != c.want {
			t.Errorf("case %d: %s", i, got)
		}
	}
	for _, l := range lists() {
		for _, x := range []api.Link{{}, {Stream: 1, Backs: []uint64{0}}, {Stream: 200, Backs: []uint64{3, 9}}, {Stream: top, Backs: falling(5)}} {
			got := link.With(l, x)
			if text(got) != text(with(l, x)) {
				t.Fatal(text(l), x, text(got))
			}
			if found, ok := link.Find(got, x.Stream); !ok || text([]api.Link{found}) != text([]api.Link{x}) {
				t.Fatal(text(l), x, found, ok)
			}
			if valid(300, l) && valid(300, []api.Link{x}) && len(got) <= 16 && !link.Right(300, got) {
				t.Fatal(text(l), x, text(got))
			}
		}
	}
	if n := len(link.With(row(16, 4), api.Link{Stream: 1})); n != 17 { // whatever may be written
		t.Error(n)
	}
}

// P23.2: a copy is the same, of any list, and shares nothing with it.
func TestCopy(t *testing.T) {
	for _, l := range lists() {
		before := text(l)
		c := link.Copy(l)
		if text(c) != before || !link.Same(c, l) {
			t.Fatal(before, text(c))
		}
	}
	l := row(16, 4)
	before := text(l)
	c := link.Copy(l)
	for i := range c {
		c[i].Stream++
		c[i].Backs[3]++
		c[i].Backs = append(c[i].Backs, 1)
	}
	if text(l) != before {
		t.Error(text(l))
	}
	c = link.Copy(l)
	for i := range l {
		l[i].Stream++
		l[i].Backs[0]++
	}
	if text(c) != before {
		t.Error(text(c))
	}
	if len(link.Copy(nil)) != 0 || len(link.Copy([]api.Link{})) != 0 {
		t.Error("a copy of nothing")
	}
}

// P23.2: Same compares all fields of all links.
func TestSame(t *testing.T) {
	base := []api.Link{{Stream: 1, Backs: []uint64{9, 3}}, {Stream: 5}, {Stream: 7, Backs: []uint64{4}}}
	for i, c := range []struct {
		b    []api.Link
		want bool
	}{
		{[]api.Link{{Stream: 1, Backs: []uint64{9, 3}}, {Stream: 5, Backs: []uint64{}}, {Stream: 7, Backs: []uint64{4}}}, true},
		{base[:2], false},
		{append(slices.Clone(base), api.Link{}), false},
		{[]api.Link{{Stream: 2, Backs: []uint64{9, 3}}, {Stream: 5}, {Stream: 7, Backs: []uint64{4}}}, false},
		{[]api.Link{{Stream: 1, Backs: []uint64{9, 3}}, {Stream: 5}, {Stream: 8, Backs: []uint64{4}}}, false},
		{[]api.Link{{Stream: 1, Backs: []uint64{9, 2}}, {Stream: 5}, {Stream: 7, Backs: []uint64{4}}}, false},
		{[]api.Link{{Stream: 1, Backs: []uint64{9}}, {Stream: 5}, {Stream: 7, Backs: []uint64{4}}}, false},
		{[]api.Link{{Stream: 1, Backs: []uint64{9, 3, 0}}, {Stream: 5}, {Stream: 7, Backs: []uint64{4}}}, false},
		{[]api.Link{{Stream: 1, Backs: []uint64{3, 9}}, {Stream: 5}, {Stream: 7, Backs: []uint64{4}}}, false},
		{[]api.Link{{Stream: 1, Backs: []uint64{9, 3}}, {Stream: 5, Backs: []uint64{0}}, {Stream: 7, Backs: []uint64{4}}}, false},
		{[]api.Link{{Stream: 1, Backs: []uint64{9, 3}}, {Stream: 7, Backs: []uint64{4}}, {Stream: 5}}, false},
		{nil, false},
	} {
		if link.Same(base, c.b) != c.want || link.Same(c.b, base) != c.want {
			t.Errorf("case %d: %v", i, !c.want)
		}
	}
	if !link.Same(nil, []api.Link{}) || !link.Same([]api.Link{{}}, []api.Link{{Backs: []uint64{}}}) || link.Same(nil, []api.Link{{}}) {
		t.Error("nil and empty lists")
	}
	all := lists()[:600]
	for i, a := range all {
		for k := range 40 {
			b := all[(i*7+k*13)%len(all)]
			if link.Same(a, b) != (text(a) == text(b)) {
				t.Fatal(text(a), text(b))
			}
		}
	}
}

// P23.3: what was written is read back at the same position, whatever follows, and no beginning of it
// is links.
func TestRoundTrip(t *testing.T) {
	done := 0
	for _, l := range lists() {
		for _, pos := range positions() {
			if !valid(pos, l) {
				continue
			}
			w := pen.New(1 << 12)
			link.Put(w, pos, l)
			b, _ := w.Bytes()
			for _, behind := range [][]byte{nil, {0}, {128}, {255, 255, 255}} {
				r := at1(append(slices.Clone(b), behind...)...)
				if got := link.Read(r, pos); text(got) != text(l) {
					t.Fatalf("%s at %d is read back as %s", text(l), pos, text(got))
				}
				expect(t, r, 1+len(b), good)
			}
			for n := range b {
				r := at1(b[:n]...)
				if got := link.Read(r, pos); got != nil || r.Fault() != (api.Fault{Code: api.ErrShort, At: 1 + n}) {
					t.Fatalf("%d bytes of %s: %s with %v", n, text(l), text(got), r.Fault())
				}
			}
			done++
		}
	}
	if done < 5000 {
		t.Error(done)
	}
}

// P23.3: what was read is valid, and writing it gives the bytes that were read.
func TestOneEncoding(t *testing.T) {
	parts := [][]byte{{0}, {1}, {2}, {5}, {128, 0}, {172, 2}, join(top - 1), join(top)}
	level := [][]byte{nil}
	accepted, refused := 0, 0
	for range 6 {
		var next [][]byte
		for _, b := range level {
			for _, p := range parts {
				next = append(next, append(slices.Clone(b), p...))
			}
		}
		if len(next) > 40000 {
			rand.New(rand.NewSource(24)).Shuffle(len(next), func(i, k int) { next[i], next[k] = next[k], next[i] })
			next = next[:40000]
		}
		level = next
		for _, b := range level {
			for _, pos := range []uint64{0, 3, 300, top} {
				if !check(t, b, pos) {
					refused++
					continue
				}
				accepted++
				r := cursor.New(b)
				l := link.Read(r, pos)
				w := pen.New(len(b))
				link.Put(w, pos, l)
				if got, code := w.Bytes(); !valid(pos, l) || !link.Right(pos, l) || code != api.OK || !bytes.Equal(got, r.Since(0)) {
					t.Fatalf("%v at %d is read as %s, which is written as %v", b, pos, text(l), got)
				}
			}
		}
	}
	if accepted < 10000 || refused < 10000 {
		t.Error("too few to tell:", accepted, refused)
	}
}

// P23.1, P23.3: any bytes, at any position.
func TestAnyBytes(t *testing.T) {
	rnd := rand.New(rand.NewSource(25))
	accepted := 0
	for range 40000 {
		b := []byte{byte(rnd.Intn(5))}
		if rnd.Intn(20) == 0 {
			b[0] = byte(rnd.Intn(20))
		}
		for range rnd.Intn(24) {
			b = append(b, byte(rnd.Intn(1<<(1+rnd.Intn(8)))))
		}
		if check(t, b, rnd.Uint64()>>rnd.Intn(64)) {
			accepted++
		}
	}
	if accepted < 1000 {
		t.Error(accepted)
	}
}

// P23.3: links that are valid at a position are valid at every later one, and a link that is extended
// at its position is valid after it.
func TestLaterPositions(t *testing.T) {
	later, extended := 0, 0
	for _, l := range lists() {
		for _, pos := range positions() {
			if !valid(pos, l) {
				continue
			}
			for _, by := range []uint64{1, 2, 290, 1 << 61, top - pos} {
				if by == 0 || by > top-pos {
					continue
				}
				later++
				if !link.Right(pos+by, l) || link.Size(pos+by, l) == 0 {
					t.Fatal(pos, by, text(l))
				}
				for _, x := range l {
					extended++
					next := []api.Link{link.Extend(x, pos)}
					if !link.Right(pos+by, next) || link.Right(pos, next) {
						t.Fatal(pos, by, text(next))
					}
				}
			}
		}
	}
	if min(later, extended) < 1000 {
		t.Error(later, extended)
	}
}

// P23.3: a stream of many entries keeps the last positions, each time the nearest one first.
func TestStreamOfManyEntries(t *testing.T) {
	tail := api.Link{Stream: 5}
	var told []uint64
	for pos := uint64(0); pos < 100; pos += 7 {
		if !link.Right(pos, []api.Link{tail}) {
			t.Fatal(pos, tail)
		}
		tail = link.Extend(tail, pos)
		told = append([]uint64{pos}, told...)
		if !slices.Equal(tail.Backs, told[:min(4, len(told))]) {
			t.Fatal(pos, tail)
		}
	}
}

// Rule 4: arguments are not changed, and results are new memory.
func TestMemory(t *testing.T) {
	l := []api.Link{{Stream: 1, Backs: []uint64{9, 3}}, {Stream: 5, Backs: []uint64{8, 7, 6, 5}}}
	x := api.Link{Stream: 3, Backs: []uint64{4, 2}}
	before := text(l)
	calls := []func() []api.Link{
		func() []api.Link { return link.Copy(l) },
		func() []api.Link { return link.With(l, x) },
		func() []api.Link { return link.With(l, api.Link{Stream: 5, Backs: x.Backs}) },
		func() []api.Link { return link.With(nil, x) },
		func() []api.Link { y, _ := link.Find(l, 5); return []api.Link{y} },
		func() []api.Link { return []api.Link{link.Extend(l[1], 10)} },
		func() []api.Link { return []api.Link{link.Extend(api.Link{Backs: l[1].Backs[:2]}, 10)} },
	}
	for i, call := range calls {
		made, again := call(), call()
		want := text(made)
		for k := range made {
			made[k].Stream += 50
			for j := range made[k].Backs {
				made[k].Backs[j] += 70
			}
			made[k].Backs = append(made[k].Backs, 77)
		}
		made = append(made, api.Link{Stream: 99})
		if text(again) != want || text(l) != before || text([]api.Link{x}) != "[3: 4 2]" {
			t.Error(i, text(again), text(l), x, text(made))
		}
	}
	for _, y := range [][]api.Link{link.With(l, x), link.Copy(l)} { // no two lists of a result share any
		want := text(y[1:])
		y[0].Backs = append(y[0].Backs, 77)
		if text(y[1:]) != want {
			t.Error(text(y))
		}
	}
	made := link.With(l, x)
	x.Backs[0], l[0].Backs[0] = 99, 99
	if text(made) != "[1: 9 3][3: 4 2][5: 8 7 6 5]" {
		t.Error(text(made))
	}
	room := append(make([]api.Link, 0, 9), l...) // a list with room behind it
	link.With(room, api.Link{Stream: 2})
	link.With(room[:1], api.Link{Stream: 2})
	wide := append(make([]uint64, 0, 9), 9, 3)
	link.Extend(api.Link{Backs: wide}, 10)
	if text(room) != text(l) || room[:3][2].Stream != 0 || !slices.Equal(wide[:3], []uint64{9, 3, 0}) {
		t.Error(text(room), wide[:3])
	}
}

// Rule 4: neither writing nor reading changes what it is given, and links that were read share
// nothing with the bytes or with each other.
func TestMemoryOfBytes(t *testing.T) {
	l := row(3, 4)
	before := text(l)
	w := pen.New(99)
	link.Put(w, 10, l)
	link.Size(10, l)
	link.Right(10, l)
	if text(l) != before {
		t.Error(text(l))
	}
	b, _ := w.Bytes()
	in := slices.Clone(b)
	x, y := link.Read(cursor.New(in), 10), link.Read(cursor.New(in), 10)
	if !bytes.Equal(in, b) {
		t.Error(in)
	}
	for i := range x {
		x[i].Stream += 5
		x[i].Backs[0] += 5
		x[i].Backs = append(x[i].Backs, 7)
	}
	clear(in)
	if text(y) != before {
		t.Error(text(y))
	}
}

// Rule 9: lists far beyond the limits are refused or worked on whole.
func TestVeryManyLinks(t *testing.T) {
	l := make([]api.Link, 1<<18)
	for i := range l {
		l[i].Stream = uint64(i)
	}
	w := pen.New(1 << 20)
	link.Put(w, 10, l)
	if w.Code() != api.ErrInvalid || w.Len() != 0 || link.Right(10, l) || link.Size(10, l) != 0 {
		t.Error(w.Code(), w.Len())
	}
	if x, ok := link.Find(l, 1<<18-1); !ok || x.Stream != 1<<18-1 {
		t.Error(x, ok)
	}
	if c := link.With(l, api.Link{Stream: 1 << 18}); len(c) != 1<<18+1 || !link.Same(c[:1<<18], l) {
		t.Error(len(c))
	}
	long := []api.Link{{Backs: falling(1 << 18)}}
	if link.Right(top, long) || link.Size(top, long) != 0 || !link.Same(link.Copy(long), long) {
		t.Error("many backs")
	}
}

// declared are the package's functions, by their names.
func declared(t *testing.T) map[string]*ast.FuncDecl {
	t.Helper()
	files, err := filepath.Glob("*.go")
	if err != nil {
		t.Fatal(err)
	}
	l := map[string]*ast.FuncDecl{}
	for _, name := range files {
		if strings.HasSuffix(name, "_test.go") {
			continue
		}
		file, err := parser.ParseFile(token.NewFileSet(), name, nil, 0)
		if err != nil {
			t.Fatal(err)
		}
		for _, d := range file.Decls {
			if f, ok := d.(*ast.FuncDecl); ok {
				l[f.Name.Name] = f
			}
		}
	}
	return l
}

// Ways of layer 23: what finds links is, or calls, a generic function of the package.
func TestLinksAreFoundByAGenericFunction(t *testing.T) {
	l := declared(t)
	for _, name := range []string{"Find", "With"} {
		seen := map[string]bool{name: true}
		generic := false
		for work := []string{name}; len(work) > 0; work = work[1:] {
			f := l[work[0]]
			generic = generic || f.Type.TypeParams != nil
			ast.Inspect(f, func(n ast.Node) bool {
				if x, ok := n.(*ast.Ident); ok && l[x.Name] != nil && !seen[x.Name] {
					seen[x.Name] = true
					work = append(work, x.Name)
				}
				return true
			})
		}
		if !generic {
			t.Error(name, "reaches no generic function")
		}
	}
}
