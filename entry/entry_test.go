package entry_test

import (
	"bytes"
	"go/ast"
	"go/parser"
	"go/token"
	"math"
	"math/rand"
	"path/filepath"
	"slices"
	"strconv"
	"strings"
	"testing"

	"tholepin/api"
	"tholepin/cursor"
	"tholepin/entry"
	"tholepin/link"
	"tholepin/pen"
	"tholepin/varint"
)

var good = api.Fault{}

// top is the greatest number at which entries may be.
const top = uint64(math.MaxUint64)

// mostData is how many bytes of data an entry has at most.
const mostData = 1 << 20

// positions are those at which entries are, rightly or not.
func positions() []uint64 { return []uint64{0, 1, 5, 10, 300, 1 << 62, top} }

// links are those of entries, which are valid at no position, at some, or at all.
func links() [][]api.Link {
	l := [][]api.Link{
		nil, {}, {{}}, {{Stream: 5}}, {{Backs: []uint64{0}}}, {{Backs: []uint64{9, 3}}}, {{Stream: 1}, {Stream: 300}},
		{{Stream: 1, Backs: []uint64{3, 2, 1, 0}}, {Stream: top, Backs: []uint64{299}}}, {{Stream: 1 << 63, Backs: []uint64{1 << 62}}},
		{{Stream: 2}, {Stream: 1}}, {{Stream: 1}, {Stream: 1}}, {{Backs: []uint64{3, 9}}}, {{Backs: []uint64{4, 3, 2, 1, 0}}},
	}
	for _, n := range []int{15, 16, 17, 40} {
		var many []api.Link
		for k := range n {
			many = append(many, api.Link{Stream: uint64(k * k), Backs: []uint64{4, 2}})
		}
		l = append(l, many)
	}
	return l
}

// datas are entries' data, short and long.
func datas() [][]byte {
	l := [][]byte{nil, {}, {0}, {7, 8}}
	for _, n := range []int{127, 128, 300, 1 << 14, mostData - 1, mostData, mostData + 1, 2 * mostData} {
		l = append(l, bytes.Repeat([]byte{9}, n))
	}
	return l
}

// entries are all entries of these links and data, valid or not.
func entries() []api.Entry {
	var l []api.Entry
	for _, x := range links() {
		for _, data := range datas() {
			l = append(l, api.Entry{Links: x, Data: data})
		}
	}
	return l
}

// valid is the definition's words.
func valid(pos uint64, e api.Entry) bool {
	return link.Right(pos, e.Links) && len(e.Data) <= 1048576
}

// text is entries in words, in which nil and empty lists are the same.
func text(l ...api.Entry) string {
	var b strings.Builder
	for _, e := range l {
		b.WriteString("{")
		for _, x := range e.Links {
			b.WriteString("[" + strconv.FormatUint(x.Stream, 10) + ":")
			for _, y := range x.Backs {
				b.WriteString(" " + strconv.FormatUint(y, 10))
			}
			b.WriteString("]")
		}
		b.WriteString("|")
		for _, x := range e.Data {
			b.WriteString(" " + strconv.Itoa(int(x)))
		}
		b.WriteString("}")
	}
	return b.String()
}

// isZero tells whether an entry is the zero one.
func isZero(e api.Entry) bool { return e.Links == nil && e.Data == nil }

// join is integers, one behind the other.
func join(l ...uint64) []byte {
	var b []byte
	for _, x := range l {
		b = append(b, varint.Bytes(x)...)
	}
	return b
}

// head is the definition's words, of a valid entry.
func head(pos uint64, e api.Entry) []byte {
	w := pen.New(1 << 12)
	link.Put(w, pos, e.Links)
	b, _ := w.Bytes()
	return append(b, join(uint64(len(e.Data)))...)
}

// at1 is a reader of one byte 5 and others, at position 1.
func at1(b ...byte) *cursor.Reader {
	r := cursor.New(append([]byte{5}, b...))
	r.Skip(1)
	return r
}

// expect checks where a reader is, and its fault.
func expect(t *testing.T, r *cursor.Reader, at int, f api.Fault) {
	t.Helper()
	if r.At() != at || r.Fault() != f {
		t.Errorf("at %d with %v, not %d with %v", r.At(), r.Fault(), at, f)
	}
}

// check holds a head that is read from position 1 on against the chapter's words.
func check(t *testing.T, b []byte, pos uint64, most int) bool {
	t.Helper()
	v := at1(b...)
	want := link.Read(v, pos)
	size := 0
	if v.Good() {
		size = varint.ReadInt(v, most)
	}
	r := at1(b...)
	e, n := entry.ReadHead(r, pos, most)
	if r.Fault() != v.Fault() {
		t.Fatal(b, pos, most, r.Fault(), "not", v.Fault())
	}
	if !v.Good() {
		if n != 0 || !isZero(e) {
			t.Fatal(b, pos, most, e, n)
		}
		return false
	}
	if n != size || !link.Same(e.Links, want) || e.Data != nil || r.At() != v.At() {
		t.Fatal(b, pos, most, e, n, "not", want, size)
	}
	return true
}

// P24.1, P24.2: the examples of the chapter.
func TestExamples(t *testing.T) {
	e := api.Entry{Data: []byte{7, 8}}
	w := pen.New(9)
	entry.PutHead(w, 10, e)
	if b, code := w.Bytes(); code != api.OK || !bytes.Equal(b, []byte{0x00, 0x02}) {
		t.Error(b, code)
	}
	if n := entry.HeadSize(10, e); n != 2 {
		t.Error(n)
	}
	l, ok := entry.Deal(make([]api.Entry, 2), []int{2, 1}, []byte{1, 2, 3})
	if !ok || text(l...) != "{| 1 2}{| 3}" {
		t.Error(text(l...), ok)
	}
	if l, ok := entry.Deal(make([]api.Entry, 2), []int{2, 2}, []byte{1, 2, 3}); ok || l != nil {
		t.Error(l, ok)
	}
	r := cursor.New([]byte{0, 2})
	if e, n := entry.ReadHead(r, 10, 2); n != 2 || text(e) != "{|}" || !r.Good() || r.Left() != 0 {
		t.Error(e, n, r.Fault())
	}
}

// P24.1: which entries are valid, and where.
func TestRight(t *testing.T) {
	for i, c := range []struct {
		pos  uint64
		e    api.Entry
		want bool
	}{
		{0, api.Entry{}, true},
		{top, api.Entry{}, true},
		{10, api.Entry{Links: []api.Link{{Backs: []uint64{9}}}}, true},
		{9, api.Entry{Links: []api.Link{{Backs: []uint64{9}}}}, false},
		{10, api.Entry{Links: []api.Link{{Stream: 2}, {Stream: 1}}}, false},
		{10, api.Entry{Links: make([]api.Link, 2), Data: []byte{1}}, false},
		{10, api.Entry{Links: links()[14]}, true},  // 16
		{10, api.Entry{Links: links()[15]}, false}, // 17
		{10, api.Entry{Data: make([]byte, mostData)}, true},
		{10, api.Entry{Data: make([]byte, mostData+1)}, false},
		{10, api.Entry{Links: []api.Link{{Backs: []uint64{9}}}, Data: make([]byte, mostData)}, true},
		{9, api.Entry{Links: []api.Link{{Backs: []uint64{9}}}, Data: make([]byte, mostData+1)}, false},
	} {
		if entry.Right(c.pos, c.e) != c.want {
			t.Errorf("case %d: %v", i, !c.want)
		}
	}
}

// P24.1: Right, PutHead and HeadSize of many entries at many positions. PutHead writes the head of a
// valid entry, of HeadSize bytes, and nothing of another one.
func TestPutHeadAndHeadSize(t *testing.T) {
	rights, wrongs := 0, 0
	for i, e := range entries() {
		for _, pos := range positions() {
			ok := valid(pos, e)
			if entry.Right(pos, e) != ok {
				t.Fatal(i, pos, !ok)
			}
			if !ok {
				wrongs++
				for _, room := range []int{0, 1, 1000} { // too little room is no code of such an entry
					w := pen.New(1 + room)
					w.Put(9)
					entry.PutHead(w, pos, e)
					if w.Code() != api.ErrInvalid || w.Len() != 1 {
						t.Fatal(i, pos, room, w.Code(), w.Len())
					}
				}
				if n := entry.HeadSize(pos, e); n != 0 {
					t.Fatal(i, pos, n)
				}
				continue
			}
			rights++
			want := head(pos, e)
			w := pen.New(1 + len(want))
			w.Put(9)
			entry.PutHead(w, pos, e)
			if b, code := w.Bytes(); code != api.OK || b[0] != 9 || !bytes.Equal(b[1:], want) {
				t.Fatal(i, pos, b, code)
			}
			if n := entry.HeadSize(pos, e); n != len(want) {
				t.Fatal(i, pos, n)
			}
		}
	}
	if min(rights, wrongs) < 400 {
		t.Error(rights, wrongs)
	}
}

// P24.1: a head, byte by byte: the links, and behind them how many bytes of data there are.
func TestHeadBytes(t *testing.T) {
	for i, c := range []struct {
		pos  uint64
		e    api.Entry
		want []byte
	}{
		{0, api.Entry{}, []byte{0, 0}},
		{10, api.Entry{Data: make([]byte, 300)}, []byte{0, 0xac, 0x02}},
		{10, api.Entry{Links: []api.Link{{Backs: []uint64{9, 3}}}, Data: []byte{1}}, []byte{1, 0, 2, 0, 5, 1}},
		{11, api.Entry{Links: []api.Link{{Backs: []uint64{9, 3}}}}, []byte{1, 0, 2, 1, 5, 0}},
		{10, api.Entry{Links: []api.Link{{Stream: 5}, {Stream: 7, Backs: []uint64{8}}}, Data: make([]byte, mostData)}, []byte{2, 5, 0, 1, 1, 1, 0x80, 0x80, 0x40}},
	} {
		w := pen.New(99)
		entry.PutHead(w, c.pos, c.e)
		if b, code := w.Bytes(); code != api.OK || !bytes.Equal(b, c.want) || entry.HeadSize(c.pos, c.e) != len(c.want) {
			t.Errorf("case %d: %v, %v", i, b, code)
		}
	}
}

// P24.1: with less room than it needs a head gives ErrLong; with a code nothing is written and the
// code is kept; a nil writer takes everything.
func TestPutHeadWithoutRoomOrAfterACode(t *testing.T) {
	e := api.Entry{Links: []api.Link{{Stream: 5, Backs: []uint64{999, 3}}, {Stream: 900}}, Data: make([]byte, 300)}
	wrong := api.Entry{Links: []api.Link{{Stream: 5}, {Stream: 5}}}
	for room := range entry.HeadSize(1000, e) {
		w := pen.New(room)
		entry.PutHead(w, 1000, e)
		if b, code := w.Bytes(); b != nil || code != api.ErrLong || w.Len() > room {
			t.Error(room, b, code, w.Len())
		}
	}
	for _, x := range []api.Entry{e, wrong, {}} {
		w := pen.New(99)
		w.Fail(api.ErrSum)
		entry.PutHead(w, 1000, x)
		if w.Code() != api.ErrSum || w.Len() != 0 {
			t.Error(w.Code(), w.Len())
		}
		entry.PutHead(nil, 1000, x)
	}
	w := pen.New(99)
	entry.PutHead(w, 1000, wrong)
	entry.PutHead(w, 1000, e)
	if w.Code() != api.ErrInvalid || w.Len() != 0 {
		t.Error(w.Code(), w.Len())
	}
}

// P24.1: each fault of ReadHead, the first one in the order of the bytes, and nothing beside it.
func TestReadHeadRefuses(t *testing.T) {
	over := append(bytes.Repeat([]byte{255}, 9), 2)
	for i, c := range []struct {
		b    []byte
		pos  uint64
		most int
		want string
		size int
		f    api.Fault
	}{
		// the links
		{nil, 10, 99, "", 0, api.Fault{Code: api.ErrShort, At: 1}},
		{[]byte{128, 0}, 10, 99, "", 0, api.Fault{Code: api.ErrNonMinimal, At: 2}},
		{[]byte{17, 0, 0}, 10, 99, "", 0, api.Fault{Code: api.ErrLong, At: 1}},
		{[]byte{1, 0}, 10, 99, "", 0, api.Fault{Code: api.ErrShort, At: 3}},
		{[]byte{1, 0, 5, 0, 0, 0, 0, 0, 0}, 10, 99, "", 0, api.Fault{Code: api.ErrLong, At: 3}},
		{[]byte{1, 0, 1, 10, 0}, 10, 99, "", 0, api.Fault{Code: api.ErrOrder, At: 4}},
		{[]byte{1, 0, 1, 9, 0}, 10, 99, "{[0: 0]|}", 0, good},
		{[]byte{1, 0, 1, 9, 0}, 9, 99, "", 0, api.Fault{Code: api.ErrOrder, At: 4}},
		{append(join(2, top, 0, 0, 0), 0), 10, 99, "", 0, api.Fault{Code: api.ErrOrder, At: 13}},
		{[]byte{1, 0, 1, 10, 128, 0}, 10, 99, "", 0, api.Fault{Code: api.ErrOrder, At: 4}}, // ahead of the number's fault
		{[]byte{17, 0, 0}, 10, -1, "", 0, api.Fault{Code: api.ErrLong, At: 1}},
		// the number of bytes
		{[]byte{0}, 10, 99, "", 0, api.Fault{Code: api.ErrShort, At: 2}},
		{[]byte{1, 0, 2, 0, 5}, 10, 99, "", 0, api.Fault{Code: api.ErrShort, At: 6}},
		{[]byte{0, 128}, 10, 99, "", 0, api.Fault{Code: api.ErrShort, At: 3}},
		{[]byte{0, 133, 0}, 10, 99, "", 0, api.Fault{Code: api.ErrNonMinimal, At: 3}},
		{append([]byte{0}, over...), 10, math.MaxInt, "", 0, api.Fault{Code: api.ErrOverflow, At: 11}},
		{[]byte{0, 99}, 10, 99, "{|}", 99, good},
		{[]byte{0, 100}, 10, 99, "", 0, api.Fault{Code: api.ErrLong, At: 2}},
		{[]byte{0, 0}, 10, 0, "{|}", 0, good},
		{[]byte{0, 1}, 10, 0, "", 0, api.Fault{Code: api.ErrLong, At: 2}},
		{[]byte{0, 0}, 10, -1, "", 0, api.Fault{Code: api.ErrLong, At: 2}},
		{[]byte{0, 0}, 10, math.MinInt, "", 0, api.Fault{Code: api.ErrLong, At: 2}},
		{[]byte{0, 0x80, 0x80, 0x40}, 10, mostData, "{|}", mostData, good},
		{[]byte{0, 0x81, 0x80, 0x40}, 10, mostData, "", 0, api.Fault{Code: api.ErrLong, At: 2}},
		{append([]byte{0}, join(1<<63)...), 10, math.MaxInt, "", 0, api.Fault{Code: api.ErrLong, At: 2}},
		{append([]byte{0}, join(1<<63-1)...), 10, math.MaxInt, "{|}", math.MaxInt, good},
		{[]byte{1, 0, 2, 0, 5, 7}, 10, 7, "{[0: 9 3]|}", 7, good},
		{[]byte{1, 0, 2, 0, 5, 8}, 10, 7, "", 0, api.Fault{Code: api.ErrLong, At: 6}},
		// what follows is left
		{[]byte{0, 2, 128, 7}, 10, 99, "{|}", 2, good},
	} {
		r := at1(c.b...)
		e, n := entry.ReadHead(r, c.pos, c.most)
		if n != c.size || r.Fault() != c.f || c.f == good && text(e) != c.want || c.f != good && !isZero(e) {
			t.Errorf("case %d: %s, %d with %v", i, text(e), n, r.Fault())
		}
		check(t, c.b, c.pos, c.most)
	}
}

// P24.1: a reader with a fault keeps it and its position, and a nil reader gives nothing.
func TestFaultIsKept(t *testing.T) {
	for _, b := range [][]byte{{1, 0, 2, 0, 5, 2}, {0, 0}, {17}, {0, 128, 0}, nil} {
		for _, most := range []int{-1, 0, 99} {
			r := at1(b...)
			r.Fail(api.ErrRest, 8)
			if e, n := entry.ReadHead(r, 10, most); n != 0 || !isZero(e) {
				t.Error(b, e, n)
			}
			expect(t, r, 1, api.Fault{Code: api.ErrRest, At: 8})
		}
	}
	if e, n := entry.ReadHead(nil, 10, 99); n != 0 || !isZero(e) {
		t.Error(e, n)
	}
}

// P24.3: a head that was written is read back at the same position, whatever follows, and no beginning
// of it is a head.
func TestHeadRoundTrip(t *testing.T) {
	done := 0
	for i, e := range entries() {
		for _, pos := range positions() {
			if !valid(pos, e) {
				continue
			}
			done++
			w := pen.New(1 << 12)
			entry.PutHead(w, pos, e)
			b, _ := w.Bytes()
			for _, behind := range [][]byte{nil, {0}, {128}, {255, 255, 255}} {
				for _, most := range []int{len(e.Data), mostData} {
					r := at1(append(slices.Clone(b), behind...)...)
					got, n := entry.ReadHead(r, pos, most)
					if n != len(e.Data) || text(got) != text(api.Entry{Links: e.Links}) {
						t.Fatal(i, pos, text(got), n)
					}
					expect(t, r, 1+len(b), good)
				}
			}
			if r := at1(b...); len(e.Data) > 0 {
				if got, n := entry.ReadHead(r, pos, len(e.Data)-1); n != 0 || !isZero(got) || r.Fault().Code != api.ErrLong {
					t.Fatal(i, pos, text(got), n, r.Fault())
				}
			}
			for n := range b {
				r := at1(b[:n]...)
				if got, size := entry.ReadHead(r, pos, mostData); size != 0 || !isZero(got) || r.Fault() != (api.Fault{Code: api.ErrShort, At: 1 + n}) {
					t.Fatal(i, pos, n, text(got), size, r.Fault())
				}
			}
		}
	}
	if done < 400 {
		t.Error(done)
	}
}

// P24.1, P24.3: any bytes, at any position; writing what was read gives the same bytes.
func TestAnyBytes(t *testing.T) {
	rnd := rand.New(rand.NewSource(24))
	accepted := 0
	for range 40000 {
		b := []byte{byte(rnd.Intn(4))}
		for range rnd.Intn(16) {
			b = append(b, byte(rnd.Intn(1<<(1+rnd.Intn(8)))))
		}
		pos := rnd.Uint64() >> rnd.Intn(64)
		if !check(t, b, pos, rnd.Intn(400)-1) {
			continue
		}
		accepted++
		r := cursor.New(b)
		e, n := entry.ReadHead(r, pos, 400)
		e.Data = make([]byte, n)
		w := pen.New(len(b))
		entry.PutHead(w, pos, e)
		if got, code := w.Bytes(); code != api.OK || !bytes.Equal(got, r.Since(0)) || !entry.Right(pos, e) {
			t.Fatal(b, pos, text(e), got, code)
		}
	}
	if accepted < 1000 {
		t.Error(accepted)
	}
}

// rows are lists of entries' data.
func rows() [][]api.Entry {
	l := [][]api.Entry{nil, {}}
	rnd := rand.New(rand.NewSource(26))
	for n := range 40 {
		var row []api.Entry
		for range n {
			data := make([]byte, rnd.Intn(4)*rnd.Intn(20))
			rnd.Read(data)
			row = append(row, api.Entry{Links: []api.Link{{Stream: uint64(rnd.Intn(9)), Backs: []uint64{uint64(rnd.Intn(9))}}}, Data: data})
		}
		l = append(l, row)
	}
	return append(l, make([]api.Entry, 5))
}

// P24.2: Join is all data, one behind the other, and Total how many bytes that is.
func TestJoinAndTotal(t *testing.T) {
	for i, row := range rows() {
		var want []byte
		for _, e := range row {
			for _, x := range e.Data {
				want = append(want, x)
			}
		}
		if got := entry.Join(row); !bytes.Equal(got, want) || entry.Total(row) != len(want) {
			t.Error(i, got, want, entry.Total(row))
		}
	}
	l := []api.Entry{{Data: []byte{1, 2}}, {}, {Data: []byte{3}}, {Data: make([]byte, mostData+5)}} // also what is not valid
	if got := entry.Join(l); len(got) != mostData+8 || !bytes.Equal(got[:4], []byte{1, 2, 3, 0}) || entry.Total(l) != mostData+8 {
		t.Error(len(got), entry.Total(l))
	}
	if entry.Total(nil) != 0 || len(entry.Join(nil)) != 0 {
		t.Error("nothing is joined")
	}
}

// P24.2: Deal, row by row.
func TestDeal(t *testing.T) {
	for i, c := range []struct {
		heads int
		sizes []int
		data  []byte
		want  string
		ok    bool
	}{
		{0, nil, nil, "", true},
		{0, []int{}, []byte{}, "", true},
		{0, nil, []byte{1}, "", false},
		{0, []int{0}, nil, "", false},
		{0, []int{1}, []byte{1}, "", false},
		{1, nil, nil, "", false},
		{1, []int{0}, nil, "{|}", true},
		{1, []int{0}, []byte{1}, "", false},
		{1, []int{1}, nil, "", false},
		{1, []int{3}, []byte{1, 2, 3}, "{| 1 2 3}", true},
		{1, []int{2}, []byte{1, 2, 3}, "", false},
		{1, []int{4}, []byte{1, 2, 3}, "", false},
		{1, []int{1, 2}, []byte{1, 2, 3}, "", false},
		{1, []int{3, 0}, []byte{1, 2, 3}, "", false},
		{2, []int{3}, []byte{1, 2, 3}, "", false},
		{2, []int{2, 1}, []byte{1, 2, 3}, "{| 1 2}{| 3}", true},
		{2, []int{2, 2}, []byte{1, 2, 3}, "", false},
		{2, []int{1, 1}, []byte{1, 2, 3}, "", false},
		{2, []int{0, 3}, []byte{1, 2, 3}, "{|}{| 1 2 3}", true},
		{2, []int{3, 0}, []byte{1, 2, 3}, "{| 1 2 3}{|}", true},
		{2, []int{4, -1}, []byte{1, 2, 3}, "", false}, // they add up, but one is negative
		{2, []int{-1, 4}, []byte{1, 2, 3}, "", false},
		{3, []int{2, -1, 2}, []byte{1, 2, 3}, "", false},
		{3, []int{1, -1, 3}, []byte{1, 2, 3}, "", false},
		{1, []int{-1}, nil, "", false},
		{2, []int{-1, 1}, nil, "", false},
		{2, []int{0, -1}, nil, "", false},
		{3, []int{math.MaxInt, math.MaxInt, 5}, []byte{1, 2, 3}, "", false}, // these wrap round to 3
		{3, []int{5, math.MaxInt, math.MaxInt}, []byte{1, 2, 3}, "", false},
		{3, []int{math.MaxInt, 1, math.MaxInt}, []byte{1, 2, 3}, "", false},
		{2, []int{math.MinInt, math.MinInt}, nil, "", false}, // and these to 0
		{2, []int{math.MaxInt, math.MinInt + 4}, []byte{1, 2, 3}, "", false},
		{4, []int{1, 0, 0, 2}, []byte{1, 2, 3}, "{| 1}{|}{|}{| 2 3}", true},
		{3, []int{1, 1, 1}, []byte{1, 2, 3}, "{| 1}{| 2}{| 3}", true},
	} {
		l, ok := entry.Deal(make([]api.Entry, c.heads), c.sizes, c.data)
		if ok != c.ok || text(l...) != c.want || !ok && l != nil {
			t.Errorf("case %d: %s, %v", i, text(l...), ok)
		}
	}
}

// P24.2: the heads keep their links, and data that they had already is not theirs any more.
func TestDealKeepsLinks(t *testing.T) {
	heads := []api.Entry{{Links: []api.Link{{Stream: 5, Backs: []uint64{9, 3}}}, Data: []byte{99, 98}}, {Data: []byte{97}}, {Links: []api.Link{{}, {Stream: 7}}}}
	l, ok := entry.Deal(heads, []int{1, 0, 2}, []byte{1, 2, 3})
	if !ok || text(l...) != "{[5: 9 3]| 1}{|}{[0:][7:]| 2 3}" {
		t.Error(text(l...), ok)
	}
	if text(heads...) != "{[5: 9 3]| 99 98}{| 97}{[0:][7:]|}" {
		t.Error(text(heads...))
	}
}

// P24.3: what was joined is dealt into the same parts.
func TestJoinedIsDealt(t *testing.T) {
	for i, row := range rows() {
		var heads []api.Entry
		var sizes []int
		for _, e := range row {
			heads = append(heads, api.Entry{Links: e.Links})
			sizes = append(sizes, len(e.Data))
		}
		data := entry.Join(row)
		l, ok := entry.Deal(heads, sizes, data)
		if !ok || text(l...) != text(row...) || !entry.All(l, row) {
			t.Error(i, text(l...), ok)
		}
		if l, ok := entry.Deal(heads, sizes, append(data, 0)); ok || l != nil {
			t.Error(i, l, ok)
		}
	}
}

// P24.2: a copy is the same, of any entry, and shares nothing with it.
func TestCopy(t *testing.T) {
	for i, e := range entries() {
		if c := entry.Copy(e); !bytes.Equal(c.Data, e.Data) || !link.Same(c.Links, e.Links) {
			t.Fatal(i)
		}
	}
	e := api.Entry{Links: []api.Link{{Stream: 5, Backs: []uint64{9, 3}}, {Stream: 7}}, Data: []byte{1, 2}}
	before := text(e)
	c := entry.Copy(e)
	c.Links[0].Stream, c.Links[0].Backs[1], c.Data[0] = 50, 30, 10
	c.Links, c.Data = append(c.Links, api.Link{}), append(c.Data, 3)
	if text(e) != before {
		t.Error(text(e))
	}
	c = entry.Copy(e)
	e.Links[1].Stream, e.Links[0].Backs[0], e.Data[1] = 50, 30, 10
	if text(c) != before {
		t.Error(text(c))
	}
}

// P24.2: Same compares all fields, and All all entries.
func TestSameAndAll(t *testing.T) {
	base := api.Entry{Links: []api.Link{{Stream: 5, Backs: []uint64{9, 3}}, {Stream: 7}}, Data: []byte{1, 2}}
	for i, c := range []struct {
		e    api.Entry
		want bool
	}{
		{api.Entry{Links: []api.Link{{Stream: 5, Backs: []uint64{9, 3}}, {Stream: 7, Backs: []uint64{}}}, Data: []byte{1, 2}}, true},
		{api.Entry{Links: base.Links}, false},
		{api.Entry{Data: base.Data}, false},
		{api.Entry{Links: base.Links, Data: []byte{1}}, false},
		{api.Entry{Links: base.Links, Data: []byte{1, 3}}, false},
		{api.Entry{Links: base.Links, Data: []byte{1, 2, 0}}, false},
		{api.Entry{Links: base.Links, Data: []byte{2, 1}}, false},
		{api.Entry{Links: base.Links[:1], Data: base.Data}, false},
		{api.Entry{Links: base.Links[1:], Data: base.Data}, false},
		{api.Entry{Links: []api.Link{{Stream: 5, Backs: []uint64{9, 2}}, {Stream: 7}}, Data: base.Data}, false},
		{api.Entry{Links: []api.Link{{Stream: 5, Backs: []uint64{9, 3}}, {Stream: 8}}, Data: base.Data}, false},
		{api.Entry{Links: []api.Link{{Stream: 7}, {Stream: 5, Backs: []uint64{9, 3}}}, Data: base.Data}, false},
	} {
		if entry.Same(base, c.e) != c.want || entry.Same(c.e, base) != c.want {
			t.Errorf("case %d: %v", i, !c.want)
		}
		for _, ahead := range [][]api.Entry{nil, {{}}, {base}, {{}, base}} { // as any of some entries
			a, b := append(slices.Clone(ahead), base), append(slices.Clone(ahead), c.e)
			if entry.All(a, b) != c.want || entry.All(append(a, api.Entry{}), append(b, api.Entry{})) != c.want {
				t.Errorf("case %d: not %v", i, c.want)
			}
			if entry.All(a, a[:len(a)-1]) || entry.All(a[:len(a)-1], a) || entry.All(append(b, api.Entry{}), b) {
				t.Errorf("case %d: lists of different lengths", i)
			}
		}
	}
	if !entry.Same(api.Entry{}, api.Entry{Links: []api.Link{}, Data: []byte{}}) || !entry.All(nil, []api.Entry{}) || entry.All(nil, []api.Entry{{}}) {
		t.Error("nil and empty lists")
	}
	if entry.All([]api.Entry{{}, base}, []api.Entry{base, {}}) {
		t.Error("another order")
	}
}

// Rule 4: arguments are not changed, and results are new memory.
func TestMemory(t *testing.T) {
	heads := []api.Entry{{Links: []api.Link{{Stream: 5, Backs: []uint64{9, 3}}}}, {Links: []api.Link{{Stream: 7, Backs: []uint64{8}}}}, {}}
	data := append(make([]byte, 0, 64), 1, 2, 3, 4, 5)
	sizes := []int{2, 3, 0}
	l, _ := entry.Deal(heads, sizes, data)
	again, _ := entry.Deal(heads, sizes, data)
	want := text(l...)
	for i := range l { // nothing appended to a piece gets into the next one
		l[i].Data = append(l[i].Data, 90, 91, 92)
		l[i].Links = append(l[i].Links, api.Link{})
		l[i].Links[0].Stream += 50
		if i < 2 {
			l[i].Links[0].Backs[0] += 50
			l[i].Data[0] += 50
		}
	}
	if text(l[1:]...) != "{[57: 58][0:]| 53 4 5 90 91 92}{[50:]| 90 91 92}" {
		t.Error(text(l...))
	}
	if text(again...) != want || text(heads...) != "{[5: 9 3]|}{[7: 8]|}{|}" || !bytes.Equal(data[:9], []byte{1, 2, 3, 4, 5, 0, 0, 0, 0}) || !slices.Equal(sizes, []int{2, 3, 0}) {
		t.Error(text(again...), text(heads...), data[:9], sizes)
	}
	heads[0].Links[0].Backs[0], data[0] = 99, 99
	if text(again...) != want {
		t.Error(text(again...))
	}
	row := []api.Entry{{Data: []byte{1, 2}}, {Data: []byte{3}}}
	joined, more := entry.Join(row), entry.Join(row)
	joined[0] = 9
	if text(row...) != "{| 1 2}{| 3}" || !bytes.Equal(more, []byte{1, 2, 3}) {
		t.Error(text(row...), more)
	}
	one := entry.Join(row[:1]) // data of one entry is copied too
	one[0] = 9
	if row[0].Data[0] != 1 {
		t.Error(row)
	}
}

// Rule 4: neither writing nor reading changes what it is given, and a head shares nothing with its bytes.
func TestMemoryOfBytes(t *testing.T) {
	e := api.Entry{Links: []api.Link{{Stream: 5, Backs: []uint64{9, 3}}}, Data: []byte{1, 2}}
	before := text(e)
	w := pen.New(99)
	entry.PutHead(w, 10, e)
	entry.HeadSize(10, e)
	entry.Right(10, e)
	if text(e) != before {
		t.Error(text(e))
	}
	b, _ := w.Bytes()
	in := slices.Clone(b)
	x, _ := entry.ReadHead(cursor.New(in), 10, 99)
	y, _ := entry.ReadHead(cursor.New(in), 10, 99)
	if !bytes.Equal(in, b) {
		t.Error(in)
	}
	x.Links[0].Backs[0], x.Links[0].Stream = 1, 1
	clear(in)
	if text(y) != "{[5: 9 3]|}" {
		t.Error(text(y))
	}
}

// Rule 9: lists far beyond the limits are worked on whole.
func TestVeryManyEntries(t *testing.T) {
	n := 1 << 18
	heads, sizes, data := make([]api.Entry, n), make([]int, n), make([]byte, n)
	for i := range n {
		sizes[i], data[i] = 1, byte(i)
	}
	l, ok := entry.Deal(heads, sizes, data)
	if !ok || len(l) != n || entry.Total(l) != n || !bytes.Equal(entry.Join(l), data) || entry.All(l, heads) {
		t.Error(ok, len(l))
	}
	e := api.Entry{Links: make([]api.Link, n)}
	if entry.Right(10, e) || entry.HeadSize(10, e) != 0 || !entry.Same(entry.Copy(e), e) {
		t.Error("many links")
	}
}

// declared are the package's functions, by their names.
func declared(t *testing.T) map[string]*ast.FuncDecl {
	t.Helper()
	files, err := filepath.Glob("*.go")
	if err != nil {
		t.Fatal(err)
	}
	l := map[string]*ast.FuncDecl{}
	for _, name := range files {
		if strings.HasSuffix(name, "_test.go") {
			continue
		}
		file, err := parser.ParseFile(token.NewFileSet(), name, nil, 0)
		if err != nil {
			t.Fatal(err)
		}
		for _, d := range file.Decls {
			if f, ok := d.(*ast.FuncDecl); ok {
				l[f.Name.Name] = f
			}
		}
	}
	return l
}

// Ways of layer 24: what deals data cuts it, itself or by a function of the package, with full slice
// expressions.
func TestDataIsCutWithFullSliceExpressions(t *testing.T) {
	l := declared(t)
	seen := map[string]bool{"Deal": true}
	full := 0
	for work := []string{"Deal"}; len(work) > 0; work = work[1:] {
		ast.Inspect(l[work[0]], func(n ast.Node) bool {
			switch x := n.(type) {
			case *ast.Ident:
				if l[x.Name] != nil && !seen[x.Name] {
					seen[x.Name] = true
					work = append(work, x.Name)
				}
			case *ast.SliceExpr:
				if x.Slice3 {
					full++
				}
			}
			return true
		})
	}
	if full == 0 {
		t.Error("no full slice expression")
	}
}
