package batch_test

import (
	"bytes"
	"go/ast"
	"go/parser"
	"go/token"
	"math"
	"math/rand"
	"path/filepath"
	"slices"
	"strconv"
	"strings"
	"testing"

	"tholepin/api"
	"tholepin/batch"
	"tholepin/block"
	"tholepin/cursor"
	"tholepin/entry"
	"tholepin/epoch"
	"tholepin/pen"
	"tholepin/varint"
)

var good = api.Fault{}

// The greatest numbers, and how many bytes of data a batch has at most.
const (
	top       = uint64(math.MaxUint64)
	lastEpoch = uint64(1)<<62 - 1
	maxPos    = uint64(1) << 62
	mostData  = 1 << 20
)

// example is the batch of the chapter.
func example() api.Batch {
	return api.Batch{Epoch: 3, Base: 10, Entries: []api.Entry{{Data: []byte{7, 8}}}}
}

// of is a batch of epoch 3 from a position on, whose entries have some data.
func of(base uint64, data ...[]byte) api.Batch {
	b := api.Batch{Epoch: 3, Base: base}
	for _, d := range data {
		b.Entries = append(b.Entries, api.Entry{Data: d})
	}
	return b
}

// many is a batch of n entries from a position on, with links and a little data.
func many(base uint64, n int) api.Batch {
	b := api.Batch{Epoch: 3, Base: base}
	for i := range n {
		e := api.Entry{Data: bytes.Repeat([]byte{byte(i)}, i%4*i)}
		if pos := base + uint64(i); i%3 > 0 && pos > 0 {
			e.Links = []api.Link{{Stream: uint64(i)}, {Stream: 1 << 40, Backs: []uint64{pos - 1}}}
		}
		b.Entries = append(b.Entries, e)
	}
	return b
}

// with is a batch of epoch 3 from 10 on, whose entries have some links.
func with(links ...[]api.Link) api.Batch {
	b := api.Batch{Epoch: 3, Base: 10}
	for _, l := range links {
		b.Entries = append(b.Entries, api.Entry{Links: l})
	}
	return b
}

// batches are batches that are valid, and others.
func batches() []api.Batch {
	l := []api.Batch{{}, example(), {Epoch: 3, Base: 10}, {Entries: make([]api.Entry, 1)}}
	for _, e := range []uint64{0, 1, 128, lastEpoch - 1, lastEpoch, maxPos, top} {
		for _, base := range []uint64{0, 1, 300, maxPos - 17, maxPos - 16, maxPos - 2, maxPos - 1, maxPos, top - 1, top} {
			for _, n := range []int{0, 1, 2, 15, 16, 17} {
				b := many(base, n)
				b.Epoch = e
				l = append(l, b)
			}
		}
	}
	back := func(x ...uint64) []api.Link { return []api.Link{{Stream: 5, Backs: x}} }
	l = append(l, with(back(9)), with(back(10)), with(nil, back(10)), with(nil, back(11)), with(back(11), nil),
		with(back(9, 3, 2, 1)), with(back(9, 3, 2, 1, 0)), with(back(3, 9)), with(nil, nil, back(11, 10, 9), back(12)),
		with(make([]api.Link, 1)), with(make([]api.Link, 2)), with([]api.Link{{Stream: 6}, {Stream: 5}}), with(nil, []api.Link{{Stream: 5}, {Stream: 5}}))
	var all []api.Link
	for i := range 17 {
		all = append(all, api.Link{Stream: uint64(i * i), Backs: []uint64{4, 3, 2, 1}})
	}
	return append(l, with(all[:16], all[1:], nil), with(nil, all))
}

// large are batches about as large as a batch may be.
func large() []api.Batch {
	zero := func(n int) []byte { return make([]byte, n) }
	l := []api.Batch{
		of(10, zero(mostData)), of(10, zero(mostData+1)), of(10, nil, zero(mostData+1)), of(10, zero(mostData), zero(1)),
		of(10, zero(mostData), nil), of(10, zero(1), zero(mostData-1), nil), of(10, zero(1), zero(mostData-1), zero(1)),
		of(10, zero(2*mostData)), of(10, zero(mostData), zero(mostData)),
	}
	var parts [][]byte
	for range 16 {
		parts = append(parts, zero(mostData/16))
	}
	l = append(l, of(10, parts...))
	parts[15] = zero(mostData/16 + 1)
	l = append(l, of(10, parts...))
	noise := zero(mostData) // which stays as long as it is
	rand.New(rand.NewSource(24)).Read(noise)
	return append(l, of(10, noise))
}

// valid is the definition's words.
func valid(b api.Batch) bool {
	if b.Epoch < 1 || b.Epoch > lastEpoch || b.Base >= maxPos || len(b.Entries) < 1 || len(b.Entries) > 16 {
		return false
	}
	total := 0
	for i, e := range b.Entries {
		pos := b.Base + uint64(i)
		if pos >= maxPos || !entry.Right(pos, e) {
			return false
		}
		total += len(e.Data)
	}
	return total <= mostData
}

// heads is the encoding of a valid batch up to its block.
func heads(b api.Batch) []byte {
	w := pen.New(1 << 16)
	varint.Put(w, b.Epoch)
	varint.Put(w, b.Base)
	varint.Put(w, uint64(len(b.Entries)))
	for i, e := range b.Entries {
		entry.PutHead(w, b.Base+uint64(i), e)
	}
	out, _ := w.Bytes()
	return out
}

// stored is the block of a payload that is not compressed, and encoded the definition's words.
func stored(payload []byte) []byte {
	return slices.Concat(varint.Bytes(uint64(len(payload))), []byte{0}, payload)
}

func encoded(b api.Batch) []byte {
	own, _ := block.Bytes(entry.Join(b.Entries))
	return append(heads(b), own...)
}

// text is a batch in words, in which nil and empty lists are the same.
func text(b api.Batch) string {
	num := func(x uint64) string { return strconv.FormatUint(x, 10) }
	var s strings.Builder
	s.WriteString(num(b.Epoch) + "@" + num(b.Base))
	for _, e := range b.Entries {
		s.WriteString("{")
		for _, x := range e.Links {
			s.WriteString("[" + num(x.Stream) + ":")
			for _, y := range x.Backs {
				s.WriteString(" " + num(y))
			}
			s.WriteString("]")
		}
		s.WriteString("|" + string(e.Data) + "}")
	}
	return s.String()
}

// isZero tells whether a batch is the zero one.
func isZero(b api.Batch) bool { return b.Epoch == 0 && b.Base == 0 && b.Entries == nil }

// at1 is a reader of one byte 5 and others, at position 1.
func at1(b []byte) *cursor.Reader {
	r := cursor.New(append([]byte{5}, b...))
	r.Skip(1)
	return r
}

// expected is what a reader of bytes at 1 is to find: the words of ReadLoose, or those of Read, one
// by one.
func expected(s []byte, loose bool) (b api.Batch, own bool, at int, f api.Fault) {
	r := at1(s)
	b.Epoch = epoch.Read(r)
	b.Base = epoch.ReadPos(r)
	from := r.At()
	n := varint.ReadInt(r, 16)
	if n == 0 || b.Base+uint64(n) > 1<<62 {
		r.Fail(api.ErrInvalid, from)
	}
	total := 0
	var sizes []int
	for i := range n {
		e, size := entry.ReadHead(r, b.Base+uint64(i), mostData-total)
		total += size
		b.Entries, sizes = append(b.Entries, e), append(sizes, size)
	}
	from = r.At()
	var data []byte
	if own = true; loose {
		data, own = block.ReadLoose(r, mostData)
	} else {
		data = block.Read(r, mostData)
	}
	if len(data) != total {
		r.Fail(api.ErrInvalid, from)
	}
	if !r.Good() {
		return api.Batch{}, false, r.At(), r.Fault()
	}
	for i, size := range sizes {
		b.Entries[i].Data, data = data[:size], data[size:]
	}
	return b, own, r.At(), good
}

// check holds what is read from position 1 on against the chapter's words, and tells whether each of
// the two readers accepts it.
func check(t *testing.T, s []byte) (strict, loose bool) {
	t.Helper()
	want, _, at, f := expected(s, false)
	r := at1(s)
	if b := batch.Read(r); r.Fault() != f || text(b) != text(want) || f == good && r.At() != at || f != good && !isZero(b) {
		t.Fatalf("%x: %.200s at %d with %v, not %.200s at %d with %v", s, text(b), r.At(), r.Fault(), text(want), at, f)
	}
	strict = f == good
	want, own, at, f := expected(s, true)
	r = at1(s)
	if b, o := batch.ReadLoose(r); r.Fault() != f || o != own || text(b) != text(want) || f == good && r.At() != at || f != good && !isZero(b) {
		t.Fatalf("%x: %.200s, %v at %d with %v, not %.200s, %v at %d with %v", s, text(b), o, r.At(), r.Fault(), text(want), own, at, f)
	}
	return strict, f == good
}

// checkWhole holds Decode and DecodeLoose of bytes against the two readers.
func checkWhole(t *testing.T, s []byte) {
	t.Helper()
	r := cursor.New(s)
	want := batch.Read(r)
	r.End()
	b, f := batch.Decode(s)
	if f != r.Fault() || f == good && text(b) != text(want) || f != good && !isZero(b) {
		t.Fatalf("%x: %.200s with %v, not %v", s, text(b), f, r.Fault())
	}
	r = cursor.New(s)
	want, own := batch.ReadLoose(r)
	r.End()
	b, o, f := batch.DecodeLoose(s)
	if f != r.Fault() || f == good && (text(b) != text(want) || o != own) || f != good && (!isZero(b) || o) {
		t.Fatalf("%x: %.200s, %v with %v, not %v with %v", s, text(b), o, f, own, r.Fault())
	}
}

// P25.1, P25.3: the examples of the chapter.
func TestExamples(t *testing.T) {
	want := []byte{0x03, 0x0a, 0x01, 0x00, 0x02, 0x02, 0x00, 0x07, 0x08}
	s, code := batch.Bytes(example())
	if code != api.OK || !bytes.Equal(s, want) {
		t.Error(s, code)
	}
	if x := batch.End(example()); x != 11 {
		t.Error(x)
	}
	if b, f := batch.Decode(want); f != good || text(b) != "3@10{|\a\b}" || !batch.Right(b) {
		t.Error(text(b), f)
	}
	want[4] = 1
	if b, f := batch.Decode(want); !isZero(b) || f != (api.Fault{Code: api.ErrInvalid, At: 5}) {
		t.Error(text(b), f)
	}
	if b, own, f := batch.DecodeLoose(want); !isZero(b) || own || f != (api.Fault{Code: api.ErrInvalid, At: 5}) {
		t.Error(text(b), own, f)
	}
}

// P25.1: which batches are valid.
func TestRight(t *testing.T) {
	none := []byte{}
	sixteen := make([][]byte, 17)
	changed := func(change func(b *api.Batch)) api.Batch {
		b := example()
		change(&b)
		return b
	}
	back := func(x uint64) []api.Link { return []api.Link{{Stream: 5, Backs: []uint64{x}}} }
	for i, c := range []struct {
		b    api.Batch
		want bool
	}{
		{api.Batch{}, false},
		{example(), true},
		{changed(func(b *api.Batch) { b.Epoch = 0 }), false},
		{changed(func(b *api.Batch) { b.Epoch = 1 }), true},
		{changed(func(b *api.Batch) { b.Epoch = lastEpoch }), true},
		{changed(func(b *api.Batch) { b.Epoch = lastEpoch + 1 }), false},
		{changed(func(b *api.Batch) { b.Epoch = top }), false},
		{changed(func(b *api.Batch) { b.Entries = nil }), false},
		{changed(func(b *api.Batch) { b.Entries = []api.Entry{} }), false},
		{of(0, none), true},
		{of(maxPos-1, none), true},
		{of(maxPos-1, none, none), false},
		{of(maxPos-2, none, none), true},
		{of(maxPos, none), false},
		{of(maxPos), false},
		{of(top, none), false},
		{of(top, none, none), false}, // its second position wraps round to 0
		{of(maxPos-16, sixteen[:16]...), true},
		{of(maxPos-15, sixteen[:16]...), false},
		{of(10, sixteen[:15]...), true},
		{of(10, sixteen[:16]...), true},
		{of(10, sixteen[:17]...), false},
		{with(back(9)), true},
		{with(back(10)), false}, // each entry at its own position
		{with(nil, back(10)), true},
		{with(nil, back(11)), false},
		{with(nil, nil, back(11), back(12)), true},
		{with(back(9), []api.Link{{Stream: 5}, {Stream: 5}}), false},
		{with(make([]api.Link, 17)), false},
	} {
		if batch.Right(c.b) != c.want {
			t.Errorf("case %d: %v", i, !c.want)
		}
	}
	for i, b := range large() {
		if want := slices.Contains([]int{0, 4, 5, 9, 11}, i); batch.Right(b) != want {
			t.Errorf("large %d: %v", i, !want)
		}
	}
}

// P25.1: Put and Bytes write the encoding of a valid batch, and nothing of another one.
func TestPutAndBytes(t *testing.T) {
	rights, wrongs := 0, 0
	for i, b := range append(batches(), large()...) {
		ok := valid(b)
		if batch.Right(b) != ok {
			t.Fatal(i, !ok)
		}
		if !ok {
			wrongs++
			if s, code := batch.Bytes(b); s != nil || code != api.ErrInvalid {
				t.Fatal(i, len(s), code)
			}
			for _, room := range []int{0, 1, 1000} { // too little room is no code of such a batch
				w := pen.New(1 + room)
				w.Put(9)
				batch.Put(w, b)
				if w.Code() != api.ErrInvalid || w.Len() != 1 {
					t.Fatal(i, room, w.Code(), w.Len())
				}
			}
			continue
		}
		rights++
		want := encoded(b)
		if s, code := batch.Bytes(b); code != api.OK || !bytes.Equal(s, want) {
			t.Fatalf("batch %d: %x, %v", i, s, code)
		}
		w := pen.New(1 + len(want))
		w.Put(9)
		batch.Put(w, b)
		if s, code := w.Bytes(); code != api.OK || s[0] != 9 || !bytes.Equal(s[1:], want) {
			t.Fatalf("batch %d: %x, %v", i, s, code)
		}
	}
	if min(rights, wrongs) < 100 {
		t.Error(rights, wrongs)
	}
}

// P25.1: encodings, byte by byte: epoch, base, number, heads, block.
func TestBytesOfBatches(t *testing.T) {
	for i, c := range []struct {
		b    api.Batch
		want []byte
	}{
		{of(0, nil), []byte{3, 0, 1, 0, 0, 0, 0}},
		{of(300, []byte{7}, nil, []byte{8, 9}), []byte{3, 0xac, 0x02, 3, 0, 1, 0, 0, 0, 2, 3, 0, 7, 8, 9}},
		{api.Batch{Epoch: 200, Base: 10, Entries: make([]api.Entry, 1)}, []byte{0xc8, 1, 10, 1, 0, 0, 0, 0}},
		{with([]api.Link{{Stream: 5}}, []api.Link{{Stream: 5, Backs: []uint64{10}}, {Stream: 7, Backs: []uint64{9}}}),
			[]byte{3, 10, 2, 1, 5, 0, 0, 2, 5, 1, 0, 1, 1, 1, 0, 0, 0}},
		{of(10, bytes.Repeat([]byte{'a'}, 40)), []byte{3, 10, 1, 0, 40, 40, 1, 4, 0, 97, 71, 0}},
		{of(10, bytes.Repeat([]byte{'a'}, 30), bytes.Repeat([]byte{'a'}, 10)), []byte{3, 10, 2, 0, 30, 0, 10, 40, 1, 4, 0, 97, 71, 0}},
	} {
		if s, code := batch.Bytes(c.b); code != api.OK || !bytes.Equal(s, c.want) {
			t.Errorf("case %d: %x, %v", i, s, code)
		}
	}
}

// P25.1: with less room than it needs a batch gives ErrLong; with a code nothing is written and the
// code is kept; a nil writer takes everything.
func TestPutWithoutRoomOrAfterACode(t *testing.T) {
	b := many(300, 9)
	wrong := of(10)
	for room := range len(encoded(b)) {
		w := pen.New(room)
		batch.Put(w, b)
		if s, code := w.Bytes(); s != nil || code != api.ErrLong || w.Len() > room {
			t.Error(room, s, code, w.Len())
		}
	}
	for _, x := range []api.Batch{b, wrong, example()} {
		w := pen.New(999)
		w.Fail(api.ErrSum)
		batch.Put(w, x)
		if w.Code() != api.ErrSum || w.Len() != 0 {
			t.Error(w.Code(), w.Len())
		}
		batch.Put(nil, x)
	}
	w := pen.New(999)
	batch.Put(w, wrong)
	batch.Put(w, b)
	if w.Code() != api.ErrInvalid || w.Len() != 0 {
		t.Error(w.Code(), w.Len())
	}
}

// P25.1: the end of any batch, modulo 2^64.
func TestEnd(t *testing.T) {
	for _, c := range []struct {
		base uint64
		n    int
		want uint64
	}{
		{0, 0, 0}, {0, 1, 1}, {10, 1, 11}, {10, 0, 10}, {10, 16, 26}, {10, 1000, 1010},
		{maxPos - 1, 1, maxPos}, {maxPos, 5, maxPos + 5}, {top, 0, top}, {top, 1, 0}, {top - 3, 17, 13},
	} {
		if x := batch.End(api.Batch{Base: c.base, Entries: make([]api.Entry, c.n)}); x != c.want {
			t.Error(c, x)
		}
	}
}

// join is parts of an encoding, one behind the other: each int is a byte, and each uint64 written as
// an integer.
func join(parts ...any) []byte {
	var s []byte
	for _, p := range parts {
		switch x := p.(type) {
		case int:
			s = append(s, byte(x))
		case uint64:
			s = append(s, varint.Bytes(x)...)
		case []byte:
			s = append(s, x...)
		}
	}
	return s
}

// P25.2: each fault of the readers, the first one in the order of the bytes, and nothing beside it.
func TestRefuses(t *testing.T) {
	over := append(bytes.Repeat([]byte{255}, 9), 2)
	fault := func(code api.Errno, at int) api.Fault { return api.Fault{Code: code, At: at} }
	for i, c := range []struct {
		s []byte
		f api.Fault
	}{
		// the epoch
		{nil, fault(api.ErrShort, 1)},
		{join(0x80), fault(api.ErrShort, 2)},
		{join(0x83, 0), fault(api.ErrNonMinimal, 2)},
		{join(over), fault(api.ErrOverflow, 10)},
		{join(0, 10, 1, 0, 0, 0, 0), fault(api.ErrInvalid, 1)},
		{join(0), fault(api.ErrInvalid, 1)},
		{join(maxPos, 10, 1, 0, 0, 0, 0), fault(api.ErrInvalid, 1)},
		{join(lastEpoch, 10, 1, 0, 0, 0, 0), good},
		// the base
		{join(3), fault(api.ErrShort, 2)},
		{join(3, 0x8a, 0), fault(api.ErrNonMinimal, 3)},
		{join(3, over), fault(api.ErrOverflow, 11)},
		{join(3, maxPos, 1, 0, 0, 0, 0), fault(api.ErrInvalid, 2)},
		{join(3, maxPos), fault(api.ErrInvalid, 2)},
		{join(3, top, 0), fault(api.ErrInvalid, 2)},
		{join(3, 0, 1, 0, 0, 0, 0), good},
		// the number of entries
		{join(3, 10), fault(api.ErrShort, 3)},
		{join(3, 10, 0x81, 0), fault(api.ErrNonMinimal, 4)},
		{join(3, 10, 17, 0, 0), fault(api.ErrLong, 3)},
		{join(3, 10, top), fault(api.ErrLong, 3)},
		{join(3, maxPos-1, 17), fault(api.ErrLong, 11)}, // ahead of its positions
		{join(3, 10, 0, 0, 0), fault(api.ErrInvalid, 3)},
		{join(3, 10, 0), fault(api.ErrInvalid, 3)},
		{join(3, maxPos-1, 1, 0, 0, 0, 0), good},
		{join(3, maxPos-1, 2, 0, 0, 0, 0, 0, 0), fault(api.ErrInvalid, 11)},
		{join(3, maxPos-1, 2), fault(api.ErrInvalid, 11)},
		{join(3, maxPos-16, 16, make([]byte, 34)), good},
		{join(3, maxPos-15, 16, make([]byte, 34)), fault(api.ErrInvalid, 11)},
		{join(3, maxPos-1, 0), fault(api.ErrInvalid, 11)},
		// the heads
		{join(3, 10, 1), fault(api.ErrShort, 4)},
		{join(3, 10, 1, 17), fault(api.ErrLong, 4)},
		{join(3, 10, 1, 0), fault(api.ErrShort, 5)},
		{join(3, 10, 2, 0, 0), fault(api.ErrShort, 6)},
		{join(3, 10, 2, 0, 0, 17), fault(api.ErrLong, 6)},
		{join(3, 10, 1, 0, 0x82, 0, 2, 0, 7, 8), fault(api.ErrNonMinimal, 6)},
		{join(3, 10, 1, 1, 5, 1, 9, 0, 0, 0), good},
		{join(3, 10, 1, 1, 5, 1, 10, 0, 0, 0), fault(api.ErrOrder, 7)}, // below the position of the first entry
		{join(3, 10, 2, 0, 0, 1, 5, 1, 10, 0, 0, 0), good},             // and of the second one
		{join(3, 10, 2, 0, 0, 1, 5, 1, 11, 0, 0, 0), fault(api.ErrOrder, 9)},
		{join(3, 10, 1, 2, top, 0, 0, 0, 0, 0, 0), fault(api.ErrOrder, 16)},
		{join(3, 10, 1, 0, uint64(mostData+1)), fault(api.ErrLong, 5)},
		{join(3, 10, 1, 0, uint64(mostData)), fault(api.ErrShort, 8)},
		{join(3, 10, 2, 0, uint64(mostData), 0, 1), fault(api.ErrLong, 9)}, // what the first one leaves
		{join(3, 10, 2, 0, uint64(mostData), 0, 0), fault(api.ErrShort, 10)},
		{join(3, 10, 3, 0, 5, 0, uint64(mostData-7), 0, 3), fault(api.ErrLong, 11)},
		{join(3, 10, 3, 0, 5, 0, uint64(mostData-7), 0, 2), fault(api.ErrShort, 12)},
		// the block
		{join(3, 10, 1, 0, 2), fault(api.ErrShort, 6)},
		{join(3, 10, 1, 0, 2, 0x82, 0, 0, 7, 8), fault(api.ErrNonMinimal, 7)},
		{join(3, 10, 1, 0, 2, uint64(mostData+1), 0), fault(api.ErrLong, 6)},
		{join(3, 10, 1, 0, 2, 2), fault(api.ErrShort, 7)},
		{join(3, 10, 1, 0, 2, 2, 2, 7, 8), fault(api.ErrKind, 7)},
		{join(3, 10, 1, 0, 2, 2, 0, 7), fault(api.ErrShort, 9)},
		{join(3, 10, 1, 0, 40, 40, 1, 4, 0, 97, 71, 1), fault(api.ErrToken, 12)},
		{join(3, 10, 1, 0, 40, 40, 1, 4, 0, 97, 73, 0), fault(api.ErrBound, 11)},
		{join(3, 10, 1, 0, 40, 40, 1, 4, 0, 97, 69, 0), fault(api.ErrInvalid, 13)},
		{join(3, 10, 1, 0, 39, 40, 1, 4, 0, 97, 69, 0), fault(api.ErrInvalid, 13)}, // ahead of that of the number
		{join(3, 10, 1, 0, 40, 40, 1, 4, 0, 97, 71, 0), good},
		{join(3, 10, 1, 0, 2, 2, 0, 7, 8), good},
		// the number of its bytes
		{join(3, 10, 1, 0, 1, 2, 0, 7, 8), fault(api.ErrInvalid, 6)},
		{join(3, 10, 1, 0, 3, 2, 0, 7, 8), fault(api.ErrInvalid, 6)},
		{join(3, 10, 1, 0, 2, 0, 0), fault(api.ErrInvalid, 6)},
		{join(3, 10, 1, 0, 0, 1, 0, 7), fault(api.ErrInvalid, 6)},
		{join(3, 10, 2, 0, 1, 0, 0, 2, 0, 7, 8), fault(api.ErrInvalid, 8)},
		{join(3, 10, 2, 0, 1, 0, 1, 2, 0, 7, 8), good},
		{join(3, 10, 1, 0, 1, 2, 0, 7), fault(api.ErrShort, 9)}, // its own faults are first
		{join(3, 10, 1, 0, 1, 2, 2, 7, 8), fault(api.ErrKind, 7)},
		// what follows is left
		{join(3, 10, 1, 0, 2, 2, 0, 7, 8, 0x80, 0), good},
	} {
		r := at1(c.s)
		if b := batch.Read(r); r.Fault() != c.f || (c.f == good) == isZero(b) {
			t.Errorf("case %d: %s with %v", i, text(b), r.Fault())
		}
		r = at1(c.s)
		if b, own := batch.ReadLoose(r); r.Fault() != c.f || (c.f == good) == isZero(b) || own != (c.f == good) {
			t.Errorf("case %d: %s, %v with %v", i, text(b), own, r.Fault())
		}
		check(t, c.s)
		checkWhole(t, c.s)
	}
}

// P25.2: where a block is not the canonical one, ReadLoose tells so, and Read gives ErrNonCanonical,
// which is ahead of ErrInvalid for the number of its bytes.
func TestOtherBlocks(t *testing.T) {
	forty := bytes.Repeat([]byte{'a'}, 40)
	b := of(10, forty[:30], nil, forty[30:])
	b.Entries[1].Links = []api.Link{{Stream: 5, Backs: []uint64{10}}}
	s := append(heads(b), stored(forty)...)
	r := at1(s)
	if got, own := batch.ReadLoose(r); text(got) != text(b) || own || r.Fault() != good || r.Left() != 0 {
		t.Error(text(got), own, r.Fault())
	}
	r = at1(s)
	if got := batch.Read(r); !isZero(got) || r.Fault() != (api.Fault{Code: api.ErrNonCanonical, At: 1 + len(s)}) {
		t.Error(text(got), r.Fault())
	}
	if got, own, f := batch.DecodeLoose(s); text(got) != text(b) || own || f != good {
		t.Error(text(got), own, f)
	}
	if got, f := batch.Decode(s); !isZero(got) || f != (api.Fault{Code: api.ErrNonCanonical, At: len(s)}) {
		t.Error(text(got), f)
	}
	small := append(heads(example()), 2, 1, 3, 2, 7, 8) // compressed, though that is not shorter
	if got, own, f := batch.DecodeLoose(small); text(got) != text(example()) || own || f != good {
		t.Error(text(got), own, f)
	}
	for _, n := range []int{39, 41} { // another number of bytes than the heads say
		s := append(heads(of(10, make([]byte, n))), stored(forty)...)
		at := len(s) - len(stored(forty))
		if got, own, f := batch.DecodeLoose(s); !isZero(got) || own || f != (api.Fault{Code: api.ErrInvalid, At: at}) {
			t.Error(n, text(got), own, f)
		}
		if got, f := batch.Decode(s); !isZero(got) || f != (api.Fault{Code: api.ErrNonCanonical, At: len(s)}) {
			t.Error(n, text(got), f)
		}
		own, _ := block.Bytes(forty)
		if got, f := batch.Decode(append(s[:at:at], own...)); !isZero(got) || f != (api.Fault{Code: api.ErrInvalid, At: at}) {
			t.Error(n, text(got), f)
		}
	}
	// bytes behind it do not come to count: the block's fault is the first
	if _, f := batch.Decode(append(slices.Clone(s), 0)); f != (api.Fault{Code: api.ErrNonCanonical, At: len(s)}) {
		t.Error(f)
	}
	if got, own, f := batch.DecodeLoose(append(slices.Clone(s), 0)); !isZero(got) || own || f != (api.Fault{Code: api.ErrRest, At: len(s)}) {
		t.Error(text(got), own, f)
	}
}

// P25.2: a reader with a fault keeps it and its position, and a nil reader gives nothing.
func TestFaultIsKept(t *testing.T) {
	for _, s := range [][]byte{encoded(example()), {0}, {3, 10, 17}, {3, 10, 1, 0, 1, 2, 0, 7, 8}, nil} {
		r := at1(s)
		r.Fail(api.ErrRest, 8)
		if b := batch.Read(r); !isZero(b) {
			t.Error(s, text(b))
		}
		if b, own := batch.ReadLoose(r); !isZero(b) || own {
			t.Error(s, text(b), own)
		}
		if r.At() != 1 || r.Fault() != (api.Fault{Code: api.ErrRest, At: 8}) {
			t.Error(s, r.At(), r.Fault())
		}
	}
	if b := batch.Read(nil); !isZero(b) {
		t.Error(text(b))
	}
	if b, own := batch.ReadLoose(nil); !isZero(b) || own {
		t.Error(text(b), own)
	}
}

// P25.3: whatever stands behind a batch gives ErrRest there.
func TestRest(t *testing.T) {
	for _, b := range []api.Batch{example(), many(10, 16)} {
		s := encoded(b)
		for _, behind := range [][]byte{{0}, {128}, {255, 255}, s} {
			long := slices.Concat(s, behind)
			if got, f := batch.Decode(long); !isZero(got) || f != (api.Fault{Code: api.ErrRest, At: len(s)}) {
				t.Error(text(got), f)
			}
			if got, own, f := batch.DecodeLoose(long); !isZero(got) || own || f != (api.Fault{Code: api.ErrRest, At: len(s)}) {
				t.Error(text(got), own, f)
			}
		}
	}
	for _, s := range [][]byte{nil, {}} {
		if b, f := batch.Decode(s); !isZero(b) || f != (api.Fault{Code: api.ErrShort}) {
			t.Error(text(b), f)
		}
		if b, own, f := batch.DecodeLoose(s); !isZero(b) || own || f != (api.Fault{Code: api.ErrShort}) {
			t.Error(text(b), own, f)
		}
	}
}

// P25.4: what was written is read back, whatever follows, and no beginning of it is a batch.
func TestRoundTrip(t *testing.T) {
	done := 0
	for i, b := range batches() {
		if !valid(b) {
			continue
		}
		done++
		s, _ := batch.Bytes(b)
		for _, behind := range [][]byte{nil, {0}, {255, 255, 255}} {
			r := at1(append(slices.Clone(s), behind...))
			if got := batch.Read(r); text(got) != text(b) || !batch.Same(got, b) || r.At() != 1+len(s) || r.Fault() != good {
				t.Fatal(i, text(got), r.At(), r.Fault())
			}
			r = at1(append(slices.Clone(s), behind...))
			if got, own := batch.ReadLoose(r); text(got) != text(b) || !own || r.At() != 1+len(s) || r.Fault() != good {
				t.Fatal(i, text(got), own, r.At(), r.Fault())
			}
		}
		for n := range s {
			r := at1(s[:n])
			if got := batch.Read(r); !isZero(got) || r.Fault() != (api.Fault{Code: api.ErrShort, At: 1 + n}) {
				t.Fatal(i, n, text(got), r.Fault())
			}
		}
	}
	if done < 80 {
		t.Error(done)
	}
	for i, b := range large() {
		if s, code := batch.Bytes(b); code == api.OK {
			if got, f := batch.Decode(s); f != good || !batch.Same(got, b) {
				t.Error(i, f)
			}
			data := entry.Join(b.Entries)
			got, own, f := batch.DecodeLoose(append(heads(b), stored(data)...))
			if f != good || own != (block.Way(data) == block.Stored) || !batch.Same(got, b) {
				t.Error(i, own, f)
			}
		}
	}
}

// changes are bytes with one of them changed, missing, or more.
func changes(s []byte) [][]byte {
	var l [][]byte
	for i := range s {
		for _, by := range []byte{1, 2, 128, 255} {
			x := slices.Clone(s)
			x[i] ^= by
			l = append(l, x)
		}
		l = append(l, slices.Delete(slices.Clone(s), i, i+1), slices.Insert(slices.Clone(s), i, 0), slices.Insert(slices.Clone(s), i, 128))
	}
	return l
}

// oneEncoding checks what the chapter promises of bytes, and tells what the two readers do with them.
func oneEncoding(t *testing.T, s []byte) (strict, loose bool) {
	t.Helper()
	check(t, s)
	checkWhole(t, s)
	b, f := batch.Decode(s)
	c, own, g := batch.DecodeLoose(s)
	if strict = f == good; strict {
		back, code := batch.Bytes(b)
		if !valid(b) || !batch.Right(b) || code != api.OK || !bytes.Equal(back, s) || g != good || !own || text(b) != text(c) {
			t.Fatalf("%x is read as %s and written as %x", s, text(b), back)
		}
	}
	if loose = g == good; loose && !strict {
		if f.Code != api.ErrNonCanonical || own || !valid(c) {
			t.Fatalf("%x is read as %s, %v, with %v", s, text(c), own, f)
		}
		back, _ := batch.Bytes(c)
		if !bytes.HasPrefix(back, heads(c)) || !bytes.HasPrefix(s, heads(c)) {
			t.Fatalf("%x is written as %x", s, back)
		}
	}
	return strict, loose
}

// P25.4: what Read accepts is valid and is written as it was; what only ReadLoose accepts differs in
// its block alone.
func TestOneEncoding(t *testing.T) {
	stricts, looses, neithers := 0, 0, 0
	see := func(s []byte) {
		switch strict, loose := oneEncoding(t, s); {
		case strict:
			stricts++
		case loose:
			looses++
		default:
			neithers++
		}
	}
	for _, b := range []api.Batch{example(), many(10, 3), many(300, 16), of(10, []byte("abcabcabcabcabcabc"), []byte("abcabcabc")), of(maxPos-2, nil, []byte{1})} {
		own := encoded(b)
		other := append(heads(b), stored(entry.Join(b.Entries))...)
		for _, s := range append(changes(own), changes(other)...) {
			see(s)
		}
		see(own)
		see(other)
	}
	rnd := rand.New(rand.NewSource(25))
	for range 40000 {
		n := 1 + rnd.Intn(3)
		s := []byte{1, byte(rnd.Intn(20)), byte(n)}
		total := 0
		for range n {
			size := rnd.Intn(4)
			if total += size; rnd.Intn(3) == 0 {
				s = append(s, 1, byte(rnd.Intn(9)), 1, byte(rnd.Intn(12)))
			} else {
				s = append(s, 0)
			}
			s = append(s, byte(size))
		}
		s = append(s, byte(total), byte(rnd.Intn(2)*rnd.Intn(2)))
		for range total {
			s = append(s, byte(rnd.Intn(6)))
		}
		if rnd.Intn(2) == 0 {
			s[rnd.Intn(len(s))] = byte(rnd.Intn(40))
		}
		see(s)
	}
	if stricts < 1000 || looses < 100 || neithers < 1000 {
		t.Error("too few to tell:", stricts, looses, neithers)
	}
}

// P25.2: any bytes.
func TestAnyBytes(t *testing.T) {
	rnd := rand.New(rand.NewSource(26))
	for range 40000 {
		var s []byte
		for range rnd.Intn(24) {
			s = append(s, byte(rnd.Intn(1<<(1+rnd.Intn(8)))))
		}
		check(t, s)
		checkWhole(t, s)
	}
}

// P25.1: a copy is the same, of any batch, and shares nothing with it.
func TestCopy(t *testing.T) {
	for i, b := range append(batches(), large()...) {
		if c := batch.Copy(b); !batch.Same(c, b) || text(c) != text(b) {
			t.Fatal(i)
		}
	}
	fresh := func() api.Batch { return with([]api.Link{{Stream: 5, Backs: []uint64{9, 3}}}, nil) }
	spoil := func(b *api.Batch) {
		b.Epoch, b.Base = 99, 98
		b.Entries[0].Links[0].Backs[0] = 97
		b.Entries[0].Links[0].Stream = 96
		b.Entries[0].Links = append(b.Entries[0].Links, api.Link{})
		b.Entries[1].Data = append(b.Entries[1].Data, 95)
		b.Entries[1] = api.Entry{Data: []byte{94}}
	}
	b := fresh()
	c := batch.Copy(b)
	spoil(&c)
	if text(b) != text(fresh()) {
		t.Error(text(b))
	}
	c = batch.Copy(b)
	spoil(&b)
	if text(c) != text(fresh()) {
		t.Error(text(c))
	}
	x := example()
	y := batch.Copy(x)
	y.Entries[0].Data[1] = 9
	if x.Entries[0].Data[1] != 8 {
		t.Error(text(x))
	}
}

// P25.1: Same compares all fields.
func TestSame(t *testing.T) {
	base := with([]api.Link{{Stream: 5, Backs: []uint64{9, 3}}}, nil)
	base.Entries[1].Data = []byte{1, 2}
	for i, change := range []func(b *api.Batch){
		func(b *api.Batch) { b.Epoch++ },
		func(b *api.Batch) { b.Base++ },
		func(b *api.Batch) { b.Entries = b.Entries[:1] },
		func(b *api.Batch) { b.Entries = b.Entries[1:] },
		func(b *api.Batch) { b.Entries = nil },
		func(b *api.Batch) { b.Entries = append(b.Entries, api.Entry{}) },
		func(b *api.Batch) { b.Entries[0], b.Entries[1] = b.Entries[1], b.Entries[0] },
		func(b *api.Batch) { b.Entries[0].Links = nil },
		func(b *api.Batch) { b.Entries[0].Links[0].Stream = 6 },
		func(b *api.Batch) { b.Entries[0].Links[0].Backs[1] = 2 },
		func(b *api.Batch) { b.Entries[0].Data = []byte{0} },
		func(b *api.Batch) { b.Entries[1].Data[1] = 3 },
		func(b *api.Batch) { b.Entries[1].Links = make([]api.Link, 1) },
	} {
		b := batch.Copy(base)
		if !batch.Same(b, base) || !batch.Same(base, b) {
			t.Error("a copy is not the same")
		}
		change(&b)
		if batch.Same(b, base) || batch.Same(base, b) {
			t.Errorf("case %d: the same", i)
		}
	}
	empty := api.Batch{Entries: []api.Entry{}}
	if !batch.Same(api.Batch{}, empty) || !batch.Same(empty, api.Batch{}) {
		t.Error("nil and empty lists")
	}
	filled := with([]api.Link{{Backs: []uint64{}}})
	filled.Entries[0].Data = []byte{}
	if !batch.Same(filled, with(make([]api.Link, 1))) {
		t.Error("nil and empty lists of entries")
	}
}

// Rule 4: neither writing nor reading changes what it is given, and a batch that was read shares
// nothing with the bytes, nor its entries with each other.
func TestMemory(t *testing.T) {
	b := many(10, 5)
	before := text(b)
	batch.Right(b)
	batch.Put(pen.New(999), b)
	s, _ := batch.Bytes(b)
	if text(b) != before {
		t.Error(text(b))
	}
	again, _ := batch.Bytes(b)
	in := slices.Clone(s)
	x, _ := batch.Decode(in)
	y, _, _ := batch.DecodeLoose(in)
	if !bytes.Equal(in, s) || !bytes.Equal(again, s) {
		t.Error(in, again)
	}
	clear(in)
	for i := range x.Entries {
		e := &x.Entries[i]
		for k := range e.Links {
			e.Links[k].Stream += 50
			e.Links[k].Backs = append(e.Links[k].Backs, 7)
		}
		e.Links = append(e.Links, api.Link{Stream: 99})
		e.Data = append(e.Data, 90, 91) // does not get into the next one
	}
	if text(y) != before {
		t.Error(text(y))
	}
	for i, e := range x.Entries {
		if !bytes.Equal(e.Data, append(slices.Clone(b.Entries[i].Data), 90, 91)) {
			t.Error(i, e.Data)
		}
	}
}

// Rule 9: batches far beyond the limits are refused, or worked on whole.
func TestVeryManyEntries(t *testing.T) {
	b := api.Batch{Epoch: 3, Base: 10, Entries: make([]api.Entry, 1<<18)}
	if s, code := batch.Bytes(b); s != nil || code != api.ErrInvalid || batch.Right(b) {
		t.Error(len(s), code)
	}
	if c := batch.Copy(b); !batch.Same(c, b) || batch.End(c) != 10+1<<18 {
		t.Error(len(c.Entries))
	}
}

// declared are the package's functions, by their names.
func declared(t *testing.T) map[string]*ast.FuncDecl {
	t.Helper()
	files, err := filepath.Glob("*.go")
	if err != nil {
		t.Fatal(err)
	}
	l := map[string]*ast.FuncDecl{}
	for _, name := range files {
		if strings.HasSuffix(name, "_test.go") {
			continue
		}
		file, err := parser.ParseFile(token.NewFileSet(), name, nil, 0)
		if err != nil {
			t.Fatal(err)
		}
		for _, d := range file.Decls {
			if f, ok := d.(*ast.FuncDecl); ok {
				l[f.Name.Name] = f
			}
		}
	}
	return l
}

// shared are the functions of the package that are given a closure by a function or by one that it calls.
func shared(l map[string]*ast.FuncDecl, from string) []string {
	seen := map[string]bool{from: true}
	var given []string
	for work := []string{from}; len(work) > 0; work = work[1:] {
		ast.Inspect(l[work[0]], func(n ast.Node) bool {
			switch x := n.(type) {
			case *ast.Ident:
				if l[x.Name] != nil && !seen[x.Name] {
					seen[x.Name] = true
					work = append(work, x.Name)
				}
			case *ast.CallExpr:
				f, ok := x.Fun.(*ast.Ident)
				if ok && l[f.Name] != nil && slices.ContainsFunc(x.Args, func(a ast.Expr) bool { _, ok := a.(*ast.FuncLit); return ok }) {
					given = append(given, f.Name)
				}
			}
			return true
		})
	}
	return given
}

// Ways of layer 25: both readers share one function, which each of them gives a closure.
func TestReadersShareAFunctionThatIsGivenAClosure(t *testing.T) {
	l := declared(t)
	a, b := shared(l, "Read"), shared(l, "ReadLoose")
	if !slices.ContainsFunc(a, func(name string) bool { return slices.Contains(b, name) }) {
		t.Error(a, b)
	}
}
