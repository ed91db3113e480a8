package proj_test

import (
	"bytes"
	"go/ast"
	"go/parser"
	"go/token"
	"math"
	"math/rand"
	"slices"
	"testing"

	"tholepin/api"
	"tholepin/cursor"
	"tholepin/pen"
	"tholepin/proj"
	"tholepin/stripe"
	"tholepin/varint"
)

var good = api.Fault{}

// top is MaxPos, at which the last stripe ends.
const top = uint64(1) << 62

// lastEpoch is the epoch that no other follows.
const lastEpoch = top - 1

// most is the greatest node.
const most = uint64(1<<32 - 1)

// example is the chapter's projection.
func example() api.Projection { return whole(1, nil, [][]uint64{{7}}) }

// whole is a projection whose stripes end at some positions and, the last one, at MaxPos.
func whole(e uint64, ends []uint64, sets ...[][]uint64) api.Projection {
	p := api.Projection{Epoch: e}
	from := uint64(0)
	for i, to := range append(slices.Clone(ends), top) {
		p.Stripes = append(p.Stripes, stripe.Copy(api.Stripe{From: from, To: to, Sets: sets[i%len(sets)]}))
		from = to
	}
	return p
}

// steps is n ends, a position apart.
func steps(n int) []uint64 {
	var l []uint64
	for i := range n {
		l = append(l, uint64(i+1))
	}
	return l
}

// large is a set of 8 sets of 8 nodes each, which are above all those of smaller ones.
func large() [][]uint64 {
	sets := make([][]uint64, 8)
	for i := range sets {
		for k := range 8 {
			sets[i] = append(sets[i], 1000+uint64(k*8+7-i))
		}
	}
	return sets
}

// rights are valid projections.
func rights() []api.Projection {
	a, b, c := [][]uint64{{1}, {2}}, [][]uint64{{3}}, [][]uint64{{1, 5}, {2, 3, most}}
	return []api.Projection{
		example(), whole(3, []uint64{4}, a, b), whole(300, []uint64{1, 2, 1000}, a, b, c, a), whole(lastEpoch, []uint64{top - 1}, c, b),
		whole(lastEpoch-1, []uint64{1 << 40, top - 2, top - 1}, b), whole(5, nil, large()), whole(6, []uint64{127, 128, 16384}, large(), a),
		whole(7, steps(62), a, b, c), whole(8, steps(63), a, b), whole(lastEpoch, steps(63), b), whole(lastEpoch, []uint64{9, 300}, a, c, b),
	}
}

// changes are what makes a projection of at least two stripes another one that is not valid.
func changes() map[string]func(p *api.Projection) {
	return map[string]func(p *api.Projection){
		"epoch 0":        func(p *api.Projection) { p.Epoch = 0 },
		"epoch 2^62":     func(p *api.Projection) { p.Epoch = top },
		"greatest epoch": func(p *api.Projection) { p.Epoch = math.MaxUint64 },
		"no stripes":     func(p *api.Projection) { p.Stripes = nil },
		"empty stripes":  func(p *api.Projection) { p.Stripes = []api.Stripe{} },
		"zero stripe":    func(p *api.Projection) { p.Stripes = make([]api.Stripe, 1) },
		"without first":  func(p *api.Projection) { p.Stripes = p.Stripes[1:] },
		"without last":   func(p *api.Projection) { p.Stripes = p.Stripes[:len(p.Stripes)-1] },
		"later first":    func(p *api.Projection) { p.Stripes[0].From = 1; p.Stripes[0].To++; p.Stripes[1].From = p.Stripes[0].To },
		"gap": func(p *api.Projection) {
			p.Stripes[1].From++
			p.Stripes[1].To = max(p.Stripes[1].To, p.Stripes[1].From+1)
		},
		"overlap":      func(p *api.Projection) { p.Stripes[0].To++ },
		"overlap back": func(p *api.Projection) { p.Stripes[1].From-- },
		"earlier end": func(p *api.Projection) {
			last := &p.Stripes[len(p.Stripes)-1]
			last.To--
			last.From = min(last.From, last.To-1)
		},
		"later end":    func(p *api.Projection) { p.Stripes[len(p.Stripes)-1].To = top + 1 },
		"greatest end": func(p *api.Projection) { p.Stripes[len(p.Stripes)-1].To = math.MaxUint64 },
		"swapped":      func(p *api.Projection) { slices.Reverse(p.Stripes) },
		"stripe behind": func(p *api.Projection) {
			p.Stripes = append(p.Stripes, api.Stripe{From: top, To: top + 1, Sets: [][]uint64{{7}}})
		},
		"empty behind": func(p *api.Projection) {
			p.Stripes = append(p.Stripes, api.Stripe{From: top, To: top, Sets: [][]uint64{{7}}})
		},
		"empty between": func(p *api.Projection) {
			at := p.Stripes[0].To
			p.Stripes = slices.Insert(p.Stripes, 1, api.Stripe{From: at, To: at, Sets: [][]uint64{{7}}})
		},
		"no sets":         func(p *api.Projection) { p.Stripes[0].Sets = nil },
		"no sets at end":  func(p *api.Projection) { p.Stripes[len(p.Stripes)-1].Sets = nil },
		"no nodes":        func(p *api.Projection) { p.Stripes[1].Sets[0] = nil },
		"not rising":      func(p *api.Projection) { p.Stripes[1].Sets[0] = []uint64{2, 1} },
		"node twice":      func(p *api.Projection) { p.Stripes[1].Sets = [][]uint64{{1, 2}, {2}} },
		"too great node":  func(p *api.Projection) { p.Stripes[0].Sets[0] = []uint64{1 << 32} },
		"too many sets":   func(p *api.Projection) { p.Stripes[0].Sets = append(large(), []uint64{0}) },
		"65 stripes":      func(p *api.Projection) { *p = whole(p.Epoch, steps(64), p.Stripes[0].Sets) },
		"too many nodes":  func(p *api.Projection) { p.Stripes[1].Sets[0] = []uint64{0, 1, 2, 3, 4, 5, 6, 7, 8} },
		"swapped in part": func(p *api.Projection) { p.Stripes[0], p.Stripes[1] = p.Stripes[1], p.Stripes[0] },
	}
}

// wrongs are projections that are not valid.
func wrongs() []api.Projection {
	l := []api.Projection{{}, {Epoch: 1}, {Stripes: example().Stripes}}
	for _, p := range rights() {
		if len(p.Stripes) < 2 {
			continue
		}
		for _, change := range changes() {
			q := proj.Copy(p)
			change(&q)
			l = append(l, q)
		}
	}
	return l
}

// valid is the definition's words, beside those of stripes.
func valid(p api.Projection) bool {
	n := len(p.Stripes)
	if p.Epoch == 0 || p.Epoch>>62 != 0 || n == 0 || n > 64 || p.Stripes[0].From != 0 || p.Stripes[n-1].To != 4611686018427387904 {
		return false
	}
	for i, s := range p.Stripes {
		if !stripe.Right(s) || i > 0 && s.From != p.Stripes[i-1].To {
			return false
		}
	}
	return true
}

// join is integers, one behind the other.
func join(l ...uint64) []byte {
	var b []byte
	for _, x := range l {
		b = append(b, varint.Bytes(x)...)
	}
	return b
}

// encoding is the chapter's words, of stripes that are valid or not.
func encoding(p api.Projection) []byte {
	b := join(p.Epoch, uint64(len(p.Stripes)))
	for _, s := range p.Stripes {
		b = append(b, join(s.To-s.From-1, uint64(len(s.Sets)))...)
		for _, set := range s.Sets {
			b = append(b, join(uint64(len(set)))...)
			for k, node := range set {
				if k > 0 {
					node = node - set[k-1] - 1
				}
				b = append(b, join(node)...)
			}
		}
	}
	return b
}

// text is all fields of a projection as one text, so that two are the same if their texts are.
func text(p api.Projection) string {
	l := []uint64{p.Epoch, uint64(len(p.Stripes))}
	for _, s := range p.Stripes {
		l = append(l, s.From, s.To, uint64(len(s.Sets)))
		for _, set := range s.Sets {
			l = append(append(l, uint64(len(set))), set...)
		}
	}
	return string(join(l...))
}

func same(a, b api.Projection) bool { return text(a) == text(b) }

func isZero(p api.Projection) bool { return p.Epoch == 0 && len(p.Stripes) == 0 }

// at1 is a reader of one byte 5 and others, at position 1.
func at1(b ...byte) *cursor.Reader {
	r := cursor.New(append([]byte{5}, b...))
	r.Skip(1)
	return r
}

// expected is the projection that bytes begin with, how many bytes it has, and the fault, by the
// chapter's words.
func expected(b []byte) (api.Projection, int, api.Fault) {
	r := cursor.New(b)
	none := func(code api.Errno, at int) (api.Projection, int, api.Fault) {
		r.Fail(code, at)
		return api.Projection{}, 0, r.Fault()
	}
	e := varint.Read(r)
	if e == 0 || e >= top {
		return none(api.ErrInvalid, 0)
	}
	at := r.At()
	n := varint.Read(r)
	switch {
	case !r.Good() || n == 0:
		return none(api.ErrInvalid, at)
	case n > 64:
		return none(api.ErrLong, at)
	}
	p := api.Projection{Epoch: e}
	for k := range n {
		from := uint64(0)
		if k > 0 {
			from = p.Stripes[k-1].To
		}
		p.Stripes = append(p.Stripes, stripe.Read(r, from))
		if !r.Good() {
			return none(api.OK, 0)
		}
	}
	if p.Stripes[n-1].To != top {
		return none(api.ErrInvalid, r.At())
	}
	return p, r.At(), good
}

// check holds all three ways of reading some bytes against what is expected.
func check(t *testing.T, b []byte) {
	t.Helper()
	want, size, f := expected(b)
	if p, n, g := proj.Get(b); !same(p, want) || n != size || g != f {
		t.Fatal(b, p, n, g, "not", want, size, f)
	}
	r := at1(b...)
	g := f
	if f != good {
		g.At++
	}
	if p := proj.Read(r); !same(p, want) || r.Fault() != g || f == good && r.At() != 1+size {
		t.Fatal(b, p, r.Fault(), r.At(), "not", want, g)
	}
	if f == good && size < len(b) {
		want, f = api.Projection{}, api.Fault{Code: api.ErrRest, At: size}
	}
	if p, g := proj.Decode(b); !same(p, want) || g != f {
		t.Fatal(b, p, g, "not", want, f)
	}
}

// P20.1, P20.2, P20.3: the examples of the chapter.
func TestExamples(t *testing.T) {
	p := example()
	want := []byte{0x01, 0x01, 0xff, 0xff, 0xff, 0xff, 0xff, 0xff, 0xff, 0xff, 0x3f, 0x01, 0x01, 0x07}
	b, code := proj.Bytes(p)
	if code != api.OK || !bytes.Equal(b, want) || len(b) != 14 {
		t.Error(b, code)
	}
	if got, f := proj.Decode(want); f != good || !proj.Same(got, p) {
		t.Error(got, f)
	}
	want[0] = 0
	if got, f := proj.Decode(want); f != (api.Fault{Code: api.ErrInvalid}) || !isZero(got) {
		t.Error(got, f)
	}
	q, code := proj.Grow(p, 5, [][]uint64{{8}, {9}})
	if code != api.OK || len(q.Stripes) != 2 || q.Stripes[0].To != 5 || q.Epoch != 2 {
		t.Error(q, code)
	}
}

// P20.1: which projections are valid.
func TestRight(t *testing.T) {
	for _, p := range rights() {
		if !proj.Right(p) || !valid(p) {
			t.Error(p)
		}
		if len(p.Stripes) < 2 {
			continue
		}
		for name, change := range changes() {
			q := proj.Copy(p)
			change(&q)
			if proj.Right(q) || valid(q) {
				t.Error(name, q)
			}
		}
	}
	for _, p := range wrongs() {
		if proj.Right(p) {
			t.Error(p)
		}
	}
}

// P20.1: from 1 to 64 stripes, and from epoch 1 to 2^62 - 1.
func TestRightAtTheLimits(t *testing.T) {
	for n := range 70 {
		if p := whole(1, steps(n), [][]uint64{{7}}); proj.Right(p) != (n+1 <= 64) {
			t.Error(n + 1)
		}
	}
	for _, e := range []uint64{0, 1, 2, 300, top - 2, top - 1, top, top + 1, 1 << 63, math.MaxUint64} {
		p := example()
		p.Epoch = e
		if proj.Right(p) != (e >= 1 && e < top) {
			t.Error(e)
		}
	}
}

// P20.1: Put and Bytes give the encoding, and nothing of a projection that is not valid.
func TestPutAndBytes(t *testing.T) {
	for _, p := range rights() {
		b, code := proj.Bytes(p)
		if code != api.OK || !bytes.Equal(b, encoding(p)) {
			t.Fatal(p, b, code)
		}
		w := pen.New(1 + len(b))
		w.Put(9)
		proj.Put(w, p)
		if got, code := w.Bytes(); code != api.OK || got[0] != 9 || !bytes.Equal(got[1:], b) {
			t.Fatal(p, got, code)
		}
	}
	for _, p := range wrongs() {
		b, code := proj.Bytes(p)
		if b != nil || code != api.ErrInvalid {
			t.Fatal(p, b, code)
		}
		for _, room := range []int{0, 1, 1000} { // too little room is no fault of one that is not valid
			w := pen.New(1 + room)
			w.Put(9)
			proj.Put(w, p)
			if w.Code() != api.ErrInvalid || w.Len() != 1 {
				t.Fatal(p, w.Code(), w.Len())
			}
		}
	}
}

// P20.1: a writer with too little room has ErrLong and no more than its limit; with a code nothing is
// written and the code is kept; a nil writer takes everything.
func TestPutWithoutRoomOrAfterACode(t *testing.T) {
	for _, p := range rights()[:4] {
		for room := range encoding(p) {
			w := pen.New(room)
			proj.Put(w, p)
			if got, code := w.Bytes(); got != nil || code != api.ErrLong || w.Len() > room {
				t.Error(p, room, got, code, w.Len())
			}
		}
	}
	for _, p := range []api.Projection{example(), {}, {Epoch: 1}} {
		w := pen.New(30)
		w.Fail(api.ErrSum)
		proj.Put(w, p)
		if w.Code() != api.ErrSum || w.Len() != 0 {
			t.Error(p, w.Code(), w.Len())
		}
		proj.Put(nil, p)
	}
}

// P20.2, P20.4: what was written is read back, whatever follows, and no beginning of it is a projection.
func TestReads(t *testing.T) {
	for _, p := range append(rights(), wrongs()...) {
		b := encoding(p)
		for _, behind := range [][]byte{nil, {0}, {255, 255}} {
			check(t, append(slices.Clone(b), behind...))
		}
		if !valid(p) {
			continue
		}
		if got, n, f := proj.Get(append(slices.Clone(b), 0)); !same(got, p) || n != len(b) || f != good {
			t.Fatal(p, got, n, f)
		}
		if got, f := proj.Decode(b); !same(got, p) || f != good {
			t.Fatal(p, got, f)
		}
		if got, f := proj.Decode(append(slices.Clone(b), 0)); !isZero(got) || f != (api.Fault{Code: api.ErrRest, At: len(b)}) {
			t.Fatal(p, got, f)
		}
		for n := range b {
			if got, size, f := proj.Get(b[:n]); !isZero(got) || size != 0 || f != (api.Fault{Code: api.ErrShort, At: n}) {
				t.Fatal(p, n, got, size, f)
			}
			if got, f := proj.Decode(b[:n]); !isZero(got) || f != (api.Fault{Code: api.ErrShort, At: n}) {
				t.Fatal(p, n, got, f)
			}
		}
	}
}

// P20.2: each fault, the first one in the order of the bytes, and nothing beside it.
func TestRefuses(t *testing.T) {
	over := append(bytes.Repeat([]byte{255}, 9), 2)
	all := join(top-1, 1, 1, 7) // the stripe of all positions, in 12 bytes
	for i, c := range []struct {
		b []byte
		f api.Fault
	}{
		// the epoch
		{nil, api.Fault{Code: api.ErrShort, At: 0}},
		{[]byte{128}, api.Fault{Code: api.ErrShort, At: 1}},
		{[]byte{129, 0, 1}, api.Fault{Code: api.ErrNonMinimal, At: 1}},
		{over, api.Fault{Code: api.ErrOverflow, At: 9}},
		{[]byte{0}, api.Fault{Code: api.ErrInvalid, At: 0}}, // ahead of what is missing
		{append(join(top, 1), all...), api.Fault{Code: api.ErrInvalid, At: 0}},
		{append(join(math.MaxUint64, 0), all...), api.Fault{Code: api.ErrInvalid, At: 0}},
		{append(join(top-1, 1), all...), good},
		// the number of stripes
		{join(300), api.Fault{Code: api.ErrShort, At: 2}},
		{append(join(300), 129, 0), api.Fault{Code: api.ErrNonMinimal, At: 3}},
		{append(join(300, 0), all...), api.Fault{Code: api.ErrInvalid, At: 2}},
		{join(300, 0), api.Fault{Code: api.ErrInvalid, At: 2}},
		{append(join(300, 65), all...), api.Fault{Code: api.ErrLong, At: 2}},
		{append(join(300, math.MaxUint64), all...), api.Fault{Code: api.ErrLong, At: 2}},
		{append(join(300, 64), all...), api.Fault{Code: api.ErrShort, At: 15}}, // so many there may be
		// the stripes
		{join(300, 1), api.Fault{Code: api.ErrShort, At: 3}},
		{join(300, 1, top, 1, 1, 7), api.Fault{Code: api.ErrInvalid, At: 3}},
		{join(300, 1, top-1, 0), api.Fault{Code: api.ErrInvalid, At: 12}},
		{join(300, 1, top-1, 9), api.Fault{Code: api.ErrLong, At: 12}},
		{join(300, 1, top-1, 2, 1, 7, 1, 7), api.Fault{Code: api.ErrOrder, At: 16}},
		{join(300, 2, 4, 1, 1, 7, top-6, 1, 1, 8), good}, // the first one ends at 5, as the second one's number says
		{join(300, 2, 4, 1, 1, 7, top-5, 1, 1, 8), api.Fault{Code: api.ErrInvalid, At: 7}},
		{join(300, 2, 4, 1, 1, 7), api.Fault{Code: api.ErrShort, At: 7}},
		{join(300, 2, 4, 1, 1, 7, top-6, 1, 1, 1<<32), api.Fault{Code: api.ErrInvalid, At: 18}},
		// none begins at MaxPos
		{join(300, 2, top-1, 1, 1, 7, 0, 1, 1, 8), api.Fault{Code: api.ErrInvalid, At: 15}},
		{append(join(300, 2, top-1, 1, 1, 7), 128, 0), api.Fault{Code: api.ErrNonMinimal, At: 16}},
		{join(300, 2, top-1, 1, 1, 7), api.Fault{Code: api.ErrShort, At: 15}},
		// the end
		{join(300, 1, top-2, 1, 1, 7), api.Fault{Code: api.ErrInvalid, At: 15}},
		{join(300, 1, 4, 1, 1, 7), api.Fault{Code: api.ErrInvalid, At: 7}},
		{join(300, 1, 4, 1, 1, 7, 9, 9), api.Fault{Code: api.ErrInvalid, At: 7}}, // ahead of ErrRest
		{join(300, 2, 4, 1, 1, 7, top-7, 1, 1, 8), api.Fault{Code: api.ErrInvalid, At: 19}},
		{join(300, 2, 4, 1, 1, 7, top-7, 1, 1, 1<<32), api.Fault{Code: api.ErrInvalid, At: 18}}, // ahead of the end
	} {
		p, n, f := proj.Get(c.b)
		if f != c.f || f != good && (!isZero(p) || n != 0) || f == good && n != len(c.b) {
			t.Errorf("case %d: %v, %d, %v", i, p, n, f)
		}
		if p, f := proj.Decode(c.b); f != c.f || f != good && !isZero(p) {
			t.Errorf("case %d: %v, %v", i, p, f)
		}
		check(t, c.b)
	}
}

// P20.1, P20.2, P20.4: the greatest projection, of 64 stripes of 8 sets of 8 nodes each, is written and read.
func TestGreatestProjection(t *testing.T) {
	p := whole(lastEpoch, steps(63), large())
	b, code := proj.Bytes(p)
	if code != api.OK || !bytes.Equal(b, encoding(p)) {
		t.Fatal(b, code)
	}
	if q, f := proj.Decode(b); f != good || !same(p, q) || !proj.Same(p, q) {
		t.Fatal(q, f)
	}
	if q, code := proj.Swap(p, 1063, 0); code != api.ErrState || !isZero(q) {
		t.Fatal(q, code)
	}
	p.Epoch--
	q, code := proj.Swap(p, 1063, 0)
	if code != api.OK || q.Epoch != lastEpoch {
		t.Fatal(code)
	}
	for _, s := range q.Stripes {
		if set, ok := stripe.Set(s, 0); set != 0 || !ok || s.Sets[0][0] != 0 {
			t.Fatal(s)
		}
	}
}

// P20.2: a reader with a fault keeps it and its position, and a nil reader gives no projection.
func TestFaultIsKept(t *testing.T) {
	for _, b := range [][]byte{encoding(example()), nil, {0}, {128, 0}, {1, 0}, {1, 65}, join(300, 1, 4, 1, 1, 7)} {
		r := at1(b...)
		r.Fail(api.ErrRest, 8)
		if p := proj.Read(r); !isZero(p) || r.At() != 1 || r.Fault() != (api.Fault{Code: api.ErrRest, At: 8}) {
			t.Error(b, p, r.At(), r.Fault())
		}
	}
	if p := proj.Read(nil); !isZero(p) {
		t.Error(p)
	}
}

// P20.2: projections are read one behind the other, within their part of the bytes.
func TestReadOn(t *testing.T) {
	var b []byte
	for _, p := range rights() {
		b = append(b, encoding(p)...)
	}
	r := at1(b...)
	for _, want := range rights() {
		if part := r.Part(len(encoding(want)) - 1); !isZero(proj.Read(part)) || part.Fault().Code != api.ErrShort {
			t.Error(part.Fault())
		}
		if p := proj.Read(r); !same(p, want) || !r.Good() {
			t.Fatal(p, r.Fault())
		}
	}
	if r.Left() != 0 {
		t.Error(r.Left())
	}
}

// P20.2, P20.4: bytes that were changed, and any bytes at all; writing what was read gives the same bytes.
func TestAnyBytes(t *testing.T) {
	r := rand.New(rand.NewSource(20))
	l := append(rights(), rights()...)
	l = append(l, wrongs()...)
	accepted, refused := 0, 0
	for k := range 40000 {
		var b []byte
		if k%2 == 0 {
			b = encoding(l[r.Intn(len(l))])
			for range r.Intn(3) {
				b[r.Intn(len(b))] = byte(r.Intn(1 << r.Intn(9)))
			}
		} else {
			b = join(uint64(r.Intn(3)), uint64(r.Intn(3)), top-uint64(r.Intn(3)))
			for range r.Intn(9) {
				b = append(b, byte(r.Intn(1<<r.Intn(5))))
			}
		}
		check(t, b)
		p, n, f := proj.Get(b)
		if f != good {
			refused++
			continue
		}
		accepted++
		if again, code := proj.Bytes(p); code != api.OK || !bytes.Equal(again, b[:n]) || !proj.Right(p) {
			t.Fatal(b, p, again, code)
		}
	}
	if accepted < 1000 || refused < 1000 {
		t.Error(accepted, refused)
	}
}

// P20.2: a copy has the same fields, of a projection that is not valid too, and shares nothing.
func TestCopy(t *testing.T) {
	for _, p := range append(rights(), wrongs()...) {
		before := text(p)
		a, b := proj.Copy(p), proj.Copy(p)
		if !same(a, p) || !proj.Same(a, p) {
			t.Fatal(p, a)
		}
		a.Epoch++
		for i := range a.Stripes {
			for k, set := range a.Stripes[i].Sets {
				for j := range set {
					set[j] += 77
				}
				a.Stripes[i].Sets[k] = append(set, 78)
			}
			a.Stripes[i].From++
			a.Stripes[i].Sets = append(a.Stripes[i].Sets, []uint64{79})
		}
		a.Stripes = append(a.Stripes, api.Stripe{})
		if text(b) != before || text(p) != before {
			t.Fatal(p, b)
		}
	}
}

// P20.2: Same, for all pairs; a nil list and an empty one are the same.
func TestSame(t *testing.T) {
	l := append(rights(), wrongs()...)
	texts := make([]string, len(l))
	for i, p := range l {
		texts[i] = text(p)
	}
	for i, a := range l {
		for k, b := range l {
			if proj.Same(a, b) != (texts[i] == texts[k]) {
				t.Fatal(a, b)
			}
		}
	}
	if !proj.Same(api.Projection{Epoch: 1, Stripes: []api.Stripe{}}, api.Projection{Epoch: 1}) {
		t.Error("nil and empty stripes")
	}
	if !proj.Same(api.Projection{Stripes: []api.Stripe{{Sets: [][]uint64{nil}}}}, api.Projection{Stripes: []api.Stripe{{Sets: [][]uint64{{}}}}}) {
		t.Error("nil and empty sets")
	}
	p := rights()[1]
	for _, change := range []func(q *api.Projection){
		func(q *api.Projection) { q.Epoch++ },
		func(q *api.Projection) { q.Stripes = q.Stripes[:1] },
		func(q *api.Projection) { q.Stripes = append(q.Stripes, api.Stripe{}) },
		func(q *api.Projection) { q.Stripes[1].From++ },
		func(q *api.Projection) { q.Stripes[1].To++ },
		func(q *api.Projection) { q.Stripes[1].Sets[0][0]++ },
		func(q *api.Projection) { slices.Reverse(q.Stripes) },
	} {
		q := proj.Copy(p)
		change(&q)
		if proj.Same(p, q) || proj.Same(q, p) {
			t.Error(q)
		}
	}
}

// cuts are positions at which a projection may be grown, or not.
func cuts(p api.Projection) []uint64 {
	l := []uint64{0, 1, 4, 5, 1 << 40, top - 2, top - 1, top, top + 1, math.MaxUint64}
	for _, s := range p.Stripes {
		l = append(l, s.From-1, s.From, s.From+1, s.To-1, s.To, s.To+1)
	}
	return l
}

// freshSets are sets for a further stripe, and whether a stripe may have them.
func freshSets() map[bool][][][]uint64 {
	return map[bool][][][]uint64{
		true:  {{{8}, {9}}, {{7}}, large(), {{most}}, {{1, 2, 3}, {4}}},
		false: {nil, {}, {nil}, {{1}, {1}}, {{2, 1}}, {{most + 1}}, append(large(), []uint64{0}), {{0, 1, 2, 3, 4, 5, 6, 7, 8}}},
	}
}

// grown is the chapter's words of Grow.
func grown(p api.Projection, at uint64, sets [][]uint64) (api.Projection, api.Errno) {
	if !valid(p) {
		return api.Projection{}, api.ErrInvalid
	}
	n := len(p.Stripes)
	if from := p.Stripes[n-1].From; !(from < at && at < top) {
		return api.Projection{}, api.ErrArg
	}
	if n == 64 {
		return api.Projection{}, api.ErrLong
	}
	if p.Epoch == lastEpoch {
		return api.Projection{}, api.ErrState
	}
	q := api.Projection{Epoch: p.Epoch + 1, Stripes: slices.Clone(p.Stripes)}
	q.Stripes[n-1].To = at
	q.Stripes = append(q.Stripes, api.Stripe{From: at, To: top, Sets: sets})
	if !valid(q) {
		return api.Projection{}, api.ErrInvalid
	}
	return q, api.OK
}

// P20.3: Grow, at each cut, with each kind of sets; every error occurs.
func TestGrow(t *testing.T) {
	seen := map[api.Errno]int{}
	for _, p := range append(rights(), wrongs()...) {
		before := text(p)
		for _, at := range cuts(p) {
			for _, all := range freshSets() {
				for _, sets := range all {
					want, code := grown(p, at, sets)
					got, c := proj.Grow(p, at, sets)
					if !same(got, want) || c != code || c == api.OK && !proj.Right(got) {
						t.Fatal(p, at, sets, got, c, "not", want, code)
					}
					seen[c]++
				}
			}
		}
		if text(p) != before {
			t.Fatal(p)
		}
	}
	for _, code := range []api.Errno{api.OK, api.ErrInvalid, api.ErrArg, api.ErrLong, api.ErrState} {
		if seen[code] < 10 {
			t.Error(code, seen[code])
		}
	}
}

// P20.3: row by row, the first error in the chapter's order.
func TestGrowRows(t *testing.T) {
	a, wrong := [][]uint64{{8}, {9}}, [][]uint64{{9}, {9}}
	two := whole(3, []uint64{4}, [][]uint64{{1}, {2}}, [][]uint64{{3}})
	last := whole(lastEpoch, []uint64{4}, [][]uint64{{7}})
	many, manyLast := whole(3, steps(63), [][]uint64{{7}}), whole(lastEpoch, steps(63), [][]uint64{{7}})
	for i, c := range []struct {
		p    api.Projection
		at   uint64
		sets [][]uint64
		code api.Errno
	}{
		{api.Projection{}, 5, a, api.ErrInvalid},
		{api.Projection{Epoch: 1}, 5, a, api.ErrInvalid},
		{example(), 0, a, api.ErrArg},
		{example(), 1, a, api.OK},
		{example(), top - 1, a, api.OK},
		{example(), top, a, api.ErrArg},
		{example(), math.MaxUint64, a, api.ErrArg},
		{two, 3, a, api.ErrArg}, // inside an earlier stripe
		{two, 4, a, api.ErrArg}, // where the last one begins
		{two, 5, a, api.OK},
		{two, 4, wrong, api.ErrArg},  // ahead of wrong sets
		{last, 4, wrong, api.ErrArg}, // ahead of the last epoch
		{last, 5, a, api.ErrState},
		{last, 5, wrong, api.ErrState}, // ahead of wrong sets
		{many, 63, a, api.ErrArg},      // ahead of too many stripes
		{many, 64, a, api.ErrLong},
		{many, 64, wrong, api.ErrLong},
		{manyLast, 64, a, api.ErrLong}, // ahead of the last epoch
		{manyLast, 63, a, api.ErrArg},
		{two, 5, wrong, api.ErrInvalid},
		{two, 5, nil, api.ErrInvalid},
	} {
		q, code := proj.Grow(c.p, c.at, c.sets)
		if code != c.code || code != api.OK && !isZero(q) {
			t.Errorf("case %d: %v, %d", i, q, code)
		}
	}
}

// P20.4: a projection that has grown distributes all positions before the cut as before.
func TestGrownDistributesAsBefore(t *testing.T) {
	where := func(p api.Projection, pos uint64) (int, int, uint64) {
		for i, s := range p.Stripes {
			if set, local, ok := stripe.Dealt(s, pos); ok {
				return i, set, local
			}
		}
		t.Fatal(p, pos)
		return 0, 0, 0
	}
	r := rand.New(rand.NewSource(21))
	for _, p := range rights() {
		from := p.Stripes[len(p.Stripes)-1].From
		for _, at := range []uint64{from + 1, from + 2, from + 30, from + (top-from)/2, top - 1} {
			q, code := proj.Grow(p, at, [][]uint64{{8}, {9}, {0}})
			if code != api.OK {
				continue
			}
			l := []uint64{0, from, at - 1}
			for k := range uint64(200) {
				l = append(l, k, from+k, at-1-k, r.Uint64()%at)
			}
			for _, pos := range l {
				if pos >= at {
					continue
				}
				i, set, local := where(p, pos)
				j, other, number := where(q, pos)
				if i != j || set != other || local != number || !slices.Equal(p.Stripes[i].Sets[set], q.Stripes[j].Sets[other]) {
					t.Fatal(p, at, pos, i, set, local, j, other, number)
				}
			}
			if i, set, local := where(q, at); i != len(p.Stripes) || set != 0 || local != 0 {
				t.Fatal(p, at, i, set, local)
			}
		}
	}
}

// P20.3: a projection grows from one stripe to 64, and no further.
func TestGrowsOnAndOn(t *testing.T) {
	p := example()
	for k := range uint64(63) {
		q, code := proj.Grow(p, 10+k, [][]uint64{{k}})
		if code != api.OK || q.Epoch != p.Epoch+1 || len(q.Stripes) != len(p.Stripes)+1 {
			t.Fatal(k, q, code)
		}
		b, code := proj.Bytes(q)
		if again, f := proj.Decode(b); code != api.OK || f != good || !same(again, q) {
			t.Fatal(k, q, code, f)
		}
		p = q
	}
	if q, code := proj.Grow(p, 1000, [][]uint64{{7}}); code != api.ErrLong || !isZero(q) {
		t.Error(q, code)
	}
}

// swapped is the chapter's words of Swap: each set anew, in order.
func swapped(p api.Projection, old, node uint64) (api.Projection, api.Errno) {
	if !valid(p) {
		return api.Projection{}, api.ErrInvalid
	}
	q, found := api.Projection{Epoch: p.Epoch + 1}, false
	for _, s := range p.Stripes {
		sets := make([][]uint64, len(s.Sets))
		for i, set := range s.Sets {
			for _, x := range set {
				if x == old {
					x, found = node, true
				}
				at := 0
				for at < len(sets[i]) && sets[i][at] < x {
					at++
				}
				sets[i] = slices.Insert(sets[i], at, x)
			}
		}
		q.Stripes = append(q.Stripes, api.Stripe{From: s.From, To: s.To, Sets: sets})
	}
	switch {
	case !found:
		return api.Projection{}, api.ErrNone
	case p.Epoch == lastEpoch:
		return api.Projection{}, api.ErrState
	case !valid(q):
		return api.Projection{}, api.ErrInvalid
	}
	return q, api.OK
}

// P20.3: Swap of all pairs of some nodes; every error occurs.
func TestSwap(t *testing.T) {
	nodes := []uint64{0, 1, 2, 3, 4, 5, 7, 8, 999, 1000, 1020, 1063, 1064, most - 1, most, most + 1, math.MaxUint64}
	seen := map[api.Errno]int{}
	for _, p := range append(rights(), wrongs()...) {
		before := text(p)
		for _, old := range nodes {
			for _, node := range nodes {
				want, code := swapped(p, old, node)
				got, c := proj.Swap(p, old, node)
				if !same(got, want) || c != code || c == api.OK && !proj.Right(got) {
					t.Fatal(p, old, node, got, c, "not", want, code)
				}
				seen[c]++
			}
		}
		if text(p) != before {
			t.Fatal(p)
		}
	}
	for _, code := range []api.Errno{api.OK, api.ErrInvalid, api.ErrNone, api.ErrState} {
		if seen[code] < 10 {
			t.Error(code, seen[code])
		}
	}
}

// P20.3: row by row, the first error in the chapter's order, and what is made.
func TestSwapRows(t *testing.T) {
	p := whole(3, []uint64{4, 9}, [][]uint64{{1, 5, 9}, {2}}, [][]uint64{{3}}, [][]uint64{{4}, {5, 6}})
	last := whole(lastEpoch, []uint64{4, 9}, [][]uint64{{1, 5, 9}, {2}}, [][]uint64{{3}}, [][]uint64{{4}, {5, 6}})
	for i, c := range []struct {
		p         api.Projection
		old, node uint64
		code      api.Errno
		sets      [][][]uint64
	}{
		{p, 5, 7, api.OK, [][][]uint64{{{1, 7, 9}, {2}}, {{3}}, {{4}, {6, 7}}}},
		{p, 5, 0, api.OK, [][][]uint64{{{0, 1, 9}, {2}}, {{3}}, {{4}, {0, 6}}}},
		{p, 5, most, api.OK, [][][]uint64{{{1, 9, most}, {2}}, {{3}}, {{4}, {6, most}}}},
		{p, 1, 6, api.OK, [][][]uint64{{{5, 6, 9}, {2}}, {{3}}, {{4}, {5, 6}}}}, // only where it was
		{p, 9, 3, api.OK, [][][]uint64{{{1, 3, 5}, {2}}, {{3}}, {{4}, {5, 6}}}},
		{p, 3, 1, api.OK, [][][]uint64{{{1, 5, 9}, {2}}, {{1}}, {{4}, {5, 6}}}},
		{p, 5, 5, api.OK, [][][]uint64{{{1, 5, 9}, {2}}, {{3}}, {{4}, {5, 6}}}},
		{p, 5, 1, api.ErrInvalid, nil}, // twice in one set
		{p, 5, 2, api.ErrInvalid, nil}, // in another set of a stripe
		{p, 5, 4, api.ErrInvalid, nil}, // of the last stripe only
		{p, 5, most + 1, api.ErrInvalid, nil},
		{p, 7, 8, api.ErrNone, nil},
		{p, 7, most + 1, api.ErrNone, nil}, // ahead of the result
		{p, most + 1, 8, api.ErrNone, nil},
		{last, 5, 7, api.ErrState, nil},
		{last, 5, 1, api.ErrState, nil}, // ahead of the result
		{last, 7, 8, api.ErrNone, nil},  // ahead of the epoch
		{api.Projection{}, 5, 7, api.ErrInvalid, nil},
		{api.Projection{Epoch: 1}, 7, 8, api.ErrInvalid, nil}, // ahead of ErrNone
	} {
		want := api.Projection{}
		if c.code == api.OK {
			want = whole(4, []uint64{4, 9}, c.sets...)
		}
		if q, code := proj.Swap(c.p, c.old, c.node); code != c.code || !same(q, want) {
			t.Errorf("case %d: %v, %d", i, q, code)
		}
	}
}

// Rules 4 and 7: arguments stay as they are, and what is given is new memory.
func TestMemory(t *testing.T) {
	p := whole(3, []uint64{4, 9}, [][]uint64{{1, 5, 9}, {2}}, [][]uint64{{3}}, [][]uint64{{4}, {5, 6}})
	before := text(p)
	fresh := [][]uint64{{8}, {9, 10}}
	var made []api.Projection
	for range 2 {
		g, _ := proj.Grow(p, 20, fresh)
		s, _ := proj.Swap(p, 5, 0)
		b, _ := proj.Bytes(p)
		d, _ := proj.Decode(b)
		made = append(made, g, s, d)
	}
	texts := []string{text(made[0]), text(made[1]), text(made[2])}
	for i := range 3 {
		for k := range made[i].Stripes {
			made[i].Stripes[k].From += 5
			for j, set := range made[i].Stripes[k].Sets {
				set[0] += 77
				made[i].Stripes[k].Sets[j] = append(set, 78)
			}
		}
		if text(made[i+3]) != texts[i] || text(p) != before {
			t.Error(i, made[i+3], p)
		}
	}
	if fresh[0][0] != 8 || fresh[1][0] != 9 {
		t.Error(fresh)
	}
	fresh[0][0] = 99
	if text(made[3]) != texts[0] {
		t.Error(made[3])
	}
	b, _ := proj.Bytes(p)
	in := slices.Clone(b)
	proj.Get(in)
	proj.Decode(in)
	proj.Read(cursor.New(in))
	if !bytes.Equal(b, in) {
		t.Error(in)
	}
}

// Rule 9: lists far beyond the limits are refused.
func TestVeryManyStripes(t *testing.T) {
	p := whole(1, steps(1<<18), [][]uint64{{7}})
	if b, code := proj.Bytes(p); b != nil || code != api.ErrInvalid || proj.Right(p) {
		t.Error(len(b), code)
	}
	if q, code := proj.Grow(p, 1<<20, [][]uint64{{7}}); code != api.ErrInvalid || !isZero(q) {
		t.Error(code)
	}
	if q, code := proj.Swap(p, 7, 8); code != api.ErrInvalid || !isZero(q) {
		t.Error(code)
	}
	if q, code := proj.Grow(example(), 5, make([][]uint64, 1<<18)); code != api.ErrInvalid || !isZero(q) {
		t.Error(code)
	}
}

// Ways of layer 20: a library function that sorts is given a function literal.
func TestNodesAreSortedByClosure(t *testing.T) {
	file, err := parser.ParseFile(token.NewFileSet(), "proj.go", nil, 0)
	if err != nil {
		t.Fatal(err)
	}
	passed := 0
	ast.Inspect(file, func(n ast.Node) bool {
		call, ok := n.(*ast.CallExpr)
		if !ok {
			return true
		}
		f, ok := call.Fun.(*ast.SelectorExpr)
		if !ok {
			return true
		}
		if library, ok := f.X.(*ast.Ident); !ok || library.Name != "slices" && library.Name != "sort" || !bytes.HasPrefix([]byte(f.Sel.Name), []byte("S")) {
			return true
		}
		for _, x := range call.Args {
			if _, ok := x.(*ast.FuncLit); ok {
				passed++
			}
		}
		return true
	})
	if passed == 0 {
		t.Error("no sort is given a closure")
	}
}
