package stripe_test

import (
	"bytes"
	"go/ast"
	"go/parser"
	"go/token"
	"math"
	"math/rand"
	"slices"
	"testing"

	"tholepin/api"
	"tholepin/cursor"
	"tholepin/pen"
	"tholepin/stripe"
	"tholepin/varint"
)

var good = api.Fault{}

// top is MaxPos, at which a stripe may end.
const top = uint64(1) << 62

// most is the greatest node.
const most = uint64(1<<32 - 1)

// example is the chapter's stripe.
func example() api.Stripe { return api.Stripe{From: 10, To: 17, Sets: [][]uint64{{1, 2}, {5}}} }

// isZero tells whether a stripe is the zero one.
func isZero(s api.Stripe) bool { return s.From == 0 && s.To == 0 && len(s.Sets) == 0 }

// full is n sets of so many nodes each, of which the last set's are the least.
func full(n, nodes int) [][]uint64 {
	sets := make([][]uint64, n)
	for i := range sets {
		for k := range nodes {
			sets[i] = append(sets[i], uint64((n-1-i)+k*n)*7)
		}
	}
	return sets
}

// spans are where stripes begin and end, rightly or not.
func spans() [][2]uint64 {
	l := []uint64{0, 1, 2, 9, 10, 17, 127, 128, 129, 1 << 32, top - 2, top - 1, top, top + 1, 1 << 63, math.MaxUint64 - 1, math.MaxUint64}
	var all [][2]uint64
	for _, from := range l {
		for _, to := range l {
			all = append(all, [2]uint64{from, to})
		}
	}
	return all
}

// rightSets are the sets of valid stripes.
func rightSets() [][][]uint64 {
	return [][][]uint64{
		{{0}}, {{7}}, {{most}}, {{0, most}}, {{most - 1, most}}, {{0, 1, 2, 3, 4, 5, 6, 7}},
		{{1, 2}, {5}}, {{5}, {1, 2}}, {{1, 5}, {2, 4}, {3}}, {{9}, {8}, {7}, {6}, {5}},
		{{most}, {0}}, {{127, 128, 16512}, {0, 300, 1 << 20}}, full(8, 1), full(8, 8), full(7, 3),
	}
}

// wrongSets are sets that no valid stripe has.
func wrongSets() [][][]uint64 {
	return [][][]uint64{
		nil, {}, {nil}, {{}}, {{1}, nil}, {{}, {1}}, {{1}, {}, {2}},
		{{1, 1}}, {{2, 1}}, {{1, 3, 2}}, {{1}, {3, 2}}, {{1, 2, 2}, {5}},
		{{most + 1}}, {{1, most + 1}}, {{1}, {2, math.MaxUint64}}, {{math.MaxUint64}, {1}}, {{1 << 32, 1<<32 + 1}},
		{{1, 2}, {2}}, {{1}, {1}}, {{1}, {2}, {1}}, {{3}, {1, 2}, {2, 4}}, {{0, most}, {1, most}}, {{5}, {1, 2}, {5, 6}},
		full(9, 1), full(9, 8), full(1, 9), full(8, 9), append(full(7, 8), []uint64{0}), append(full(7, 8), full(1, 9)[0]),
	}
}

// stripes are all stripes of these spans and sets, valid or not.
func stripes() []api.Stripe {
	var l []api.Stripe
	for _, span := range spans() {
		for _, sets := range append(rightSets(), wrongSets()...) {
			l = append(l, api.Stripe{From: span[0], To: span[1], Sets: sets})
		}
	}
	return l
}

// valid is the definition's words: each node is counted.
func valid(s api.Stripe) bool {
	if !(s.From < s.To) || s.To > 4611686018427387904 || len(s.Sets) == 0 || len(s.Sets) > 8 {
		return false
	}
	seen := map[uint64]int{}
	for _, set := range s.Sets {
		if len(set) == 0 || len(set) > 8 {
			return false
		}
		for k, node := range set {
			seen[node]++
			if node>>32 != 0 || seen[node] > 1 || k > 0 && node <= set[k-1] {
				return false
			}
		}
	}
	return true
}

// join is integers, one behind the other.
func join(l ...uint64) []byte {
	var b []byte
	for _, x := range l {
		b = append(b, varint.Bytes(x)...)
	}
	return b
}

// encoding is the chapter's words.
func encoding(s api.Stripe) []byte {
	b := join(s.To-s.From-1, uint64(len(s.Sets)))
	for _, set := range s.Sets {
		b = append(b, join(uint64(len(set)))...)
		for k, node := range set {
			if k > 0 {
				node = node - set[k-1] - 1
			}
			b = append(b, join(node)...)
		}
	}
	return b
}

// at1 is a reader of one byte 5 and others, at position 1.
func at1(b ...byte) *cursor.Reader {
	r := cursor.New(append([]byte{5}, b...))
	r.Skip(1)
	return r
}

// expected is the stripe that bytes behind a byte begin with, how many bytes it has, and the fault,
// by the chapter's words: one integer after the other, up to the first that is wrong.
func expected(b []byte, from uint64) (api.Stripe, int, api.Fault) {
	if from > top {
		return api.Stripe{}, 0, api.Fault{Code: api.ErrInvalid, At: 1}
	}
	at, f := 0, good
	next := func(wrong func(x uint64) api.Errno) uint64 {
		if f != good {
			return 0
		}
		x, n, g := varint.Get(b[at:])
		if g != good {
			f = api.Fault{Code: g.Code, At: 1 + at + g.At}
			return 0
		}
		if code := wrong(x); code != api.OK {
			f = api.Fault{Code: code, At: 1 + at}
			return 0
		}
		at += n
		return x
	}
	number := func(x uint64) api.Errno {
		switch {
		case x > 8:
			return api.ErrLong
		case x == 0:
			return api.ErrInvalid
		}
		return api.OK
	}
	s := api.Stripe{From: from}
	s.To = from + 1 + next(func(x uint64) api.Errno {
		if x > top || from+x+1 > top {
			return api.ErrInvalid
		}
		return api.OK
	})
	earlier := map[uint64]bool{}
	for range next(number) {
		n, first := next(number), at
		var set []uint64
		for k := range n {
			x := next(func(x uint64) api.Errno {
				if k > 0 && x >= math.MaxUint64-set[k-1] {
					return api.ErrOrder
				}
				return api.OK
			})
			if k > 0 {
				x += set[k-1] + 1
			}
			set = append(set, x)
		}
		if f != good {
			break
		}
		for _, x := range set {
			if x>>32 != 0 && f == good {
				f = api.Fault{Code: api.ErrInvalid, At: 1 + first}
			}
		}
		for _, x := range set {
			if earlier[x] && f == good {
				f = api.Fault{Code: api.ErrOrder, At: 1 + first}
			}
			earlier[x] = true
		}
		s.Sets = append(s.Sets, set)
	}
	if f != good {
		return api.Stripe{}, 0, f
	}
	return s, at, good
}

// same holds all fields of two stripes against each other.
func same(a, b api.Stripe) bool {
	if a.From != b.From || a.To != b.To || len(a.Sets) != len(b.Sets) {
		return false
	}
	for i := range a.Sets {
		if string(join(a.Sets[i]...)) != string(join(b.Sets[i]...)) {
			return false
		}
	}
	return true
}

// check holds the reading of some bytes against what is expected.
func check(t *testing.T, b []byte, from uint64) {
	t.Helper()
	want, size, f := expected(b, from)
	r := at1(b...)
	if s := stripe.Read(r, from); !same(s, want) || r.Fault() != f || f == good && r.At() != 1+size {
		t.Fatal(b, from, s, r.Fault(), r.At(), "not", want, f)
	}
}

// P19.1, P19.3: the examples of the chapter.
func TestExamples(t *testing.T) {
	if stripe.Right(api.Stripe{From: 10, To: 17, Sets: [][]uint64{{1, 2}, {2}}}) {
		t.Error("1, 2 and 2")
	}
	s := example()
	b, code := stripe.Bytes(s)
	if code != api.OK || !bytes.Equal(b, []byte{6, 2, 2, 1, 0, 1, 5}) {
		t.Error(b, code)
	}
	if got := stripe.Read(cursor.New(b), 10); !stripe.Same(got, s) {
		t.Error(got)
	}
	if set, local, ok := stripe.Dealt(s, 12); set != 0 || local != 1 || !ok {
		t.Error(set, local, ok)
	}
	if stripe.Share(s, 0) != 4 || stripe.Share(s, 1) != 3 {
		t.Error(stripe.Share(s, 0), stripe.Share(s, 1))
	}
}

// P19.1: which stripes are valid.
func TestRight(t *testing.T) {
	for _, sets := range rightSets() {
		for _, c := range []struct {
			from, to uint64
			want     bool
		}{
			{0, 1, true}, {0, top, true}, {top - 1, top, true}, {10, 17, true}, {10, 11, true},
			{10, 10, false}, {11, 10, false}, {0, 0, false}, {top, top, false}, {top, top + 1, false},
			{0, top + 1, false}, {10, math.MaxUint64, false}, {math.MaxUint64, 0, false},
		} {
			if s := (api.Stripe{From: c.from, To: c.to, Sets: sets}); stripe.Right(s) != c.want {
				t.Error(s, stripe.Right(s))
			}
		}
	}
	for _, sets := range wrongSets() {
		if s := (api.Stripe{From: 10, To: 17, Sets: sets}); stripe.Right(s) {
			t.Error(s)
		}
	}
	if stripe.Right(api.Stripe{}) {
		t.Error("the zero stripe")
	}
	right := 0
	for _, s := range stripes() {
		if stripe.Right(s) != valid(s) {
			t.Error(s, stripe.Right(s))
		}
		if valid(s) {
			right++
		}
	}
	if right < 1000 {
		t.Error(right)
	}
}

// P19.1: a node in two sets is found wherever it is.
func TestRightFindsEveryPair(t *testing.T) {
	for i := range 8 {
		for j := range 8 {
			for k := range 8 {
				for _, at := range []int{0, k} {
					s := api.Stripe{To: 9, Sets: full(8, 8)}
					s.Sets[i][k] = s.Sets[j][at]
					slices.Sort(s.Sets[i])
					if want := i == j && k == at; stripe.Right(s) != want || valid(s) != want {
						t.Error(i, j, k, at, s)
					}
				}
			}
		}
	}
}

// P19.1: Put and Bytes give the encoding, and nothing of a stripe that is not valid.
func TestPutAndBytes(t *testing.T) {
	for _, s := range stripes() {
		b, code := stripe.Bytes(s)
		w := pen.New(1000)
		w.Put(9)
		stripe.Put(w, s)
		if !valid(s) {
			if b != nil || code != api.ErrInvalid || w.Code() != api.ErrInvalid || w.Len() != 1 {
				t.Fatal(s, b, code, w.Code(), w.Len())
			}
			continue
		}
		if code != api.OK || !bytes.Equal(b, encoding(s)) {
			t.Fatal(s, b, code)
		}
		if got, code := w.Bytes(); code != api.OK || got[0] != 9 || !bytes.Equal(got[1:], b) {
			t.Fatal(s, got, code)
		}
	}
}

// P19.1: From is not written, only how many positions there are.
func TestFromIsNotWritten(t *testing.T) {
	a, _ := stripe.Bytes(example())
	for _, from := range []uint64{0, 1, 1 << 40, top - 7} {
		s := example()
		s.From, s.To = from, from+7
		if b, code := stripe.Bytes(s); code != api.OK || !bytes.Equal(a, b) {
			t.Error(from, b, code)
		}
	}
}

// P19.1: a writer with too little room has ErrLong and no more than its limit, but a stripe that is
// not valid is ErrInvalid there too, and nothing of it is written.
func TestPutWithoutRoom(t *testing.T) {
	for _, sets := range rightSets() {
		s := api.Stripe{From: 10, To: top, Sets: sets}
		all := encoding(s)
		for room := range all {
			w := pen.New(room)
			stripe.Put(w, s)
			if got, code := w.Bytes(); got != nil || code != api.ErrLong || w.Len() > room {
				t.Error(s, room, got, code, w.Len())
			}
			w = pen.New(room)
			stripe.Put(w, api.Stripe{From: 10, To: 10, Sets: sets})
			if w.Code() != api.ErrInvalid || w.Len() != 0 {
				t.Error(s, room, w.Code(), w.Len())
			}
		}
		w := pen.New(len(all))
		stripe.Put(w, s)
		if w.Code() != api.OK || w.Room() != 0 {
			t.Error(s, w.Code(), w.Room())
		}
	}
}

// P19.1: with a code nothing is written and the code is kept, and a nil writer takes everything.
func TestPutAfterACode(t *testing.T) {
	for _, s := range []api.Stripe{example(), {}, {From: 10, To: 17, Sets: [][]uint64{{1, 2}, {2}}}} {
		w := pen.New(30)
		w.Fail(api.ErrSum)
		stripe.Put(w, s)
		if w.Code() != api.ErrSum || w.Len() != 0 {
			t.Error(s, w.Code(), w.Len())
		}
		stripe.Put(nil, s)
	}
}

// P19.2, P19.4: what was written is read back from the same From, whatever follows; no beginning of
// it is a stripe; and further on it is one if it ends early enough.
func TestReads(t *testing.T) {
	for _, s := range stripes() {
		b := encoding(s)
		for _, behind := range [][]byte{nil, {0}, {255, 255}} {
			check(t, append(slices.Clone(b), behind...), s.From)
		}
		if !valid(s) {
			continue
		}
		r := at1(append(slices.Clone(b), 0)...)
		if got := stripe.Read(r, s.From); !same(got, s) || r.At() != 1+len(b) || !r.Good() {
			t.Fatal(s, got, r.Fault())
		}
		for n := range b {
			r := at1(b[:n]...)
			if got := stripe.Read(r, s.From); !isZero(got) || r.Fault() != (api.Fault{Code: api.ErrShort, At: 1 + n}) {
				t.Fatal(s, n, got, r.Fault())
			}
		}
		last := s.From + top - s.To
		if got := stripe.Read(cursor.New(b), last); !same(got, api.Stripe{From: last, To: top, Sets: s.Sets}) {
			t.Fatal(s, last, got)
		}
		r = at1(b...)
		if got := stripe.Read(r, last+1); !isZero(got) || r.Fault() != (api.Fault{Code: api.ErrInvalid, At: 1}) {
			t.Fatal(s, last+1, got, r.Fault())
		}
	}
}

// P19.2: each fault, the first one in the order of the bytes, and nothing beside it.
func TestRefuses(t *testing.T) {
	over := append(bytes.Repeat([]byte{255}, 9), 2)
	for i, c := range []struct {
		b    []byte
		from uint64
		f    api.Fault
	}{
		// where it begins, ahead of everything else
		{[]byte{6, 1, 1, 7}, top + 1, api.Fault{Code: api.ErrInvalid, At: 1}},
		{[]byte{6, 1, 1, 7}, math.MaxUint64, api.Fault{Code: api.ErrInvalid, At: 1}},
		{nil, top + 1, api.Fault{Code: api.ErrInvalid, At: 1}},
		{[]byte{128, 0}, 1 << 63, api.Fault{Code: api.ErrInvalid, At: 1}},
		// the number of positions
		{nil, 0, api.Fault{Code: api.ErrShort, At: 1}},
		{[]byte{128}, 0, api.Fault{Code: api.ErrShort, At: 2}},
		{[]byte{128, 0, 1, 1, 7}, 0, api.Fault{Code: api.ErrNonMinimal, At: 2}},
		{over, 0, api.Fault{Code: api.ErrOverflow, At: 10}},
		{over, top, api.Fault{Code: api.ErrOverflow, At: 10}}, // ahead of a To above MaxPos
		{[]byte{128, 0}, top, api.Fault{Code: api.ErrNonMinimal, At: 2}},
		{nil, top, api.Fault{Code: api.ErrShort, At: 1}},
		{join(top, 1, 1, 7), 0, api.Fault{Code: api.ErrInvalid, At: 1}},
		{join(top-1, 1, 1, 7), 1, api.Fault{Code: api.ErrInvalid, At: 1}},
		{join(math.MaxUint64, 1, 1, 7), 0, api.Fault{Code: api.ErrInvalid, At: 1}},
		{join(math.MaxUint64-9, 1, 1, 7), 10, api.Fault{Code: api.ErrInvalid, At: 1}}, // a sum that wraps round
		{join(math.MaxUint64, 1, 1, 7), 10, api.Fault{Code: api.ErrInvalid, At: 1}},
		{join(0, 1, 1, 7), top, api.Fault{Code: api.ErrInvalid, At: 1}},
		{join(300), top, api.Fault{Code: api.ErrInvalid, At: 1}}, // ahead of the sets that are missing
		{join(0, 1, 1, 7), top - 1, good},
		{join(1, 1, 1, 7), top - 1, api.Fault{Code: api.ErrInvalid, At: 1}},
		// the number of sets
		{[]byte{6}, 10, api.Fault{Code: api.ErrShort, At: 2}},
		{[]byte{6, 128}, 10, api.Fault{Code: api.ErrShort, At: 3}},
		{[]byte{6, 129, 0}, 10, api.Fault{Code: api.ErrNonMinimal, At: 3}},
		{join(300, 0, 1, 7), 10, api.Fault{Code: api.ErrInvalid, At: 3}},
		{join(300, 9), 10, api.Fault{Code: api.ErrLong, At: 3}},
		{join(300, math.MaxUint64), 10, api.Fault{Code: api.ErrLong, At: 3}},
		// the number of a set's nodes
		{join(300, 1), 10, api.Fault{Code: api.ErrShort, At: 4}},
		{join(300, 1, 0), 10, api.Fault{Code: api.ErrInvalid, At: 4}},
		{join(300, 1, 9), 10, api.Fault{Code: api.ErrLong, At: 4}},
		{join(300, 2, 1, 7, 0), 10, api.Fault{Code: api.ErrInvalid, At: 6}},
		{join(300, 2, 1, 7, 9), 10, api.Fault{Code: api.ErrLong, At: 6}},
		{join(300, 2, 1, 7), 10, api.Fault{Code: api.ErrShort, At: 6}},
		// the nodes
		{join(300, 1, 1), 10, api.Fault{Code: api.ErrShort, At: 5}},
		{join(300, 1, 2, 7), 10, api.Fault{Code: api.ErrShort, At: 6}},
		{append(join(300, 1, 2, 7), 128, 0), 10, api.Fault{Code: api.ErrNonMinimal, At: 7}},
		{append(join(300, 1, 2), over...), 10, api.Fault{Code: api.ErrOverflow, At: 14}},
		{join(300, 1, 2, math.MaxUint64, 0), 10, api.Fault{Code: api.ErrOrder, At: 15}}, // of the list, ahead of nodes that are none
		{join(300, 1, 3, 7, math.MaxUint64-8, 0), 10, api.Fault{Code: api.ErrOrder, At: 16}},
		{join(300, 1, 1, most+1), 10, api.Fault{Code: api.ErrInvalid, At: 5}},
		{join(300, 1, 1, math.MaxUint64), 10, api.Fault{Code: api.ErrInvalid, At: 5}},
		{join(300, 1, 3, 7, 300, most), 10, api.Fault{Code: api.ErrInvalid, At: 5}}, // at the first node, wherever the wrong one is
		{join(300, 1, 2, most, 0), 10, api.Fault{Code: api.ErrInvalid, At: 5}},
		{join(300, 1, 2, most-1, 0), 10, good},
		{join(300, 1, 1, most), 10, good},
		{join(300, 1, 2, most+1), 10, api.Fault{Code: api.ErrShort, At: 10}}, // the whole list is read first
		// nodes of earlier sets
		{join(300, 2, 1, 7, 1, 7), 10, api.Fault{Code: api.ErrOrder, At: 7}},
		{join(300, 2, 1, 7, 2, 6, 0), 10, api.Fault{Code: api.ErrOrder, At: 7}},
		{join(300, 2, 1, 7, 3, 1, 300, 0), 10, good},
		{join(300, 3, 2, 7, 300, 1, 8, 1, 308), 10, api.Fault{Code: api.ErrOrder, At: 11}},
		{join(300, 3, 2, 7, 300, 1, 8, 2, 7, 0), 10, api.Fault{Code: api.ErrOrder, At: 11}},
		{join(300, 3, 1, 7, 1, 7, 0), 10, api.Fault{Code: api.ErrOrder, At: 7}},              // ahead of the third set
		{join(300, 2, 1, 7, 2, 7, most), 10, api.Fault{Code: api.ErrInvalid, At: 7}},         // ahead of ErrOrder
		{join(300, 2, 1, 7, 2, 7, math.MaxUint64), 10, api.Fault{Code: api.ErrOrder, At: 8}}, // of the list
		{join(300, 2, 1, 7, 2, 7), 10, api.Fault{Code: api.ErrShort, At: 8}},
	} {
		r := at1(c.b...)
		if s := stripe.Read(r, c.from); r.Fault() != c.f || c.f != good && !isZero(s) || c.f == good && r.Left() != 0 {
			t.Errorf("case %d: %v, %v", i, s, r.Fault())
		}
		check(t, c.b, c.from)
	}
}

// P19.2: 8 sets of 8 nodes are read, and no more of either.
func TestReadsUpToTheLimits(t *testing.T) {
	for n := range 10 {
		for k := range 10 {
			s := api.Stripe{From: 10, To: 17, Sets: full(n, k)}
			want := good
			switch {
			case n == 0:
				want = api.Fault{Code: api.ErrInvalid, At: 2}
			case n == 9:
				want = api.Fault{Code: api.ErrLong, At: 2}
			case k == 0:
				want = api.Fault{Code: api.ErrInvalid, At: 3}
			case k == 9:
				want = api.Fault{Code: api.ErrLong, At: 3}
			}
			r := at1(encoding(s)...)
			got := stripe.Read(r, 10)
			if r.Fault() != want || want == good && !same(got, s) || want != good && !isZero(got) {
				t.Error(n, k, got, r.Fault())
			}
		}
	}
}

// P19.2: a reader with a fault keeps it and its position, and a nil reader gives no stripe.
func TestFaultIsKept(t *testing.T) {
	for _, b := range [][]byte{{6, 2, 2, 1, 0, 1, 5}, nil, {128, 0}, {6, 0}, {6, 9}, {6, 2, 1, 7, 1, 7}} {
		for _, from := range []uint64{0, 10, top, top + 1, math.MaxUint64} {
			r := at1(b...)
			r.Fail(api.ErrRest, 8)
			if s := stripe.Read(r, from); !isZero(s) || r.At() != 1 || r.Fault() != (api.Fault{Code: api.ErrRest, At: 8}) {
				t.Error(b, from, s, r.At(), r.Fault())
			}
		}
	}
	for _, from := range []uint64{0, 10, top, top + 1} {
		if s := stripe.Read(nil, from); !isZero(s) {
			t.Error(from, s)
		}
	}
}

// P19.2: with a wrong From nothing is read.
func TestWrongFromReadsNothing(t *testing.T) {
	for _, from := range []uint64{top + 1, 1 << 63, math.MaxUint64} {
		r := at1(6, 2, 2, 1, 0, 1, 5)
		if s := stripe.Read(r, from); !isZero(s) || r.At() != 1 || r.Fault() != (api.Fault{Code: api.ErrInvalid, At: 1}) {
			t.Error(from, s, r.At(), r.Fault())
		}
	}
}

// P19.2: stripes are read one behind the other, within their part of the bytes.
func TestReadOn(t *testing.T) {
	r := at1(6, 2, 2, 1, 0, 1, 5, 0, 1, 1, 5, 3, 1, 1, 9)
	a := stripe.Read(r, 10)
	b := stripe.Read(r, a.To)
	if !same(a, example()) || !same(b, api.Stripe{From: 17, To: 18, Sets: [][]uint64{{5}}}) || !r.Good() {
		t.Error(a, b, r.Fault())
	}
	p := r.Part(3)
	if s := stripe.Read(p, 18); !isZero(s) || p.Fault() != (api.Fault{Code: api.ErrShort, At: 15}) {
		t.Error(s, p.Fault())
	}
	if s := stripe.Read(r, 18); !same(s, api.Stripe{From: 18, To: 22, Sets: [][]uint64{{9}}}) || !r.Good() || r.Left() != 0 {
		t.Error(s, r.Fault())
	}
}

// P19.2, P19.4: bytes that were changed, and any bytes at all; and writing what was read gives the same bytes.
func TestAnyBytes(t *testing.T) {
	r := rand.New(rand.NewSource(19))
	l := slices.DeleteFunc(stripes(), func(s api.Stripe) bool { return !valid(s) })
	l = append(l, stripes()[:len(l)]...)
	froms := []uint64{0, 1, 10, 1 << 40, top - 300, top - 5, top - 1, top, top + 1, math.MaxUint64}
	accepted, refused := 0, 0
	for k := range 60000 {
		var b []byte
		if k%2 == 0 {
			b = encoding(l[r.Intn(len(l))])
			for range r.Intn(3) {
				b[r.Intn(len(b))] = byte(r.Intn(1 << r.Intn(9)))
			}
		} else {
			b = make([]byte, r.Intn(16))
			for i := range b {
				b[i] = byte(r.Intn(1 << r.Intn(5)))
			}
		}
		from := froms[r.Intn(len(froms))]
		check(t, b, from)
		in := cursor.New(b)
		s := stripe.Read(in, from)
		if !in.Good() {
			refused++
			continue
		}
		accepted++
		if again, code := stripe.Bytes(s); code != api.OK || !bytes.Equal(again, in.Since(0)) || !stripe.Right(s) || s.From != from {
			t.Fatal(b, from, s, again, code)
		}
	}
	if accepted < 3000 || refused < 3000 {
		t.Error(accepted, refused)
	}
}

// P19.4: writing what was read gives the same bytes, for all short ones of some letters.
func TestOneEncoding(t *testing.T) {
	letters := []byte{0, 1, 2, 127, 128, 255}
	texts := [][]byte{nil}
	for i := 0; i < len(texts) && len(texts[i]) < 7; i++ {
		for _, c := range letters {
			texts = append(texts, append(slices.Clone(texts[i]), c))
		}
	}
	accepted, refused := 0, 0
	for _, b := range texts {
		r := cursor.New(b)
		s := stripe.Read(r, 10)
		if !r.Good() {
			refused++
			continue
		}
		accepted++
		if again, code := stripe.Bytes(s); code != api.OK || !bytes.Equal(again, r.Since(0)) {
			t.Fatal(b, s, again, code)
		}
	}
	if accepted < 1000 || refused < 1000 {
		t.Error(accepted, refused)
	}
}

// P19.3: positions are given to the sets one by one, as the definition's words say; Dealt and Back
// say so of each, and of no other position.
func TestDealtBackAndShare(t *testing.T) {
	for _, sets := range rightSets() {
		for _, from := range []uint64{0, 10, 1 << 40, top - 40} {
			for n := range uint64(41) {
				s := api.Stripe{From: from, To: from + n, Sets: sets}
				given := make([]uint64, len(sets))
				turn := 0
				for p := from; p < from+n; p++ {
					if set, local, ok := stripe.Dealt(s, p); set != turn || local != given[turn] || !ok {
						t.Fatal(s, p, set, local, ok)
					}
					if q, ok := stripe.Back(s, turn, given[turn]); q != p || !ok {
						t.Fatal(s, turn, given[turn], q, ok)
					}
					given[turn]++
					turn = (turn + 1) % len(sets)
				}
				for _, p := range []uint64{from - 1, from + n, from + n + 1, top, math.MaxUint64} {
					if set, local, ok := stripe.Dealt(s, p); set != 0 || local != 0 || ok {
						t.Fatal(s, p, set, local, ok)
					}
				}
				for set := range sets {
					if x := stripe.Share(s, set); x != given[set] {
						t.Fatal(s, set, x, given[set])
					}
					for _, local := range []uint64{given[set], given[set] + 1, top, 1 << 63, math.MaxUint64} {
						if p, ok := stripe.Back(s, set, local); p != 0 || ok {
							t.Fatal(s, set, local, p, ok)
						}
					}
				}
			}
		}
	}
}

// P19.3: there is no set below 0 or behind the last one.
func TestNoSuchSet(t *testing.T) {
	for _, sets := range rightSets() {
		s := api.Stripe{From: 10, To: 1000, Sets: sets}
		for _, set := range []int{math.MinInt, -1, len(sets), len(sets) + 1, 8, math.MaxInt} {
			if x := stripe.Share(s, set); x != 0 {
				t.Error(s, set, x)
			}
			for _, local := range []uint64{0, 1, math.MaxUint64} {
				if p, ok := stripe.Back(s, set, local); p != 0 || ok {
					t.Error(s, set, local, p, ok)
				}
			}
		}
	}
}

// P19.3, P19.4: stripes of very many positions; Dealt and Back are inverse to each other, the shares
// add up, and no two differ by more than 1.
func TestLongStripes(t *testing.T) {
	r := rand.New(rand.NewSource(4))
	for _, s := range stripes() {
		if !valid(s) {
			continue
		}
		var sum uint64
		least, greatest := uint64(math.MaxUint64), uint64(0)
		for set := range s.Sets {
			x := stripe.Share(s, set)
			sum += x
			least, greatest = min(least, x), max(greatest, x)
			if x == 0 {
				continue
			}
			for _, local := range []uint64{0, x - 1, x / 2, r.Uint64() % x} {
				p, ok := stripe.Back(s, set, local)
				if !ok || p < s.From || p >= s.To {
					t.Fatal(s, set, local, p, ok)
				}
				if i, l, ok := stripe.Dealt(s, p); i != set || l != local || !ok {
					t.Fatal(s, set, local, p, i, l, ok)
				}
			}
			if p, ok := stripe.Back(s, set, x); p != 0 || ok {
				t.Fatal(s, set, x, p, ok)
			}
		}
		if sum != s.To-s.From || greatest-least > 1 {
			t.Fatal(s, sum, least, greatest)
		}
		for _, p := range []uint64{s.From, s.To - 1, s.From + (s.To-s.From)/2, s.From + r.Uint64()%(s.To-s.From)} {
			set, local, ok := stripe.Dealt(s, p)
			if !ok || local >= stripe.Share(s, set) {
				t.Fatal(s, p, set, local, ok)
			}
			if q, ok := stripe.Back(s, set, local); q != p || !ok {
				t.Fatal(s, p, set, local, q, ok)
			}
		}
	}
}

// P19.3: Nodes is all nodes in order, and Set which set has one.
func TestNodesAndSet(t *testing.T) {
	for _, sets := range rightSets() {
		s := api.Stripe{From: 10, To: 17, Sets: sets}
		where := map[uint64]int{}
		var all []uint64
		for i, set := range sets {
			for _, node := range set {
				where[node] = i
				all = append(all, node)
			}
		}
		slices.Sort(all)
		if got := stripe.Nodes(s); !slices.Equal(got, all) {
			t.Error(s, got)
		}
		for _, node := range append(all, 0, 1, 3, 6, 8, 1000, most-2, most, most+1, math.MaxUint64) {
			want, wanted := where[node]
			if set, ok := stripe.Set(s, node); set != want || ok != wanted {
				t.Error(s, node, set, ok)
			}
		}
	}
	s := example()
	if got := stripe.Nodes(s); !slices.Equal(got, []uint64{1, 2, 5}) {
		t.Error(got)
	}
	if set, ok := stripe.Set(s, 5); set != 1 || !ok {
		t.Error(set, ok)
	}
}

// P19.3: of a stripe that is not valid all five give nothing.
func TestNothingOfWrongStripes(t *testing.T) {
	wrong := 0
	for _, s := range stripes() {
		if valid(s) {
			continue
		}
		wrong++
		for _, p := range []uint64{0, 10, s.From, s.To - 1, top - 1} {
			if set, local, ok := stripe.Dealt(s, p); set != 0 || local != 0 || ok {
				t.Fatal(s, p, set, local, ok)
			}
		}
		for _, set := range []int{-1, 0, 1} {
			if p, ok := stripe.Back(s, set, 0); p != 0 || ok || stripe.Share(s, set) != 0 {
				t.Fatal(s, set, p, ok)
			}
		}
		if l := stripe.Nodes(s); len(l) != 0 {
			t.Fatal(s, l)
		}
		for _, set := range s.Sets {
			for _, node := range set {
				if i, ok := stripe.Set(s, node); i != 0 || ok {
					t.Fatal(s, node, i, ok)
				}
			}
		}
	}
	if wrong < 1000 {
		t.Error(wrong)
	}
}

// P19.3: a copy has the same fields, of a stripe that is not valid too, and shares nothing.
func TestCopy(t *testing.T) {
	for _, s := range stripes() {
		a, b := stripe.Copy(s), stripe.Copy(s)
		if !same(a, s) || !stripe.Same(a, s) {
			t.Fatal(s, a)
		}
		for i := range a.Sets {
			for k := range a.Sets[i] {
				a.Sets[i][k] += 77
			}
			a.Sets[i] = append(a.Sets[i], 78)
			a.Sets[i] = nil
		}
		if !same(b, s) {
			t.Fatal(s, b)
		}
	}
	s := example()
	a := stripe.Copy(s)
	a.Sets[0][0], a.From = 77, 78
	if !same(s, example()) {
		t.Error(s)
	}
	s.Sets[1][0] = 79
	if !same(a, api.Stripe{From: 78, To: 17, Sets: [][]uint64{{77, 2}, {5}}}) {
		t.Error(a)
	}
}

// P19.3: Same, for all pairs; a nil list and an empty one are the same.
func TestSame(t *testing.T) {
	var l []api.Stripe
	for _, sets := range append(rightSets(), wrongSets()...) {
		for _, span := range [][2]uint64{{0, 0}, {10, 17}, {10, 18}, {11, 17}, {0, top}} {
			l = append(l, api.Stripe{From: span[0], To: span[1], Sets: sets})
		}
	}
	alike := 0
	for _, a := range l {
		for _, b := range l {
			if stripe.Same(a, b) != same(a, b) {
				t.Fatal(a, b)
			}
			if same(a, b) {
				alike++
			}
		}
	}
	if alike <= len(l) || alike == len(l)*len(l) {
		t.Error(alike)
	}
	if !stripe.Same(api.Stripe{Sets: [][]uint64{}}, api.Stripe{}) || !stripe.Same(api.Stripe{Sets: [][]uint64{{}}}, api.Stripe{Sets: [][]uint64{nil}}) {
		t.Error("nil and empty")
	}
	if stripe.Same(api.Stripe{Sets: [][]uint64{nil}}, api.Stripe{}) || stripe.Same(api.Stripe{Sets: [][]uint64{{1}, {2}}}, api.Stripe{Sets: [][]uint64{{1, 2}}}) {
		t.Error("other lists")
	}
	for _, change := range []func(s *api.Stripe){
		func(s *api.Stripe) { s.From++ },
		func(s *api.Stripe) { s.To++ },
		func(s *api.Stripe) { s.Sets[0][1] = 3 },
		func(s *api.Stripe) { s.Sets[1][0] = 6 },
		func(s *api.Stripe) { s.Sets[1] = append(s.Sets[1], 6) },
		func(s *api.Stripe) { s.Sets = s.Sets[:1] },
		func(s *api.Stripe) { s.Sets[0], s.Sets[1] = s.Sets[1], s.Sets[0] },
	} {
		s := example()
		change(&s)
		if stripe.Same(s, example()) || stripe.Same(example(), s) {
			t.Error(s)
		}
	}
}

// Rules 4 and 7: arguments stay as they are, and what is given is new memory.
func TestMemory(t *testing.T) {
	s := example()
	stripe.Right(s)
	stripe.Dealt(s, 12)
	stripe.Back(s, 0, 1)
	stripe.Set(s, 5)
	a, b := stripe.Nodes(s), stripe.Nodes(s)
	a[0] = 77
	_ = append(a[:1], 78)
	if !slices.Equal(b, []uint64{1, 2, 5}) || !same(s, example()) {
		t.Error(b, s)
	}
	single := api.Stripe{To: 9, Sets: [][]uint64{{1, 2}}} // one set alone is copied too
	stripe.Nodes(single)[0] = 77
	if single.Sets[0][0] != 1 {
		t.Error(single)
	}
	x, _ := stripe.Bytes(s)
	y, _ := stripe.Bytes(s)
	x[0] = 77
	if !bytes.Equal(y, encoding(s)) {
		t.Error(y)
	}
	p, q := stripe.Read(cursor.New(y), 10), stripe.Read(cursor.New(y), 10)
	p.Sets[0] = append(p.Sets[0], 9)
	p.Sets[0][0], p.Sets[1][0] = 77, 78
	if !same(q, s) || !bytes.Equal(y, encoding(s)) {
		t.Error(q, y)
	}
}

// Rule 9: sets and nodes far beyond the limits are refused at once, and copied as they are.
func TestManySetsAndNodes(t *testing.T) {
	long := make([]uint64, 1<<13)
	for i := range long {
		long[i] = uint64(i)
	}
	many := make([][]uint64, 1<<13)
	for i := range many {
		many[i] = long[i : i+1]
	}
	for _, s := range []api.Stripe{{To: 9, Sets: many}, {To: 9, Sets: [][]uint64{long}}} {
		if _, code := stripe.Bytes(s); code != api.ErrInvalid || stripe.Right(s) || len(stripe.Nodes(s)) != 0 {
			t.Error(code)
		}
		if !stripe.Same(stripe.Copy(s), s) {
			t.Error("copy")
		}
	}
}

// Ways of layer 19: a labelled loop, which holds another one, is left from within that one.
func TestSetsAreVisitedInLabelledLoops(t *testing.T) {
	file, err := parser.ParseFile(token.NewFileSet(), "stripe.go", nil, 0)
	if err != nil {
		t.Fatal(err)
	}
	left := 0
	ast.Inspect(file, func(n ast.Node) bool {
		labelled, ok := n.(*ast.LabeledStmt)
		if !ok {
			return true
		}
		outer, ok := labelled.Stmt.(*ast.RangeStmt)
		if !ok {
			t.Error(labelled.Label.Name, "is no loop over a list")
			return true
		}
		ast.Inspect(outer.Body, func(n ast.Node) bool {
			inner, ok := n.(*ast.RangeStmt)
			if !ok {
				return true
			}
			ast.Inspect(inner.Body, func(n ast.Node) bool {
				if x, ok := n.(*ast.BranchStmt); ok && x.Tok == token.BREAK && x.Label != nil && x.Label.Name == labelled.Label.Name {
					left++
				}
				return true
			})
			return true
		})
		return true
	})
	if left == 0 {
		t.Error("no loop is left by its label")
	}
}
