package seal_test

import (
	"bytes"
	"go/ast"
	"go/parser"
	"go/token"
	"math"
	"math/rand"
	"slices"
	"testing"

	"tholepin/api"
	"tholepin/cursor"
	"tholepin/pen"
	"tholepin/seal"
	"tholepin/varint"
)

var good = api.Fault{}

// top is 2^62, which is no epoch, but a tail.
const top = uint64(1) << 62

// numbers are small ones, those at which an encoding grows, and those around each limit.
func numbers() []uint64 {
	return []uint64{
		0, 1, 2, 3, 127, 128, 300, 16383, 16384, 1<<32 - 2, 1<<32 - 1, 1 << 32, 1<<32 + 1, 1<<56 - 1, 1 << 56,
		top - 2, top - 1, top, top + 1, 1<<63 - 1, 1 << 63, math.MaxUint64 - 1, math.MaxUint64,
	}
}

// seals are all seals of these numbers, valid or not.
func seals() []api.Seal {
	var l []api.Seal
	for _, e := range numbers() {
		for _, n := range numbers() {
			for _, tail := range numbers() {
				l = append(l, api.Seal{Epoch: e, Node: n, Tail: tail})
			}
		}
	}
	return l
}

// valid is the definition's words, counted in bits.
func valid(s api.Seal) bool {
	return s.Epoch != 0 && s.Epoch>>62 == 0 && s.Node>>32 == 0 && (s.Tail>>62 == 0 || s.Tail == 4611686018427387904)
}

// join is integers, one behind the other.
func join(l ...uint64) []byte {
	var b []byte
	for _, x := range l {
		b = append(b, varint.Bytes(x)...)
	}
	return b
}

// encoding is the definition's words: Epoch, Node and Tail.
func encoding(s api.Seal) []byte { return join(s.Epoch, s.Node, s.Tail) }

// at1 is a reader of one byte 5 and others, at position 1.
func at1(b ...byte) *cursor.Reader {
	r := cursor.New(append([]byte{5}, b...))
	r.Skip(1)
	return r
}

// read is the integer that comes next and its fault, by the chapter's words: what is no integer has
// the fault of varint.Read, and one that is not allowed has code at its first byte.
func read(r *cursor.Reader, allowed func(x uint64) bool, code api.Errno) uint64 {
	at := r.At()
	x := varint.Read(r)
	if r.Good() && !allowed(x) {
		r.Fail(code, at)
	}
	return x
}

// expected is the seal that bytes behind a byte begin with, how many bytes it has, and the fault.
func expected(b []byte) (api.Seal, int, api.Fault) {
	r := at1(b...)
	e := read(r, func(x uint64) bool { return x != 0 && x>>62 == 0 }, api.ErrInvalid)
	n := read(r, func(x uint64) bool { return x>>32 == 0 }, api.ErrLong)
	tail := read(r, func(x uint64) bool { return x <= top }, api.ErrInvalid)
	if !r.Good() {
		return api.Seal{}, 0, r.Fault()
	}
	return api.Seal{Epoch: e, Node: n, Tail: tail}, r.At() - 1, good
}

// check holds all three ways of reading some bytes against what is expected.
func check(t *testing.T, b []byte) {
	t.Helper()
	want, size, f := expected(b)
	r := at1(b...)
	if s := seal.Read(r); s != want || r.Fault() != f || f == good && r.At() != 1+size {
		t.Fatal(b, s, r.Fault(), r.At(), "not", want, f)
	}
	if f != good {
		f.At--
	}
	if s, n, g := seal.Get(b); s != want || n != size || g != f {
		t.Fatal(b, s, n, g, "not", want, size, f)
	}
	if f == good && size < len(b) {
		want, f = api.Seal{}, api.Fault{Code: api.ErrRest, At: size}
	}
	if s, g := seal.Decode(b); s != want || g != f {
		t.Fatal(b, s, g, "not", want, f)
	}
}

// P18.1, P18.2: the examples of the chapter.
func TestExamples(t *testing.T) {
	s := api.Seal{Epoch: 3, Node: 1, Tail: 300}
	b, code := seal.Bytes(s)
	if code != api.OK || !bytes.Equal(b, []byte{0x03, 0x01, 0xac, 0x02}) || b[2] != 172 {
		t.Error(b, code)
	}
	if got, f := seal.Decode([]byte{3, 1, 172, 2}); got != s || f != good {
		t.Error(got, f)
	}
	if got, f := seal.Decode([]byte{3, 1, 172, 2, 0}); got != (api.Seal{}) || f != (api.Fault{Code: api.ErrRest, At: 4}) {
		t.Error(got, f)
	}
	l := []api.Seal{{Epoch: 3, Node: 1, Tail: 5}, {Epoch: 3, Node: 2, Tail: 4}}
	if x, ok := seal.Tail(l, 3, 2); x != 5 || !ok {
		t.Error(x, ok)
	}
	if x, ok := seal.Tail(l, 3, 3); x != 0 || ok {
		t.Error(x, ok)
	}
}

// P18.1: which seals are valid.
func TestRight(t *testing.T) {
	for _, c := range []struct {
		s    api.Seal
		want bool
	}{
		{api.Seal{}, false},
		{api.Seal{Epoch: 1}, true},
		{api.Seal{Epoch: 0, Node: 1, Tail: 1}, false},
		{api.Seal{Epoch: top - 1, Node: 1<<32 - 1, Tail: top}, true},
		{api.Seal{Epoch: top, Node: 1, Tail: 1}, false},
		{api.Seal{Epoch: 1, Node: 1 << 32, Tail: 1}, false},
		{api.Seal{Epoch: 1, Node: 1, Tail: top + 1}, false},
		{api.Seal{Epoch: 1, Node: 1, Tail: math.MaxUint64}, false},
	} {
		if seal.Right(c.s) != c.want {
			t.Error(c.s, seal.Right(c.s))
		}
	}
	right := 0
	for _, s := range seals() {
		if seal.Right(s) != valid(s) {
			t.Error(s, seal.Right(s))
		}
		if valid(s) {
			right++
		}
	}
	if right < 1000 {
		t.Error(right)
	}
}

// P18.1: Put and Bytes give the encoding, and nothing of a seal that is not valid.
func TestPutAndBytes(t *testing.T) {
	for _, s := range seals() {
		b, code := seal.Bytes(s)
		w := pen.New(30)
		w.Put(9)
		seal.Put(w, s)
		if !valid(s) {
			if b != nil || code != api.ErrInvalid || w.Code() != api.ErrInvalid || w.Len() != 1 {
				t.Fatal(s, b, code, w.Code(), w.Len())
			}
			continue
		}
		if code != api.OK || !bytes.Equal(b, encoding(s)) {
			t.Fatal(s, b, code)
		}
		if got, code := w.Bytes(); code != api.OK || got[0] != 9 || !bytes.Equal(got[1:], b) {
			t.Fatal(s, got, code)
		}
	}
}

// P18.1: a writer with too little room has ErrLong and no more than its limit, but a seal that is
// not valid is ErrInvalid there too, and nothing of it is written.
func TestPutWithoutRoom(t *testing.T) {
	for _, s := range []api.Seal{{Epoch: 3, Node: 1, Tail: 300}, {Epoch: 1}, {Epoch: top - 1, Node: 1<<32 - 1, Tail: top}} {
		all := encoding(s)
		for room := range all {
			w := pen.New(room)
			seal.Put(w, s)
			if got, code := w.Bytes(); got != nil || code != api.ErrLong || w.Len() > room {
				t.Error(s, room, got, code, w.Len())
			}
			for _, wrong := range []api.Seal{{Node: s.Node, Tail: s.Tail}, {Epoch: s.Epoch, Node: 1 << 32, Tail: s.Tail}, {Epoch: s.Epoch, Node: s.Node, Tail: top + 1}} {
				w := pen.New(room)
				seal.Put(w, wrong)
				if w.Code() != api.ErrInvalid || w.Len() != 0 {
					t.Error(wrong, room, w.Code(), w.Len())
				}
			}
		}
		w := pen.New(len(all))
		seal.Put(w, s)
		if w.Code() != api.OK || w.Room() != 0 {
			t.Error(s, w.Code(), w.Room())
		}
	}
}

// P18.1: with a code nothing is written and the code is kept, and a nil writer takes everything.
func TestPutAfterACode(t *testing.T) {
	for _, s := range []api.Seal{{Epoch: 3, Node: 1, Tail: 300}, {}, {Epoch: 3, Node: 1 << 32}, {Epoch: 3, Tail: top + 1}} {
		w := pen.New(30)
		w.Fail(api.ErrSum)
		seal.Put(w, s)
		if w.Code() != api.ErrSum || w.Len() != 0 {
			t.Error(s, w.Code(), w.Len())
		}
		seal.Put(nil, s)
	}
}

// P18.1, P18.3: what was written is read back, whatever follows, and no beginning of it is a seal.
func TestReads(t *testing.T) {
	for _, s := range seals() {
		b := encoding(s)
		for _, behind := range [][]byte{nil, {0}, {255, 255}} {
			check(t, append(slices.Clone(b), behind...))
		}
		if !valid(s) {
			continue
		}
		if got, n, f := seal.Get(append(b, 0)); got != s || n != len(b) || f != good {
			t.Fatal(s, got, n, f)
		}
		if got, f := seal.Decode(b); got != s || f != good {
			t.Fatal(s, got, f)
		}
		for n := range b {
			if got, size, f := seal.Get(b[:n]); got != (api.Seal{}) || size != 0 || f != (api.Fault{Code: api.ErrShort, At: n}) {
				t.Fatal(s, n, got, size, f)
			}
			if got, f := seal.Decode(b[:n]); got != (api.Seal{}) || f != (api.Fault{Code: api.ErrShort, At: n}) {
				t.Fatal(s, n, got, f)
			}
		}
	}
}

// P18.1: each fault, the first one in the order of the bytes, and nothing beside it.
func TestRefuses(t *testing.T) {
	for i, c := range []struct {
		b []byte
		f api.Fault
	}{
		{nil, api.Fault{Code: api.ErrShort, At: 0}},
		{[]byte{128}, api.Fault{Code: api.ErrShort, At: 1}},
		{[]byte{3}, api.Fault{Code: api.ErrShort, At: 1}},
		{[]byte{3, 1}, api.Fault{Code: api.ErrShort, At: 2}},
		{[]byte{3, 1, 172}, api.Fault{Code: api.ErrShort, At: 3}},
		{[]byte{0, 1, 1}, api.Fault{Code: api.ErrInvalid, At: 0}},
		{[]byte{0}, api.Fault{Code: api.ErrInvalid, At: 0}}, // ahead of the node that is missing
		{[]byte{128, 0, 1, 1}, api.Fault{Code: api.ErrNonMinimal, At: 1}},
		{[]byte{3, 129, 0, 1}, api.Fault{Code: api.ErrNonMinimal, At: 2}},
		{[]byte{3, 1, 128, 0}, api.Fault{Code: api.ErrNonMinimal, At: 3}},
		{append(bytes.Repeat([]byte{255}, 9), 2), api.Fault{Code: api.ErrOverflow, At: 9}},
		{append([]byte{3}, append(bytes.Repeat([]byte{255}, 9), 2)...), api.Fault{Code: api.ErrOverflow, At: 10}},
		{append([]byte{3, 1}, append(bytes.Repeat([]byte{255}, 9), 2)...), api.Fault{Code: api.ErrOverflow, At: 11}},
		{join(top, 1, 1), api.Fault{Code: api.ErrInvalid, At: 0}},
		{join(top, 1<<32, 1), api.Fault{Code: api.ErrInvalid, At: 0}},
		{join(300, 1<<32, 1), api.Fault{Code: api.ErrLong, At: 2}},
		{join(300, math.MaxUint64, 1), api.Fault{Code: api.ErrLong, At: 2}},
		{join(300, 1<<32, top+1), api.Fault{Code: api.ErrLong, At: 2}},
		{join(300, 1<<32), api.Fault{Code: api.ErrLong, At: 2}}, // ahead of the tail that is missing
		{join(3, 300, top+1), api.Fault{Code: api.ErrInvalid, At: 3}},
		{join(3, 300, math.MaxUint64, 7), api.Fault{Code: api.ErrInvalid, At: 3}}, // ahead of ErrRest
	} {
		if s, n, f := seal.Get(c.b); s != (api.Seal{}) || n != 0 || f != c.f {
			t.Errorf("case %d: %v, %d, %v", i, s, n, f)
		}
		if s, f := seal.Decode(c.b); s != (api.Seal{}) || f != c.f {
			t.Errorf("case %d: %v, %v", i, s, f)
		}
		check(t, c.b)
	}
}

// P18.1: a reader with a fault keeps it and its position, and a nil reader gives no seal.
func TestFaultIsKept(t *testing.T) {
	for _, b := range [][]byte{{3, 1, 172, 2}, nil, {0}, {128, 0}, {3, 1}} {
		r := at1(b...)
		r.Fail(api.ErrRest, 8)
		if s := seal.Read(r); s != (api.Seal{}) || r.At() != 1 || r.Fault() != (api.Fault{Code: api.ErrRest, At: 8}) {
			t.Error(b, s, r.At(), r.Fault())
		}
	}
	if s := seal.Read(nil); s != (api.Seal{}) {
		t.Error(s)
	}
}

// P18.1: seals are read one behind the other, within their part of the bytes.
func TestReadOn(t *testing.T) {
	r := at1(3, 1, 172, 2, 9, 0, 0, 3, 2, 7)
	for _, want := range []api.Seal{{Epoch: 3, Node: 1, Tail: 300}, {Epoch: 9}} {
		if s := seal.Read(r); s != want || !r.Good() {
			t.Error(s, r.Fault())
		}
	}
	p := r.Part(2)
	if s := seal.Read(p); s != (api.Seal{}) || p.Fault() != (api.Fault{Code: api.ErrShort, At: 10}) {
		t.Error(s, p.Fault())
	}
	if s := seal.Read(r); s != (api.Seal{Epoch: 3, Node: 2, Tail: 7}) || !r.Good() || r.Left() != 0 {
		t.Error(s, r.Fault())
	}
}

// P18.1: bytes that were changed, and any bytes at all.
func TestAnyBytes(t *testing.T) {
	r := rand.New(rand.NewSource(18))
	l := seals()
	for range 20000 {
		b := encoding(l[r.Intn(len(l))])
		for range r.Intn(3) {
			b[r.Intn(len(b))] = byte(r.Intn(1 << r.Intn(9)))
		}
		check(t, b)
		b = make([]byte, r.Intn(7))
		for i := range b {
			b[i] = byte(r.Intn(1 << r.Intn(9)))
		}
		check(t, b)
	}
}

// P18.3: writing what was read gives the same bytes.
func TestOneEncoding(t *testing.T) {
	letters := []byte{0, 1, 2, 127, 128, 129, 255}
	texts := [][]byte{nil}
	for i := 0; i < len(texts) && len(texts[i]) < 6; i++ {
		for _, c := range letters {
			texts = append(texts, append(slices.Clone(texts[i]), c))
		}
	}
	accepted, refused := 0, 0
	for _, b := range texts {
		s, n, f := seal.Get(b)
		if f != good {
			refused++
			continue
		}
		accepted++
		if again, code := seal.Bytes(s); code != api.OK || !bytes.Equal(again, b[:n]) || !seal.Right(s) {
			t.Fatal(b, s, again, code)
		}
		if _, f := seal.Decode(b); (f == good) != (n == len(b)) {
			t.Fatal(b, f)
		}
	}
	if accepted < 10000 || refused < 10000 {
		t.Error(accepted, refused)
	}
}

// told is lists of seals, of few epochs, nodes and tails, so that much occurs again; some are not valid.
func told() [][]api.Seal {
	r := rand.New(rand.NewSource(2))
	pick := func(l ...uint64) uint64 { return l[r.Intn(len(l))] }
	lists := [][]api.Seal{nil, {}}
	for range 20000 {
		var l []api.Seal
		for range r.Intn(9) {
			l = append(l, api.Seal{
				Epoch: pick(0, 3, 3, 3, 3, 4, 4, top-1, top),
				Node:  pick(0, 1, 2, 2, 3, 300, 1<<32-1, 1<<32),
				Tail:  pick(0, 0, 4, 5, 5, 300, top-1, top, top+1, math.MaxUint64),
			})
		}
		lists = append(lists, l)
	}
	return lists
}

// counted is the nodes of an epoch's valid seals and their greatest tail, found from the greatest on.
func counted(l []api.Seal, e uint64) (nodes []uint64, tail uint64) {
	seen := map[uint64]bool{}
	for _, s := range l {
		if valid(s) && s.Epoch == e {
			seen[s.Node] = true
			if s.Tail > tail {
				tail = s.Tail
			}
		}
	}
	for n := range seen {
		nodes = append(nodes, n)
	}
	slices.Sort(nodes)
	return nodes, tail
}

// P18.2: Nodes and Tail of an epoch, for each quorum up to all of the nodes and beyond.
func TestNodesAndTail(t *testing.T) {
	known := 0
	for _, l := range told() {
		for _, e := range []uint64{0, 1, 3, 4, top - 1, top, math.MaxUint64} {
			nodes, tail := counted(l, e)
			if got := seal.Nodes(l, e); !slices.Equal(got, nodes) {
				t.Fatal(l, e, got, nodes)
			}
			for _, quorum := range []int{math.MinInt, -1, 0, 1, 2, 3, 4, 5, 6, 7, 8, 9, math.MaxInt} {
				want, wanted := uint64(0), quorum >= 1 && len(nodes) >= quorum
				if wanted {
					want = tail
					known++
				}
				if x, ok := seal.Tail(l, e, quorum); x != want || ok != wanted {
					t.Fatal(l, e, quorum, x, ok)
				}
			}
		}
	}
	if known < 10000 {
		t.Error(known)
	}
}

// P18.2: single lists, word by word.
func TestNodesAndTailRows(t *testing.T) {
	type want struct {
		quorum int
		tail   uint64
		ok     bool
	}
	for i, c := range []struct {
		l     []api.Seal
		nodes []uint64
		w     []want
	}{
		{nil, nil, []want{{-1, 0, false}, {0, 0, false}, {1, 0, false}}},
		{[]api.Seal{{Epoch: 3}}, []uint64{0}, []want{{0, 0, false}, {1, 0, true}, {2, 0, false}}},
		{[]api.Seal{{Epoch: 3, Node: 9, Tail: 5}, {Epoch: 3, Node: 7, Tail: 8}, {Epoch: 3, Node: 8, Tail: 1}}, []uint64{7, 8, 9}, []want{{3, 8, true}, {4, 0, false}}},
		// one node's seals are one node, and each of them counts for the tail
		{[]api.Seal{{Epoch: 3, Node: 7, Tail: 5}, {Epoch: 3, Node: 7, Tail: 9}, {Epoch: 3, Node: 7, Tail: 5}}, []uint64{7}, []want{{1, 9, true}, {2, 0, false}}},
		{[]api.Seal{{Epoch: 3, Node: 7, Tail: 9}, {Epoch: 3, Node: 2, Tail: 1}, {Epoch: 3, Node: 7, Tail: 2}}, []uint64{2, 7}, []want{{1, 9, true}, {2, 9, true}, {3, 0, false}}},
		// seals of other epochs, and those that are not valid, count for neither
		{[]api.Seal{{Epoch: 3, Node: 1, Tail: 5}, {Epoch: 4, Node: 2, Tail: 9}, {Epoch: 2, Node: 3, Tail: 9}}, []uint64{1}, []want{{1, 5, true}, {2, 0, false}}},
		{[]api.Seal{{Epoch: 3, Node: 1, Tail: 5}, {Epoch: 3, Node: 1 << 32, Tail: 9}, {Epoch: 3, Node: 2, Tail: top + 1}}, []uint64{1}, []want{{1, 5, true}, {2, 0, false}}},
		{[]api.Seal{{Epoch: 3, Node: 1, Tail: top}, {Epoch: 3, Node: 1<<32 - 1, Tail: 0}}, []uint64{1, 1<<32 - 1}, []want{{2, top, true}, {3, 0, false}}},
	} {
		if got := seal.Nodes(c.l, 3); !slices.Equal(got, c.nodes) {
			t.Errorf("case %d: %v", i, got)
		}
		for _, w := range c.w {
			if x, ok := seal.Tail(c.l, 3, w.quorum); x != w.tail || ok != w.ok {
				t.Errorf("case %d, quorum %d: %d, %v", i, w.quorum, x, ok)
			}
		}
	}
}

// P18.2: of no epoch there are no seals, whatever they say.
func TestNoEpoch(t *testing.T) {
	for _, e := range []uint64{0, top, top + 1, math.MaxUint64} {
		l := []api.Seal{{Epoch: e, Node: 1, Tail: 5}, {Epoch: e, Node: 2, Tail: 6}}
		if nodes := seal.Nodes(l, e); len(nodes) != 0 {
			t.Error(e, nodes)
		}
		if x, ok := seal.Tail(l, e, 1); x != 0 || ok {
			t.Error(e, x, ok)
		}
	}
}

// P18.2: lists of many seals.
func TestManySeals(t *testing.T) {
	const n = 100000
	var l []api.Seal
	for k := range uint64(n) {
		l = append(l, api.Seal{Epoch: 3, Node: k * 617 % 1000, Tail: k})
	}
	nodes := seal.Nodes(l, 3)
	if len(nodes) != 1000 {
		t.Fatal(len(nodes))
	}
	for k, node := range nodes {
		if node != uint64(k) {
			t.Fatal(k, node)
		}
	}
	if x, ok := seal.Tail(l, 3, 1000); x != n-1 || !ok {
		t.Error(x, ok)
	}
	if x, ok := seal.Tail(l, 3, 1001); x != 0 || ok {
		t.Error(x, ok)
	}
}

// P18.3: with more seals, wherever they are put, the tail does not decrease and remains known.
func TestMoreSeals(t *testing.T) {
	grown := 0
	lists := told()
	for i, l := range lists[1:] {
		more := lists[i]
		for quorum := 1; quorum < 5; quorum++ {
			before, known := seal.Tail(l, 3, quorum)
			if !known {
				continue
			}
			for at := range len(l) + 1 {
				after, still := seal.Tail(slices.Insert(slices.Clone(l), at, more...), 3, quorum)
				if !still || after < before {
					t.Fatal(l, more, quorum, before, after, still)
				}
				if after > before {
					grown++
				}
			}
		}
	}
	if grown < 1000 {
		t.Error(grown)
	}
}

// Rules 4 and 7: arguments stay as they are, and what is given is new memory.
func TestMemory(t *testing.T) {
	l := []api.Seal{{Epoch: 3, Node: 9, Tail: 5}, {Epoch: 4, Node: 1, Tail: 6}, {Epoch: 3, Node: 2, Tail: 4}}
	before := slices.Clone(l)
	a, b := seal.Nodes(l, 3), seal.Nodes(l, 3)
	seal.Tail(l, 3, 1)
	a[0] = 77
	_ = append(a[:1], 78)
	if !slices.Equal(b, []uint64{2, 9}) || !slices.Equal(l, before) {
		t.Error(b, l)
	}
	x, _ := seal.Bytes(l[0])
	y, _ := seal.Bytes(l[0])
	x[0] = 77
	if !bytes.Equal(y, []byte{3, 9, 5}) {
		t.Error(y)
	}
	in := []byte{3, 1, 172, 2, 9}
	seal.Get(in)
	seal.Decode(in)
	seal.Read(cursor.New(in))
	if !bytes.Equal(in, []byte{3, 1, 172, 2, 9}) {
		t.Error(in)
	}
}

// Ways of layer 18: Nodes passes a function of its own to the one that sorts.
func TestNodesSortsByClosure(t *testing.T) {
	file, err := parser.ParseFile(token.NewFileSet(), "seal.go", nil, 0)
	if err != nil {
		t.Fatal(err)
	}
	passed := 0
	for _, d := range file.Decls {
		f, ok := d.(*ast.FuncDecl)
		if !ok || f.Name.Name != "Nodes" {
			continue
		}
		ast.Inspect(f, func(n ast.Node) bool {
			call, ok := n.(*ast.CallExpr)
			if !ok {
				return true
			}
			for _, x := range call.Args {
				if _, ok := x.(*ast.FuncLit); ok {
					passed++
				}
			}
			return true
		})
	}
	if passed != 1 {
		t.Error(passed)
	}
}
