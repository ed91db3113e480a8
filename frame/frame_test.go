package frame_test

import (
	"bytes"
	"go/ast"
	"go/parser"
	"go/token"
	"math"
	"slices"
	"testing"

	"tholepin/api"
	"tholepin/crc"
	"tholepin/cursor"
	"tholepin/frame"
	"tholepin/pen"
	"tholepin/varint"
)

var good = api.Fault{}

// count is n bytes that differ.
func count(n int) []byte {
	b := make([]byte, n)
	for i := range b {
		b[i] = byte(i*i*7 + i*31 + i>>3)
	}
	return b
}

// payloads are byte strings of each length at which the length's encoding grows.
func payloads() [][]byte {
	return [][]byte{nil, {}, {0}, {7}, {128}, {255, 255}, count(40), count(127), count(128), count(200), count(16383), count(16384), count(100000)}
}

// encoding is the definition's words: the length, the payload, and the checksum's lowest byte first.
func encoding(payload []byte) []byte {
	b := append(varint.Bytes(uint64(len(payload))), payload...)
	sum := crc.Sum(payload)
	return append(b, byte(sum), byte(sum>>8), byte(sum>>16), byte(sum>>24))
}

// join is byte strings one behind the other.
func join(l ...[]byte) []byte { return slices.Concat(l...) }

// at1 is a reader of one byte 5 and others, at position 1.
func at1(b ...byte) *cursor.Reader {
	r := cursor.New(append([]byte{5}, b...))
	r.Skip(1)
	return r
}

// expect checks where a reader is, and its fault.
func expect(t *testing.T, r *cursor.Reader, at int, f api.Fault) {
	t.Helper()
	if r.At() != at || r.Fault() != f {
		t.Errorf("at %d with %v, not %d with %v", r.At(), r.Fault(), at, f)
	}
}

// P8.1 to P8.5: the examples of the chapter.
func TestExamples(t *testing.T) {
	if b, code := frame.Bytes(nil); code != api.OK || !bytes.Equal(b, []byte{0, 0, 0, 0, 0}) {
		t.Error(b, code)
	}
	seven, code := frame.Bytes([]byte{7})
	if code != api.OK || len(seven) != 6 || seven[0] != 1 {
		t.Fatal(seven, code)
	}
	if frame.Size(200) != 206 || frame.Most(200) != 206 {
		t.Error(frame.Size(200), frame.Most(200))
	}
	b, n, f := frame.Get(append(slices.Clone(seven), 9), 9)
	if !bytes.Equal(b, []byte{7}) || n != 6 || f != good {
		t.Error(b, n, f)
	}
	wrong := slices.Clone(seven)
	wrong[1] = 8
	if b, n, f := frame.Get(wrong, 9); b != nil || n != 0 || f != (api.Fault{Code: api.ErrSum, At: 2}) {
		t.Error(b, n, f)
	}
	if _, _, f := frame.Get([]byte{0, 0, 0, 0, 1}, 9); f != (api.Fault{Code: api.ErrSum, At: 1}) {
		t.Error(f)
	}
	if n, ok := frame.Whole([]byte{5}, 9); n != 10 || !ok {
		t.Error(n, ok)
	}
	if l := frame.Scan(append([]byte{200, 200}, seven...), 9); !slices.Equal(l, []int{2}) {
		t.Error(l)
	}
}

// P8.1: Put and Bytes give the frame, of Size bytes.
func TestPutBytesAndSize(t *testing.T) {
	for _, p := range payloads() {
		want := encoding(p)
		w := pen.New(1 + len(want))
		w.Put(9)
		frame.Put(w, p)
		if got, code := w.Bytes(); code != api.OK || !bytes.Equal(got[1:], want) {
			t.Errorf("a frame of %d bytes: %d bytes with %d", len(p), len(got), code)
		}
		if got, code := frame.Bytes(p); code != api.OK || !bytes.Equal(got, want) {
			t.Errorf("the frame of %d bytes: %d bytes with %d", len(p), len(got), code)
		}
		if frame.Size(len(p)) != len(want) || frame.Most(len(p)) != len(want) {
			t.Errorf("Size(%d) = %d, Most %d", len(p), frame.Size(len(p)), frame.Most(len(p)))
		}
		for _, room := range []int{0, 1, len(want) - 4, len(want) - 1} {
			v := pen.New(room)
			frame.Put(v, p)
			if got, code := v.Bytes(); code != api.ErrLong || got != nil || v.Len() > room {
				t.Errorf("a frame of %d bytes in room for %d: %d with %d", len(p), room, v.Len(), code)
			}
		}
	}
}

// P8.1: a negative number of bytes counts as 0, and greater ones are not cut off.
func TestSizeAndMost(t *testing.T) {
	for n, want := range map[int]int{math.MinInt: 5, -200: 5, -1: 5, 0: 5, 1: 6, 127: 132, 128: 134, 16383: 16389, 16384: 16391, api.MaxFrame - 1: api.MaxFrame + 6, api.MaxFrame: api.MaxFrame + 8, api.MaxFrame + 1: api.MaxFrame + 9, 1<<31 - 1: 1<<31 + 8} {
		if frame.Size(n) != want || frame.Most(n) != want {
			t.Errorf("Size(%d) = %d, Most %d, not %d", n, frame.Size(n), frame.Most(n), want)
		}
	}
}

// P8.1, P8.4: a payload of MaxFrame bytes is written and read back, and of a longer one nothing is written.
func TestMaxFrame(t *testing.T) {
	most := count(api.MaxFrame)
	b, code := frame.Bytes(most)
	if code != api.OK || !bytes.Equal(b, encoding(most)) || len(b) != frame.Most(api.MaxFrame) {
		t.Fatal(len(b), code)
	}
	for _, limit := range []int{api.MaxFrame, api.MaxFrame + 1, math.MaxInt} {
		if p, n, f := frame.Get(b, limit); !bytes.Equal(p, most) || n != len(b) || f != good {
			t.Error(limit, len(p), n, f)
		}
	}
	if p, n, f := frame.Get(b, api.MaxFrame-1); p != nil || n != 0 || f != (api.Fault{Code: api.ErrLong, At: 0}) {
		t.Error(len(p), n, f)
	}
	long := append(most, 1)
	if b, code := frame.Bytes(long); b != nil || code != api.ErrLong {
		t.Error(len(b), code)
	}
	w := pen.New(1 << 30)
	w.Put(9)
	frame.Put(w, long)
	if w.Code() != api.ErrLong || w.Len() != 1 {
		t.Error(w.Code(), w.Len())
	}
}

// P8.2, P8.3, P8.5: no limit lets a longer payload in, though all of its frame is there.
func TestLimitAboveMaxFrame(t *testing.T) {
	b := encoding(bytes.Repeat([]byte{255}, api.MaxFrame+1)) // within it no frame begins
	for _, limit := range []int{api.MaxFrame, api.MaxFrame + 1, math.MaxInt} {
		if p, n, f := frame.Get(b, limit); p != nil || n != 0 || f != (api.Fault{Code: api.ErrLong, At: 0}) {
			t.Error(limit, len(p), n, f)
		}
		if n, ok := frame.Whole(b, limit); n != 0 || ok {
			t.Error(limit, n, ok)
		}
		r := cursor.New(b)
		if p := frame.Read(r, limit); p != nil || r.Fault() != (api.Fault{Code: api.ErrLong, At: 0}) {
			t.Error(limit, len(p), r.Fault())
		}
		if at, ok := frame.Next(b, 0, limit); at != 0 || ok {
			t.Error(limit, at, ok)
		}
		if l := frame.Scan(b, limit); len(l) != 0 {
			t.Error(limit, l)
		}
	}
}

// P8.1: with a code nothing is written and the code is kept, and a nil writer takes everything.
func TestPutAfterACode(t *testing.T) {
	long := make([]byte, api.MaxFrame+1)
	w := pen.New(99)
	w.Fail(api.ErrSum)
	frame.Put(w, []byte{7})
	frame.Put(w, nil)
	frame.Put(w, long)
	if w.Code() != api.ErrSum || w.Len() != 0 {
		t.Error(w.Code(), w.Len())
	}
	frame.Put(nil, []byte{7})
	frame.Put(nil, long)
}

// P8.2, P8.4: Read and Get give back what was written, whatever follows, up to most bytes and no more.
func TestReadAndGet(t *testing.T) {
	for _, p := range payloads() {
		b := encoding(p)
		for _, behind := range [][]byte{nil, {0}, {128}, {255, 255}, b} {
			all := join(b, behind)
			for _, most := range []int{len(p), len(p) + 1, api.MaxFrame, math.MaxInt} {
				r := at1(all...)
				if got := frame.Read(r, most); !bytes.Equal(got, p) {
					t.Errorf("%d bytes are read back as %d", len(p), len(got))
				}
				expect(t, r, 1+len(b), good)
				if got, n, f := frame.Get(all, most); !bytes.Equal(got, p) || n != len(b) || f != good {
					t.Errorf("%d bytes are got as %d with %d and %v", len(p), len(got), n, f)
				}
			}
		}
		for _, most := range []int{len(p) - 1, -1, math.MinInt} {
			r := at1(b...)
			if got := frame.Read(r, most); got != nil || r.Fault() != (api.Fault{Code: api.ErrLong, At: 1}) {
				t.Errorf("%d bytes, at most %d: %d with %v", len(p), most, len(got), r.Fault())
			}
			if got, n, f := frame.Get(b, most); got != nil || n != 0 || f != (api.Fault{Code: api.ErrLong}) {
				t.Errorf("%d bytes, at most %d: %d with %d and %v", len(p), most, len(got), n, f)
			}
		}
	}
}

// P8.2: each fault of Read and of Get, the first one, and nothing beside it.
func TestRefuses(t *testing.T) {
	for i, c := range []struct {
		b    []byte
		most int
		f    api.Fault
	}{
		{nil, 9, api.Fault{Code: api.ErrShort, At: 0}},
		{[]byte{128}, 9, api.Fault{Code: api.ErrShort, At: 1}},
		{[]byte{129, 0, 1, 0, 0, 0, 0}, 9, api.Fault{Code: api.ErrNonMinimal, At: 1}},
		{append(bytes.Repeat([]byte{255}, 9), 2), 9, api.Fault{Code: api.ErrOverflow, At: 9}},
		{append(bytes.Repeat([]byte{255}, 9), 1), math.MaxInt, api.Fault{Code: api.ErrLong, At: 0}},
		{[]byte{1}, 9, api.Fault{Code: api.ErrShort, At: 1}},
		{[]byte{3, 1, 2}, 3, api.Fault{Code: api.ErrShort, At: 3}},
		{[]byte{3, 1}, 2, api.Fault{Code: api.ErrLong, At: 0}}, // ahead of ErrShort
		{[]byte{0}, 9, api.Fault{Code: api.ErrShort, At: 1}},
		{[]byte{0, 0, 0, 0}, 9, api.Fault{Code: api.ErrShort, At: 4}},
		{[]byte{0, 1, 1, 1}, 9, api.Fault{Code: api.ErrShort, At: 4}}, // ahead of ErrSum
		{[]byte{0, 1, 0, 0, 0}, 9, api.Fault{Code: api.ErrSum, At: 1}},
		{[]byte{0, 0, 0, 0, 128, 7}, 9, api.Fault{Code: api.ErrSum, At: 1}},
		{[]byte{2, 7, 8, 0, 0, 0, 0}, 9, api.Fault{Code: api.ErrSum, At: 3}},
		{join([]byte{2, 7, 9}, encoding([]byte{7, 8})[3:]), 2, api.Fault{Code: api.ErrSum, At: 3}},
		{join([]byte{1}, encoding([]byte{7, 8})[1:]), 9, api.Fault{Code: api.ErrSum, At: 2}}, // another length
		{join([]byte{1, 7}, pen.Fixed(uint64(^crc.Sum([]byte{7})), 4)), 9, api.Fault{Code: api.ErrSum, At: 2}},
	} {
		if b, n, f := frame.Get(c.b, c.most); b != nil || n != 0 || f != c.f {
			t.Errorf("case %d: %v, %d with %v", i, b, n, f)
		}
		c.f.At++
		r := at1(c.b...)
		if b := frame.Read(r, c.most); b != nil || r.Fault() != c.f {
			t.Errorf("case %d: %v with %v", i, b, r.Fault())
		}
	}
}

// P8.2: a reader with a fault keeps it and its position, and gives nothing; so does a nil reader.
func TestFaultIsKept(t *testing.T) {
	for _, b := range [][]byte{nil, {0}, {0, 0, 0, 0, 0}, {0, 1, 1, 1, 1}, {128, 0}, encoding([]byte{7})} {
		for _, most := range []int{-1, 0, 9, math.MaxInt} {
			r := at1(b...)
			r.Fail(api.ErrRest, 8)
			if p := frame.Read(r, most); p != nil {
				t.Error(b, p)
			}
			expect(t, r, 1, api.Fault{Code: api.ErrRest, At: 8})
			if p := frame.Read(nil, most); p != nil {
				t.Error(p)
			}
		}
	}
}

// P8.2: a frame ends with its part of the bytes.
func TestReadPart(t *testing.T) {
	b := encoding([]byte{7, 8})
	r := at1(b...)
	p := r.Part(len(b) - 1)
	if got := frame.Read(p, 9); got != nil || p.Fault() != (api.Fault{Code: api.ErrShort, At: len(b)}) {
		t.Error(got, p.Fault())
	}
	expect(t, r, 1, good)
}

// P8.3: Whole tells how long the frame is as soon as its length is complete, and no sooner.
func TestWhole(t *testing.T) {
	for _, p := range payloads() {
		b := encoding(p)
		head := varint.Size(uint64(len(p)))
		for k := 0; k <= len(b); k += 1 + len(b)/300 {
			n, ok := frame.Whole(b[:k], api.MaxFrame)
			if ok != (k >= head) || ok && n != len(b) || !ok && n != 0 {
				t.Errorf("%d bytes of a frame of %d: %d, %v", k, len(b), n, ok)
			}
		}
		for _, most := range []int{len(p), math.MaxInt} {
			if n, ok := frame.Whole(b, most); n != len(b) || !ok {
				t.Error(len(p), most, n, ok)
			}
		}
		for _, most := range []int{len(p) - 1, -1, math.MinInt} {
			if n, ok := frame.Whole(b, most); n != 0 || ok {
				t.Error(len(p), most, n, ok)
			}
		}
		b[len(b)-1]++ // the checksum does not count
		if n, ok := frame.Whole(b, len(p)); n != len(b) || !ok {
			t.Error(len(p), n, ok)
		}
	}
	most := varint.Bytes(api.MaxFrame)
	if n, ok := frame.Whole(most, math.MaxInt); n != api.MaxFrame+8 || !ok {
		t.Error(n, ok)
	}
	for _, b := range [][]byte{nil, {128}, {128, 0}, {255, 255, 255}, varint.Bytes(api.MaxFrame + 1), varint.Bytes(math.MaxUint64), append(bytes.Repeat([]byte{255}, 9), 2)} {
		if n, ok := frame.Whole(b, math.MaxInt); n != 0 || ok {
			t.Error(b, n, ok)
		}
	}
}

// P8.4: a proper beginning gives ErrShort at its end.
func TestBeginnings(t *testing.T) {
	for _, p := range payloads() {
		b := encoding(p)
		for k := 0; k < len(b); k += 1 + len(b)/100 {
			if got, n, f := frame.Get(b[:k], api.MaxFrame); got != nil || n != 0 || f != (api.Fault{Code: api.ErrShort, At: k}) {
				t.Errorf("%d bytes of a frame of %d: %v, %d with %v", k, len(b), got, n, f)
			}
		}
	}
}

// P8.4: a burst in the payload and the checksum gives ErrSum at the checksum.
func TestBursts(t *testing.T) {
	for n := range 14 {
		head, rest := encoding(count(n))[:1], encoding(count(n))[1:]
		for at := -31; at < 8*len(rest); at++ {
			for k := range 90 {
				digits := uint32(k)
				if k >= 30 {
					digits = uint32(k) * 2654435761
				}
				c := crc.Turn(rest, at, digits)
				if bytes.Equal(c, rest) {
					continue
				}
				b, size, f := frame.Get(join(head, c), 99)
				if b != nil || size != 0 || f != (api.Fault{Code: api.ErrSum, At: 1 + n}) {
					t.Fatalf("%d bytes, the burst %x at %d: %v, %d with %v", n, digits, at, b, size, f)
				}
			}
		}
	}
}

// texts are all byte strings of up to five of some bytes, with frames of one and of two bytes among them.
func texts() [][]byte {
	l := [][]byte{nil}
	for i := 0; i < len(l) && len(l[i]) < 5; i++ {
		for _, c := range []byte{0, 1, 2, 128, 255} {
			l = append(l, append(slices.Clone(l[i]), c))
		}
	}
	sum := func(b ...byte) []byte { return pen.Fixed(uint64(crc.Sum(b)), 4) }
	for _, b := range slices.Clone(l) {
		if len(b) == 3 {
			l = append(l, join(b, sum()), join(b, sum(b[2:]...)), join(b, sum(b[1:]...)), join(b, sum(b[2:]...), sum()))
		}
	}
	return l
}

// P8.4: writing what was read gives the same bytes, and Read and Get tell the same.
func TestOneEncoding(t *testing.T) {
	accepted, refused := 0, 0
	for _, b := range texts() {
		p, n, f := frame.Get(b, 300)
		r := cursor.New(b)
		if q := frame.Read(r, 300); !bytes.Equal(p, q) || f != r.Fault() {
			t.Fatalf("%v is %v with %v for Get, and %v with %v for Read", b, p, f, q, r.Fault())
		}
		if f != good {
			refused++
			continue
		}
		accepted++
		if got, code := frame.Bytes(p); code != api.OK || !bytes.Equal(got, b[:n]) || n != r.At() {
			t.Fatalf("%v is read as %v, which is written as %v", b, p, got)
		}
	}
	if accepted < 20 || refused < 1000 {
		t.Error("too few to tell:", accepted, refused)
	}
}

// sizes is how many bytes the frame at each position has that Get accepts there, or 0.
func sizes(b []byte, most int) []int {
	l := make([]int, len(b))
	for at := range b {
		_, l[at], _ = frame.Get(b[at:], most)
	}
	return l
}

// next is the definition's words, for such sizes.
func next(l []int, from int) (int, bool) {
	for at := max(from, 0); at < len(l); at++ {
		if l[at] > 0 {
			return at, true
		}
	}
	return 0, false
}

// scan is the definition's words, for such sizes.
func scan(l []int) []int {
	var out []int
	for at, ok := next(l, 0); ok; at, ok = next(l, at+l[at]) {
		out = append(out, at)
	}
	return out
}

// mixed is many bytes, in which frames of all sizes stand: whole ones, changed ones,
// ones within ones, ones cut off, and others between.
func mixed() []byte {
	var b []byte
	x := uint32(1)
	dice := func(n int) int {
		x = x*1664525 + 1013904223
		return int(x>>8) % n
	}
	for range 150 {
		p := count(dice(40) * dice(20))
		whole := encoding(p)
		switch dice(6) {
		case 0:
			b = join(b, whole)
		case 1:
			b = join(b, encoding(join([]byte{9}, whole, []byte{8})))
		case 2:
			b = join(b, crc.Turn(whole, dice(8*len(whole)), 1))
		case 3:
			b = join(b, whole[:dice(len(whole))])
		case 4:
			b = join(b, bytes.Repeat([]byte{byte(128 + dice(128))}, dice(9)))
		default:
			b = join(b, []byte{byte(dice(256)), byte(dice(256)), byte(dice(4))})
		}
	}
	return b
}

// P8.5: Next finds the first position that Get accepts, and Scan all, one behind the other.
func TestNextAndScan(t *testing.T) {
	check := func(b []byte, most, step int) int {
		all := sizes(b, most)
		for from := -1; from <= len(b)+step; from += step {
			at, ok := frame.Next(b, from, most)
			if x, y := next(all, from); at != x || ok != y {
				t.Fatalf("Next of %d bytes from %d, at most %d: %d, %v, not %d, %v", len(b), from, most, at, ok, x, y)
			}
		}
		l := frame.Scan(b, most)
		if !slices.Equal(l, scan(all)) {
			t.Fatalf("Scan of %d bytes, at most %d: %v, not %v", len(b), most, l, scan(all))
		}
		return len(l)
	}
	for _, b := range texts() {
		for _, most := range []int{-1, 0, 1, 300} {
			check(b, most, 1)
		}
	}
	for _, most := range []int{math.MinInt, 0, 60, 127, 128, 400, api.MaxFrame, math.MaxInt} {
		if n := check(mixed(), most, 101); most >= 400 && n < 40 {
			t.Error("too few frames to tell:", n)
		}
	}
}

// P8.5: Next begins at 0 for a negative number, and finds nothing behind the end.
func TestNextEdges(t *testing.T) {
	b := join([]byte{200, 200}, encoding([]byte{7}), encoding(nil))
	for _, c := range []struct {
		from, at int
		ok       bool
	}{
		{math.MinInt, 2, true}, {-1, 2, true}, {0, 2, true}, {1, 2, true}, {2, 2, true},
		{3, 8, true}, {7, 8, true}, {8, 8, true},
		{9, 0, false}, {12, 0, false}, {13, 0, false}, {14, 0, false}, {math.MaxInt, 0, false},
	} {
		if at, ok := frame.Next(b, c.from, 9); at != c.at || ok != c.ok {
			t.Errorf("Next from %d: %d, %v", c.from, at, ok)
		}
	}
	if at, ok := frame.Next(b, 0, 0); at != 8 || !ok { // the frame at 2 is too long
		t.Error(at, ok)
	}
	if at, ok := frame.Next(nil, 0, 9); at != 0 || ok {
		t.Error(at, ok)
	}
	if l := frame.Scan(nil, 9); len(l) != 0 {
		t.Error(l)
	}
	if l := frame.Scan([]byte{200, 1, 2, 3}, 9); len(l) != 0 {
		t.Error(l)
	}
	if l := frame.Scan(make([]byte, 12), 9); !slices.Equal(l, []int{0, 5}) {
		t.Error(l)
	}
}

// P8.5: a frame within a frame is not found, but it is if that one's checksum is wrong.
func TestFramesWithin(t *testing.T) {
	inner := encoding([]byte{7})
	outer := encoding(join(inner, inner))
	if l := frame.Scan(join(outer, inner), 99); !slices.Equal(l, []int{0, len(outer)}) {
		t.Error(l)
	}
	outer[len(outer)-1]++
	if l := frame.Scan(join(outer, inner), 99); !slices.Equal(l, []int{1, 1 + len(inner), len(outer)}) {
		t.Error(l)
	}
}

// row is frames with a gap ahead of each and behind the last, and where they begin.
func row(gap, payload []byte) ([]byte, []int) {
	var b []byte
	var places []int
	for range 5 {
		b = join(b, gap)
		places = append(places, len(b))
		b = join(b, encoding(payload))
	}
	return join(b, gap), places
}

// hidden tells whether a frame begins in a gap, so that Next finds it ahead of a place.
func hidden(b []byte, places []int, size int) bool {
	all, end := sizes(b, 300), 0
	for _, place := range append(slices.Clone(places), len(b)) {
		if at, ok := next(all, end); ok && at < place {
			return true
		}
		end = place + size
	}
	return false
}

// P8.6: Scan finds all frames, whatever lies ahead, between and behind, as long as no frame begins there.
func TestScanFindsAll(t *testing.T) {
	gaps := [][]byte{nil, {200}, {200, 200}, {255, 255, 255, 255}, bytes.Repeat([]byte{129}, 50), {5, 1}, {128, 0}, {1, 7}, encoding([]byte{7})[:5], {0, 1, 1, 1, 1}}
	seen := 0
	for i, p := range payloads()[:10] {
		for k, gap := range gaps {
			b, places := row(gap, p)
			if hidden(b, places, frame.Size(len(p))) {
				continue
			}
			seen++
			if l := frame.Scan(b, 300); !slices.Equal(l, places) {
				t.Errorf("payload %d, gap %d: %v, not %v", i, k, l, places)
			}
		}
	}
	if seen < 80 {
		t.Error("too few to tell:", seen)
	}
}

// P8.5: many lengths that reach far do not keep Scan from coming to its end.
func TestScanOfFarLengths(t *testing.T) {
	b := bytes.Repeat([]byte{255, 255, 31}, 1<<18)
	tail := encoding(count(300))
	if l := frame.Scan(join(b, tail), api.MaxFrame); !slices.Equal(l, []int{len(b)}) {
		t.Error(l)
	}
	if at, ok := frame.Next(join(b, tail), 5, api.MaxFrame); at != len(b) || !ok {
		t.Error(at, ok)
	}
}

// P8.1, P8.2: arguments are not changed or kept, and results are new memory.
func TestMemory(t *testing.T) {
	p := make([]byte, 2, 9)
	copy(p, []byte{7, 8})
	w := pen.New(99)
	frame.Put(w, p)
	whole, _ := frame.Bytes(p)
	p[0] = 99
	if got, _ := w.Bytes(); !bytes.Equal(got, encoding([]byte{7, 8})) || !bytes.Equal(whole, got) || p[1] != 8 {
		t.Error(got, whole, p)
	}
	in := join(whole, []byte{5})
	x, _, _ := frame.Get(in, 9)
	y := frame.Read(cursor.New(in), 9)
	x[0] = 99
	_ = append(x, 98)
	frame.Scan(in, 9)
	frame.Next(in, 0, 9)
	frame.Whole(in, 9)
	if !bytes.Equal(y, []byte{7, 8}) || !bytes.Equal(in, join(whole, []byte{5})) {
		t.Error(y, in)
	}
}

// Ways of layer 8: Get passes the method that reads a frame as a value.
func TestMethodIsPassedAsValue(t *testing.T) {
	file, err := parser.ParseFile(token.NewFileSet(), "frame.go", nil, 0)
	if err != nil {
		t.Fatal(err)
	}
	methods, passed := map[string]bool{}, 0
	for _, d := range file.Decls {
		if f, ok := d.(*ast.FuncDecl); ok && f.Recv != nil {
			methods[f.Name.Name] = true
		}
	}
	for _, d := range file.Decls {
		f, ok := d.(*ast.FuncDecl)
		if !ok || f.Name.Name != "Get" {
			continue
		}
		ast.Inspect(f, func(n ast.Node) bool {
			if c, ok := n.(*ast.CallExpr); ok {
				for _, a := range c.Args {
					if s, ok := a.(*ast.SelectorExpr); ok && methods[s.Sel.Name] {
						passed++
					}
				}
			}
			return true
		})
	}
	if passed == 0 {
		t.Error("Get passes no method")
	}
}
