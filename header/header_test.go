package header_test

import (
	"bytes"
	"encoding/binary"
	"go/ast"
	"go/parser"
	"go/token"
	"hash/crc32"
	"math"
	"math/rand"
	"slices"
	"strings"
	"testing"

	"tholepin/api"
	"tholepin/crc"
	"tholepin/cursor"
	"tholepin/header"
	"tholepin/pen"
	"tholepin/varint"
)

var good = api.Fault{}

// top is 2^62, which is no epoch and no position.
const top = uint64(1) << 62

// numbers are small ones, those at which an encoding grows, and those around each limit.
func numbers() []uint64 {
	return []uint64{
		0, 1, 2, 5, 127, 128, 300, 16383, 16384, 1<<32 - 1, 1 << 32, 1<<55 - 1, 1<<56 - 1, 1 << 56,
		top - 2, top - 1, top, top + 1, 1 << 63, math.MaxUint64,
	}
}

// headers are all headers of these numbers, right or not.
func headers() []header.Header {
	var l []header.Header
	for _, v := range []int{math.MinInt, -1, 0, 1, 2, 3, 4, 255, 256, 257, 258, 259, math.MaxInt} {
		for _, e := range numbers() {
			for _, base := range numbers() {
				l = append(l, header.Header{Version: v, Epoch: e, Base: base})
			}
		}
	}
	return l
}

// right is the chapter's words, counted in bits.
func right(h header.Header) bool {
	switch h.Version {
	case 1:
		return h.Epoch != 0 && h.Epoch>>62 == 0 && h.Base>>62 == 0
	case 2, 3:
		return h.Epoch != 0 && h.Epoch>>62 == 0 && h.Base == 0
	}
	return false
}

// rights are the right ones of all headers.
func rights() []header.Header {
	var l []header.Header
	for _, h := range headers() {
		if right(h) {
			l = append(l, h)
		}
	}
	return l
}

// summed is bytes and their checksum, by another package's way.
func summed(b []byte) []byte {
	sum := crc32.Checksum(b, crc32.MakeTable(crc32.Castagnoli))
	return binary.LittleEndian.AppendUint32(slices.Clone(b), sum)
}

// fields is the letters, a version and integers.
func fields(version byte, l ...uint64) []byte {
	b := append([]byte("THOL"), version)
	for _, x := range l {
		b = append(b, varint.Bytes(x)...)
	}
	return b
}

// encoding is the definition's words, of a right header.
func encoding(h header.Header) []byte {
	if h.Version == 1 {
		return summed(fields(1, h.Epoch, h.Base))
	}
	return summed(fields(byte(h.Version), h.Epoch))
}

// at1 is a reader of one byte 5 and others, at position 1.
func at1(b ...byte) *cursor.Reader {
	r := cursor.New(append([]byte{5}, b...))
	r.Skip(1)
	return r
}

// expect checks where a reader is, and its fault.
func expect(t *testing.T, r *cursor.Reader, at int, f api.Fault) {
	t.Helper()
	if r.At() != at || r.Fault() != f {
		t.Errorf("at %d with %v, not %d with %v", r.At(), r.Fault(), at, f)
	}
}

// expectedVersion is the version of bytes, and the fault, by the chapter's words.
func expectedVersion(b []byte) (int, api.Fault) {
	switch {
	case len(b) < 4:
		return 0, api.Fault{Code: api.ErrShort, At: len(b)}
	case string(b[:4]) != "THOL":
		return 0, api.Fault{Code: api.ErrMagic}
	case len(b) == 4:
		return 0, api.Fault{Code: api.ErrShort, At: 4}
	case b[4] < 1 || b[4] > 3:
		return 0, api.Fault{Code: api.ErrVersion, At: 4}
	}
	return int(b[4]), good
}

// expected is the header at the front of bytes, how many of them it has, and the fault.
func expected(b []byte) (header.Header, int, api.Fault) {
	v, f := expectedVersion(b)
	if f != good {
		return header.Header{}, 0, f
	}
	h := header.Header{Version: v}
	at := 5
	for k, field := range []*uint64{&h.Epoch, &h.Base} {
		if k == 1 && v != 1 {
			break
		}
		x, n, f := varint.Get(b[at:])
		if f != good {
			return header.Header{}, 0, api.Fault{Code: f.Code, At: at + f.At}
		}
		if x>>62 != 0 || k == 0 && x == 0 {
			return header.Header{}, 0, api.Fault{Code: api.ErrInvalid, At: at}
		}
		*field = x
		at += n
	}
	if len(b) < at+4 {
		return header.Header{}, 0, api.Fault{Code: api.ErrShort, At: len(b)}
	}
	if !bytes.Equal(summed(b[:at]), b[:at+4]) {
		return header.Header{}, 0, api.Fault{Code: api.ErrSum, At: at}
	}
	return h, at + 4, good
}

// check holds all ways of reading some bytes against what is expected.
func check(t *testing.T, b []byte) {
	t.Helper()
	want, size, f := expected(b)
	if h, n, g := header.Get(b); h != want || n != size || g != f {
		t.Fatal(b, h, n, g, "not", want, size, f)
	}
	v, fv := expectedVersion(b)
	if got, g := header.Version(b); got != v || g != fv {
		t.Fatal(b, got, g, "not", v, fv)
	}
	if f != good {
		f.At++
	}
	r := at1(b...)
	if h := header.Read(r); h != want || r.Fault() != f || f == good && r.At() != 1+size {
		t.Fatal(b, h, r.At(), r.Fault(), "not", want, 1+size, f)
	}
}

// P31.1, P31.2: the examples of the chapter.
func TestExamples(t *testing.T) {
	h := header.Header{Version: 3, Epoch: 5}
	b, code := header.Bytes(h)
	if code != api.OK || len(b) != 10 || !bytes.Equal(b[:6], []byte{'T', 'H', 'O', 'L', 3, 5}) || !bytes.Equal(b, summed(b[:6])) {
		t.Error(b, code)
	}
	if got, n, f := header.Get(append(b, 7)); got != h || n != 10 || f != good {
		t.Error(got, n, f)
	}
	b[6] ^= 1
	if got, n, f := header.Get(b); got != (header.Header{}) || n != 0 || f != (api.Fault{Code: api.ErrSum, At: 6}) {
		t.Error(got, n, f)
	}
	if v, f := header.Version([]byte{'T', 'H', 'O', 'L', 2}); v != 2 || f != good {
		t.Error(v, f)
	}
}

// P31.1: the letters, and how many bytes a header has at most.
func TestLettersAndMost(t *testing.T) {
	if header.Letters() != "THOL" || header.Most() != 27 {
		t.Error(header.Letters(), header.Most())
	}
	most := 0
	for _, h := range rights() {
		b, _ := header.Bytes(h)
		most = max(most, len(b))
	}
	if most != 27 {
		t.Error(most)
	}
}

// P31.1: which headers are right.
func TestRight(t *testing.T) {
	for i, c := range []struct {
		h    header.Header
		want bool
	}{
		{header.Header{}, false},
		{header.Header{Version: 1, Epoch: 1}, true},
		{header.Header{Version: 2, Epoch: 1}, true},
		{header.Header{Version: 3, Epoch: 1}, true},
		{header.Header{Version: 0, Epoch: 1}, false},
		{header.Header{Version: 4, Epoch: 1}, false},
		{header.Header{Version: -1, Epoch: 1}, false},
		{header.Header{Version: 257, Epoch: 1}, false}, // as a byte it would be 1
		{header.Header{Version: 3}, false},
		{header.Header{Version: 3, Epoch: top - 1}, true},
		{header.Header{Version: 3, Epoch: top}, false},
		{header.Header{Version: 1, Epoch: 1, Base: 1}, true},
		{header.Header{Version: 1, Epoch: 1, Base: top - 1}, true},
		{header.Header{Version: 1, Epoch: 1, Base: top}, false},
		{header.Header{Version: 1, Epoch: 0, Base: 1}, false},
		{header.Header{Version: 2, Epoch: 1, Base: 1}, false},
		{header.Header{Version: 3, Epoch: 1, Base: 1}, false},
		{header.Header{Version: 3, Epoch: 1, Base: top}, false},
	} {
		if header.Right(c.h) != c.want {
			t.Errorf("case %d: %v", i, !c.want)
		}
	}
	n := 0
	for _, h := range headers() {
		if header.Right(h) != right(h) {
			t.Error(h, header.Right(h))
		}
		if right(h) {
			n++
		}
	}
	if n < 250 {
		t.Error(n)
	}
}

// P31.1: Put and Bytes give the encoding, and nothing of a header that is not right.
func TestPutAndBytes(t *testing.T) {
	for _, h := range headers() {
		b, code := header.Bytes(h)
		w := pen.New(1 + header.Most())
		w.Put(9)
		header.Put(w, h)
		if !right(h) {
			if b != nil || code != api.ErrInvalid || w.Code() != api.ErrInvalid || w.Len() != 1 {
				t.Fatal(h, b, code, w.Code(), w.Len())
			}
			continue
		}
		if code != api.OK || !bytes.Equal(b, encoding(h)) {
			t.Fatal(h, b, code)
		}
		if got, code := w.Bytes(); code != api.OK || got[0] != 9 || !bytes.Equal(got[1:], b) {
			t.Fatal(h, got, code)
		}
	}
}

// P31.1: a writer with too little room has ErrLong, but a header that is not right is ErrInvalid
// there too, and nothing of it is written.
func TestPutWithoutRoom(t *testing.T) {
	for _, h := range []header.Header{{Version: 1, Epoch: 1, Base: 300}, {Version: 2, Epoch: 300}, {Version: 3, Epoch: top - 1}} {
		size := len(encoding(h))
		for room := range size {
			w := pen.New(room)
			header.Put(w, h)
			if got, code := w.Bytes(); got != nil || code != api.ErrLong || w.Len() > room {
				t.Error(h, room, got, code, w.Len())
			}
			for _, wrong := range []header.Header{{Epoch: h.Epoch}, {Version: h.Version}, {Version: h.Version, Epoch: h.Epoch, Base: top}, {Version: 3, Epoch: h.Epoch, Base: 1}} {
				w := pen.New(room)
				header.Put(w, wrong)
				if w.Code() != api.ErrInvalid || w.Len() != 0 {
					t.Error(wrong, room, w.Code(), w.Len())
				}
			}
		}
		w := pen.New(size)
		header.Put(w, h)
		if w.Code() != api.OK || w.Room() != 0 {
			t.Error(h, w.Code(), w.Room())
		}
	}
}

// P31.1: with a code nothing is written and the code is kept, and a nil writer takes everything.
func TestPutAfterACode(t *testing.T) {
	for _, h := range []header.Header{{Version: 1, Epoch: 1, Base: 300}, {Version: 3, Epoch: 5}, {}, {Version: 3, Epoch: 5, Base: 1}} {
		w := pen.New(40)
		w.Fail(api.ErrSum)
		header.Put(w, h)
		if w.Code() != api.ErrSum || w.Len() != 0 {
			t.Error(h, w.Code(), w.Len())
		}
		header.Put(nil, h)
	}
	w := pen.New(40)
	header.Put(w, header.Header{})
	header.Put(w, header.Header{Version: 3, Epoch: 5})
	if w.Code() != api.ErrInvalid || w.Len() != 0 {
		t.Error(w.Code(), w.Len())
	}
}

// P31.2, P31.3: what was written is read back, whatever follows, and no beginning of it is a header.
func TestReads(t *testing.T) {
	for _, h := range rights() {
		b := encoding(h)
		for _, behind := range [][]byte{nil, {0}, {255, 255}, b} {
			all := append(slices.Clone(b), behind...)
			check(t, all)
			if got, n, f := header.Get(all); got != h || n != len(b) || f != good {
				t.Fatal(h, got, n, f)
			}
		}
		for n := range b {
			check(t, b[:n])
			if got, size, f := header.Get(b[:n]); got != (header.Header{}) || size != 0 || f != (api.Fault{Code: api.ErrShort, At: n}) {
				t.Fatal(h, n, got, size, f)
			}
		}
	}
}

// P31.2: each fault, the first one in the order of the bytes, and nothing beside it.
func TestRefuses(t *testing.T) {
	over := append(bytes.Repeat([]byte{255}, 9), 2)
	join := func(l ...[]byte) []byte { return slices.Concat(l...) }
	for i, c := range []struct {
		b []byte
		f api.Fault
	}{
		// the letters
		{nil, api.Fault{Code: api.ErrShort, At: 0}},
		{[]byte("THO"), api.Fault{Code: api.ErrShort, At: 3}},
		{[]byte("XYZ"), api.Fault{Code: api.ErrShort, At: 3}}, // ahead of ErrMagic
		{[]byte("THOX"), api.Fault{Code: api.ErrMagic, At: 0}},
		{[]byte("XHOL\x03\x05"), api.Fault{Code: api.ErrMagic, At: 0}},
		{[]byte("LOHT\x03\x05"), api.Fault{Code: api.ErrMagic, At: 0}},
		{[]byte("thol\x03\x05"), api.Fault{Code: api.ErrMagic, At: 0}},
		{[]byte("THOK\x09"), api.Fault{Code: api.ErrMagic, At: 0}}, // ahead of ErrVersion
		{[]byte("\x00THOL\x03\x05"), api.Fault{Code: api.ErrMagic, At: 0}},
		// the version
		{[]byte("THOL"), api.Fault{Code: api.ErrShort, At: 4}},
		{summed(fields(0, 5)), api.Fault{Code: api.ErrVersion, At: 4}},
		{summed(fields(4, 5)), api.Fault{Code: api.ErrVersion, At: 4}},
		{summed(fields(129, 5)), api.Fault{Code: api.ErrVersion, At: 4}},
		{summed(fields(255, 5)), api.Fault{Code: api.ErrVersion, At: 4}},
		{fields('3'), api.Fault{Code: api.ErrVersion, At: 4}}, // ahead of the epoch that is missing
		// the epoch
		{fields(3), api.Fault{Code: api.ErrShort, At: 5}},
		{append(fields(3), 128), api.Fault{Code: api.ErrShort, At: 6}},
		{summed(append(fields(3), 133, 0)), api.Fault{Code: api.ErrNonMinimal, At: 6}},
		{summed(append(fields(3), over...)), api.Fault{Code: api.ErrOverflow, At: 14}},
		{summed(fields(3, 0)), api.Fault{Code: api.ErrInvalid, At: 5}},
		{summed(fields(1, 0, 0)), api.Fault{Code: api.ErrInvalid, At: 5}},
		{summed(fields(2, top)), api.Fault{Code: api.ErrInvalid, At: 5}},
		{summed(fields(1, top, top)), api.Fault{Code: api.ErrInvalid, At: 5}},
		{fields(1, math.MaxUint64), api.Fault{Code: api.ErrInvalid, At: 5}}, // ahead of the base that is missing
		{fields(3, 0), api.Fault{Code: api.ErrInvalid, At: 5}},              // ahead of the checksum that is missing
		// the base
		{fields(1, 300), api.Fault{Code: api.ErrShort, At: 7}},
		{summed(fields(1, 300, top)), api.Fault{Code: api.ErrInvalid, At: 7}},
		{fields(1, 300, math.MaxUint64), api.Fault{Code: api.ErrInvalid, At: 7}},
		{summed(append(fields(1, 300), 128, 0)), api.Fault{Code: api.ErrNonMinimal, At: 8}},
		{summed(append(fields(1, 300), over...)), api.Fault{Code: api.ErrOverflow, At: 16}},
		// the checksum
		{fields(3, 5), api.Fault{Code: api.ErrShort, At: 6}},
		{summed(fields(3, 5))[:9], api.Fault{Code: api.ErrShort, At: 9}},
		{join(fields(3, 5), []byte{1, 2, 3}), api.Fault{Code: api.ErrShort, At: 9}}, // ahead of ErrSum
		{join(fields(3, 5), []byte{0, 0, 0, 0}), api.Fault{Code: api.ErrSum, At: 6}},
		{join(fields(2, 300), []byte{1, 2, 3, 4, 5}), api.Fault{Code: api.ErrSum, At: 7}},
		{join(fields(1, 300, 300), []byte{1, 2, 3, 4}), api.Fault{Code: api.ErrSum, At: 9}},
		{join(fields(3, 5), summed([]byte{3, 5})[2:]), api.Fault{Code: api.ErrSum, At: 6}},                    // of the fields alone
		{join(fields(3, 5), summed([]byte("THOL"))[4:]), api.Fault{Code: api.ErrSum, At: 6}},                  // of the letters alone
		{join(fields(1, 5, 6), summed(fields(1, 5))[6:]), api.Fault{Code: api.ErrSum, At: 7}},                 // without the base
		{summed(fields(3, 5, 6)), api.Fault{Code: api.ErrSum, At: 6}},                                         // with a base, which there is none of
		{join(fields(3, 5), []byte{0, 0}, summed(fields(3, 5))[6:]), api.Fault{Code: api.ErrSum, At: 6}},      // not at once behind
		{join(fields(3, 5), reversed(summed(fields(3, 5))[6:])), api.Fault{Code: api.ErrSum, At: 6}},          // the highest byte first
		{append(fields(2, 5), summed(fields(3, 5))[6:]...), api.Fault{Code: api.ErrSum, At: 6}},               // of another version
		{append(fields(3, 6), summed(fields(3, 5))[6:]...), api.Fault{Code: api.ErrSum, At: 6}},               // of another epoch
		{append(fields(1, 5, 7), summed(fields(1, 5, 6))[7:]...), api.Fault{Code: api.ErrSum, At: 7}},         // of another base
		{append(fields(1, 5, 7), summed(fields(2, 5))[6:]...), api.Fault{Code: api.ErrSum, At: 7}},            // of another header
		{append(fields(1, top-1, top-1), summed(fields(1))[5:]...), api.Fault{Code: api.ErrSum, At: 23}},      // as far behind as it can be
		{append([]byte("THOL\x03\x05"), bytes.Repeat([]byte{255}, 9)...), api.Fault{Code: api.ErrSum, At: 6}}, // whatever follows
	} {
		if h, n, f := header.Get(c.b); h != (header.Header{}) || n != 0 || f != c.f {
			t.Errorf("case %d: %v, %d, %v", i, h, n, f)
		}
		check(t, c.b)
	}
}

// reversed is bytes, the last one first.
func reversed(b []byte) []byte {
	out := slices.Clone(b)
	slices.Reverse(out)
	return out
}

// P31.2: the version is that of the first five bytes, whatever stands behind them, or nothing does.
func TestVersion(t *testing.T) {
	for v := range 256 {
		want, f := 0, api.Fault{Code: api.ErrVersion, At: 4}
		if v >= 1 && v <= 3 {
			want, f = v, good
		}
		for _, behind := range []string{"", "\x00", "\x05", strings.Repeat("\xff", 40)} {
			if got, g := header.Version([]byte("THOL" + string([]byte{byte(v)}) + behind)); got != want || g != f {
				t.Error(v, behind, got, g)
			}
		}
	}
	for n, s := range []string{"", "T", "TH", "THO", "THOL"} {
		if got, f := header.Version([]byte(s)); got != 0 || f != (api.Fault{Code: api.ErrShort, At: n}) {
			t.Error(s, got, f)
		}
	}
	for k := range 4 {
		b := []byte("THOL\x03")
		for c := range 256 {
			want, f := 0, api.Fault{Code: api.ErrMagic}
			if byte(c) == "THOL"[k] {
				want, f = 3, good
			}
			b[k] = byte(c)
			if got, g := header.Version(b); got != want || g != f {
				t.Error(b, got, g)
			}
		}
	}
}

// P31.2: a reader with a fault keeps it and its position, and a nil reader gives no header.
func TestFaultIsKept(t *testing.T) {
	for _, b := range [][]byte{encoding(header.Header{Version: 3, Epoch: 5}), nil, []byte("XYZT"), []byte("THOL\x07"), fields(3, 5)} {
		r := at1(b...)
		r.Fail(api.ErrRest, 8)
		if h := header.Read(r); h != (header.Header{}) {
			t.Error(b, h)
		}
		expect(t, r, 1, api.Fault{Code: api.ErrRest, At: 8})
	}
	if h := header.Read(nil); h != (header.Header{}) {
		t.Error(h)
	}
}

// P31.2: headers are read one behind the other, within their part of the bytes, each with its own checksum.
func TestReadOn(t *testing.T) {
	l := []header.Header{{Version: 1, Epoch: 300, Base: 9}, {Version: 3, Epoch: 5}, {Version: 2, Epoch: top - 1}}
	var b []byte
	for _, h := range l {
		b = append(b, encoding(h)...)
	}
	r := at1(b...)
	at := 1
	for _, want := range l {
		p := r.Part(len(encoding(want)) - 1)
		if h := header.Read(p); h != (header.Header{}) {
			t.Error(h)
		}
		if f := p.Fault(); f != (api.Fault{Code: api.ErrShort, At: at + len(encoding(want)) - 1}) {
			t.Error(f)
		}
		q := r.Part(len(encoding(want)))
		if h := header.Read(q); h != want || !q.Good() || q.Left() != 0 {
			t.Error(h, q.Fault())
		}
		expect(t, r, at, good)
		if h := header.Read(r); h != want {
			t.Error(h)
		}
		at += len(encoding(want))
		expect(t, r, at, good)
	}
}

// P31.2: bytes that were changed, and any bytes behind the letters.
func TestAnyBytes(t *testing.T) {
	rnd := rand.New(rand.NewSource(31))
	l := rights()
	for range 30000 {
		b := encoding(l[rnd.Intn(len(l))])
		for range rnd.Intn(3) {
			b[rnd.Intn(len(b))] = byte(rnd.Intn(1 << rnd.Intn(9)))
		}
		check(t, b)
		b = []byte("THOL")[:4-rnd.Intn(8)/7]
		for range rnd.Intn(12) {
			b = append(b, byte(rnd.Intn(1<<rnd.Intn(9))))
		}
		check(t, b)
		if len(b) > 5 {
			check(t, summed(b))
		}
	}
}

// P31.3: what was read is right, and writing it gives the same bytes: no two byte strings are one header.
func TestOneEncoding(t *testing.T) {
	letters := []byte{0, 1, 5, 127, 128, 129, 255}
	texts := [][]byte{nil}
	for i := 0; i < len(texts) && len(texts[i]) < 4; i++ {
		for _, c := range letters {
			texts = append(texts, append(slices.Clone(texts[i]), c))
		}
	}
	accepted, refused := 0, 0
	seen := map[header.Header]string{}
	for _, b := range texts {
		for v := range byte(5) {
			all := summed(append(fields(v), b...))
			check(t, all)
			h, n, f := header.Get(all)
			if f != good {
				refused++
				continue
			}
			accepted++
			if again, code := header.Bytes(h); code != api.OK || !bytes.Equal(again, all[:n]) || !right(h) {
				t.Fatal(all, h, again, code)
			}
			if before, there := seen[h]; there && before != string(all[:n]) {
				t.Fatal(h, all)
			}
			seen[h] = string(all[:n])
		}
	}
	if accepted < 500 || refused < 5000 {
		t.Error(accepted, refused)
	}
}

// spare is the digits of a burst, without those that would turn the letters, the version, or the
// highest bit of a byte ahead of the checksum, which are bytes up to sumAt.
func spare(at int, digits uint32, sumAt int) uint32 {
	for i := range 32 {
		bit := at + i
		if bit < 40 || bit%8 == 7 && bit/8 < sumAt {
			digits &^= 1 << i
		}
	}
	return digits
}

// P31.3: a header in which a burst changed bits is rejected.
func TestBursts(t *testing.T) {
	rnd := rand.New(rand.NewSource(7))
	codes := map[api.Errno]int{}
	for _, h := range rights() {
		b := encoding(h)
		for at := 9; at < 8*len(b); at++ {
			for _, digits := range []uint32{1, 3, 1 << 31, math.MaxUint32, rnd.Uint32(), rnd.Uint32(), rnd.Uint32() & rnd.Uint32() & rnd.Uint32()} {
				turned := crc.Turn(b, at, spare(at, digits, len(b)-4))
				if bytes.Equal(turned, b) {
					continue
				}
				got, n, f := header.Get(turned)
				if got != (header.Header{}) || n != 0 || f == good {
					t.Fatal(h, at, digits, got, n)
				}
				codes[f.Code]++
			}
		}
	}
	if codes[api.ErrSum] < 50000 || codes[api.ErrInvalid] < 1000 {
		t.Error(codes)
	}
}

// Rules 4 and 7: arguments stay as they are, and what is given is new memory.
func TestMemory(t *testing.T) {
	h := header.Header{Version: 3, Epoch: 5}
	x, _ := header.Bytes(h)
	y, _ := header.Bytes(h)
	x[0] = 77
	_ = append(x[:1], 78)
	if !bytes.Equal(y, encoding(h)) {
		t.Error(y)
	}
	in := append(encoding(h), 9)
	before := slices.Clone(in)
	header.Get(in)
	header.Version(in)
	header.Read(cursor.New(in))
	if !bytes.Equal(in, before) {
		t.Error(in)
	}
}

// Ways of layer 31: Right compares headers as a whole.
func TestRightComparesHeaders(t *testing.T) {
	file, err := parser.ParseFile(token.NewFileSet(), "header.go", nil, 0)
	if err != nil {
		t.Fatal(err)
	}
	compared := false
	for _, d := range file.Decls {
		f, ok := d.(*ast.FuncDecl)
		if !ok || f.Name.Name != "Right" {
			continue
		}
		ast.Inspect(f, func(n ast.Node) bool {
			if x, ok := n.(*ast.BinaryExpr); ok && x.Op == token.EQL {
				name, ok := x.X.(*ast.Ident)
				compared = compared || ok && name.Name == "h"
			}
			return true
		})
	}
	if !compared {
		t.Error("Right compares no headers")
	}
}
