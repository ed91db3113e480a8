package pen_test

import (
	"bytes"
	"math"
	"testing"

	"tholepin/api"
	"tholepin/pen"
)

// expect checks all that can be seen of a writer.
func expect(t *testing.T, w *pen.Writer, want []byte, room int, code api.Errno) {
	t.Helper()
	if w.Len() != len(want) || w.Room() != room || w.Code() != code {
		t.Errorf("len %d, room %d, code %d, not %d, %d, %d", w.Len(), w.Room(), w.Code(), len(want), room, code)
	}
	b, got := w.Bytes()
	if code != api.OK {
		want = nil
		if b != nil {
			t.Errorf("bytes %v beside the code %d", b, got)
		}
	}
	if got != code || !bytes.Equal(b, want) {
		t.Errorf("bytes %v, code %d, not %v, %d", b, got, want, code)
	}
}

// written is a writer with bytes, which has room for so many more.
func written(room int, b ...byte) *pen.Writer {
	w := pen.New(len(b) + room)
	w.Put(b...)
	return w
}

// P3.1: a new writer is empty, and a negative limit counts as 0.
func TestNew(t *testing.T) {
	for _, c := range [][2]int{{0, 0}, {1, 1}, {3, 3}, {1 << 21, 1 << 21}, {math.MaxInt, math.MaxInt}, {-1, 0}, {-3, 0}, {math.MinInt, 0}} {
		expect(t, pen.New(c[0]), nil, c[1], api.OK)
	}
	w := pen.New(-1)
	w.Put(1)
	expect(t, w, nil, 0, api.ErrLong)
}

// P3.1, P3.2: the examples of the chapter.
func TestExamples(t *testing.T) {
	w := pen.New(3)
	w.Put(1, 2)
	expect(t, w, []byte{1, 2}, 1, api.OK)
	w.Text("ab")
	expect(t, w, []byte{1, 2}, 1, api.ErrLong)
	v := pen.New(3)
	v.Put(1, 2)
	v.Put(3, 4)
	expect(t, v, []byte{1, 2}, 1, api.ErrLong)
	if b := pen.Fixed(258, 3); !bytes.Equal(b, []byte{2, 1, 0}) {
		t.Error(b)
	}
	if b := pen.Fixed(258, 4); !bytes.Equal(b, []byte{2, 1, 0, 0}) {
		t.Error(b)
	}
}

// Ways of layer 3, P3.1: Put takes bytes one by one, in any number, or those of a slice.
func TestPutTakesAnyNumber(t *testing.T) {
	w := pen.New(9)
	w.Put()
	w.Put(1)
	w.Put(2, 3, 4)
	w.Put([]byte{5, 6}...)
	w.Put(nil...)
	expect(t, w, []byte{1, 2, 3, 4, 5, 6}, 3, api.OK)
}

// P3.1: Put and Text append any bytes, as long as there is room for all of them.
func TestPutAndText(t *testing.T) {
	for _, room := range []int{0, 1, 2, 3, 4, 5, 300} {
		for n := range 6 {
			b := []byte{0, 200, 255, 10, 0}[:n]
			w, v := written(room, 7), written(room, 7)
			w.Put(b...)
			v.Text(string(b))
			for _, x := range []*pen.Writer{w, v} {
				if n <= room {
					expect(t, x, append([]byte{7}, b...), room-n, api.OK)
				} else {
					expect(t, x, []byte{7}, room, api.ErrLong)
				}
			}
		}
	}
	w := pen.New(20)
	w.Put()
	w.Text("")
	expect(t, w, nil, 20, api.OK)
	w.Text("aé\xff\x00z") // a text's bytes, not its runes
	expect(t, w, []byte{'a', 0xc3, 0xa9, 0xff, 0, 'z'}, 14, api.OK)
}

// P3.1: a writer that is full still takes nothing, without a fault.
func TestNothingFitsAlways(t *testing.T) {
	for _, w := range []*pen.Writer{pen.New(0), pen.New(-5), written(0, 1, 2)} {
		n := w.Len()
		w.Put()
		w.Put([]byte{}...)
		w.Text("")
		w.Fixed(9, 0)
		w.Fixed(9, -1)
		if w.Code() != api.OK || w.Len() != n || w.Room() != 0 {
			t.Error(w.Code(), w.Len(), w.Room())
		}
	}
}

// fixedCases are how many bytes Fixed gives for a number.
var fixedCases = [][2]int{{0, 0}, {1, 1}, {2, 2}, {3, 3}, {4, 4}, {5, 5}, {6, 6}, {7, 7}, {8, 8}, {9, 8}, {100, 8}, {math.MaxInt, 8}, {-1, 0}, {-8, 0}, {math.MinInt, 0}}

// P3.1, P3.2: both Fixeds give the lowest bytes, the lowest first, none for a negative number and eight for one above.
func TestFixed(t *testing.T) {
	for x, all := range map[uint64][]byte{
		0:                  {0, 0, 0, 0, 0, 0, 0, 0},
		1:                  {1, 0, 0, 0, 0, 0, 0, 0},
		258:                {2, 1, 0, 0, 0, 0, 0, 0},
		0x0807060504030201: {1, 2, 3, 4, 5, 6, 7, 8},
		1 << 63:            {0, 0, 0, 0, 0, 0, 0, 128},
		math.MaxUint64:     {255, 255, 255, 255, 255, 255, 255, 255},
	} {
		for _, c := range fixedCases {
			n, want := c[0], all[:c[1]]
			if b := pen.Fixed(x, n); !bytes.Equal(b, want) {
				t.Errorf("Fixed(%d, %d) = %v", x, n, b)
			}
			w := written(len(want), 9)
			w.Fixed(x, n)
			expect(t, w, append([]byte{9}, want...), 0, api.OK)
			if len(want) == 0 {
				continue
			}
			w = written(len(want)-1, 9)
			w.Fixed(x, n) // all of them or none, as Put
			expect(t, w, []byte{9}, len(want)-1, api.ErrLong)
		}
	}
}

// P3.1: Fail sets the code if there is none, and OK sets none.
func TestFail(t *testing.T) {
	w := written(2, 1)
	w.Fail(api.OK)
	expect(t, w, []byte{1}, 2, api.OK)
	w.Put(2)
	w.Fail(api.ErrInvalid)
	expect(t, w, []byte{1, 2}, 1, api.ErrInvalid)
	w.Fail(api.ErrSum)
	w.Fail(api.OK)
	expect(t, w, []byte{1, 2}, 1, api.ErrInvalid)
	for _, code := range []api.Errno{api.ErrShort, api.ErrForm, 99, -1} {
		v := pen.New(1)
		v.Fail(code)
		expect(t, v, nil, 1, code)
	}
}

// P3.1: while there is a code nothing is written, not even what there is room for, and the code is kept.
func TestNothingIsWrittenAfterACode(t *testing.T) {
	long := written(2, 1)
	long.Put(2, 3, 4)
	failed := written(2, 1)
	failed.Fail(api.ErrInvalid)
	for w, code := range map[*pen.Writer]api.Errno{long: api.ErrLong, failed: api.ErrInvalid} {
		for _, do := range []func(){
			func() { w.Put(5) },
			func() { w.Put() },
			func() { w.Put(5, 6, 7, 8) },
			func() { w.Text("a") },
			func() { w.Text("abcd") },
			func() { w.Fixed(5, 1) },
			func() { w.Fixed(5, 8) },
			func() { w.Fail(api.ErrSum) },
		} {
			do()
			expect(t, w, []byte{1}, 2, code)
		}
	}
}

// P3.2: for a nil writer nothing is written, its numbers are 0 and its code is ErrNil.
func TestNil(t *testing.T) {
	var w *pen.Writer
	for range 2 {
		expect(t, w, nil, 0, api.ErrNil)
		w.Put()
		w.Put(1, 2)
		w.Text("")
		w.Text("ab")
		w.Fixed(258, 3)
		w.Fixed(258, -3)
		w.Fail(api.ErrSum)
		w.Fail(api.OK)
	}
}

// P3.1, P3.2: neither what was put nor what was handed out is the writer's own memory.
func TestCopies(t *testing.T) {
	b := make([]byte, 2, 64)
	copy(b, []byte{1, 2})
	w := pen.New(9)
	w.Put(b...)
	b[0] = 77
	x, _ := w.Bytes()
	y, _ := w.Bytes()
	x[0], x[1] = 99, 99
	_ = append(x, 98)
	w.Put(3)
	if !bytes.Equal(y, []byte{1, 2}) || !bytes.Equal(b[:4], []byte{77, 2, 0, 0}) {
		t.Error(y, b[:4])
	}
	expect(t, w, []byte{1, 2, 3}, 6, api.OK)
	f, g := pen.Fixed(258, 2), pen.Fixed(258, 2)
	f[0] = 99
	if g[0] != 2 {
		t.Error(g)
	}
}

// P3.1: two writers share nothing.
func TestTwoWriters(t *testing.T) {
	w, v := pen.New(4), pen.New(4)
	w.Put(1, 2)
	v.Put(3)
	w.Put(4, 5, 6)
	expect(t, w, []byte{1, 2}, 2, api.ErrLong)
	expect(t, v, []byte{3}, 3, api.OK)
}

// step is a call of a writer, and the bytes that it is to put or the code that it is to set.
type step struct {
	do   func(w *pen.Writer)
	put  []byte
	code api.Errno
}

// steps are the calls of which all short rows are tried below.
func steps() []step {
	return []step{
		{func(w *pen.Writer) { w.Put() }, nil, api.OK},
		{func(w *pen.Writer) { w.Put(1) }, []byte{1}, api.OK},
		{func(w *pen.Writer) { w.Put(2, 3, 4) }, []byte{2, 3, 4}, api.OK},
		{func(w *pen.Writer) { w.Text("") }, nil, api.OK},
		{func(w *pen.Writer) { w.Text("ab") }, []byte("ab"), api.OK},
		{func(w *pen.Writer) { w.Fixed(258, 2) }, []byte{2, 1}, api.OK},
		{func(w *pen.Writer) { w.Fixed(258, -2) }, nil, api.OK},
		{func(w *pen.Writer) { w.Fail(api.ErrInvalid) }, nil, api.ErrInvalid},
		{func(w *pen.Writer) { w.Fail(api.OK) }, nil, api.OK},
	}
}

// P3.3: whatever is put, what was written is all of it up to the first code, and never more than the limit.
func TestAllShortRows(t *testing.T) {
	l := steps()
	for most := range 9 {
		for row := range len(l) * len(l) * len(l) * len(l) {
			w := pen.New(most)
			var want []byte
			code := api.OK
			for k := row; k > 0; k /= len(l) {
				s := l[k%len(l)]
				s.do(w)
				switch {
				case code != api.OK:
				case len(want)+len(s.put) > most:
					code = api.ErrLong
				default:
					want = append(want, s.put...)
					code = s.code
				}
			}
			if w.Len() > most {
				t.Fatalf("row %d: %d bytes of at most %d", row, w.Len(), most)
			}
			expect(t, w, want, most-len(want), code)
			if t.Failed() {
				t.Fatalf("row %d with the limit %d", row, most)
			}
		}
	}
}

// P3.3: many bytes, put in pieces of any size, are written one behind the other up to the limit itself.
func TestManyBytes(t *testing.T) {
	var all []byte
	for i := range 5000 {
		all = append(all, byte(i*7))
	}
	for _, size := range []int{1, 2, 3, 64, 999, 5000} {
		w := pen.New(len(all))
		for at := 0; at < len(all); at += size {
			w.Put(all[at:min(at+size, len(all))]...)
		}
		expect(t, w, all, 0, api.OK)
		w.Put(1)
		expect(t, w, all, 0, api.ErrLong)
	}
}
