package rpc_test

import (
	"bytes"
	"fmt"
	"go/ast"
	"go/parser"
	"go/token"
	"math"
	"math/rand"
	"path/filepath"
	"slices"
	"strings"
	"testing"

	"tholepin/api"
	"tholepin/block"
	"tholepin/body"
	"tholepin/crc"
	"tholepin/cursor"
	"tholepin/epoch"
	"tholepin/frame"
	"tholepin/pen"
	"tholepin/rpc"
	"tholepin/varint"
)

var good = api.Fault{}

// The greatest numbers, and how many bytes of data a message has at most.
const (
	top       = uint64(math.MaxUint64)
	lastEpoch = uint64(1)<<62 - 1
	maxPos    = uint64(1) << 62
	mostData  = 1 << 20
	mostFrame = 1 << 21
)

// all is a projection of all positions.
func all(e uint64) api.Projection {
	return api.Projection{Epoch: e, Stripes: []api.Stripe{{To: maxPos, Sets: [][]uint64{{7}}}}}
}

// forty is forty bytes of which the canonical block is compressed.
func forty() []byte { return bytes.Repeat([]byte{'a'}, 40) }

// basic is a valid message of a kind from 1 to 14.
func basic(k int) api.Msg {
	return []api.Msg{
		{},
		{Kind: 1, Epoch: 3, Seq: 5, Pos: 300},
		{Kind: 2, Epoch: 3, Seq: 5, Pos: 300, Data: []byte{7, 8}},
		{Kind: 3, Epoch: 3, Seq: 5},
		{Kind: 4, Epoch: 3, Seq: 5, Pos: 300},
		{Kind: 5, Epoch: 3, Seq: 5, Pos: 300},
		{Kind: 6, Epoch: 3, Seq: 5, Count: 2, Streams: []uint64{5, 7}},
		{Kind: 7, Epoch: 3, Seq: 5},
		{Kind: 8, Epoch: 3, Seq: 5, Proj: all(3)},
		{Kind: 9, Epoch: 3, Seq: 5, State: 1, Data: []byte{7, 8}},
		{Kind: 10, Epoch: 3, Seq: 5},
		{Kind: 11, Epoch: 3, Seq: 5, Seal: api.Seal{Epoch: 3, Node: 1, Tail: 300}},
		{Kind: 12, Epoch: 3, Seq: 5, Pos: 300, Links: []api.Link{{Stream: 5, Backs: []uint64{299, 10}}, {Stream: 7}}},
		{Kind: 13, Epoch: 3, Seq: 5, Proj: all(1)},
		{Kind: 14, Epoch: 3, Seq: 5, State: 18},
	}[k]
}

// rights are valid messages of all kinds.
func rights() []api.Msg {
	var l []api.Msg
	for k := 1; k <= 14; k++ {
		for _, e := range []uint64{1, 3, 128, lastEpoch} {
			for _, seq := range []uint64{0, 1, 300, maxPos, top} {
				m := basic(k)
				m.Epoch, m.Seq = e, seq
				l = append(l, m)
			}
		}
	}
	for _, data := range [][]byte{nil, {0}, forty(), bytes.Repeat([]byte{1, 2, 3}, 200)} {
		l = append(l, api.Msg{Kind: api.Write, Epoch: 1, Data: data}, api.Msg{Kind: api.Value, Epoch: 1, State: api.Written, Data: data})
	}
	for s := 2; s <= 4; s++ {
		l = append(l, api.Msg{Kind: api.Value, Epoch: 1, State: s})
	}
	return append(l, api.Msg{Kind: api.Take, Epoch: 1, Count: 1}, api.Msg{Kind: api.Taken, Epoch: 1, Pos: maxPos - 1})
}

// wrongs are messages that are not valid.
func wrongs() []api.Msg {
	l := []api.Msg{
		{}, {Epoch: 1}, {Kind: -1, Epoch: 1}, {Kind: 15, Epoch: 1}, {Kind: 256 + 1, Epoch: 1}, {Kind: 256 + api.Done, Epoch: 1},
		{Kind: math.MinInt, Epoch: 1}, {Kind: math.MaxInt, Epoch: 1},
		{Kind: api.Read, Epoch: 1, Pos: maxPos}, {Kind: api.Value, Epoch: 1}, {Kind: api.Value, Epoch: 1, State: 257},
		{Kind: api.Value, Epoch: 1, State: api.Filled, Data: []byte{7}}, {Kind: api.Failed, Epoch: 1, State: 21},
		{Kind: api.Take, Epoch: 1}, {Kind: api.Taken, Epoch: 1, Links: []api.Link{{Backs: []uint64{0}}}},
		{Kind: api.Write, Epoch: 1, Data: make([]byte, mostData+1)}, {Kind: api.PutProj, Epoch: 1}, {Kind: api.Sealed, Epoch: 1},
		{Kind: api.Done, Epoch: 1, Pos: 1}, {Kind: api.GetProj, Epoch: 1, Data: []byte{7}},
	}
	for k := 1; k <= 14; k++ {
		for _, e := range []uint64{0, lastEpoch + 1, maxPos, top} {
			m := basic(k)
			m.Epoch = e
			l = append(l, m)
		}
	}
	return l
}

// payload is the payload of a valid message.
func payload(m api.Msg) []byte {
	s, _ := body.Bytes(m)
	return slices.Concat([]byte{byte(m.Kind)}, varint.Bytes(m.Epoch), varint.Bytes(m.Seq), s)
}

// framed is the frame of a payload.
func framed(p []byte) []byte {
	sum := crc.Sum(p)
	return slices.Concat(varint.Bytes(uint64(len(p))), p, []byte{byte(sum), byte(sum >> 8), byte(sum >> 16), byte(sum >> 24)})
}

// text is a message in words, in which nil and empty lists are the same.
func text(m api.Msg) string { return fmt.Sprint(m) }

// zero tells whether a message is the zero one.
func zero(m api.Msg) bool { return text(m) == text(api.Msg{}) }

// join is bytes and integers, written one behind the other: an int is a byte.
func join(l ...any) []byte {
	var s []byte
	for _, x := range l {
		switch y := x.(type) {
		case int:
			s = append(s, byte(y))
		case uint64:
			s = append(s, varint.Bytes(y)...)
		case []byte:
			s = append(s, y...)
		}
	}
	return s
}

// expected is the message of a payload that lies among the bytes of a reader, by the chapter's words.
func expected(r *cursor.Reader, loose bool) (m api.Msg, own bool, f api.Fault) {
	at := r.At()
	k := int(r.Byte())
	if r.Good() && (k < 1 || k > 14) {
		return m, false, api.Fault{Code: api.ErrKind, At: at}
	}
	e := epoch.Read(r)
	seq := varint.Read(r)
	if !r.Good() {
		return m, false, r.Fault()
	}
	if own = true; loose {
		m, own = body.ReadLoose(r, k)
	} else {
		m = body.Read(r, k)
	}
	if r.Good() && r.Left() > 0 {
		return api.Msg{}, false, api.Fault{Code: api.ErrRest, At: r.At()}
	}
	if !r.Good() {
		return api.Msg{}, false, r.Fault()
	}
	m.Epoch, m.Seq = e, seq
	return m, own, good
}

// expectedFront is the message at the front of bytes, by the chapter's words.
func expectedFront(s []byte, loose bool) (m api.Msg, own bool, n int, f api.Fault) {
	p, n, f := frame.Get(s, mostFrame)
	if f != good {
		return m, false, 0, f
	}
	r := cursor.New(s)
	r.Skip(n - 4 - len(p))
	if m, own, f = expected(r.Part(len(p)), loose); f != good {
		return m, false, 0, f
	}
	return m, own, n, f
}

// check holds all readers of bytes, taken as messages, against the chapter's words, and tells whether
// Decode and DecodeLoose accept them.
func check(t *testing.T, s []byte) (strict, loose bool) {
	t.Helper()
	m, _, n, f := expectedFront(s, false)
	if got, size, fault := rpc.Get(s); text(got) != text(m) || size != n || fault != f {
		t.Fatalf("Get(%x) = %.200s, %d, %v, not %.200s, %d, %v", s, text(got), size, fault, text(m), n, f)
	}
	if f == good && n < len(s) {
		m, f = api.Msg{}, api.Fault{Code: api.ErrRest, At: n}
	}
	if got, fault := rpc.Decode(s); text(got) != text(m) || fault != f {
		t.Fatalf("Decode(%x) = %.200s, %v, not %.200s, %v", s, text(got), fault, text(m), f)
	}
	strict = f == good
	m, own, n, f := expectedFront(s, true)
	if f == good && n < len(s) {
		m, own, f = api.Msg{}, false, api.Fault{Code: api.ErrRest, At: n}
	}
	if got, o, fault := rpc.DecodeLoose(s); text(got) != text(m) || o != own || fault != f {
		t.Fatalf("DecodeLoose(%x) = %.200s, %v, %v, not %.200s, %v, %v", s, text(got), o, fault, text(m), own, f)
	}
	return strict, f == good
}

// P29.1 to P29.3: the examples of the chapter, and those of the document.
func TestExamples(t *testing.T) {
	m := api.Msg{Kind: api.Read, Epoch: 3, Seq: 5, Pos: 300}
	p, code := rpc.Payload(m)
	if code != api.OK || !bytes.Equal(p, []byte{1, 3, 5, 0xac, 2}) {
		t.Error(p, code)
	}
	s, _ := rpc.Bytes(m)
	if got, f := rpc.Decode(s); text(got) != text(m) || f != good {
		t.Error(text(got), f)
	}
	sum := crc.Sum([]byte{7, 3, 5})
	want := []byte{3, 7, 3, 5, byte(sum), byte(sum >> 8), byte(sum >> 16), byte(sum >> 24)}
	if s, code := rpc.Bytes(api.Msg{Kind: api.GetProj, Epoch: 3, Seq: 5}); code != api.OK || !bytes.Equal(s, want) {
		t.Error(s, code)
	}
	if m, f := rpc.ReadPayload([]byte{15, 1, 1}); !zero(m) || f != (api.Fault{Code: api.ErrKind}) {
		t.Error(text(m), f)
	}
}

// P29.1: a message is valid if its Epoch is an epoch and its body is valid, whatever its Seq.
func TestRight(t *testing.T) {
	for _, m := range rights() {
		if !rpc.Right(m) {
			t.Error(text(m))
		}
	}
	for _, m := range wrongs() {
		if rpc.Right(m) {
			t.Errorf("%.200s", text(m))
		}
	}
}

// P29.1: Payload, Bytes and Put write a valid message.
func TestWritesValidMessages(t *testing.T) {
	for _, m := range rights() {
		want := payload(m)
		if p, code := rpc.Payload(m); code != api.OK || !bytes.Equal(p, want) {
			t.Errorf("%s: %x, %v", text(m), p, code)
		}
		want = framed(want)
		if s, code := rpc.Bytes(m); code != api.OK || !bytes.Equal(s, want) {
			t.Errorf("%s: %x, %v", text(m), s, code)
		}
		w := pen.New(1 + len(want))
		w.Put(9)
		rpc.Put(w, m)
		if s, code := w.Bytes(); code != api.OK || s[0] != 9 || !bytes.Equal(s[1:], want) {
			t.Errorf("%s: %x, %v", text(m), s, code)
		}
		w = pen.New(len(want) - 1)
		rpc.Put(w, m)
		if w.Code() != api.ErrLong {
			t.Error(text(m), w.Code())
		}
	}
}

// P29.1: nothing is written of a message that is not valid, and too little room is no code of it.
func TestWritesNothingElse(t *testing.T) {
	for _, m := range wrongs() {
		if p, code := rpc.Payload(m); p != nil || code != api.ErrInvalid {
			t.Errorf("%.200s: %d, %v", text(m), len(p), code)
		}
		if s, code := rpc.Bytes(m); s != nil || code != api.ErrInvalid {
			t.Errorf("%.200s: %d, %v", text(m), len(s), code)
		}
		for _, room := range []int{0, 1, 1000} {
			w := pen.New(1 + room)
			w.Put(9)
			rpc.Put(w, m)
			if w.Code() != api.ErrInvalid || w.Len() != 1 {
				t.Errorf("%.200s: %v, %d", text(m), w.Code(), w.Len())
			}
		}
	}
}

// P29.1: a writer keeps its first code, and a nil one is none.
func TestWriterWithCode(t *testing.T) {
	for _, m := range []api.Msg{basic(api.Read), {}} {
		w := pen.New(100)
		w.Put(9)
		w.Fail(api.ErrState)
		rpc.Put(w, m)
		if w.Code() != api.ErrState || w.Len() != 1 {
			t.Error(text(m), w.Code(), w.Len())
		}
		rpc.Put(nil, m)
	}
}

// P29.1: All is the encodings one behind the other, or nothing if one message is not valid.
func TestAll(t *testing.T) {
	var want []byte
	for _, m := range rights() {
		want = append(want, framed(payload(m))...)
	}
	if s, code := rpc.All(rights()); code != api.OK || !bytes.Equal(s, want) {
		t.Error(len(s), code)
	}
	for _, l := range [][]api.Msg{nil, {}} {
		if s, code := rpc.All(l); len(s) != 0 || code != api.OK {
			t.Error(s, code)
		}
	}
	for _, wrong := range wrongs() {
		for _, l := range [][]api.Msg{{wrong}, {wrong, basic(1)}, {basic(1), wrong}, {basic(1), wrong, basic(2)}, {wrong, wrong}} {
			if s, code := rpc.All(l); s != nil || code != api.ErrInvalid {
				t.Errorf("%.200s: %d, %v", text(wrong), len(s), code)
			}
		}
	}
}

// P29.2: each fault of a payload, and of two the one that is ahead.
func TestReadPayload(t *testing.T) {
	for i, c := range []struct {
		p    []byte
		code api.Errno
		at   int
	}{
		{nil, api.ErrShort, 0},
		{join(0), api.ErrKind, 0},
		{join(15), api.ErrKind, 0},
		{join(15, 0), api.ErrKind, 0},
		{join(0x80), api.ErrKind, 0},
		{join(255, 1, 1), api.ErrKind, 0},
		{join(1), api.ErrShort, 1},
		{join(1, 0), api.ErrInvalid, 1},
		{join(1, 0, 0x80, 0), api.ErrInvalid, 1},
		{join(1, 0x80), api.ErrShort, 2},
		{join(1, 0x83, 0), api.ErrNonMinimal, 2},
		{join(1, lastEpoch+1), api.ErrInvalid, 1},
		{join(1, top, 1, 1), api.ErrInvalid, 1},
		{join(1, bytes.Repeat([]byte{255}, 9), 2), api.ErrOverflow, 10},
		{join(1, 3), api.ErrShort, 2},
		{join(1, 3, 0x80), api.ErrShort, 3},
		{join(1, 3, 0x85, 0), api.ErrNonMinimal, 3},
		{join(1, 3, bytes.Repeat([]byte{255}, 9), 2), api.ErrOverflow, 11},
		{join(1, 3, 5), api.ErrShort, 3},
		{join(1, 3, 5, maxPos), api.ErrInvalid, 3},
		{join(9, 3, 5, 5), api.ErrInvalid, 3},
		{join(6, 3, 5, 2, 17), api.ErrLong, 4},
		{join(2, 3, 5, 1, 40, 0, forty()), api.ErrNonCanonical, 46},
		{join(2, 3, 5, 1, 40, 2, forty()), api.ErrKind, 5},
		{join(7, 3, 5, 0), api.ErrRest, 3},
		{join(1, 3, 5, 9, 9, 9), api.ErrRest, 4},
		{join(2, 3, 5, 1, 40, 1, 4, 0, 97, 71, 0, 1), api.ErrRest, 11},
		{join(7, 3, 5), api.OK, 0},
		{join(7, lastEpoch, top), api.OK, 0},
		{join(2, 3, 5, 1, 40, 1, 4, 0, 97, 71, 0), api.OK, 0},
	} {
		m, f := rpc.ReadPayload(c.p)
		if f != (api.Fault{Code: c.code, At: c.at}) || zero(m) != (c.code != api.OK) {
			t.Error(i, text(m), f)
		}
		s := framed(c.p)
		if c.code != api.OK {
			f.At++ // behind the length
		}
		if got, n, fault := rpc.Get(s); fault != f || text(got) != text(m) || n != 0 && n != len(s) || (n == 0) != (f != good) {
			t.Error(i, text(got), n, fault)
		}
		check(t, s)
	}
}

// P29.2: what is read of a valid payload, of each kind with its own fields.
func TestReadPayloadOfRights(t *testing.T) {
	for _, m := range rights() {
		if got, f := rpc.ReadPayload(payload(m)); text(got) != text(m) || f != good {
			t.Error(text(got), text(m), f)
		}
	}
}

// P29.3: each fault of a frame, those of a frame ahead of those of its payload.
func TestGetOfFrames(t *testing.T) {
	p := []byte{1, 3, 5, 0xac, 2}
	whole := framed(p)
	last := slices.Clone(whole)
	last[9] ^= 1
	for i, c := range []struct {
		s    []byte
		code api.Errno
		at   int
	}{
		{nil, api.ErrShort, 0},
		{join(0x80), api.ErrShort, 1},
		{join(0x85, 0), api.ErrNonMinimal, 1},
		{join(uint64(mostFrame + 1)), api.ErrLong, 0},
		{join(uint64(mostFrame)), api.ErrShort, 4},
		{join(5), api.ErrShort, 1},
		{join(5, 15, 0), api.ErrShort, 3},
		{join(5, 15, 0, 0, 0, 0), api.ErrShort, 6},
		{join(5, 15, 0, 0, 0, 0, 1, 2, 3), api.ErrShort, 9},
		{join(5, 15, 0, 0, 0, 0, 1, 2, 3, 4), api.ErrSum, 6},
		{last, api.ErrSum, 6},
		{framed(nil), api.ErrShort, 1},
		{framed([]byte{15}), api.ErrKind, 1},
		{framed(bytes.Repeat([]byte{15}, 128)), api.ErrKind, 2},
		{framed(bytes.Repeat([]byte{15}, 1<<14)), api.ErrKind, 3},
		{framed(bytes.Repeat([]byte{15}, mostFrame)), api.ErrKind, 4},
		{framed(bytes.Repeat([]byte{7}, mostFrame)), api.ErrRest, 7},
		{framed(bytes.Repeat([]byte{7}, mostFrame+1)), api.ErrLong, 0},
		{whole, api.OK, 0},
	} {
		f := api.Fault{Code: c.code, At: c.at}
		if m, n, got := rpc.Get(c.s); got != f || zero(m) != (f != good) || (n == 0) != (f != good) {
			t.Error(i, text(m), n, got)
		}
		if m, got := rpc.Decode(c.s); got != f || zero(m) != (f != good) {
			t.Error(i, text(m), got)
		}
		if m, own, got := rpc.DecodeLoose(c.s); got != f || zero(m) != (f != good) || own != (f == good) {
			t.Error(i, text(m), own, got)
		}
	}
}

// P29.3: what follows a message is left by Get, and ErrRest after it for the others; but a fault of the
// message itself is ahead of that.
func TestWhatFollows(t *testing.T) {
	for _, m := range rights() {
		s := framed(payload(m))
		for _, behind := range [][]byte{{0}, {255, 255}, s} {
			x := slices.Concat(s, behind)
			if got, n, f := rpc.Get(x); text(got) != text(m) || n != len(s) || f != good {
				t.Error(text(got), n, f)
			}
			rest := api.Fault{Code: api.ErrRest, At: len(s)}
			if got, f := rpc.Decode(x); !zero(got) || f != rest {
				t.Error(text(got), f)
			}
			if got, own, f := rpc.DecodeLoose(x); !zero(got) || own || f != rest {
				t.Error(text(got), own, f)
			}
		}
	}
	x := append(framed([]byte{7, 3, 5, 0}), 0)
	if got, f := rpc.Decode(x); !zero(got) || f != (api.Fault{Code: api.ErrRest, At: 4}) {
		t.Error(text(got), f)
	}
}

// otherBlocks are payloads of a message whose blocks are not the canonical ones of its data.
func otherBlocks(m api.Msg) [][]byte {
	own, _ := block.Bytes(m.Data)
	p := payload(m)
	ahead := p[:len(p)-len(own)]
	n := uint64(len(m.Data))
	var l [][]byte
	if block.Way(m.Data) == block.Compressed {
		l = append(l, join(ahead, n, 0, m.Data))
	}
	if n > 0 { // one run of all bytes
		run := join(2*(n-1), m.Data)
		if x := join(ahead, n, 1, uint64(len(run)), run); !bytes.Equal(x, p) {
			l = append(l, x)
		}
	}
	return l
}

// P29.3, P29.4: where a block is not the canonical one, DecodeLoose tells so, and the other readers give
// ErrNonCanonical behind the block.
func TestOtherBlocks(t *testing.T) {
	done := 0
	for _, data := range [][]byte{{7}, {7, 8}, forty(), bytes.Repeat([]byte{1, 2, 3}, 100)} {
		for _, m := range []api.Msg{{Kind: api.Write, Epoch: 3, Seq: 300, Pos: 300, Data: data}, {Kind: api.Value, Epoch: 3, Seq: 300, State: api.Written, Data: data}} {
			for _, p := range otherBlocks(m) {
				done++
				s := framed(p)
				if got, own, f := rpc.DecodeLoose(s); text(got) != text(m) || own || f != good {
					t.Error(text(got), own, f)
				}
				f := api.Fault{Code: api.ErrNonCanonical, At: len(p)}
				if got, fault := rpc.ReadPayload(p); !zero(got) || fault != f {
					t.Error(text(got), fault)
				}
				f.At = len(s) - 4
				if got, fault := rpc.Decode(s); !zero(got) || fault != f {
					t.Error(text(got), fault)
				}
				if got, n, fault := rpc.Get(s); !zero(got) || n != 0 || fault != f {
					t.Error(text(got), n, fault)
				}
				if l, fault := rpc.Split(s); l != nil || fault != f {
					t.Error(l, fault)
				}
			}
		}
	}
	if done < 12 {
		t.Error(done)
	}
	for _, m := range rights() {
		if got, own, f := rpc.DecodeLoose(framed(payload(m))); text(got) != text(m) || !own || f != good {
			t.Error(text(got), own, f)
		}
	}
}

// P29.3: Split gives all messages of which bytes consist, in order.
func TestSplit(t *testing.T) {
	s, _ := rpc.All(rights())
	l, f := rpc.Split(s)
	if fmt.Sprint(l) != fmt.Sprint(rights()) || f != good {
		t.Error(len(l), f)
	}
	for _, s := range [][]byte{nil, {}} {
		if l, f := rpc.Split(s); len(l) != 0 || f != good {
			t.Error(l, f)
		}
	}
}

// P29.3: Split gives nothing but the first fault, at its position in all of the bytes.
func TestSplitOfWrongBytes(t *testing.T) {
	ahead, _ := rpc.All([]api.Msg{basic(1), basic(2), basic(12)})
	bad := framed(join(9, 3, 5, 5))
	for i, c := range []struct {
		behind []byte
		code   api.Errno
		at     int
	}{
		{join(0), api.ErrShort, 1},
		{framed(nil), api.ErrShort, 1},
		{join(0x80, 0), api.ErrNonMinimal, 1},
		{framed(join(15, 1, 1)), api.ErrKind, 1},
		{framed(join(9, 3, 5, 5)), api.ErrInvalid, 4},
		{framed(join(7, 3, 5, 0)), api.ErrRest, 4},
		{slices.Concat(bad, framed(payload(basic(1)))), api.ErrInvalid, 4},
		{slices.Concat(bad, []byte{0x80, 0}), api.ErrInvalid, 4},
		{bad[:len(bad)-1], api.ErrShort, 8},
		{slices.Concat(bad[:len(bad)-1], []byte{^bad[len(bad)-1]}), api.ErrSum, 5},
	} {
		if l, f := rpc.Split(c.behind); l != nil || f != (api.Fault{Code: c.code, At: c.at}) {
			t.Error(i, l, f)
		}
		if l, f := rpc.Split(slices.Concat(ahead, c.behind)); l != nil || f != (api.Fault{Code: c.code, At: len(ahead) + c.at}) {
			t.Error(i, l, f)
		}
	}
}

// P29.4: what was written is read back by all readers, and no proper beginning of it is a message.
func TestRoundTrip(t *testing.T) {
	for _, m := range rights() {
		s, code := rpc.Bytes(m)
		if code != api.OK {
			t.Fatal(text(m), code)
		}
		if strict, loose := check(t, s); !strict || !loose {
			t.Fatal(text(m))
		}
		if got, f := rpc.Decode(s); text(got) != text(m) || f != good {
			t.Fatal(text(got), f)
		}
		for n := range len(s) {
			f := api.Fault{Code: api.ErrShort, At: n}
			if got, fault := rpc.Decode(s[:n]); !zero(got) || fault != f {
				t.Fatal(n, text(got), fault)
			}
			if l, fault := rpc.Split(s[:n]); l != nil || n > 0 && fault != f || n == 0 && fault != good {
				t.Fatal(n, l, fault)
			}
		}
	}
}

// canonical holds what the readers make of bytes against each other and against what is written.
func canonical(t *testing.T, s []byte) (strict, loose bool) {
	t.Helper()
	strict, loose = check(t, s)
	m, f := rpc.Decode(s)
	n, own, _ := rpc.DecodeLoose(s)
	if strict {
		again, code := rpc.Bytes(m)
		if !rpc.Right(m) || code != api.OK || !bytes.Equal(again, s) || !loose || !own || text(m) != text(n) {
			t.Fatalf("%x: %s, %x, %v", s, text(m), again, code)
		}
	}
	if loose && !strict {
		if !rpc.Right(n) || own || f.Code != api.ErrNonCanonical {
			t.Fatalf("%x: %s, %v, %v", s, text(n), own, f)
		}
	}
	return strict, loose
}

// spoiled are bytes with one of them changed, missing, or more.
func spoiled(s []byte) [][]byte {
	var l [][]byte
	for i := range s {
		for _, by := range []byte{1, 2, 4, 128, 255} {
			x := slices.Clone(s)
			x[i] ^= by
			l = append(l, x)
		}
		l = append(l, slices.Delete(slices.Clone(s), i, i+1), slices.Insert(slices.Clone(s), i, 0), slices.Insert(slices.Clone(s), i, 128))
	}
	return l
}

// P29.2 to P29.4: frames of payloads near those that are written.
func TestCanonical(t *testing.T) {
	counts := [3]int{}
	for _, m := range rights() {
		l := [][]byte{payload(m)}
		if m.Kind == api.Write || m.Kind == api.Value && m.State == api.Written {
			l = append(l, otherBlocks(m)...)
		}
		for _, p := range l {
			if len(p) > 80 {
				continue
			}
			for _, x := range append(spoiled(p), p) {
				switch strict, loose := canonical(t, framed(x)); {
				case strict:
					counts[0]++
				case loose:
					counts[1]++
				default:
					counts[2]++
				}
			}
		}
	}
	if counts[0] < 1000 || counts[1] < 30 || counts[2] < 1000 {
		t.Error(counts)
	}
}

// P29.2 to P29.4: frames of bytes as they come, and such bytes themselves.
func TestRandomBytes(t *testing.T) {
	rnd := rand.New(rand.NewSource(29))
	counts := [15]int{}
	for range 60000 {
		p := make([]byte, rnd.Intn(20))
		for i := range p {
			p[i] = byte(rnd.Intn(1 << rnd.Intn(9)))
		}
		if len(p) > 0 {
			p[0] %= 16
		}
		check(t, p)
		if _, loose := canonical(t, framed(p)); loose {
			counts[p[0]]++
		}
		m, _, f := expected(cursor.New(p), false)
		if got, fault := rpc.ReadPayload(p); text(got) != text(m) || fault != f {
			t.Fatalf("%x: %s, %v", p, text(got), fault)
		}
	}
	for k, n := range counts {
		if k > 0 && k != api.PutProj && k != api.IsProj && n == 0 { // the end of all positions hardly comes by chance
			t.Error(k, n)
		}
	}
}

// P29.4: a burst of at most 32 bits in the payload or the checksum gives ErrSum, whatever the bytes then say.
func TestBursts(t *testing.T) {
	rnd := rand.New(rand.NewSource(29))
	for k := 1; k <= 14; k++ {
		s := framed(payload(basic(k)))
		f := api.Fault{Code: api.ErrSum, At: len(s) - 4}
		for from := 8; from < 8*len(s); from++ {
			for _, n := range []int{1, 2, 8, 31, 32} {
				if from+n > 8*len(s) {
					continue
				}
				x := slices.Clone(s)
				for i := from; i < from+n; i++ {
					if i == from || i == from+n-1 || rnd.Intn(2) == 0 { // the ends are changed
						x[i/8] ^= 1 << (i % 8)
					}
				}
				if m, fault := rpc.Decode(x); !zero(m) || fault != f {
					t.Fatal(k, from, n, text(m), fault)
				}
				if m, own, fault := rpc.DecodeLoose(x); !zero(m) || own || fault != f {
					t.Fatal(k, from, n, text(m), own, fault)
				}
			}
		}
	}
}

// P29.1, P29.4: as much data as a message may have, and as great a projection.
func TestGreatMessages(t *testing.T) {
	noise := make([]byte, mostData) // which stays as long as it is
	rand.New(rand.NewSource(29)).Read(noise)
	great := api.Projection{Epoch: lastEpoch}
	for i := range uint64(64) {
		s := api.Stripe{From: i << 56, To: (i + 1) << 56}
		for set := range uint64(8) {
			var nodes []uint64
			for node := range uint64(8) {
				nodes = append(nodes, 1<<32-64+8*set+node)
			}
			s.Sets = append(s.Sets, nodes)
		}
		great.Stripes = append(great.Stripes, s)
	}
	for _, m := range []api.Msg{
		{Kind: api.Write, Epoch: lastEpoch, Seq: top, Pos: maxPos - 1, Data: noise},
		{Kind: api.Value, Epoch: 1, State: api.Written, Data: make([]byte, mostData)},
		{Kind: api.PutProj, Epoch: 1, Proj: great},
	} {
		s, code := rpc.Bytes(m)
		if code != api.OK || !bytes.Equal(s, framed(payload(m))) {
			t.Fatal(m.Kind, len(s), code)
		}
		if got, f := rpc.Decode(s); !body.Same(got, m) || f != good {
			t.Error(m.Kind, f)
		}
		if got, own, f := rpc.DecodeLoose(s); !body.Same(got, m) || !own || f != good {
			t.Error(m.Kind, own, f)
		}
		if l, f := rpc.Split(slices.Concat(s, s)); len(l) != 2 || !body.Same(l[1], m) || f != good {
			t.Error(m.Kind, len(l), f)
		}
	}
}

// Rule 4: neither writing nor reading changes what it is given, and a message that was read shares
// nothing with the bytes.
func TestMemory(t *testing.T) {
	for k := 1; k <= 14; k++ {
		m := basic(k)
		before := text(m)
		rpc.Right(m)
		rpc.Put(pen.New(999), m)
		rpc.All([]api.Msg{m, m})
		p, _ := rpc.Payload(m)
		s, _ := rpc.Bytes(m)
		if text(m) != before {
			t.Error(k, text(m))
		}
		in, inner := slices.Concat(s, s), slices.Clone(p)
		x, _, _ := rpc.Get(in)
		l, _ := rpc.Split(in)
		y, _ := rpc.ReadPayload(inner)
		if !bytes.Equal(in, slices.Concat(s, s)) || !bytes.Equal(inner, p) || len(l) != 2 {
			t.Fatal(k, in, inner, len(l))
		}
		clear(in)
		clear(inner)
		clear(l[0].Streams)
		clear(l[0].Data)
		for i := range l[0].Links {
			clear(l[0].Links[i].Backs)
		}
		for i := range l[0].Proj.Stripes {
			clear(l[0].Proj.Stripes[i].Sets)
		}
		for _, z := range []api.Msg{x, y, l[1]} {
			if text(z) != before {
				t.Error(k, text(z))
			}
		}
	}
}

// given are the parameters of a function that are function values.
func given(f *ast.FuncDecl) []string {
	var l []string
	for _, p := range f.Type.Params.List {
		if _, ok := p.Type.(*ast.FuncType); ok {
			for _, name := range p.Names {
				l = append(l, f.Name.Name+" "+name.Name)
			}
		}
	}
	return l
}

// Ways of layer 29: one function is given the reader of a body, once as a closure.
func TestReadersShareOneFunction(t *testing.T) {
	files, err := filepath.Glob("*.go")
	if err != nil {
		t.Fatal(err)
	}
	var takes []string
	var decls []*ast.FuncDecl
	for _, name := range files {
		if strings.HasSuffix(name, "_test.go") {
			continue
		}
		file, err := parser.ParseFile(token.NewFileSet(), name, nil, 0)
		if err != nil {
			t.Fatal(err)
		}
		for _, d := range file.Decls {
			if f, ok := d.(*ast.FuncDecl); ok {
				takes = append(takes, given(f)...)
				decls = append(decls, f)
			}
		}
	}
	closures, values := 0, 0
	for _, f := range decls {
		ast.Inspect(f, func(n ast.Node) bool {
			call, ok := n.(*ast.CallExpr)
			if !ok {
				return true
			}
			name, ok := call.Fun.(*ast.Ident)
			if !ok || !slices.ContainsFunc(takes, func(s string) bool { return strings.HasPrefix(s, name.Name+" ") }) {
				return true
			}
			for _, x := range call.Args {
				switch y := x.(type) {
				case *ast.FuncLit:
					closures++
				case *ast.SelectorExpr:
					if y.Sel.Name == "ReadLoose" {
						values++
					}
				}
			}
			return true
		})
	}
	if closures == 0 || values == 0 {
		t.Error(takes, closures, values)
	}
}
