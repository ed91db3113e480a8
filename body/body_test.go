package body_test

import (
	"bytes"
	"go/ast"
	"go/parser"
	"go/token"
	"math"
	"math/rand"
	"path/filepath"
	"slices"
	"strconv"
	"strings"
	"testing"

	"tholepin/api"
	"tholepin/block"
	"tholepin/body"
	"tholepin/cursor"
	"tholepin/epoch"
	"tholepin/kind"
	"tholepin/link"
	"tholepin/pen"
	"tholepin/proj"
	"tholepin/seal"
	"tholepin/varint"
	"tholepin/zigzag"
)

var good = api.Fault{}

// The greatest numbers, and how many bytes of data a message has at most.
const (
	top       = uint64(math.MaxUint64)
	lastEpoch = uint64(1)<<62 - 1
	maxPos    = uint64(1) << 62
	mostData  = 1 << 20
)

// noKinds are numbers that are no kind.
var noKinds = []int{0, -1, -9, 15, 16, 256 + 1, 1<<32 + 9, math.MaxInt, math.MinInt}

// fields are the fields of each kind, in the order in which they are written: Pos, Count, State as T,
// Streams, Links, Data, Seal as E, Proj as J.
var fields = []string{"", "P", "PD", "", "P", "P", "CS", "", "J", "TD", "", "E", "PL", "J", "T"}

// has tells whether a kind has a field.
func has(k int, field string) bool {
	return k >= 0 && k < len(fields) && strings.Contains(fields[k], field)
}

// all is a projection of all positions, with some sets.
func all(e uint64, sets ...[]uint64) api.Projection {
	return api.Projection{Epoch: e, Stripes: []api.Stripe{{To: maxPos, Sets: sets}}}
}

// forty is forty bytes of which the canonical block is compressed.
func forty() []byte { return bytes.Repeat([]byte{'a'}, 40) }

// basic is a valid message of a kind, with something in all of its fields.
func basic(k int) api.Msg {
	m := api.Msg{Kind: k}
	if has(k, "P") {
		m.Pos = 300
	}
	if has(k, "C") {
		m.Count = 2
	}
	if has(k, "T") {
		m.State = api.Written
	}
	if has(k, "S") {
		m.Streams = []uint64{5, 7}
	}
	if has(k, "L") {
		m.Links = []api.Link{{Stream: 5, Backs: []uint64{299, 10}}, {Stream: 7}}
	}
	if has(k, "D") {
		m.Data = []byte{7, 8}
	}
	if has(k, "E") {
		m.Seal = api.Seal{Epoch: 3, Node: 1, Tail: 300}
	}
	if has(k, "J") {
		m.Proj = all(1, []uint64{7})
	}
	return m
}

// change is what a field is made, and whether it may be so in a message that has the field, and in one
// that has not.
type change struct {
	field       string
	made        func(m *api.Msg)
	right, none bool
}

// rising is n numbers, each greater than the one before.
func rising(n int) []uint64 {
	var l []uint64
	for i := range n {
		l = append(l, uint64(i*i))
	}
	return l
}

// manyLinks is n links of different streams, without Backs.
func manyLinks(n int) []api.Link {
	var l []api.Link
	for i := range n {
		l = append(l, api.Link{Stream: uint64(i * i)})
	}
	return l
}

// numberChanges are what numbers may be made.
func numberChanges() []change {
	var l []change
	for _, x := range []uint64{0, 1, 127, 128, maxPos - 1, maxPos, maxPos + 1, top} {
		l = append(l, change{"P", func(m *api.Msg) { m.Pos = x }, x < maxPos, x == 0})
	}
	for _, n := range []int{0, 1, 2, 127, 128, 1<<16 - 1, 1 << 16, 1<<16 + 1, -1, -1 << 16, math.MaxInt, math.MinInt} {
		l = append(l, change{"C", func(m *api.Msg) { m.Count = n }, n >= 1 && n <= 1<<16, n == 0})
	}
	return l
}

// listChanges are what lists may be made. (Links are valid at 300.)
func listChanges() []change {
	var l []change
	for i, x := range [][]uint64{nil, {}, {0}, {5}, {5, 6, 7}, {0, top}, rising(16), rising(17), {5, 5}, {7, 5}, {top, 0}} {
		l = append(l, change{"S", func(m *api.Msg) { m.Streams = x }, i < 7, len(x) == 0})
	}
	back := func(b ...uint64) []api.Link { return []api.Link{{Stream: 5, Backs: b}} }
	for i, x := range [][]api.Link{nil, {}, {{}}, back(), back(0), back(299, 298, 1, 0), manyLinks(16), manyLinks(17),
		{{Stream: 5}, {Stream: 5}}, {{Stream: 6}, {Stream: 5}}, back(top), back(5, 5), back(5, 6), back(299, 298, 2, 1, 0)} {
		l = append(l, change{"L", func(m *api.Msg) { m.Links = x }, i < 7, len(x) == 0})
	}
	for _, n := range []int{0, 1, 40, 1000, mostData, mostData + 1, 2 * mostData} {
		data := make([]byte, n)
		l = append(l, change{"D", func(m *api.Msg) { m.Data = data }, n <= mostData, n == 0})
	}
	return append(l, change{"D", func(m *api.Msg) { m.Data = nil }, true, true}, change{"D", func(m *api.Msg) { m.Data = forty() }, true, false})
}

// structChanges are what seals and projections may be made.
func structChanges() []change {
	var l []change
	for i, x := range []api.Seal{{Epoch: 1}, {Epoch: lastEpoch, Node: 1<<32 - 1, Tail: maxPos}, {Epoch: 3, Tail: 1},
		{}, {Node: 1}, {Tail: 1}, {Epoch: lastEpoch + 1}, {Epoch: 3, Node: 1 << 32}, {Epoch: 3, Tail: maxPos + 1}} {
		l = append(l, change{"E", func(m *api.Msg) { m.Seal = x }, i < 3, x == api.Seal{}})
	}
	two := all(5, []uint64{1, 2}, []uint64{3})
	two.Stripes[0].To = 9
	half := all(5, []uint64{1, 2}, []uint64{3})
	half.Stripes[0].To = 9
	two.Stripes = append(two.Stripes, api.Stripe{From: 9, To: maxPos, Sets: [][]uint64{{3}}})
	for i, x := range []api.Projection{all(1, []uint64{0}), all(lastEpoch, []uint64{1, 2}, []uint64{3}), two,
		{}, {Stripes: []api.Stripe{}}, all(0, []uint64{7}), all(lastEpoch+1, []uint64{7}), {Epoch: 1}, {Epoch: 1, Stripes: []api.Stripe{{}}},
		{Stripes: []api.Stripe{{}}}, all(1), all(1, nil), all(1, []uint64{7}, []uint64{7}), all(1, []uint64{8, 7}), half} {
		l = append(l, change{"J", func(m *api.Msg) { m.Proj = x }, i < 3, i == 3 || i == 4})
	}
	return l
}

// changes are what all fields but the State may be made.
func changes() []change { return slices.Concat(numberChanges(), listChanges(), structChanges()) }

// states are valid states, and others.
var states = []int{0, 1, 2, 3, 4, 5, 19, 20, 21, 256, 257, -1, -255, math.MaxInt, math.MinInt}

// messages are valid messages of all kinds, and others.
func messages() []api.Msg {
	var l []api.Msg
	for k := -1; k <= 16; k++ {
		l = append(l, basic(k))
		for _, c := range changes() {
			m := basic(k)
			c.made(&m)
			l = append(l, m)
		}
		for _, s := range states {
			for _, data := range [][]byte{nil, {}, {7}} {
				m := basic(k)
				m.State, m.Data = s, data
				l = append(l, m)
			}
		}
	}
	for _, k := range noKinds {
		l = append(l, basic(k))
	}
	for _, pos := range []uint64{0, 1, 9, 10, 11, 299} { // each link at the message's own position
		m := basic(api.Taken)
		m.Pos, m.Links = pos, []api.Link{{Stream: 5, Backs: []uint64{9, 3}}}
		l = append(l, m)
	}
	for _, m := range []api.Msg{basic(api.Read), basic(api.Take), basic(api.Done), {}} { // neither is looked at
		for _, x := range []uint64{1, 3, maxPos, top} {
			m.Epoch, m.Seq = x, top-x
			l = append(l, m)
		}
	}
	return l
}

// valid is the definition's words.
func valid(m api.Msg) bool {
	if m.Kind < 1 || m.Kind > 14 {
		return false
	}
	right := func(field string, right, none bool) bool {
		return has(m.Kind, field) && right || !has(m.Kind, field) && none
	}
	most := 4
	if m.Kind == api.Failed {
		most = 20
	}
	return right("P", epoch.Pos(m.Pos), m.Pos == 0) &&
		right("C", m.Count > 0 && m.Count <= 65536, m.Count == 0) &&
		right("T", m.State > 0 && m.State <= most, m.State == 0) &&
		right("S", len(m.Streams) <= 16 && zigzag.Rises(m.Streams), len(m.Streams) == 0) &&
		right("L", link.Right(m.Pos, m.Links), len(m.Links) == 0) &&
		right("D", len(m.Data) <= mostData, len(m.Data) == 0) &&
		(m.Kind != api.Value || m.State == 1 || len(m.Data) == 0) &&
		right("E", seal.Right(m.Seal), m.Seal == api.Seal{}) &&
		right("J", proj.Right(m.Proj), m.Proj.Epoch == 0 && len(m.Proj.Stripes) == 0)
}

// stored is the block of a payload that is not compressed.
func stored(payload []byte) []byte {
	return slices.Concat(varint.Bytes(uint64(len(payload))), []byte{0}, payload)
}

// ahead is the encoding of a valid message up to its block, and what follows where there is none.
func ahead(m api.Msg) []byte {
	w := pen.New(1 << 16)
	for _, field := range fields[m.Kind] {
		switch field {
		case 'P':
			varint.Put(w, m.Pos)
		case 'C':
			varint.Put(w, uint64(m.Count))
		case 'T':
			w.Put(byte(m.State))
		case 'S':
			varint.Put(w, uint64(len(m.Streams)))
			zigzag.PutRising(w, m.Streams)
		case 'L':
			link.Put(w, m.Pos, m.Links)
		case 'E':
			seal.Put(w, m.Seal)
		case 'J':
			proj.Put(w, m.Proj)
		}
	}
	s, _ := w.Bytes()
	return s
}

// borne tells whether a valid message has a block.
func borne(m api.Msg) bool {
	return m.Kind == api.Write || m.Kind == api.Value && m.State == api.Written
}

// encoded is the encoding of a valid message: a block is the last of those that have one.
func encoded(m api.Msg) []byte {
	s := ahead(m)
	if borne(m) {
		own, _ := block.Bytes(m.Data)
		s = append(s, own...)
	}
	return s
}

// num is a number in decimal.
func num(x uint64) string { return strconv.FormatUint(x, 10) }

// listed is numbers in words.
func listed(l []uint64) string {
	s := "("
	for _, x := range l {
		s += " " + num(x)
	}
	return s + ")"
}

// text is a message in words, in which nil and empty lists are the same.
func text(m api.Msg) string {
	var s strings.Builder
	s.WriteString(strconv.Itoa(m.Kind) + " " + num(m.Epoch) + " " + num(m.Seq) + " " + num(m.Pos) + " " + strconv.Itoa(m.Count) + " " + strconv.Itoa(m.State))
	s.WriteString(" " + listed(m.Streams))
	for _, x := range m.Links {
		s.WriteString("[" + num(x.Stream) + listed(x.Backs) + "]")
	}
	s.WriteString("|" + string(m.Data) + "|" + num(m.Seal.Epoch) + " " + num(m.Seal.Node) + " " + num(m.Seal.Tail))
	s.WriteString("|" + num(m.Proj.Epoch))
	for _, x := range m.Proj.Stripes {
		s.WriteString("{" + num(x.From) + " " + num(x.To))
		for _, set := range x.Sets {
			s.WriteString(listed(set))
		}
		s.WriteString("}")
	}
	return s.String()
}

// isZero tells whether a message is the zero one.
func isZero(m api.Msg) bool {
	return m.Streams == nil && m.Links == nil && m.Data == nil && m.Proj.Stripes == nil && text(m) == text(api.Msg{})
}

// at1 is a reader of one byte 5 and others, at position 1.
func at1(b []byte) *cursor.Reader {
	r := cursor.New(append([]byte{5}, b...))
	r.Skip(1)
	return r
}

// expected is what a reader of bytes at 1 is to find: the words of ReadLoose, or those of Read, one
// by one.
func expected(s []byte, k int, loose bool) (m api.Msg, own bool, at int, f api.Fault) {
	r := at1(s)
	if k < 1 || k > 14 {
		r.Fail(api.ErrKind, 1)
		return m, false, 1, r.Fault()
	}
	m.Kind, own = k, true
	for _, field := range fields[k] {
		from := r.At()
		switch field {
		case 'P':
			m.Pos = epoch.ReadPos(r)
		case 'C':
			if m.Count = varint.ReadInt(r, 65536); m.Count == 0 {
				r.Fail(api.ErrInvalid, from)
			}
		case 'T':
			m.State = int(r.Byte())
			if m.State == 0 || m.State > 20 || k == api.Value && m.State > 4 {
				r.Fail(api.ErrInvalid, from)
			}
		case 'S':
			m.Streams = zigzag.ReadRising(r, varint.ReadInt(r, 16))
		case 'L':
			m.Links = link.Read(r, m.Pos)
		case 'D':
			if k == api.Value && m.State != api.Written {
				break
			}
			if loose {
				m.Data, own = block.ReadLoose(r, mostData)
			} else {
				m.Data = block.Read(r, mostData)
			}
		case 'E':
			m.Seal = seal.Read(r)
		case 'J':
			m.Proj = proj.Read(r)
		}
	}
	if !r.Good() {
		return api.Msg{}, false, r.At(), r.Fault()
	}
	return m, own, r.At(), good
}

// check holds what is read from position 1 on against the chapter's words, and tells whether each of
// the two readers accepts it.
func check(t *testing.T, s []byte, k int) (strict, loose bool) {
	t.Helper()
	want, _, at, f := expected(s, k, false)
	r := at1(s)
	if m := body.Read(r, k); r.Fault() != f || text(m) != text(want) || f == good && r.At() != at || f != good && !isZero(m) {
		t.Fatalf("%x of %d: %.200s at %d with %v, not %.200s at %d with %v", s, k, text(m), r.At(), r.Fault(), text(want), at, f)
	}
	strict = f == good
	want, own, at, f := expected(s, k, true)
	r = at1(s)
	if m, o := body.ReadLoose(r, k); r.Fault() != f || o != own || text(m) != text(want) || f == good && r.At() != at || f != good && !isZero(m) {
		t.Fatalf("%x of %d: %.200s, %v at %d with %v, not %.200s, %v at %d with %v", s, k, text(m), o, r.At(), r.Fault(), text(want), own, at, f)
	}
	return strict, f == good
}

// P28.1, P28.2: the examples of the chapter.
func TestExamples(t *testing.T) {
	for _, c := range []struct {
		m    api.Msg
		want []byte
	}{
		{api.Msg{Kind: api.Read, Pos: 300}, []byte{0xac, 0x02}},
		{api.Msg{Kind: api.Value, State: api.Filled}, []byte{2}},
		{api.Msg{Kind: api.Take, Count: 2, Streams: []uint64{5, 7}}, []byte{2, 2, 5, 1}},
	} {
		if s, code := body.Bytes(c.m); code != api.OK || !bytes.Equal(s, c.want) || !body.Right(c.m) {
			t.Error(text(c.m), s, code)
		}
		if m := body.Read(cursor.New(c.want), c.m.Kind); text(m) != text(c.m) {
			t.Error(text(m), text(c.m))
		}
	}
	wrong := api.Msg{Kind: api.Value, State: api.Filled, Data: []byte{7}}
	if s, code := body.Bytes(wrong); s != nil || code != api.ErrInvalid || body.Right(wrong) {
		t.Error(s, code)
	}
	r := cursor.New([]byte{5})
	if m := body.Read(r, api.Value); !isZero(m) || r.Fault() != (api.Fault{Code: api.ErrInvalid, At: 0}) {
		t.Error(text(m), r.Fault())
	}
}

// P28.1: for each kind and each field, what the field may be where the kind has it; elsewhere it is
// zero or empty.
func TestRightOfEachField(t *testing.T) {
	for k := 1; k <= 14; k++ {
		if !body.Right(basic(k)) {
			t.Fatal(k)
		}
		for i, c := range changes() {
			m := basic(k)
			c.made(&m)
			want := c.none
			if has(k, c.field) {
				want = c.right
			}
			if k == api.Taken && c.field == "P" && m.Pos < 300 {
				want = false // its links have the Back 299
			}
			if body.Right(m) != want {
				t.Errorf("kind %d, change %d: %v", k, i, !want)
			}
		}
	}
}

// P28.1: the states of a Value and of a Failed, and no data where a Value isn't Written.
func TestRightOfStates(t *testing.T) {
	for k := 1; k <= 14; k++ {
		most := 0
		switch k {
		case api.Value:
			most = 4
		case api.Failed:
			most = 20
		}
		for _, s := range states {
			m := basic(k)
			m.State = s
			if k == api.Value {
				m.Data = nil
			}
			want := s >= 1 && s <= most || most == 0 && s == 0
			if body.Right(m) != want {
				t.Error(k, s, !want)
			}
			m = basic(k)
			m.State, m.Data = s, []byte{0}
			want = k == api.Value && s == 1 || k == api.Write && s == 0
			if body.Right(m) != want {
				t.Error(k, s, "with data", !want)
			}
		}
	}
}

// P28.1: messages of no kind, and what isn't considered.
func TestRightOfKinds(t *testing.T) {
	for _, k := range noKinds {
		if body.Right(api.Msg{Kind: k}) || body.Right(basic(k)) {
			t.Error(k)
		}
		if s, code := body.Bytes(api.Msg{Kind: k}); s != nil || code != api.ErrInvalid {
			t.Error(k, s, code)
		}
	}
	for k := 1; k <= 14; k++ {
		for _, x := range []uint64{0, 1, lastEpoch, maxPos, top} {
			m := basic(k)
			m.Epoch, m.Seq = x, x
			s, code := body.Bytes(m)
			if !body.Right(m) || code != api.OK || !bytes.Equal(s, encoded(basic(k))) {
				t.Error(k, x, s, code)
			}
		}
	}
	var empty []uint64
	for k := 1; k <= 14; k++ {
		m := basic(k)
		if m.Streams == nil {
			m.Streams = append(empty, 1)[:0]
		}
		if m.Links == nil {
			m.Links = []api.Link{}
		}
		if m.Data == nil {
			m.Data = []byte{}
		}
		if m.Proj.Stripes == nil {
			m.Proj.Stripes = []api.Stripe{}
		}
		if !body.Right(m) {
			t.Error(k)
		}
	}
}

// P28.1: Put and Bytes write the encoding of a valid body, and nothing of another one.
func TestPutAndBytes(t *testing.T) {
	rights, wrongs := 0, 0
	for i, m := range messages() {
		ok := valid(m)
		if body.Right(m) != ok {
			t.Fatal(i, !ok)
		}
		if !ok {
			wrongs++
			if s, code := body.Bytes(m); s != nil || code != api.ErrInvalid {
				t.Fatal(i, len(s), code)
			}
			for _, room := range []int{0, 1, 1000} { // too little room is no code of such a body
				w := pen.New(1 + room)
				w.Put(9)
				body.Put(w, m)
				if w.Code() != api.ErrInvalid || w.Len() != 1 {
					t.Fatal(i, room, w.Code(), w.Len())
				}
			}
			continue
		}
		rights++
		want := encoded(m)
		if s, code := body.Bytes(m); code != api.OK || !bytes.Equal(s, want) {
			t.Fatalf("message %d: %x, %v", i, s, code)
		}
		w := pen.New(1 + len(want))
		w.Put(9)
		body.Put(w, m)
		if s, code := w.Bytes(); code != api.OK || s[0] != 9 || !bytes.Equal(s[1:], want) {
			t.Fatalf("message %d: %x, %v", i, s, code)
		}
	}
	if min(rights, wrongs) < 200 {
		t.Error(rights, wrongs)
	}
}

// P28.1: encodings, byte by byte.
func TestBytesOfBodies(t *testing.T) {
	most := []byte{255, 255, 255, 255, 255, 255, 255, 255, 63}
	for i, c := range []struct {
		m    api.Msg
		want []byte
	}{
		{api.Msg{Kind: api.Read}, []byte{0}},
		{api.Msg{Kind: api.Read, Pos: maxPos - 1}, most},
		{api.Msg{Kind: api.Write, Pos: 300, Data: []byte{7, 8}}, []byte{0xac, 2, 2, 0, 7, 8}},
		{api.Msg{Kind: api.Write, Pos: 1}, []byte{1, 0, 0}},
		{api.Msg{Kind: api.Write, Pos: 1, Data: forty()}, []byte{1, 40, 1, 4, 0, 97, 71, 0}},
		{api.Msg{Kind: api.SealReq}, []byte{}},
		{api.Msg{Kind: api.Trim, Pos: 128}, []byte{128, 1}},
		{api.Msg{Kind: api.Fill, Pos: 9}, []byte{9}},
		{api.Msg{Kind: api.Take, Count: 1}, []byte{1, 0}},
		{api.Msg{Kind: api.Take, Count: 1 << 16, Streams: []uint64{0, 300}}, []byte{128, 128, 4, 2, 0, 0xab, 2}},
		{api.Msg{Kind: api.GetProj}, []byte{}},
		{api.Msg{Kind: api.PutProj, Proj: all(1, []uint64{7})}, slices.Concat([]byte{1, 1}, most, []byte{1, 1, 7})},
		{api.Msg{Kind: api.Value, State: api.Written, Data: []byte{7}}, []byte{1, 1, 0, 7}},
		{api.Msg{Kind: api.Value, State: api.Written}, []byte{1, 0, 0}},
		{api.Msg{Kind: api.Value, State: api.Written, Data: forty()}, []byte{1, 40, 1, 4, 0, 97, 71, 0}},
		{api.Msg{Kind: api.Value, State: api.Trimmed}, []byte{3}},
		{api.Msg{Kind: api.Value, State: api.Empty}, []byte{4}},
		{api.Msg{Kind: api.Done}, []byte{}},
		{api.Msg{Kind: api.Sealed, Seal: api.Seal{Epoch: 3, Node: 1, Tail: 300}}, []byte{3, 1, 0xac, 2}},
		{api.Msg{Kind: api.Taken, Pos: 10}, []byte{10, 0}},
		{api.Msg{Kind: api.Taken, Pos: 10, Links: []api.Link{{Stream: 0, Backs: []uint64{9, 3}}}}, []byte{10, 1, 0, 2, 0, 5}},
		{api.Msg{Kind: api.IsProj, Proj: all(1, []uint64{7})}, slices.Concat([]byte{1, 1}, most, []byte{1, 1, 7})},
		{api.Msg{Kind: api.Failed, State: 1}, []byte{1}},
		{api.Msg{Kind: api.Failed, State: 20}, []byte{20}},
	} {
		if s, code := body.Bytes(c.m); code != api.OK || !bytes.Equal(s, c.want) {
			t.Errorf("case %d: %x, %v", i, s, code)
		}
	}
}

// P28.1: with less room than it needs a body gives ErrLong; with a code nothing is written and the code
// is kept; a nil writer takes everything.
func TestPutWithoutRoomOrAfterACode(t *testing.T) {
	wrong := api.Msg{Kind: api.Value, State: 5}
	for k := 1; k <= 14; k++ {
		m := basic(k)
		for room := range len(encoded(m)) {
			w := pen.New(room)
			body.Put(w, m)
			if s, code := w.Bytes(); s != nil || code != api.ErrLong || w.Len() > room {
				t.Error(k, room, s, code, w.Len())
			}
		}
		for _, x := range []api.Msg{m, wrong} {
			w := pen.New(999)
			w.Fail(api.ErrSum)
			body.Put(w, x)
			if w.Code() != api.ErrSum || w.Len() != 0 {
				t.Error(k, w.Code(), w.Len())
			}
			body.Put(nil, x)
		}
		w := pen.New(999)
		body.Put(w, wrong)
		body.Put(w, m)
		if w.Code() != api.ErrInvalid || w.Len() != 0 {
			t.Error(k, w.Code(), w.Len())
		}
	}
}

// join is parts of an encoding, one behind the other: each int is a byte, and each uint64 written as
// an integer.
func join(parts ...any) []byte {
	var s []byte
	for _, p := range parts {
		switch x := p.(type) {
		case int:
			s = append(s, byte(x))
		case uint64:
			s = append(s, varint.Bytes(x)...)
		case []byte:
			s = append(s, x...)
		}
	}
	return s
}

// refused is bytes of a message of a kind, and the fault that they have from position 1 on.
type refused struct {
	k    int
	s    []byte
	code api.Errno
	at   int
}

// refuse holds what both readers tell against that fault.
func refuse(t *testing.T, l []refused) {
	t.Helper()
	for i, c := range l {
		f := api.Fault{Code: c.code, At: c.at}
		r := at1(c.s)
		if m := body.Read(r, c.k); r.Fault() != f || (f == good) == isZero(m) {
			t.Errorf("case %d: %s with %v", i, text(m), r.Fault())
		}
		r = at1(c.s)
		if m, own := body.ReadLoose(r, c.k); r.Fault() != f || (f == good) == isZero(m) || own != (f == good) {
			t.Errorf("case %d: %s, %v with %v", i, text(m), own, r.Fault())
		}
		check(t, c.s, c.k)
	}
}

// P28.2: each fault of numbers and states, the first one in the order of the bytes, and nothing beside it.
func TestRefusesNumbers(t *testing.T) {
	over := append(bytes.Repeat([]byte{255}, 9), 2)
	var l []refused
	for _, k := range []int{api.Read, api.Write, api.Trim, api.Fill, api.Taken} {
		l = append(l, []refused{
			{k, nil, api.ErrShort, 1},
			{k, join(0x80), api.ErrShort, 2},
			{k, join(0x83, 0), api.ErrNonMinimal, 2},
			{k, join(over), api.ErrOverflow, 10},
			{k, join(maxPos, 0, 0), api.ErrInvalid, 1},
			{k, join(maxPos), api.ErrInvalid, 1},
			{k, join(top, 0x80, 0), api.ErrInvalid, 1},
			{k, join(maxPos-1, 0, 0), api.OK, 0},
		}...)
	}
	refuse(t, l)
	refuse(t, []refused{
		{api.Take, nil, api.ErrShort, 1},
		{api.Take, join(0x80), api.ErrShort, 2},
		{api.Take, join(0x83, 0), api.ErrNonMinimal, 2},
		{api.Take, join(over), api.ErrOverflow, 10},
		{api.Take, join(uint64(1<<16+1), 0), api.ErrLong, 1},
		{api.Take, join(top), api.ErrLong, 1},
		{api.Take, join(0, 0), api.ErrInvalid, 1},
		{api.Take, join(0), api.ErrInvalid, 1},
		{api.Take, join(0, 17), api.ErrInvalid, 1},
		{api.Take, join(1, 0), api.OK, 0},
		{api.Take, join(uint64(1<<16), 0), api.OK, 0},
		{api.Value, nil, api.ErrShort, 1},
		{api.Value, join(0), api.ErrInvalid, 1},
		{api.Value, join(5, 0, 0), api.ErrInvalid, 1},
		{api.Value, join(20), api.ErrInvalid, 1},
		{api.Value, join(255), api.ErrInvalid, 1},
		{api.Value, join(2, 0x80, 0), api.OK, 0}, // no block
		{api.Value, join(4), api.OK, 0},
		{api.Failed, nil, api.ErrShort, 1},
		{api.Failed, join(0), api.ErrInvalid, 1},
		{api.Failed, join(21), api.ErrInvalid, 1},
		{api.Failed, join(255), api.ErrInvalid, 1},
		{api.Failed, join(129, 0), api.ErrInvalid, 1}, // a byte and no integer
		{api.Failed, join(1), api.OK, 0},
		{api.Failed, join(20), api.OK, 0},
		{api.SealReq, nil, api.OK, 0},
		{api.GetProj, join(0x80, 0), api.OK, 0},
		{api.Done, nil, api.OK, 0},
	})
}

// P28.2: each fault of lists and blocks.
func TestRefusesListsAndBlocks(t *testing.T) {
	refuse(t, []refused{
		{api.Take, join(2), api.ErrShort, 2},
		{api.Take, join(2, 0x82, 0), api.ErrNonMinimal, 3},
		{api.Take, join(2, 17), api.ErrLong, 2},
		{api.Take, join(2, top), api.ErrLong, 2},
		{api.Take, join(2, 1), api.ErrShort, 3},
		{api.Take, join(2, 2, 5), api.ErrShort, 4},
		{api.Take, join(2, 2, 5, 0x81, 0), api.ErrNonMinimal, 5},
		{api.Take, join(2, 2, top, 0), api.ErrOrder, 13},
		{api.Take, join(2, 2, 5, top-6), api.OK, 0},
		{api.Take, join(2, 2, 5, top-5), api.ErrOrder, 4},
		{api.Take, join(2, 16, make([]byte, 16)), api.OK, 0},
		{api.Taken, join(10), api.ErrShort, 2},
		{api.Taken, join(10, 17), api.ErrLong, 2},
		{api.Taken, join(10, 1, 5), api.ErrShort, 4},
		{api.Taken, join(10, 1, 5, 5), api.ErrLong, 4},
		{api.Taken, join(10, 1, 5, 1, 9), api.OK, 0}, // below the message's position
		{api.Taken, join(10, 1, 5, 1, 10), api.ErrOrder, 5},
		{api.Taken, join(0, 1, 5, 1, 0), api.ErrOrder, 5},
		{api.Taken, join(10, 2, top, 0, 0, 0), api.ErrOrder, 14},
		{api.Write, join(9), api.ErrShort, 2},
		{api.Write, join(9, 0x82, 0, 0, 7, 8), api.ErrNonMinimal, 3},
		{api.Write, join(9, uint64(mostData+1), 0), api.ErrLong, 2},
		{api.Write, join(9, uint64(mostData), 0), api.ErrShort, 6},
		{api.Write, join(9, 2), api.ErrShort, 3},
		{api.Write, join(9, 2, 2, 7, 8), api.ErrKind, 3},
		{api.Write, join(9, 2, 0, 7), api.ErrShort, 5},
		{api.Write, join(9, 2, 0, 7, 8), api.OK, 0},
		{api.Write, join(9, 2, 0, 7, 8, 0x80, 0), api.OK, 0}, // what follows is left
		{api.Value, join(1), api.ErrShort, 2},
		{api.Value, join(1, 40, 1, 4, 0, 97, 71, 1), api.ErrToken, 8},
		{api.Value, join(1, 40, 1, 4, 0, 97, 73, 0), api.ErrBound, 7},
		{api.Value, join(1, 40, 1, 4, 0, 97, 69, 0), api.ErrInvalid, 9},
		{api.Value, join(1, 40, 1, 4, 0, 97, 71, 0), api.OK, 0},
		{api.Value, join(1, 0, 0), api.OK, 0},
	})
}

// P28.2: each fault of seals and projections.
func TestRefusesSealsAndProjections(t *testing.T) {
	l := []refused{
		{api.Sealed, nil, api.ErrShort, 1},
		{api.Sealed, join(0, 1, 1), api.ErrInvalid, 1},
		{api.Sealed, join(3, uint64(1<<32), 1), api.ErrLong, 2},
		{api.Sealed, join(3, 1), api.ErrShort, 3},
		{api.Sealed, join(3, 1, maxPos+1), api.ErrInvalid, 3},
		{api.Sealed, join(3, 1, maxPos), api.OK, 0},
	}
	for _, k := range []int{api.PutProj, api.IsProj} {
		l = append(l, []refused{
			{k, nil, api.ErrShort, 1},
			{k, join(0, 1, maxPos-1, 1, 1, 7), api.ErrInvalid, 1},
			{k, join(1, 0), api.ErrInvalid, 2},
			{k, join(1, 65), api.ErrLong, 2},
			{k, join(1, 1, maxPos, 1, 1, 7), api.ErrInvalid, 3},
			{k, join(1, 1, maxPos-2, 1, 1, 7), api.ErrInvalid, 15},
			{k, join(1, 1, maxPos-1, 0), api.ErrInvalid, 12},
			{k, join(1, 1, maxPos-1, 1, 1), api.ErrShort, 14},
			{k, join(1, 1, maxPos-1, 1, 1, 7), api.OK, 0},
		}...)
	}
	refuse(t, l)
}

// P28.2: what is no kind gives ErrKind at the position of the reader, whatever bytes there are.
func TestNoKinds(t *testing.T) {
	for _, k := range noKinds {
		for _, s := range [][]byte{nil, {0}, {0x80, 0}, {1, 2, 3}} {
			r := at1(s)
			if m := body.Read(r, k); !isZero(m) || r.Fault() != (api.Fault{Code: api.ErrKind, At: 1}) || r.At() != 1 {
				t.Error(k, text(m), r.Fault(), r.At())
			}
			r = at1(s)
			if m, own := body.ReadLoose(r, k); !isZero(m) || own || r.Fault() != (api.Fault{Code: api.ErrKind, At: 1}) || r.At() != 1 {
				t.Error(k, text(m), own, r.Fault(), r.At())
			}
		}
	}
}

// P28.2: where a block is not the canonical one, ReadLoose tells so, and Read gives ErrNonCanonical.
func TestOtherBlocks(t *testing.T) {
	for _, m := range []api.Msg{{Kind: api.Write, Pos: 300, Data: forty()}, {Kind: api.Value, State: api.Written, Data: forty()}} {
		s := append(ahead(m), stored(forty())...)
		r := at1(append(s[:len(s):len(s)], 9))
		if got, own := body.ReadLoose(r, m.Kind); text(got) != text(m) || own || r.Fault() != good || r.Left() != 1 {
			t.Error(text(got), own, r.Fault())
		}
		r = at1(s)
		if got := body.Read(r, m.Kind); !isZero(got) || r.Fault() != (api.Fault{Code: api.ErrNonCanonical, At: 1 + len(s)}) {
			t.Error(text(got), r.Fault())
		}
		m.Data = []byte{7, 8}
		small := append(ahead(m), 2, 1, 3, 2, 7, 8) // compressed, though that is not shorter
		r = at1(small)
		if got, own := body.ReadLoose(r, m.Kind); text(got) != text(m) || own || r.Fault() != good {
			t.Error(text(got), own, r.Fault())
		}
	}
	for k := 1; k <= 14; k++ { // where there is no block, there is none that is not canonical
		if m, own := body.ReadLoose(at1(encoded(basic(k))), k); !own || text(m) != text(basic(k)) {
			t.Error(k, own, text(m))
		}
	}
}

// P28.2: a reader with a fault keeps it and its position, and a nil reader gives nothing.
func TestFaultIsKept(t *testing.T) {
	for _, k := range append(kind.All(), noKinds...) {
		for _, s := range [][]byte{nil, {0}, {1, 2, 3}, bytes.Repeat([]byte{1}, 40)} {
			r := at1(s)
			r.Fail(api.ErrRest, 8)
			if m := body.Read(r, k); !isZero(m) {
				t.Error(k, s, text(m))
			}
			if m, own := body.ReadLoose(r, k); !isZero(m) || own {
				t.Error(k, s, text(m), own)
			}
			if r.At() != 1 || r.Fault() != (api.Fault{Code: api.ErrRest, At: 8}) {
				t.Error(k, s, r.At(), r.Fault())
			}
		}
		if m := body.Read(nil, k); !isZero(m) {
			t.Error(k, text(m))
		}
		if m, own := body.ReadLoose(nil, k); !isZero(m) || own {
			t.Error(k, text(m), own)
		}
	}
}

// P28.3: what was written is read back with the same kind, whatever follows, without its Epoch and Seq;
// no beginning of it is a body.
func TestRoundTrip(t *testing.T) {
	done := 0
	for i, m := range messages() {
		if !valid(m) {
			continue
		}
		done++
		s, _ := body.Bytes(m)
		k := m.Kind
		m.Epoch, m.Seq = 0, 0
		for _, behind := range [][]byte{nil, {0}, {255, 255, 255}} {
			r := at1(append(slices.Clone(s), behind...))
			if got := body.Read(r, k); text(got) != text(m) || !body.Same(got, m) || r.At() != 1+len(s) || r.Fault() != good {
				t.Fatal(i, text(got), r.At(), r.Fault())
			}
			r = at1(append(slices.Clone(s), behind...))
			if got, own := body.ReadLoose(r, k); text(got) != text(m) || !own || r.At() != 1+len(s) || r.Fault() != good {
				t.Fatal(i, text(got), own, r.At(), r.Fault())
			}
		}
		for n := range min(len(s), 200) {
			r := at1(s[:n])
			if got := body.Read(r, k); !isZero(got) || r.Fault() != (api.Fault{Code: api.ErrShort, At: 1 + n}) {
				t.Fatal(i, n, text(got), r.Fault())
			}
		}
	}
	if done < 200 {
		t.Error(done)
	}
}

// canonical holds what both readers make of bytes against each other and against what is written: what
// is accepted is valid, and written as the same bytes, or with another block.
func canonical(t *testing.T, s []byte, k int) (strict, loose bool) {
	t.Helper()
	strict, loose = check(t, s, k)
	r := at1(s)
	m := body.Read(r, k)
	l := at1(s)
	n, own := body.ReadLoose(l, k)
	if strict {
		again, code := body.Bytes(m)
		if !body.Right(m) || m.Kind != k || code != api.OK || !bytes.Equal(again, r.Since(1)) || !loose || !own || !body.Same(m, n) {
			t.Fatalf("%x of %d: %s, %x, %v", s, k, text(m), again, code)
		}
	}
	if loose && !strict {
		if !body.Right(n) || own || r.Fault().Code != api.ErrNonCanonical || !bytes.HasPrefix(s, ahead(n)) {
			t.Fatalf("%x of %d: %s, %v, %v", s, k, text(n), own, r.Fault())
		}
	}
	return strict, loose
}

// spoiled are bytes with one of them changed, missing, or more.
func spoiled(s []byte) [][]byte {
	var l [][]byte
	for i := range s {
		for _, by := range []byte{1, 2, 4, 128, 255} {
			x := slices.Clone(s)
			x[i] ^= by
			l = append(l, x)
		}
		l = append(l, slices.Delete(slices.Clone(s), i, i+1), slices.Insert(slices.Clone(s), i, 0), slices.Insert(slices.Clone(s), i, 128))
	}
	return l
}

// P28.2, P28.3: bytes near those that are written, read as each kind.
func TestCanonical(t *testing.T) {
	counts := [3]int{}
	for i, m := range messages() {
		if !valid(m) {
			continue
		}
		s := encoded(m)
		if len(s) > 60 || len(m.Data) > 60 {
			continue
		}
		l := append(spoiled(s), s)
		if borne(m) {
			l = append(l, spoiled(append(ahead(m), stored(m.Data)...))...)
		}
		for _, x := range l {
			k := m.Kind
			if i%3 == 0 {
				k = 1 + (i+len(x))%14
			}
			switch strict, loose := canonical(t, x, k); {
			case strict:
				counts[0]++
			case loose:
				counts[1]++
			default:
				counts[2]++
			}
		}
	}
	if counts[0] < 1000 || counts[1] < 30 || counts[2] < 1000 {
		t.Error(counts)
	}
}

// P28.2, P28.3: bytes as they come, read as each kind and as what is none.
func TestRandomBytes(t *testing.T) {
	rnd := rand.New(rand.NewSource(28))
	counts := [16]int{}
	for range 60000 {
		s := make([]byte, rnd.Intn(20))
		for i := range s {
			s[i] = byte(rnd.Intn(1 << rnd.Intn(9)))
		}
		k := rnd.Intn(16)
		if _, loose := canonical(t, s, k); loose {
			counts[k]++
		}
	}
	for k, n := range counts {
		if (n > 50) != kind.Right(k) && k != api.PutProj && k != api.IsProj { // the end of all positions hardly comes by chance
			t.Error(k, n)
		}
	}
}

// P28.3: as much data as a message may have.
func TestMostData(t *testing.T) {
	noise := make([]byte, mostData) // which stays as long as it is
	rand.New(rand.NewSource(28)).Read(noise)
	for _, m := range []api.Msg{{Kind: api.Write, Pos: 1}, {Kind: api.Value, State: api.Written}} {
		for _, data := range [][]byte{noise, make([]byte, mostData)} {
			m.Data = data
			s, code := body.Bytes(m)
			r := cursor.New(s)
			got := body.Read(r, m.Kind)
			if r.End(); code != api.OK || !body.Same(got, m) || r.Fault() != good {
				t.Error(m.Kind, code, r.Fault())
			}
			r = cursor.New(append(ahead(m), stored(data)...))
			if got, own := body.ReadLoose(r, m.Kind); !body.Same(got, m) || own != (block.Way(data) == block.Stored) || r.Fault() != good {
				t.Error(m.Kind, own, r.Fault())
			}
		}
		m.Data = append(noise, 0)
		if s, code := body.Bytes(m); s != nil || code != api.ErrInvalid {
			t.Error(m.Kind, len(s), code)
		}
	}
}

// full is a message that is valid in no way, with something in all of its fields.
func full() api.Msg {
	return api.Msg{
		Kind: 99, Epoch: 1, Seq: 2, Pos: 3, Count: 4, State: 5, Streams: []uint64{6, 7},
		Links: []api.Link{{Stream: 8, Backs: []uint64{9, 10}}, {Stream: 11}}, Data: []byte{12, 13},
		Seal: api.Seal{Epoch: 14, Node: 15, Tail: 16},
		Proj: api.Projection{Epoch: 17, Stripes: []api.Stripe{{From: 18, To: 19, Sets: [][]uint64{{20, 21}, {22}}}}},
	}
}

// others are changes each of which makes another message of the full one.
func others() []func(m *api.Msg) {
	return []func(m *api.Msg){
		func(m *api.Msg) { m.Kind++ },
		func(m *api.Msg) { m.Epoch++ },
		func(m *api.Msg) { m.Seq++ },
		func(m *api.Msg) { m.Pos++ },
		func(m *api.Msg) { m.Count++ },
		func(m *api.Msg) { m.State++ },
		func(m *api.Msg) { m.Streams[1]++ },
		func(m *api.Msg) { m.Streams = m.Streams[:1] },
		func(m *api.Msg) { m.Streams = append(m.Streams, 0) },
		func(m *api.Msg) { m.Streams = nil },
		func(m *api.Msg) { m.Links[0].Stream++ },
		func(m *api.Msg) { m.Links[0].Backs[1]++ },
		func(m *api.Msg) { m.Links[1].Backs = []uint64{0} },
		func(m *api.Msg) { m.Links = m.Links[:1] },
		func(m *api.Msg) { m.Links = append(m.Links, api.Link{}) },
		func(m *api.Msg) { m.Data[1]++ },
		func(m *api.Msg) { m.Data = m.Data[:1] },
		func(m *api.Msg) { m.Data = append(m.Data, 0) },
		func(m *api.Msg) { m.Data = nil },
		func(m *api.Msg) { m.Seal.Epoch++ },
		func(m *api.Msg) { m.Seal.Node++ },
		func(m *api.Msg) { m.Seal.Tail++ },
		func(m *api.Msg) { m.Proj.Epoch++ },
		func(m *api.Msg) { m.Proj.Stripes[0].From++ },
		func(m *api.Msg) { m.Proj.Stripes[0].To++ },
		func(m *api.Msg) { m.Proj.Stripes[0].Sets[0][1]++ },
		func(m *api.Msg) { m.Proj.Stripes[0].Sets[1] = nil },
		func(m *api.Msg) { m.Proj.Stripes[0].Sets = nil },
		func(m *api.Msg) { m.Proj.Stripes = nil },
	}
}

// P28.2: a copy of any message has the same fields and shares nothing with it.
func TestCopy(t *testing.T) {
	before := text(full())
	for i, change := range others() {
		m := full()
		c := body.Copy(m)
		if text(c) != before {
			t.Fatal(i, text(c))
		}
		change(&m)
		if text(c) != before {
			t.Error(i, text(c))
		}
		m = full()
		c = body.Copy(m)
		c.Streams, c.Data = append(c.Streams[:1], 0), append(c.Data[:1], 0)
		c.Links[0].Backs = append(c.Links[0].Backs[:1], 0)
		change(&c)
		if text(m) != before {
			t.Error(i, text(m))
		}
	}
	if c := body.Copy(api.Msg{}); text(c) != text(api.Msg{}) {
		t.Error(text(c))
	}
	for _, m := range messages() {
		if c := body.Copy(m); text(c) != text(m) || !body.Same(c, m) {
			t.Fatal(text(c), text(m))
		}
	}
}

// P28.2: messages are the same if all fields are, where nil and empty lists are the same.
func TestSame(t *testing.T) {
	for i, change := range others() {
		m := full()
		if !body.Same(m, full()) {
			t.Fatal(i)
		}
		change(&m)
		if body.Same(m, full()) || body.Same(full(), m) {
			t.Error(i)
		}
	}
	empty := api.Msg{Streams: []uint64{}, Links: []api.Link{}, Data: []byte{}, Proj: api.Projection{Stripes: []api.Stripe{}}}
	if !body.Same(api.Msg{}, empty) || !body.Same(empty, api.Msg{}) {
		t.Error("nil and empty lists")
	}
}

// Rule 4: neither writing nor reading changes what it is given, and a message that was read shares
// nothing with the bytes.
func TestMemory(t *testing.T) {
	for k := 1; k <= 14; k++ {
		m := basic(k)
		before := text(m)
		body.Right(m)
		body.Put(pen.New(999), m)
		s, _ := body.Bytes(m)
		again, _ := body.Bytes(m)
		if text(m) != before || !bytes.Equal(again, s) {
			t.Error(k, text(m), again)
		}
		clear(again)
		in := slices.Clone(s)
		x := body.Read(cursor.New(in), k)
		y, _ := body.ReadLoose(cursor.New(in), k)
		if !bytes.Equal(in, s) {
			t.Error(k, in)
		}
		clear(in)
		clear(x.Streams)
		clear(x.Data)
		for i := range x.Links {
			clear(x.Links[i].Backs)
		}
		for i := range x.Proj.Stripes {
			clear(x.Proj.Stripes[i].Sets)
		}
		if text(y) != before || text(m) != before {
			t.Error(k, text(y), text(m))
		}
	}
}

// Rule 9: lists far beyond the limits are refused, or worked on whole.
func TestVeryLongLists(t *testing.T) {
	m := api.Msg{Kind: api.Take, Count: 1, Streams: rising(1 << 18), Links: make([]api.Link, 1<<18), Data: make([]byte, 1<<22)}
	m.Proj.Stripes = make([]api.Stripe, 1<<18)
	for k := 1; k <= 14; k++ {
		m.Kind = k
		if s, code := body.Bytes(m); s != nil || code != api.ErrInvalid || body.Right(m) {
			t.Error(k, len(s), code)
		}
	}
	if !body.Same(body.Copy(m), m) {
		t.Error("a copy is not the same")
	}
}

// lists are the functions of the package in which there is a list of at least eight closures.
func lists(t *testing.T) []string {
	t.Helper()
	files, err := filepath.Glob("*.go")
	if err != nil {
		t.Fatal(err)
	}
	var l []string
	for _, name := range files {
		if strings.HasSuffix(name, "_test.go") {
			continue
		}
		file, err := parser.ParseFile(token.NewFileSet(), name, nil, 0)
		if err != nil {
			t.Fatal(err)
		}
		for _, d := range file.Decls {
			if f, ok := d.(*ast.FuncDecl); ok && f.Body != nil && hasList(f) {
				l = append(l, f.Name.Name)
			}
		}
	}
	return l
}

// hasList tells whether a function has such a list, as elements or in structs that are.
func hasList(f *ast.FuncDecl) bool {
	found := false
	ast.Inspect(f.Body, func(n ast.Node) bool {
		list, ok := n.(*ast.CompositeLit)
		if !ok {
			return true
		}
		closures := 0
		for _, e := range list.Elts {
			row := []ast.Expr{e}
			if r, ok := e.(*ast.CompositeLit); ok {
				row = r.Elts
			}
			if slices.ContainsFunc(row, func(x ast.Expr) bool { _, ok := x.(*ast.FuncLit); return ok }) {
				closures++
			}
		}
		found = found || closures >= 8
		return true
	})
	return found
}

// Ways of layer 28: the fields are read by a list of closures.
func TestFieldsAreReadByAListOfClosures(t *testing.T) {
	if l := lists(t); !slices.ContainsFunc(l, func(name string) bool { return strings.HasPrefix(strings.ToLower(name), "read") }) {
		t.Error(l)
	}
}
