package talk_test

import (
	"bytes"
	"math"
	"math/rand"
	"slices"
	"testing"

	"tholepin/api"
	"tholepin/rpc"
	"tholepin/talk"
)

// history is a unit as the requests that did not fail, in order: what it is follows from them.
type history struct {
	node, first uint64 // its number and its first epoch
	done        []api.Msg
}

// cell is the state and the data of a position.
func (h *history) cell(pos uint64) (int, []byte) {
	state, data := api.Empty, []byte(nil)
	for _, q := range h.done {
		if q.Pos != pos {
			continue
		}
		switch q.Kind {
		case api.Write:
			state, data = api.Written, q.Data
		case api.Fill:
			state, data = api.Filled, nil
		case api.Trim:
			state, data = api.Trimmed, nil
		}
	}
	return state, data
}

// tail is behind the greatest position that isn't Empty.
func (h *history) tail() uint64 {
	var tail uint64
	for _, q := range h.done {
		if state, _ := h.cell(q.Pos); state != api.Empty {
			tail = max(tail, q.Pos+1)
		}
	}
	return tail
}

// epoch is the epoch, and whether the unit is sealed in it.
func (h *history) epoch() (uint64, bool) {
	e, sealed := h.first, false
	for _, q := range h.done {
		if q.Kind == api.SealReq || q.Kind == api.PutProj {
			e, sealed = q.Epoch, q.Kind == api.SealReq
		}
	}
	return e, sealed
}

// backs is the last positions of a stream that were taken, the last one first, and next the next position.
func (h *history) backs(stream uint64) (l []uint64, next uint64) {
	for _, q := range h.done {
		if q.Kind != api.Take {
			continue
		}
		for range q.Count {
			if slices.Contains(q.Streams, stream) {
				l = append(l, next)
			}
			next++
		}
	}
	slices.Reverse(l)
	return l[:min(len(l), 4)], next
}

// admits is the error with which a request of an epoch fails, by chapter 17.
func (h *history) admits(e uint64) api.Errno {
	own, sealed := h.epoch()
	switch {
	case e > own:
		return api.ErrOrder
	case e < own || sealed:
		return api.ErrState
	}
	return api.OK
}

// expected is the fields of the response to a request by its kind, or the code with which it fails.
func (h *history) expected(q api.Msg) (api.Msg, api.Errno) {
	own, sealed := h.epoch()
	switch q.Kind {
	case api.SealReq:
		if own > q.Epoch {
			return api.Msg{}, api.ErrState
		}
		return api.Msg{Kind: api.Sealed, Seal: api.Seal{Epoch: q.Epoch, Node: h.node, Tail: h.tail()}}, api.OK
	case api.PutProj:
		if q.Proj.Epoch != q.Epoch {
			return api.Msg{}, api.ErrInvalid
		}
		if own > q.Epoch || own == q.Epoch && !sealed {
			return api.Msg{}, api.ErrState
		}
		return api.Msg{Kind: api.Done}, api.OK
	case api.GetProj:
		for _, x := range slices.Backward(h.done) {
			if x.Kind == api.PutProj {
				return api.Msg{Kind: api.IsProj, Proj: x.Proj}, api.OK
			}
		}
		return api.Msg{}, api.ErrNone
	}
	if code := h.admits(q.Epoch); code != api.OK {
		return api.Msg{}, code
	}
	state, data := h.cell(q.Pos)
	switch {
	case q.Kind == api.Read:
		return api.Msg{Kind: api.Value, State: state, Data: data}, api.OK
	case q.Kind == api.Write && state != api.Empty, q.Kind == api.Fill && state != api.Empty && state != api.Filled:
		return api.Msg{}, api.ErrState
	case q.Kind != api.Take:
		return api.Msg{Kind: api.Done}, api.OK
	}
	_, at := h.backs(0)
	a := api.Msg{Kind: api.Taken, Pos: at}
	for _, stream := range q.Streams {
		l, _ := h.backs(stream)
		a.Links = append(a.Links, api.Link{Stream: stream, Backs: l})
	}
	return a, api.OK
}

// answer is the response to a valid request, which becomes history unless it fails.
func (h *history) answer(q api.Msg) api.Msg {
	a, code := h.expected(q)
	if code == api.OK {
		h.done = append(h.done, q)
	} else {
		a = api.Msg{Kind: api.Failed, State: int(code)}
	}
	a.Epoch, a.Seq = q.Epoch, q.Seq
	return a
}

// same holds a unit against its history, at some positions.
func (h *history) same(t *testing.T, u *talk.Unit, positions ...uint64) {
	t.Helper()
	for _, pos := range positions {
		if state, _ := h.cell(pos); u.State(pos) != state {
			t.Fatal(h.done, pos, u.State(pos))
		}
	}
	e, sealed := u.Epoch()
	if own, closed := h.epoch(); e != own || sealed != closed || u.Tail() != h.tail() {
		t.Fatal(h.done, e, sealed, u.Tail())
	}
}

// places are the positions that random requests are about.
var places = []uint64{0, 1, 2, 3, 300, maxPos - 1}

// request is a request of a kind as it comes, of an epoch near the unit's.
func request(rnd *rand.Rand, k int, own, seq uint64) api.Msg {
	e := own
	if rnd.Intn(5) == 0 {
		e = max(own+uint64(rnd.Intn(4)), 3) - 2
	}
	m := api.Msg{Kind: k, Epoch: e, Seq: seq}
	switch k {
	case api.Read, api.Write, api.Fill, api.Trim:
		m.Pos = places[rnd.Intn(len(places))]
	case api.Take:
		m.Count = 1 + rnd.Intn(6)
		for s := range uint64(4) {
			if rnd.Intn(2) == 0 {
				m.Streams = append(m.Streams, s*s)
			}
		}
	case api.PutProj:
		m.Proj = all(max(e+uint64(rnd.Intn(12))/11, 1), uint64(rnd.Intn(100)))
	}
	if k == api.Write {
		m.Data = bytes.Repeat([]byte{byte(rnd.Intn(256))}, rnd.Intn(4))
	}
	return m
}

// P30.5 to P30.7: requests as they come, whose responses fit and make a talk with them.
func TestUnitByItsHistory(t *testing.T) {
	rnd := rand.New(rand.NewSource(30))
	counts := map[[2]int]int{}
	for range 400 {
		h := &history{node: uint64(rnd.Intn(1 << 32)), first: 1 + uint64(rnd.Intn(3))}
		u, code := talk.NewUnit(h.node, h.first)
		if code != api.OK {
			t.Fatal(code)
		}
		h.same(t, u, places...)
		var l []api.Msg
		for seq := range uint64(80) {
			own, _ := u.Epoch()
			k := 1 + rnd.Intn(8)
			if (k == api.SealReq || k == api.PutProj) && rnd.Intn(3) > 0 {
				k = api.Write
			}
			q := request(rnd, k, own, seq*seq)
			a, code := u.Answer(q)
			if want := h.answer(q); code != api.OK || text(a) != text(want) {
				t.Fatalf("%v: %s: %s, %v, not %s", h.done, text(q), text(a), code, text(want))
			}
			if code := talk.Fits(q, a); code != api.OK {
				t.Fatal(text(q), text(a), code)
			}
			counts[[2]int{q.Kind, a.State * (a.Kind / api.Failed)}]++
			h.same(t, u, places...)
			l = append(l, q, a)
		}
		if n, code := talk.Check(l); n != len(l) || code != api.OK || !talk.Quiet(l) {
			t.Fatal(n, code)
		}
	}
	for k := 1; k <= 8; k++ { // each request succeeds and fails
		if counts[[2]int{k, 0}] < 50 {
			t.Error(k, counts)
		}
	}
	state, order := int(api.ErrState), int(api.ErrOrder)
	for _, c := range [][2]int{{api.Read, state}, {api.Read, order}, {api.Write, state}, {api.Write, order}, {api.Fill, state}, {api.Fill, order}, {api.Trim, state}, {api.Trim, order},
		{api.Take, state}, {api.Take, order}, {api.SealReq, state}, {api.PutProj, state}, {api.PutProj, int(api.ErrInvalid)}, {api.GetProj, int(api.ErrNone)}} {
		if counts[c] < 20 {
			t.Error(c, counts[c])
		}
	}
}

// unit is a new unit, of number 1 and epoch 2.
func unit(t *testing.T) *talk.Unit {
	t.Helper()
	u, code := talk.NewUnit(1, 2)
	if u == nil || code != api.OK {
		t.Fatal(u, code)
	}
	return u
}

// step is a request, and the response that it is to get, both without their Seqs. The response has the
// request's Epoch.
type step struct{ q, a api.Msg }

// done and failed are responses.
func done() api.Msg                 { return api.Msg{Kind: api.Done} }
func failed(code api.Errno) api.Msg { return api.Msg{Kind: api.Failed, State: int(code)} }

// value is the response to a Read.
func value(state int, data ...byte) api.Msg {
	return api.Msg{Kind: api.Value, State: state, Data: data}
}

// run sends a unit some requests.
func run(t *testing.T, u *talk.Unit, l []step) {
	t.Helper()
	for i, s := range l {
		s.q.Seq, s.a.Seq, s.a.Epoch = uint64(300+i), uint64(300+i), s.q.Epoch
		if a, code := u.Answer(s.q); text(a) != text(s.a) || code != api.OK {
			t.Fatalf("step %d: %s, %v, not %s", i, text(a), code, text(s.a))
		}
	}
}

// at is a request about a position in epoch 2.
func at(k int, pos uint64, data ...byte) api.Msg {
	return api.Msg{Kind: k, Epoch: 2, Pos: pos, Data: data}
}

// P30.6: the example of the chapter.
func TestUnitExample(t *testing.T) {
	u := unit(t)
	run(t, u, []step{{at(api.Write, 2, 7), done()}})
	if u.Tail() != 3 {
		t.Error(u.Tail())
	}
	run(t, u, []step{
		{at(api.Write, 2, 7), failed(api.ErrState)},
		{api.Msg{Kind: api.SealReq, Epoch: 2}, api.Msg{Kind: api.Sealed, Seal: api.Seal{Epoch: 2, Node: 1, Tail: 3}}},
	})
}

// P30.5: the numbers that a unit may have, and what a new one is.
func TestNewUnit(t *testing.T) {
	for _, node := range []uint64{0, 1, 1<<32 - 1, 1 << 32, 1<<32 + 1, top} {
		for _, e := range []uint64{0, 1, 3, lastEpoch, lastEpoch + 1, top} {
			u, code := talk.NewUnit(node, e)
			if node >= 1<<32 || e == 0 || e > lastEpoch {
				if u != nil || code != api.ErrArg {
					t.Error(node, e, u, code)
				}
				continue
			}
			if u == nil || code != api.OK {
				t.Fatal(node, e, code)
			}
			own, sealed := u.Epoch()
			if own != e || sealed || u.Tail() != 0 || u.State(0) != api.Empty || u.State(maxPos-1) != api.Empty {
				t.Error(node, e, own, sealed, u.Tail())
			}
			run(t, u, []step{
				{api.Msg{Kind: api.GetProj, Epoch: 1}, failed(api.ErrNone)},
				{api.Msg{Kind: api.Take, Epoch: e, Count: 1, Streams: []uint64{5}}, api.Msg{Kind: api.Taken, Links: []api.Link{{Stream: 5}}}},
				{api.Msg{Kind: api.SealReq, Epoch: e}, api.Msg{Kind: api.Sealed, Seal: api.Seal{Epoch: e, Node: node}}},
			})
		}
	}
}

// P30.5, P30.6: a nil unit, and one that NewUnit did not make.
func TestNilUnit(t *testing.T) {
	var u *talk.Unit
	e, sealed := u.Epoch()
	if u.State(0) != 0 || u.Tail() != 0 || e != 0 || sealed {
		t.Error(u.State(0), u.Tail(), e, sealed)
	}
	for k := -1; k <= 15; k++ {
		m := api.Msg{Kind: k}
		if k >= 1 && k <= 14 {
			m = basic(k, 3, 5)
		}
		for _, u := range []*talk.Unit{nil, new(talk.Unit)} {
			if a, code := u.Answer(m); !zero(a) || code != api.ErrNil {
				t.Error(k, text(a), code)
			}
		}
	}
}

// P30.6: messages that are not valid, and those that are no requests, change nothing.
func TestUnitRefuses(t *testing.T) {
	u := unit(t)
	for _, m := range []api.Msg{{}, {Kind: -1, Epoch: 2}, {Kind: 15, Epoch: 2}, {Kind: api.Write, Pos: 1}, at(api.Write, maxPos, 7),
		at(api.Fill, 1, 7), {Kind: api.Take, Epoch: 2}, {Kind: api.SealReq, Epoch: lastEpoch + 1}, {Kind: api.PutProj, Epoch: 3},
		{Kind: api.Take, Epoch: 2, Count: 1<<16 + 1}, {Kind: api.Value, Epoch: 2}} {
		if a, code := u.Answer(m); !zero(a) || code != api.ErrInvalid {
			t.Error(text(m), text(a), code)
		}
	}
	for k := 9; k <= 14; k++ {
		if a, code := u.Answer(basic(k, 2, 5)); !zero(a) || code != api.ErrKind {
			t.Error(k, text(a), code)
		}
	}
	h := &history{node: 1, first: 2}
	h.same(t, u, 0, 1, 300)
	run(t, u, []step{{api.Msg{Kind: api.Take, Epoch: 2, Count: 1}, api.Msg{Kind: api.Taken}}})
}

// into makes a position of a unit what it is to be.
func into(t *testing.T, u *talk.Unit, pos uint64, state int) {
	t.Helper()
	k := []int{api.Written: api.Write, api.Filled: api.Fill, api.Trimmed: api.Trim, api.Empty: api.Read}[state]
	if a, code := u.Answer(at(k, pos)); a.Kind == api.Failed || code != api.OK || u.State(pos) != state {
		t.Fatal(text(a), code, u.State(pos))
	}
}

// P30.6: Write, Fill, Trim and Read of each state.
func TestUnitStates(t *testing.T) {
	for _, pos := range []uint64{0, 1, 300, maxPos - 1} {
		for state := api.Written; state <= api.Empty; state++ {
			for _, k := range []int{api.Write, api.Fill, api.Trim, api.Read} {
				u := unit(t)
				into(t, u, pos, state)
				want, answer, read := state, done(), value(state)
				switch {
				case k == api.Write && state == api.Empty:
					want, read = api.Written, value(api.Written, 7, 8)
				case k == api.Fill && (state == api.Empty || state == api.Filled):
					want, read = api.Filled, value(api.Filled)
				case k == api.Trim:
					want, read = api.Trimmed, value(api.Trimmed)
				case k == api.Read:
					answer = value(state)
				default:
					answer = failed(api.ErrState)
				}
				q := at(k, pos)
				if k == api.Write {
					q.Data = []byte{7, 8}
				}
				tail := pos + 1
				if want == api.Empty {
					tail = 0
				}
				run(t, u, []step{{q, answer}, {at(api.Read, pos), read}, {at(api.Read, pos^1), value(api.Empty)}})
				if u.State(pos) != want || u.Tail() != tail {
					t.Error(pos, state, k, u.State(pos), u.Tail())
				}
			}
		}
	}
}

// P30.5: the tail is behind the greatest position, whatever comes later and whatever was done there.
func TestUnitTail(t *testing.T) {
	u := unit(t)
	for _, c := range []struct {
		q    api.Msg
		tail uint64
	}{
		{at(api.Read, 9), 0}, {at(api.Write, 0), 1}, {at(api.Fill, 5), 6}, {at(api.Write, 2), 6}, {at(api.Trim, 7), 8},
		{at(api.Trim, 5), 8}, {at(api.Trim, 7), 8}, {at(api.Read, 300), 8}, {api.Msg{Kind: api.Take, Epoch: 2, Count: 100}, 8},
		{at(api.Write, 7), 8}, {at(api.Write, maxPos-1), maxPos}, {at(api.Write, 8), maxPos},
	} {
		if _, code := u.Answer(c.q); code != api.OK || u.Tail() != c.tail {
			t.Error(text(c.q), code, u.Tail())
		}
	}
	run(t, u, []step{{api.Msg{Kind: api.SealReq, Epoch: 3}, api.Msg{Kind: api.Sealed, Seal: api.Seal{Epoch: 3, Node: 1, Tail: maxPos}}}})
}

// P30.6: when a unit is sealed, and in which epoch.
func TestUnitSeals(t *testing.T) {
	sealed := func(e uint64) api.Msg { return api.Msg{Kind: api.Sealed, Seal: api.Seal{Epoch: e, Node: 1}} }
	seal := func(e uint64) api.Msg { return api.Msg{Kind: api.SealReq, Epoch: e} }
	put := func(e uint64) api.Msg { return api.Msg{Kind: api.PutProj, Epoch: e, Proj: all(e, 7)} }
	read := func(e uint64) api.Msg { return api.Msg{Kind: api.Read, Epoch: e} }
	other := put(5)
	other.Proj.Epoch = 4
	older := put(1)
	older.Proj.Epoch = 2
	for i, c := range []struct {
		l      []step
		epoch  uint64
		sealed bool
	}{
		{[]step{{seal(1), failed(api.ErrState)}, {read(2), value(api.Empty)}}, 2, false},
		{[]step{{seal(2), sealed(2)}, {read(2), failed(api.ErrState)}, {read(3), failed(api.ErrOrder)}}, 2, true},
		{[]step{{seal(2), sealed(2)}, {seal(2), sealed(2)}, {seal(1), failed(api.ErrState)}}, 2, true},
		{[]step{{seal(5), sealed(5)}, {read(5), failed(api.ErrState)}, {read(2), failed(api.ErrState)}}, 5, true},
		{[]step{{seal(5), sealed(5)}, {seal(4), failed(api.ErrState)}, {seal(lastEpoch), sealed(lastEpoch)}}, lastEpoch, true},
		{[]step{{put(1), failed(api.ErrState)}, {put(2), failed(api.ErrState)}}, 2, false},
		{[]step{{put(3), done()}, {put(3), failed(api.ErrState)}, {read(2), failed(api.ErrState)}, {read(3), value(api.Empty)}}, 3, false},
		{[]step{{seal(2), sealed(2)}, {put(2), done()}, {read(2), value(api.Empty)}}, 2, false},
		{[]step{{seal(2), sealed(2)}, {put(1), failed(api.ErrState)}, {put(9), done()}, {read(9), value(api.Empty)}}, 9, false},
		{[]step{{other, failed(api.ErrInvalid)}, {read(2), value(api.Empty)}}, 2, false},
		{[]step{{older, failed(api.ErrInvalid)}, {put(2), failed(api.ErrState)}}, 2, false},
	} {
		u := unit(t)
		run(t, u, c.l)
		if e, closed := u.Epoch(); e != c.epoch || closed != c.sealed {
			t.Error(i, e, closed)
		}
	}
}

// P30.6: the last projection is given in whatever epoch it is asked for, sealed or not.
func TestUnitProjections(t *testing.T) {
	u := unit(t)
	get := func(e uint64) api.Msg { return api.Msg{Kind: api.GetProj, Epoch: e} }
	is := func(p api.Projection) api.Msg { return api.Msg{Kind: api.IsProj, Proj: p} }
	put := func(p api.Projection) api.Msg { return api.Msg{Kind: api.PutProj, Epoch: p.Epoch, Proj: p} }
	run(t, u, []step{
		{get(2), failed(api.ErrNone)},
		{get(9), failed(api.ErrNone)},
		{put(all(2, 7)), failed(api.ErrState)},
		{get(2), failed(api.ErrNone)},
		{put(all(4, 7)), done()},
		{get(4), is(all(4, 7))},
		{get(1), is(all(4, 7))},
		{get(lastEpoch), is(all(4, 7))},
		{put(all(4, 8)), failed(api.ErrState)},
		{get(4), is(all(4, 7))},
		{api.Msg{Kind: api.SealReq, Epoch: 4}, api.Msg{Kind: api.Sealed, Seal: api.Seal{Epoch: 4, Node: 1}}},
		{get(4), is(all(4, 7))},
		{put(all(4, 8)), done()},
		{get(3), is(all(4, 8))},
		{api.Msg{Kind: api.SealReq, Epoch: 6}, api.Msg{Kind: api.Sealed, Seal: api.Seal{Epoch: 6, Node: 1}}},
		{get(6), is(all(4, 8))},
	})
}

// links are links of streams with Backs.
func links(l ...any) []api.Link {
	var out []api.Link
	for i := 0; i < len(l); i += 2 {
		out = append(out, api.Link{Stream: uint64(l[i].(int)), Backs: l[i+1].([]uint64)})
	}
	return out
}

// P30.6: positions are taken one behind the other, and each stream has its last four.
func TestUnitTakes(t *testing.T) {
	u := unit(t)
	take := func(n int, streams ...uint64) api.Msg {
		return api.Msg{Kind: api.Take, Epoch: 2, Count: n, Streams: streams}
	}
	taken := func(pos uint64, l ...any) api.Msg { return api.Msg{Kind: api.Taken, Pos: pos, Links: links(l...)} }
	nothing := []uint64(nil)
	run(t, u, []step{
		{take(1, 5), taken(0, 5, nothing)},
		{take(2, 5, 7), taken(1, 5, []uint64{0}, 7, nothing)},
		{take(1), taken(3)},
		{take(3, 7), taken(4, 7, []uint64{2, 1})},
		{take(1, 5, 7), taken(7, 5, []uint64{2, 1, 0}, 7, []uint64{6, 5, 4, 2})},
		{take(1, 0, 5), taken(8, 0, nothing, 5, []uint64{7, 2, 1, 0})},
		{take(1<<16, 5), taken(9, 5, []uint64{8, 7, 2, 1})},
		{take(4, 5), taken(9+1<<16, 5, []uint64{8 + 1<<16, 7 + 1<<16, 6 + 1<<16, 5 + 1<<16})},
		{take(5, 5), taken(13+1<<16, 5, []uint64{12 + 1<<16, 11 + 1<<16, 10 + 1<<16, 9 + 1<<16})},
		{take(1, 7), taken(18+1<<16, 7, []uint64{7, 6, 5, 4})},
		{api.Msg{Kind: api.Take, Epoch: 1, Count: 1, Streams: []uint64{7}}, failed(api.ErrState)},
		{api.Msg{Kind: api.Take, Epoch: 3, Count: 1, Streams: []uint64{7}}, failed(api.ErrOrder)},
		{take(1, 7), taken(19+1<<16, 7, []uint64{18 + 1<<16, 7, 6, 5})},
		{at(api.Read, 0), value(api.Empty)}, // taking does not write
		{api.Msg{Kind: api.PutProj, Epoch: 3, Proj: all(3, 7)}, done()},
		{api.Msg{Kind: api.Take, Epoch: 3, Count: 1, Streams: []uint64{0}}, taken(20+1<<16, 0, []uint64{8})},
	})
	if u.Tail() != 0 {
		t.Error(u.Tail())
	}
}

// P30.7: written data is read until it is trimmed, and nothing is written twice.
func TestWrittenOnce(t *testing.T) {
	u := unit(t)
	great := make([]byte, 1<<20)
	rand.New(rand.NewSource(30)).Read(great)
	for i, data := range [][]byte{nil, {0}, {7, 8}, bytes.Repeat([]byte{1}, 300), great} {
		pos := uint64(i)
		run(t, u, []step{
			{at(api.Write, pos, data...), done()},
			{at(api.Write, pos, 9), failed(api.ErrState)},
			{at(api.Fill, pos), failed(api.ErrState)},
			{at(api.Read, pos), value(api.Written, data...)},
			{api.Msg{Kind: api.Trim, Epoch: 3, Pos: pos}, failed(api.ErrOrder)},
			{at(api.Read, pos), value(api.Written, data...)},
			{at(api.Trim, pos), done()},
			{at(api.Read, pos), value(api.Trimmed)},
			{at(api.Write, pos, data...), failed(api.ErrState)},
			{at(api.Fill, pos), failed(api.ErrState)},
			{at(api.Trim, pos), done()},
			{at(api.Read, pos), value(api.Trimmed)},
		})
	}
}

// P30.7: no position is taken twice.
func TestTakenOnce(t *testing.T) {
	rnd := rand.New(rand.NewSource(30))
	u := unit(t)
	var next uint64
	for seq := range uint64(2000) {
		own, _ := u.Epoch()
		k := api.Take
		if rnd.Intn(9) == 0 {
			k = []int{api.SealReq, api.PutProj, api.Write, api.Trim}[rnd.Intn(4)]
		}
		q := request(rnd, k, own, seq)
		a, code := u.Answer(q)
		if code != api.OK || k == api.Take && a.Kind == api.Taken && a.Pos != next {
			t.Fatal(text(q), text(a), code, next)
		}
		if a.Kind == api.Taken {
			next += uint64(q.Count)
		}
	}
	if next < 500 {
		t.Error(next)
	}
}

// P30.7: after a seal no request of its epoch or of an earlier one changes anything but a projection, and
// none of a later one that isn't a seal or a projection does.
func TestAfterSeal(t *testing.T) {
	rnd := rand.New(rand.NewSource(30))
	for range 200 {
		h := &history{node: 1, first: 2}
		u := unit(t)
		for seq := range uint64(40) {
			q := request(rnd, []int{api.Write, api.Fill, api.Trim, api.Take}[rnd.Intn(4)], 2, seq)
			u.Answer(q)
			h.answer(q)
		}
		q := api.Msg{Kind: api.SealReq, Epoch: 2}
		u.Answer(q)
		h.answer(q)
		for seq := range uint64(40) {
			k := []int{api.Write, api.Fill, api.Trim, api.Take, api.SealReq, api.Read, api.GetProj}[rnd.Intn(7)]
			q := request(rnd, k, 2, seq)
			if k == api.SealReq {
				q.Epoch = 1 + uint64(rnd.Intn(2))
			}
			if a, code := u.Answer(q); code != api.OK || a.Kind != api.Failed && a.Kind != api.Sealed {
				t.Fatal(text(q), text(a), code)
			}
			h.same(t, u, places...)
		}
		for _, q := range []api.Msg{{Kind: api.PutProj, Epoch: 2, Proj: all(2, 7)}, {Kind: api.Take, Epoch: 2, Count: 1, Streams: []uint64{0, 1, 4}}} {
			if a, _ := u.Answer(q); text(a) != text(h.answer(q)) || a.Kind == api.Failed {
				t.Fatal(text(q), text(a))
			}
		}
	}
}

// Rules 4 and 6: a unit keeps nothing of a request, gives nothing of its own, and shares nothing with another.
func TestUnitMemory(t *testing.T) {
	u, other := unit(t), unit(t)
	data, streams, p := []byte{7, 8}, []uint64{5, 7}, all(3, 7)
	u.Answer(api.Msg{Kind: api.PutProj, Epoch: 3, Proj: p})
	write := api.Msg{Kind: api.Write, Epoch: 3, Pos: 1, Data: data}
	take := api.Msg{Kind: api.Take, Epoch: 3, Count: 2, Streams: streams}
	u.Answer(write)
	before := text(write) + text(take)
	u.Answer(take)
	if text(write)+text(take) != before || !slices.Equal(data, []byte{7, 8}) || text(api.Msg{Proj: p}) != text(api.Msg{Proj: all(3, 7)}) {
		t.Error(text(write), text(take), p)
	}
	data[0], streams[0], p.Stripes[0].Sets[0][0], p.Stripes[0].To = 9, 9, 9, 9
	for range 2 {
		a, _ := u.Answer(api.Msg{Kind: api.Read, Epoch: 3, Pos: 1})
		b, _ := u.Answer(api.Msg{Kind: api.GetProj, Epoch: 3})
		if !bytes.Equal(a.Data, []byte{7, 8}) || text(api.Msg{Proj: b.Proj}) != text(api.Msg{Proj: all(3, 7)}) {
			t.Fatal(text(a), text(b))
		}
		clear(a.Data)
		b.Proj.Stripes[0].Sets[0][0] = 9
		b.Proj.Stripes[0].From = 9
	}
	for i := range uint64(6) { // each answer has the Backs of its own time
		a, _ := u.Answer(api.Msg{Kind: api.Take, Epoch: 3, Count: 1, Streams: []uint64{5, 7}})
		want := []uint64{1, 0}
		for pos := range i {
			want = append([]uint64{2 + pos}, want...)
		}
		want = want[:min(len(want), 4)]
		for j := range a.Links {
			if !slices.Equal(a.Links[j].Backs, want) {
				t.Fatal(i, text(a))
			}
			clear(a.Links[j].Backs)
			a.Links[j].Backs = append(a.Links[j].Backs[:1], 9, 9, 9)
			a.Links[j].Stream = 9
		}
	}
	h := &history{node: 1, first: 2}
	h.same(t, other, 0, 1, 2)
}

// P30.6, P3: what a unit answers is written and read back.
func TestUnitTalksInFrames(t *testing.T) {
	u := unit(t)
	rnd := rand.New(rand.NewSource(30))
	for seq := range uint64(500) {
		own, _ := u.Epoch()
		a, code := u.Answer(request(rnd, 1+rnd.Intn(8), own, seq))
		s, wrong := rpc.Bytes(a)
		if b, f := rpc.Decode(s); code != api.OK || wrong != api.OK || f != (api.Fault{}) || text(a) != text(b) {
			t.Fatal(text(a), code, wrong, f)
		}
	}
}

// P30.5: numbers that are no positions have nothing at them.
func TestStateOfOtherNumbers(t *testing.T) {
	u := unit(t)
	run(t, u, []step{{at(api.Write, 0), done()}, {at(api.Write, maxPos-1), done()}})
	for _, pos := range []uint64{maxPos, maxPos + 1, math.MaxInt64, 1 << 63, top} {
		if u.State(pos) != api.Empty {
			t.Error(pos, u.State(pos))
		}
	}
}
