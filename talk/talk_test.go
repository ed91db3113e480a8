package talk_test

import (
	"fmt"
	"go/ast"
	"go/parser"
	"go/token"
	"math"
	"math/rand"
	"path/filepath"
	"slices"
	"strings"
	"testing"

	"tholepin/api"
	"tholepin/rpc"
	"tholepin/talk"
)

// The greatest numbers.
const (
	top       = uint64(math.MaxUint64)
	lastEpoch = uint64(1)<<62 - 1
	maxPos    = uint64(1) << 62
)

// all is a projection of all positions, with one node.
func all(e, node uint64) api.Projection {
	return api.Projection{Epoch: e, Stripes: []api.Stripe{{To: maxPos, Sets: [][]uint64{{node}}}}}
}

// basic is a valid message of a kind from 1 to 14.
func basic(k int, e, seq uint64) api.Msg {
	m := []api.Msg{
		{},
		{Pos: 300},
		{Pos: 300, Data: []byte{7, 8}},
		{},
		{Pos: 300},
		{Pos: 300},
		{Count: 2, Streams: []uint64{5, 7}},
		{},
		{Proj: all(3, 7)},
		{State: 1, Data: []byte{7, 8}},
		{},
		{Seal: api.Seal{Epoch: 3, Node: 1, Tail: 300}},
		{Pos: 300, Links: []api.Link{{Stream: 5, Backs: []uint64{299, 10}}, {Stream: 7}}},
		{Proj: all(3, 7)},
		{State: 18},
	}[k]
	m.Kind, m.Epoch, m.Seq = k, e, seq
	return m
}

// answers are the kinds that answer a request beside Failed.
var answers = []int{0, 9, 10, 11, 10, 10, 12, 13, 10}

// fitting is a response that fits the basic request of a kind.
func fitting(k int, e, seq uint64) api.Msg { return basic(answers[k], e, seq) }

// text is a message in words, in which nil and empty lists are the same.
func text(m api.Msg) string { return fmt.Sprint(m) }

// zero tells whether a message is the zero one.
func zero(m api.Msg) bool { return text(m) == text(api.Msg{}) }

// streams are the Streams of links.
func streams(l []api.Link) []uint64 {
	var s []uint64
	for _, x := range l {
		s = append(s, x.Stream)
	}
	return s
}

// expectedFits is what Fits is to tell, by the chapter's words.
func expectedFits(q, a api.Msg) api.Errno {
	if !rpc.Right(q) || !rpc.Right(a) {
		return api.ErrInvalid
	}
	if q.Kind > 8 || a.Kind != answers[q.Kind] && a.Kind != api.Failed {
		return api.ErrKind
	}
	if q.Seq != a.Seq {
		return api.ErrOrder
	}
	if a.Kind != api.Failed && q.Epoch != a.Epoch {
		return api.ErrState
	}
	if a.Kind == api.Taken && !slices.Equal(q.Streams, streams(a.Links)) {
		return api.ErrNone
	}
	return api.OK
}

// expectedCheck is what Check is to tell, by the definition of a talk; each message is held against
// all earlier ones.
func expectedCheck(l []api.Msg) (int, api.Errno) {
	for i, m := range l {
		if !rpc.Right(m) {
			return i, api.ErrInvalid
		}
		request, answered := -1, false
		for j, x := range l[:i] {
			if x.Kind <= 8 && m.Kind <= 8 && m.Seq <= x.Seq {
				return i, api.ErrOrder
			}
			if x.Kind <= 8 && x.Seq == m.Seq {
				request = j
			}
			answered = answered || x.Kind > 8 && x.Seq == m.Seq
		}
		if m.Kind <= 8 {
			continue
		}
		if request < 0 {
			return i, api.ErrNone
		}
		if answered {
			return i, api.ErrState
		}
		if code := expectedFits(l[request], m); code != api.OK {
			return i, code
		}
	}
	return len(l), api.OK
}

// expectedPairs is each request's index and that of the response with its Seq, in a talk.
func expectedPairs(l []api.Msg) [][2]int {
	var pairs [][2]int
	for i, q := range l {
		if q.Kind > 8 {
			continue
		}
		a := slices.IndexFunc(l, func(m api.Msg) bool { return m.Kind > 8 && m.Seq == q.Seq })
		pairs = append(pairs, [2]int{i, a})
	}
	return pairs
}

// check holds what the functions tell of messages against the chapter's words, and tells whether they
// are a talk.
func check(t *testing.T, l []api.Msg) bool {
	t.Helper()
	n, code := expectedCheck(l)
	if i, c := talk.Check(l); i != n || c != code {
		t.Fatalf("Check(%v) = %d, %v, not %d, %v", l, i, c, n, code)
	}
	pairs, ok := talk.Pairs(l)
	open, ok1 := talk.Open(l)
	next, ok2 := talk.Next(l)
	quiet := talk.Quiet(l)
	if code != api.OK {
		if pairs != nil || open != nil || next != 0 || ok || ok1 || ok2 || quiet {
			t.Fatal(l, pairs, open, next, quiet)
		}
		return false
	}
	var wantOpen []uint64
	wantNext, wantOk := uint64(0), true
	for _, p := range expectedPairs(l) {
		if p[1] < 0 {
			wantOpen = append(wantOpen, l[p[0]].Seq)
		}
		wantNext, wantOk = l[p[0]].Seq+1, l[p[0]].Seq < top
	}
	if !wantOk {
		wantNext = 0
	}
	if !ok || !slices.Equal(pairs, expectedPairs(l)) {
		t.Fatal(l, pairs, ok)
	}
	if !ok1 || !slices.Equal(open, wantOpen) || quiet != (len(wantOpen) == 0) {
		t.Fatal(l, open, ok1, quiet)
	}
	if next != wantNext || ok2 != wantOk {
		t.Fatal(l, next, ok2)
	}
	return true
}

// P30.1, P30.2: the examples of the chapter.
func TestExamples(t *testing.T) {
	l := []api.Msg{basic(api.Read, 3, 5), basic(api.Value, 3, 5)}
	if n, code := talk.Check(l); n != 2 || code != api.OK {
		t.Error(n, code)
	}
	if n, code := talk.Check(append(l, basic(api.Value, 3, 5))); n != 2 || code != api.ErrState {
		t.Error(n, code)
	}
}

// P30.1: which kinds fit which, in both orders.
func TestFitsOfKinds(t *testing.T) {
	for k := 1; k <= 14; k++ {
		for a := 1; a <= 14; a++ {
			want := api.ErrKind
			if k <= 8 && (a == answers[k] || a == api.Failed) {
				want = api.OK
			}
			if code := talk.Fits(basic(k, 3, 5), basic(a, 3, 5)); code != want {
				t.Error(k, a, code)
			}
		}
	}
}

// P30.1: the Seqs are the same, and so are the Epochs unless the response is Failed.
func TestFitsOfSeqsAndEpochs(t *testing.T) {
	for k := 1; k <= 8; k++ {
		for _, seq := range []uint64{0, 4, 6, 1<<32 + 5, top} {
			for _, e := range []uint64{1, 3, lastEpoch} {
				if code := talk.Fits(basic(k, 3, 5), fitting(k, e, seq)); code != api.ErrOrder {
					t.Error(k, seq, e, code)
				}
				if code := talk.Fits(basic(k, 3, 5), basic(api.Failed, e, seq)); code != api.ErrOrder {
					t.Error(k, seq, e, code)
				}
			}
		}
		for _, e := range []uint64{1, 2, 4, lastEpoch} {
			if code := talk.Fits(basic(k, 3, 5), fitting(k, e, 5)); code != api.ErrState {
				t.Error(k, e, code)
			}
			if code := talk.Fits(basic(k, 3, 5), basic(api.Failed, e, 5)); code != api.OK {
				t.Error(k, e, code)
			}
		}
	}
}

// P30.1: the Streams of the links are exactly those of the request, in order.
func TestFitsOfStreams(t *testing.T) {
	lists := [][]uint64{nil, {}, {0}, {5}, {7}, {5, 7}, {5, 7, 9}, {0, 5, 7}, {5, 8}, {4, 7}, {7, 9}, {0, top}}
	for i, a := range lists {
		for j, b := range lists {
			q := api.Msg{Kind: api.Take, Epoch: 3, Seq: 5, Count: 1, Streams: a}
			m := api.Msg{Kind: api.Taken, Epoch: 3, Seq: 5, Pos: 9}
			for _, stream := range b {
				m.Links = append(m.Links, api.Link{Stream: stream, Backs: []uint64{8, stream % 3}})
			}
			want := api.ErrNone
			if slices.Equal(a, b) {
				want = api.OK
			}
			if code := talk.Fits(q, m); code != want {
				t.Error(i, j, code)
			}
			if m.Epoch = 4; talk.Fits(q, m) != api.ErrState {
				t.Error(i, j, talk.Fits(q, m))
			}
		}
	}
}

// P30.1: a message that is not valid is refused ahead of everything else, and then the kinds.
func TestFitsOfWrongMessages(t *testing.T) {
	bad := []api.Msg{{}, {Kind: 15, Epoch: 1}, basic(api.Read, 0, 5), basic(api.Value, lastEpoch+1, 5), {Kind: api.Value, Epoch: 3, Seq: 5}}
	for k := 1; k <= 14; k++ {
		for _, m := range bad {
			if code := talk.Fits(basic(k, 3, 5), m); code != api.ErrInvalid {
				t.Error(k, text(m), code)
			}
			if code := talk.Fits(m, basic(k, 3, 5)); code != api.ErrInvalid {
				t.Error(k, text(m), code)
			}
		}
	}
	if code := talk.Fits(basic(api.Read, 3, 5), basic(api.Done, 4, 6)); code != api.ErrKind {
		t.Error(code)
	}
}

// P30.2: the first message at which messages are no talk, and the first of its errors.
func TestCheck(t *testing.T) {
	q := func(seq uint64) api.Msg { return basic(api.Read, 3, seq) }
	a := func(seq uint64) api.Msg { return basic(api.Value, 3, seq) }
	bad := func(m api.Msg) api.Msg { m.Epoch = 0; return m }
	failed := basic(api.Failed, 9, 5)
	taken := basic(api.Taken, 3, 5)
	taken.Links = taken.Links[:1]
	for i, c := range []struct {
		l    []api.Msg
		n    int
		code api.Errno
	}{
		{nil, 0, api.OK},
		{[]api.Msg{}, 0, api.OK},
		{[]api.Msg{q(0)}, 1, api.OK},
		{[]api.Msg{q(top)}, 1, api.OK},
		{[]api.Msg{q(0), q(1), q(top), a(1), a(top), a(0)}, 6, api.OK},
		{[]api.Msg{q(5), failed}, 2, api.OK},
		{[]api.Msg{q(5), a(5), q(6), a(6)}, 4, api.OK},
		{[]api.Msg{{}}, 0, api.ErrInvalid},
		{[]api.Msg{q(5), a(5), {}}, 2, api.ErrInvalid},
		{[]api.Msg{q(5), bad(q(5))}, 1, api.ErrInvalid},
		{[]api.Msg{q(5), bad(a(9))}, 1, api.ErrInvalid},
		{[]api.Msg{q(5), q(5)}, 1, api.ErrOrder},
		{[]api.Msg{q(5), a(5), q(5)}, 2, api.ErrOrder},
		{[]api.Msg{q(5), q(7), q(6)}, 2, api.ErrOrder},
		{[]api.Msg{q(5), q(4)}, 1, api.ErrOrder},
		{[]api.Msg{q(top), q(0)}, 1, api.ErrOrder},
		{[]api.Msg{q(top), q(top)}, 1, api.ErrOrder},
		{[]api.Msg{q(0), q(0)}, 1, api.ErrOrder},
		{[]api.Msg{a(5)}, 0, api.ErrNone},
		{[]api.Msg{a(0)}, 0, api.ErrNone},
		{[]api.Msg{a(5), q(5)}, 0, api.ErrNone},
		{[]api.Msg{q(5), a(4)}, 1, api.ErrNone},
		{[]api.Msg{q(5), a(6), q(6)}, 1, api.ErrNone},
		{[]api.Msg{q(5), a(5), a(4)}, 2, api.ErrNone},
		{[]api.Msg{q(5), a(5), a(5)}, 2, api.ErrState},
		{[]api.Msg{q(5), a(5), failed}, 2, api.ErrState},
		{[]api.Msg{q(5), failed, a(5)}, 2, api.ErrState},
		{[]api.Msg{q(4), q(5), a(5), q(6), basic(api.Done, 9, 5)}, 4, api.ErrState}, // though it doesn't fit either
		{[]api.Msg{q(5), basic(api.Done, 3, 5)}, 1, api.ErrKind},
		{[]api.Msg{q(5), basic(api.Done, 4, 5)}, 1, api.ErrKind},
		{[]api.Msg{q(5), basic(api.Value, 4, 5)}, 1, api.ErrState},
		{[]api.Msg{basic(api.Take, 3, 5), taken}, 1, api.ErrNone},
		{[]api.Msg{basic(api.Take, 3, 5), basic(api.Taken, 3, 5)}, 2, api.OK},
		{[]api.Msg{q(5), basic(api.Done, 3, 5), {}}, 1, api.ErrKind},
	} {
		if n, code := talk.Check(c.l); n != c.n || code != c.code {
			t.Error(i, n, code)
		}
		check(t, c.l)
	}
}

// P30.3: pairs, what is open, and the next Seq of a talk.
func TestOfTalk(t *testing.T) {
	l := []api.Msg{basic(api.Read, 3, 5), basic(api.Take, 3, 9), basic(api.Write, 4, 10), basic(api.Taken, 3, 9), basic(api.SealReq, 4, 300), basic(api.Failed, 1, 5)}
	pairs, ok := talk.Pairs(l)
	if !ok || !slices.Equal(pairs, [][2]int{{0, 5}, {1, 3}, {2, -1}, {4, -1}}) {
		t.Error(pairs, ok)
	}
	open, ok := talk.Open(l)
	if !ok || !slices.Equal(open, []uint64{10, 300}) || talk.Quiet(l) {
		t.Error(open, ok, talk.Quiet(l))
	}
	if next, ok := talk.Next(l); next != 301 || !ok {
		t.Error(next, ok)
	}
	l = append(l, basic(api.Done, 4, 10), basic(api.Sealed, 4, 300))
	open, ok = talk.Open(l)
	if !ok || len(open) != 0 || !talk.Quiet(l) {
		t.Error(open, ok, talk.Quiet(l))
	}
	for _, l := range [][]api.Msg{nil, {}} {
		pairs, ok := talk.Pairs(l)
		open, ok1 := talk.Open(l)
		next, ok2 := talk.Next(l)
		if len(pairs) != 0 || len(open) != 0 || next != 0 || !ok || !ok1 || !ok2 || !talk.Quiet(l) {
			t.Error(pairs, open, next, ok, ok1, ok2)
		}
	}
	for _, seq := range []uint64{0, 1, top - 1, top} {
		l := []api.Msg{basic(api.Read, 3, seq)}
		if next, ok := talk.Next(l); ok != (seq < top) || ok && next != seq+1 || !ok && next != 0 {
			t.Error(seq, next, ok)
		}
		check(t, l)
	}
}

// P30.3: Fail gives the Failed message of a request, and its errors in their order.
func TestFail(t *testing.T) {
	for k := 1; k <= 14; k++ {
		for _, e := range []uint64{0, 1, 3, lastEpoch, lastEpoch + 1, top} {
			for code := api.Errno(-1); code <= 22; code++ {
				q := basic(k, 3, 5)
				m, got := talk.Fail(q, e, code)
				want := api.OK
				switch {
				case e == 0 || e > lastEpoch || code < 1 || code > 20:
					want = api.ErrInvalid
				case k > 8:
					want = api.ErrKind
				}
				if got != want || want != api.OK && !zero(m) {
					t.Error(k, e, code, text(m), got)
				}
				if want == api.OK && text(m) != text(api.Msg{Kind: api.Failed, Epoch: e, Seq: 5, State: int(code)}) {
					t.Error(k, e, code, text(m))
				}
			}
		}
		bad := basic(k, 0, 5)
		if m, code := talk.Fail(bad, 3, api.ErrSum); !zero(m) || code != api.ErrInvalid {
			t.Error(k, text(m), code)
		}
	}
	for _, code := range []api.Errno{math.MaxInt, math.MinInt, 256 + 3} {
		if m, got := talk.Fail(basic(api.Read, 3, 5), 3, code); !zero(m) || got != api.ErrInvalid {
			t.Error(code, text(m), got)
		}
	}
	if m, code := talk.Fail(api.Msg{Kind: 15}, 3, api.ErrSum); !zero(m) || code != api.ErrInvalid {
		t.Error(text(m), code)
	}
}

// next is a message that goes on from messages, mostly so that they stay a talk.
func next(rnd *rand.Rand, l []api.Msg) api.Msg {
	seq, ok := talk.Next(l)
	open, _ := talk.Open(l)
	var m api.Msg
	if len(open) > 0 && rnd.Intn(3) > 0 || !ok {
		seq := uint64(rnd.Intn(9))
		if len(open) > 0 {
			seq = open[rnd.Intn(len(open))]
		}
		m = basic(api.Failed, 1+uint64(rnd.Intn(4)), seq)
		if i := slices.IndexFunc(l, func(q api.Msg) bool { return q.Kind <= 8 && q.Seq == seq }); i >= 0 && rnd.Intn(4) > 0 {
			m = fitting(l[i].Kind, l[i].Epoch, seq)
		}
	} else {
		m = basic(1+rnd.Intn(8), 1+uint64(rnd.Intn(4)), seq+uint64(rnd.Intn(2)))
	}
	switch rnd.Intn(40) { // and now and then something is wrong
	case 0:
		m.Seq += uint64(rnd.Intn(5)) - 2
	case 1:
		m.Epoch = uint64(rnd.Intn(4))
	case 2:
		m = basic(1+rnd.Intn(14), m.Epoch, m.Seq)
	case 3:
		m = basic(9+rnd.Intn(6), m.Epoch, uint64(rnd.Intn(20)))
	}
	return m
}

// P30.1 to P30.4: messages as they come; every beginning of a talk is a talk, and what Fail makes of an
// open request closes it.
func TestRandomTalks(t *testing.T) {
	rnd := rand.New(rand.NewSource(30))
	right, wrong := 0, 0
	codes := map[api.Errno]int{}
	for range 3000 {
		var l []api.Msg
		if rnd.Intn(20) == 0 {
			l = append(l, basic(api.Read, 3, top-uint64(rnd.Intn(3))))
		}
		for n := rnd.Intn(25); len(l) < n && check(t, l); {
			l = append(l, next(rnd, l))
		}
		if !check(t, l) {
			wrong++
			_, code := talk.Check(l)
			codes[code]++
			continue
		}
		right++
		for n := range l {
			if !check(t, l[:n]) {
				t.Fatal(l, n)
			}
		}
		closes(t, l)
	}
	if right < 500 || wrong < 500 || codes[api.ErrInvalid] < 10 || codes[api.ErrOrder] < 10 || codes[api.ErrNone] < 10 || codes[api.ErrState] < 10 || codes[api.ErrKind] < 10 {
		t.Error(right, wrong, codes)
	}
}

// closes fails all open requests of a talk.
func closes(t *testing.T, l []api.Msg) {
	t.Helper()
	pairs, _ := talk.Pairs(l)
	l = slices.Clone(l)
	answered := map[int]bool{}
	for _, p := range pairs {
		if p[1] >= 0 {
			if answered[p[1]] || talk.Fits(l[p[0]], l[p[1]]) != api.OK {
				t.Fatal(l, p)
			}
			answered[p[1]] = true
			continue
		}
		m, code := talk.Fail(l[p[0]], 1, api.ErrNone)
		if code != api.OK || talk.Fits(l[p[0]], m) != api.OK {
			t.Fatal(l, p, text(m), code)
		}
		before, _ := talk.Open(l)
		l = append(l, m)
		after, ok := talk.Open(l)
		if i := slices.Index(before, m.Seq); !ok || i < 0 || !slices.Equal(after, slices.Delete(before, i, i+1)) {
			t.Fatal(l, before, after, ok)
		}
	}
	if !talk.Quiet(l) {
		t.Fatal(l)
	}
}

// P30.2, P30.3: very many requests that are open at once, and answered in another order.
func TestLongTalk(t *testing.T) {
	const n = 50000
	var l []api.Msg
	for i := range uint64(n) {
		l = append(l, basic(api.Trim, 3, 2*i))
	}
	for i := range uint64(n) {
		l = append(l, basic(api.Done, 3, 2*(i*7919%n)))
	}
	if at, code := talk.Check(l); at != 2*n || code != api.OK || !talk.Quiet(l) {
		t.Error(at, code)
	}
	open, ok := talk.Open(l[:2*n-2])
	last := []uint64{2 * ((n - 2) * 7919 % n), 2 * ((n - 1) * 7919 % n)}
	slices.Sort(last)
	if !ok || !slices.Equal(open, last) {
		t.Error(open, ok)
	}
}

// Rule 4: the messages are not changed, and what is given is the caller's own.
func TestMemory(t *testing.T) {
	l := []api.Msg{basic(api.Take, 3, 5), basic(api.Write, 3, 6), basic(api.Taken, 3, 5), basic(api.GetProj, 3, 7), basic(api.IsProj, 3, 7)}
	before := fmt.Sprint(l)
	pairs, _ := talk.Pairs(l)
	open, _ := talk.Open(l)
	clear(pairs)
	clear(open)
	talk.Fits(l[0], l[2])
	talk.Fail(l[1], 3, api.ErrSum)
	if fmt.Sprint(l) != before || !check(t, l) {
		t.Error(l)
	}
}

// Ways of layer 30: requests stand in a map by their Seqs, and are deleted from it.
func TestRequestsStandInAMap(t *testing.T) {
	files, err := filepath.Glob("*.go")
	if err != nil {
		t.Fatal(err)
	}
	maps, deletes := 0, 0
	for _, name := range files {
		if strings.HasSuffix(name, "_test.go") {
			continue
		}
		file, err := parser.ParseFile(token.NewFileSet(), name, nil, 0)
		if err != nil {
			t.Fatal(err)
		}
		ast.Inspect(file, func(n ast.Node) bool {
			switch x := n.(type) {
			case *ast.MapType:
				if key, ok := x.Key.(*ast.Ident); ok && key.Name == "uint64" {
					maps++
				}
			case *ast.CallExpr:
				if f, ok := x.Fun.(*ast.Ident); ok && f.Name == "delete" {
					deletes++
				}
			}
			return true
		})
	}
	if maps == 0 || deletes == 0 {
		t.Error(maps, deletes)
	}
}
