package expand_test

import (
	"bytes"
	"go/ast"
	"go/parser"
	gotoken "go/token"
	"math"
	"slices"
	"testing"

	"tholepin/api"
	"tholepin/cursor"
	"tholepin/expand"
	"tholepin/token"
	"tholepin/varint"
)

var good = api.Fault{}

func run(b ...byte) api.Token { return api.Token{Lit: b} }

func back(off, n int) api.Token { return api.Token{Off: off, Len: n} }

// count is n bytes that differ.
func count(n int) []byte {
	b := make([]byte, n)
	for i := range b {
		b[i] = byte(i*i*7 + i*31 + i>>3)
	}
	return b
}

// lists are all lists of up to n of some tokens.
func lists(n int, each ...api.Token) [][]api.Token {
	l := [][]api.Token{nil}
	for i := 0; i < len(l) && len(l[i]) < n; i++ {
		for _, t := range each {
			l = append(l, append(slices.Clone(l[i]), t))
		}
	}
	return l
}

// some are lists of runs and copies, and of a few that are no tokens.
func some() [][]api.Token {
	l := lists(4, run(7), run(8, 9), run(1, 2, 3, 4, 5), back(1, 4), back(2, 5), back(3, 7), back(6, 4))
	return append(l, lists(3, run(7), run(8, 9), back(1, 4), back(2, 5), back(9, 4), api.Token{}, back(1, 3), back(0, 4), api.Token{Lit: []byte{1}, Off: 1, Len: 4})...)
}

// texts are all byte strings of at most n of some bytes.
func texts(n int, each ...byte) [][]byte {
	l := [][]byte{nil}
	for i := 0; i < len(l) && len(l[i]) < n; i++ {
		for _, c := range each {
			l = append(l, append(slices.Clone(l[i]), c))
		}
	}
	return l
}

// isToken is the definition's words.
func isToken(t api.Token) bool {
	if t.Off == 0 {
		return t.Len == 0 && 1 <= len(t.Lit) && len(t.Lit) <= 1<<20
	}
	return len(t.Lit) == 0 && 1 <= t.Off && t.Off <= 1<<16 && 4 <= t.Len && t.Len <= 1<<20
}

// source is from where a byte came: a token, a place in it, and through how many copies.
type source struct{ index, place, copies int }

// expansion is the definition's words: the output, each byte's source, and the first fault.
func expansion(l []api.Token, bound int) ([]byte, []source, api.Fault) {
	var out []byte
	var from []source
	for i, t := range l {
		n := len(t.Lit) + t.Len
		switch {
		case !isToken(t):
			return nil, nil, api.Fault{Code: api.ErrInvalid, At: i}
		case len(out)+n > bound:
			return nil, nil, api.Fault{Code: api.ErrBound, At: i}
		case t.Off > len(out):
			return nil, nil, api.Fault{Code: api.ErrToken, At: i}
		}
		for k := range n {
			if t.Off == 0 {
				out, from = append(out, t.Lit[k]), append(from, source{i, k, 0})
				continue
			}
			end := len(out)
			s := from[end-t.Off]
			s.copies++
			out, from = append(out, out[end-t.Off]), append(from, s)
		}
	}
	return out, from, good
}

// P12.1, P12.2, P12.3: the examples of the chapter.
func TestExamples(t *testing.T) {
	l := []api.Token{run(7, 8), back(2, 5)}
	if b, f := expand.Tokens(l, 7); !bytes.Equal(b, []byte{7, 8, 7, 8, 7, 8, 7}) || f != good {
		t.Error(b, f)
	}
	if b, f := expand.Tokens(l, 6); b != nil || f != (api.Fault{Code: api.ErrBound, At: 1}) {
		t.Error(b, f)
	}
	if b, f := expand.Bytes([]byte{0, 9, 1, 1}, 99); b != nil || f != (api.Fault{Code: api.ErrToken, At: 3}) {
		t.Error(b, f)
	}
	if d, ok := expand.Deep(l); !ok || !slices.Equal(d, []int{0, 0, 1, 1, 2, 2, 3}) {
		t.Error(d, ok)
	}
	if o, ok := expand.Origins(l); !ok || !slices.Equal(o, [][2]int{{0, 0}, {0, 1}, {0, 0}, {0, 1}, {0, 0}, {0, 1}, {0, 0}}) {
		t.Error(o, ok)
	}
}

// P12.1, P12.4: Tokens gives what the definition says, for each bound; a bound that
// is enough makes no difference.
func TestTokens(t *testing.T) {
	faults := map[api.Errno]int{}
	for _, l := range some() {
		most, _, _ := expansion(l, math.MaxInt)
		for _, bound := range []int{math.MinInt, -1, 0, 1, 4, 5, 6, 9, 12, len(most) - 1, len(most), len(most) + 1, math.MaxInt} {
			want, _, fault := expansion(l, bound)
			got, f := expand.Tokens(l, bound)
			if f != fault || !bytes.Equal(got, want) || (f != good && got != nil) {
				t.Fatalf("%v to at most %d: %v, %v, not %v, %v", l, bound, got, f, want, fault)
			}
			if f == good && len(l) > 0 && (len(got) > bound || len(got) != token.Total(l)) {
				t.Fatalf("%v to at most %d: %d bytes", l, bound, len(got))
			}
			faults[f.Code]++
		}
	}
	if faults[api.OK] < 1000 || faults[api.ErrInvalid] < 100 || faults[api.ErrBound] < 1000 || faults[api.ErrToken] < 1000 {
		t.Error("too few of a kind to tell:", faults)
	}
}

// P12.1: of one token the first fault is ErrInvalid, then ErrBound, then ErrToken;
// of several tokens it is the first one's.
func TestOrderOfFaults(t *testing.T) {
	for _, c := range []struct {
		l     []api.Token
		bound int
		want  api.Fault
	}{
		{nil, 0, good}, {nil, -1, good}, {[]api.Token{}, math.MinInt, good},
		{[]api.Token{{}}, -1, api.Fault{Code: api.ErrInvalid}},
		{[]api.Token{{Lit: []byte{}}}, 9, api.Fault{Code: api.ErrInvalid}},
		{[]api.Token{back(9, 3)}, 0, api.Fault{Code: api.ErrInvalid}},
		{[]api.Token{run(7)}, 0, api.Fault{Code: api.ErrBound}},
		{[]api.Token{run(7)}, -1, api.Fault{Code: api.ErrBound}},
		{[]api.Token{run(7)}, math.MinInt, api.Fault{Code: api.ErrBound}},
		{[]api.Token{back(1, 4)}, 3, api.Fault{Code: api.ErrBound}},
		{[]api.Token{back(1, 4)}, 4, api.Fault{Code: api.ErrToken}},
		{[]api.Token{back(1, 4)}, math.MaxInt, api.Fault{Code: api.ErrToken}},
		{[]api.Token{run(7), back(2, 4)}, 5, api.Fault{Code: api.ErrToken, At: 1}},
		{[]api.Token{run(7), back(2, 4)}, 4, api.Fault{Code: api.ErrBound, At: 1}},
		{[]api.Token{run(7), back(2, 4), {}}, 5, api.Fault{Code: api.ErrToken, At: 1}},
		{[]api.Token{run(7), {}, back(2, 4)}, 0, api.Fault{Code: api.ErrBound}},
		{[]api.Token{run(7), {}, back(2, 4)}, 1, api.Fault{Code: api.ErrInvalid, At: 1}},
		{[]api.Token{run(7), back(1, 4), run(8), back(7, 4)}, 9, api.Fault{Code: api.ErrBound, At: 3}},
		{[]api.Token{run(7), back(1, 4), run(8), back(7, 4)}, 10, api.Fault{Code: api.ErrToken, At: 3}},
	} {
		if b, f := expand.Tokens(c.l, c.bound); b != nil || f != c.want {
			t.Errorf("%v to at most %d: %v, %v, not %v", c.l, c.bound, b, f, c.want)
		}
	}
}

// P12.1, P12.2: a copy reaches back to the window's end, and takes what it has made itself.
func TestFarAndLongCopies(t *testing.T) {
	far := count(1<<16 + 5)
	for _, off := range []int{1, 2, 3, 4, 5, 7, 100, 1<<16 - 1, 1 << 16} {
		for _, n := range []int{4, 5, 99, 1<<16 - 1, 1 << 16, 1<<16 + 1, 200000, 1 << 20} {
			l := []api.Token{run(far...), back(off, n)}
			want := slices.Clone(far)
			for range n {
				want = append(want, want[len(want)-off])
			}
			b, f := expand.Tokens(l, len(far)+n)
			if f != good || !bytes.Equal(b, want) {
				t.Fatal(off, n, len(b), f)
			}
			written, _ := token.Bytes(l)
			if b, f := expand.Bytes(written, len(far)+n); f != good || !bytes.Equal(b, want) {
				t.Fatal(off, n, len(b), f)
			}
		}
	}
}

// written is the definition's words: what Bytes gives.
func written(b []byte, bound int) ([]byte, api.Fault) {
	var out []byte
	for at := 0; at < len(b); {
		x, n, f := varint.Get(b[at:])
		size := x/2 + 1 + 3*(x%2)
		switch {
		case f != good:
			return nil, api.Fault{Code: f.Code, At: at + f.At}
		case size > 1<<20:
			return nil, api.Fault{Code: api.ErrLong, At: at}
		case len(out)+int(size) > bound:
			return nil, api.Fault{Code: api.ErrBound, At: at}
		}
		at += n
		if x%2 == 0 {
			if len(b)-at < int(size) {
				return nil, api.Fault{Code: api.ErrShort, At: len(b)}
			}
			out = append(out, b[at:at+int(size)]...)
			at += int(size)
			continue
		}
		off, n, f := varint.Get(b[at:])
		if f != good {
			return nil, api.Fault{Code: f.Code, At: at + f.At}
		}
		if off >= 65536 || int(off)+1 > len(out) {
			return nil, api.Fault{Code: api.ErrToken, At: at}
		}
		for range size {
			out = append(out, out[len(out)-1-int(off)])
		}
		at += n
	}
	return out, good
}

// P12.2: Bytes gives what the definition says, for each bound.
func TestBytes(t *testing.T) {
	all := append(texts(6, 0, 1, 2, 3, 5, 128), texts(5, 0, 1, 4, 127, 128, 129, 251, 255)...)
	faults := map[api.Errno]int{}
	for _, b := range all {
		before := slices.Clone(b)
		for _, bound := range []int{math.MinInt, -1, 0, 1, 2, 4, 5, 6, 9, 20, math.MaxInt} {
			want, fault := written(b, bound)
			got, f := expand.Bytes(b, bound)
			if f != fault || !bytes.Equal(got, want) || (f != good && got != nil) {
				t.Fatalf("%v to at most %d: %v, %v, not %v, %v", b, bound, got, f, want, fault)
			}
			if f == good && len(b) > 0 && len(got) > bound {
				t.Fatalf("%v to at most %d: %d bytes", b, bound, len(got))
			}
			faults[f.Code]++
		}
		if !bytes.Equal(b, before) {
			t.Fatal(before, "was changed")
		}
	}
	for _, code := range []api.Errno{api.OK, api.ErrShort, api.ErrNonMinimal, api.ErrBound, api.ErrToken} {
		if faults[code] < 1000 {
			t.Error("too few of a kind to tell:", faults)
		}
	}
}

// P12.2: of one token the first fault is Head's, then ErrBound, then that of the
// bytes or of the offset, then ErrToken of what is ahead of the first byte.
func TestOrderOfFaultsOfBytes(t *testing.T) {
	for _, c := range []struct {
		b     []byte
		bound int
		want  api.Fault
	}{
		{nil, 0, good}, {[]byte{}, -1, good}, {nil, math.MinInt, good},
		{[]byte{128}, -1, api.Fault{Code: api.ErrShort, At: 1}},
		{[]byte{128, 0}, -1, api.Fault{Code: api.ErrNonMinimal, At: 1}},
		{append(bytes.Repeat([]byte{255}, 9), 2), -1, api.Fault{Code: api.ErrOverflow, At: 9}},
		{append(bytes.Repeat([]byte{255}, 9), 1), -1, api.Fault{Code: api.ErrLong}},
		{[]byte{128, 128, 128, 1}, -1, api.Fault{Code: api.ErrLong}}, // a run of 2^20 + 1
		{[]byte{0, 9, 251, 255, 127, 0}, 1, api.Fault{Code: api.ErrLong, At: 2}},
		{[]byte{0}, 0, api.Fault{Code: api.ErrBound}},
		{[]byte{0}, math.MinInt, api.Fault{Code: api.ErrBound}},
		{[]byte{0}, 1, api.Fault{Code: api.ErrShort, At: 1}},
		{[]byte{0, 9, 4, 1, 2}, 3, api.Fault{Code: api.ErrBound, At: 2}},
		{[]byte{0, 9, 4, 1, 2}, 4, api.Fault{Code: api.ErrShort, At: 5}},
		{[]byte{0, 9, 1}, 4, api.Fault{Code: api.ErrBound, At: 2}},
		{[]byte{0, 9, 1}, 5, api.Fault{Code: api.ErrShort, At: 3}},
		{[]byte{0, 9, 1, 128, 0}, 4, api.Fault{Code: api.ErrBound, At: 2}},
		{[]byte{0, 9, 1, 128, 0}, 5, api.Fault{Code: api.ErrNonMinimal, At: 4}},
		{[]byte{0, 9, 1, 129, 0}, 5, api.Fault{Code: api.ErrNonMinimal, At: 4}}, // ahead of ErrToken
		{[]byte{0, 9, 1, 128, 128, 4}, 5, api.Fault{Code: api.ErrToken, At: 3}},
		{[]byte{0, 9, 1, 255, 255, 3}, 5, api.Fault{Code: api.ErrToken, At: 3}},
		{[]byte{0, 9, 1, 1}, 5, api.Fault{Code: api.ErrToken, At: 3}},
		{[]byte{0, 9, 1, 1}, 4, api.Fault{Code: api.ErrBound, At: 2}},
		{[]byte{1, 0}, 4, api.Fault{Code: api.ErrToken, At: 1}},
		{[]byte{1, 0}, 3, api.Fault{Code: api.ErrBound}},
		{[]byte{0, 9, 1, 0, 128, 0}, 5, api.Fault{Code: api.ErrNonMinimal, At: 5}},
		{[]byte{0, 9, 1, 0, 0, 8}, 5, api.Fault{Code: api.ErrBound, At: 4}},
		{[]byte{0, 9, 1, 0, 1, 5}, 9, api.Fault{Code: api.ErrToken, At: 5}},
	} {
		if b, f := expand.Bytes(c.b, c.bound); b != nil || f != c.want {
			t.Errorf("%v to at most %d: %v, %v, not %v", c.b, c.bound, b, f, c.want)
		}
	}
}

// P12.4: tokens and their encodings produce the same bytes, as many as Total says,
// and where they do not, their faults are of the same token.
func TestTokensAndBytesAgree(t *testing.T) {
	for _, l := range some() {
		b, code := token.Bytes(l)
		if code != api.OK {
			continue
		}
		var begins []int // each token's first byte, and a copy's offset behind it
		for _, x := range l {
			one, _ := token.Bytes([]api.Token{x})
			at := 0
			if len(begins) > 0 {
				at = begins[len(begins)-1]
			}
			begins = append(begins, at+len(one))
		}
		begins = append([]int{0}, begins...)
		for _, bound := range []int{0, 4, 6, 9, 12, token.Total(l) - 1, token.Total(l), 1 << 20} {
			want, fault := expand.Tokens(l, bound)
			got, f := expand.Bytes(b, bound)
			if !bytes.Equal(got, want) || f.Code != fault.Code {
				t.Fatalf("%v to at most %d: %v, %v, not %v, %v", l, bound, got, f, want, fault)
			}
			at := begins[fault.At]
			if f.Code == api.ErrToken {
				at++
			}
			if f != good && f.At != at {
				t.Fatalf("%v to at most %d: %v, not at %d", l, bound, f, at)
			}
		}
	}
}

// P12.2: Length is the total, whatever is copied, or the first fault of a token.
func TestLength(t *testing.T) {
	all := append(texts(6, 0, 1, 2, 3, 5, 128), texts(5, 0, 1, 4, 127, 128, 129, 251, 255)...)
	for _, b := range all {
		r := cursor.New(b)
		want := 0
		for r.Good() && r.Left() > 0 {
			want += token.Len(token.Read(r))
		}
		if !r.Good() {
			want = 0
		}
		if n, f := expand.Length(b); n != want || f != r.Fault() {
			t.Fatalf("%v: %d, %v, not %d, %v", b, n, f, want, r.Fault())
		}
	}
	for _, c := range []struct {
		b    []byte
		n    int
		want api.Fault
	}{
		{nil, 0, good}, {[]byte{}, 0, good}, {[]byte{1, 0}, 4, good}, {[]byte{3, 255, 255, 3}, 5, good}, {[]byte{2, 7, 8, 3, 1}, 7, good},
		{[]byte{2, 7, 8, 3}, 0, api.Fault{Code: api.ErrShort, At: 4}},
		{[]byte{2, 7}, 0, api.Fault{Code: api.ErrShort, At: 2}},
		{[]byte{0, 9, 1, 128, 128, 4}, 0, api.Fault{Code: api.ErrToken, At: 3}},
		{[]byte{0, 9, 251, 255, 127, 0}, 0, api.Fault{Code: api.ErrLong, At: 2}},
	} {
		if n, f := expand.Length(c.b); n != c.n || f != c.want {
			t.Errorf("%v: %d, %v, not %d, %v", c.b, n, f, c.n, c.want)
		}
	}
}

// P12.2: a total of 2^40 is told, and a greater one is refused at the token with
// which it is reached, behind that token's own fault.
func TestLengthAtItsLimit(t *testing.T) {
	all := bytes.Repeat([]byte{249, 255, 127, 0}, 1<<20) // copies of 2^20 bytes
	end := len(all)
	if n, f := expand.Length(all); n != 1<<40 || f != good {
		t.Error(n, f)
	}
	for _, c := range []struct {
		last []byte
		want api.Fault
	}{
		{[]byte{0, 9}, api.Fault{Code: api.ErrLong, At: end}},
		{[]byte{1, 0}, api.Fault{Code: api.ErrLong, At: end}},
		{[]byte{0, 9, 128, 0}, api.Fault{Code: api.ErrLong, At: end}},
		{[]byte{0}, api.Fault{Code: api.ErrShort, At: end + 1}},
		{[]byte{1, 128, 0}, api.Fault{Code: api.ErrNonMinimal, At: end + 2}},
		{[]byte{1, 128, 128, 4}, api.Fault{Code: api.ErrToken, At: end + 1}},
	} {
		if n, f := expand.Length(append(all[:end:end], c.last...)); n != 0 || f != c.want {
			t.Error(c.last, n, f, c.want)
		}
	}
	less := append(bytes.Clone(all[:end-4]), 247, 255, 127, 0) // one byte less
	if n, f := expand.Length(append(less, 0, 9)); n != 1<<40 || f != good {
		t.Error(n, f)
	}
	if n, f := expand.Length(append(less, 2, 9, 9)); n != 0 || f != (api.Fault{Code: api.ErrLong, At: end}) {
		t.Error(n, f)
	}
}

// P12.3, P12.4: each byte is that of its origin, and has gone through as many copies as the definition says.
func TestOriginsAndDeep(t *testing.T) {
	told := 0
	for _, l := range some() {
		out, want, fault := expansion(l, 1<<20)
		origins, ok := expand.Origins(l)
		deep, same := expand.Deep(l)
		if ok != (fault == good) || same != ok || len(origins) != len(out) || len(deep) != len(out) {
			t.Fatalf("%v: %v, %t, %v, %t", l, origins, ok, deep, same)
		}
		if fault != good && (origins != nil || deep != nil) {
			t.Fatalf("%v: %v, %v", l, origins, deep)
		}
		for i, s := range want {
			o := origins[i]
			if o != [2]int{s.index, s.place} || deep[i] != s.copies || l[o[0]].Lit[o[1]] != out[i] {
				t.Fatalf("%v: byte %d comes from %v through %d, not %v", l, i, o, deep[i], s)
			}
			told++
		}
	}
	if told < 1000 {
		t.Error("too few were expanded to tell:", told)
	}
}

// P12.3: 2^20 bytes are told, and one more is not, however they come about.
func TestOriginsAndDeepAtTheLimit(t *testing.T) {
	for _, c := range []struct {
		l  []api.Token
		ok bool
	}{
		{[]api.Token{run(count(1 << 20)...)}, true},
		{[]api.Token{run(count(1 << 20)...), run(1)}, false},
		{[]api.Token{run(7), back(1, 1<<20-1)}, true},
		{[]api.Token{run(7), back(1, 1<<20)}, false},
		{[]api.Token{run(7), back(1, 1<<20-5), back(2, 4)}, true},
		{[]api.Token{run(7), back(1, 1<<20-5), back(2, 5)}, false},
	} {
		origins, ok := expand.Origins(c.l)
		deep, same := expand.Deep(c.l)
		if ok != c.ok || same != c.ok {
			t.Fatal(len(c.l), ok, same)
		}
		if !ok {
			if origins != nil || deep != nil {
				t.Error(len(origins), len(deep))
			}
			continue
		}
		out, _, _ := expansion(c.l, 1<<20)
		for i, o := range origins {
			if c.l[o[0]].Lit[o[1]] != out[i] {
				t.Fatal(i, o)
			}
		}
		if len(out) != 1<<20 || len(deep) != 1<<20 {
			t.Error(len(out), len(deep))
		}
	}
	deep, _ := expand.Deep([]api.Token{run(7), back(1, 1<<20-1)})
	for i, n := range deep {
		if n != i {
			t.Fatal(i, n)
		}
	}
}

// P12.3: of no tokens there is nothing to tell, and that is true.
func TestNoTokens(t *testing.T) {
	for _, l := range [][]api.Token{nil, {}} {
		if o, ok := expand.Origins(l); len(o) != 0 || !ok {
			t.Error(o, ok)
		}
		if d, ok := expand.Deep(l); len(d) != 0 || !ok {
			t.Error(d, ok)
		}
	}
}

// P12.1, P12.2: outputs are new memory, and arguments stay as they are.
func TestMemory(t *testing.T) {
	l := []api.Token{run(7, 8)}
	a, _ := expand.Tokens(l, 9)
	b, _ := expand.Tokens(l, 9)
	a[0], a = 1, append(a, 2)
	b = append(b, 3)
	if !bytes.Equal(l[0].Lit, []byte{7, 8}) || !bytes.Equal(a, []byte{1, 8, 2}) || !bytes.Equal(b, []byte{7, 8, 3}) {
		t.Error(l, a, b)
	}
	l[0].Lit[1] = 4
	if a[1] != 8 {
		t.Error(a)
	}
	w := []byte{2, 7, 8}
	c, _ := expand.Bytes(w, 9)
	c[0] = 1
	w[2] = 5
	if !bytes.Equal(w, []byte{2, 7, 5}) || !bytes.Equal(c, []byte{1, 8}) {
		t.Error(w, c)
	}
}

// P12.1, P12.2: a bound that is far greater than the output needs no memory.
func TestFarBound(t *testing.T) {
	if b, f := expand.Tokens([]api.Token{run(7)}, math.MaxInt); len(b) != 1 || f != good {
		t.Error(b, f)
	}
	if b, f := expand.Bytes([]byte{0, 7}, math.MaxInt); len(b) != 1 || f != good {
		t.Error(b, f)
	}
}

// loopsOf is how many gotos a function has, and how many other loops.
func loopsOf(f *ast.FuncDecl) (gotos, loops int) {
	ast.Inspect(f, func(n ast.Node) bool {
		switch x := n.(type) {
		case *ast.BranchStmt:
			if x.Tok == gotoken.GOTO {
				gotos++
			}
		case *ast.ForStmt, *ast.RangeStmt:
			loops++
		}
		return true
	})
	return gotos, loops
}

// Ways of layer 12: tokens and written ones are visited in loops that are formed by a
// goto, and whatever visits them has no other loop.
func TestVisitsByGoto(t *testing.T) {
	file, err := parser.ParseFile(gotoken.NewFileSet(), "expand.go", nil, 0)
	if err != nil {
		t.Fatal(err)
	}
	want := map[string]int{"build": 1, "visitWritten": 1, "Tokens": 0, "Bytes": 0, "Length": 0, "Deep": 0}
	for _, d := range file.Decls {
		f, ok := d.(*ast.FuncDecl)
		if !ok {
			continue
		}
		n, asked := want[f.Name.Name]
		if gotos, loops := loopsOf(f); asked && (gotos != n || loops > 0) {
			t.Error(f.Name.Name, gotos, loops)
		}
		delete(want, f.Name.Name)
	}
	if len(want) > 0 {
		t.Error("not found:", want)
	}
}
