package press_test

import (
	"bytes"
	"go/ast"
	"go/parser"
	gotoken "go/token"
	"math"
	"math/rand"
	"slices"
	"testing"

	"tholepin/api"
	"tholepin/expand"
	"tholepin/press"
	"tholepin/seek"
	"tholepin/token"
	"tholepin/varint"
)

var good = api.Fault{}

func run(b ...byte) api.Token { return api.Token{Lit: b} }

func back(off, n int) api.Token { return api.Token{Off: off, Len: n} }

// letters is a text of n bytes, with so many different ones.
func letters(r *rand.Rand, n, kinds int) []byte {
	b := make([]byte, n)
	for i := range b {
		b[i] = byte(r.Intn(kinds))
	}
	return b
}

// pieces is a text of n bytes in which much occurs again.
func pieces(r *rand.Rand, n, kinds int) []byte {
	b := letters(r, r.Intn(30), kinds)
	for len(b) < n {
		from := r.Intn(len(b) + 1)
		b = append(b, b[from:min(len(b), from+r.Intn(90))]...)
		b = append(b, byte(r.Intn(kinds)))
	}
	return b[:n]
}

// distinct is n bytes in which no four occur again: each four have a number of their own,
// and the highest bits tell which part of it a byte is.
func distinct(n int) []byte {
	b := make([]byte, n)
	for at := range b {
		part := at % 4
		b[at] = byte(part<<6 | at/4>>(6*part)&63)
	}
	return b
}

// short are all texts of two bytes up to a length.
func short(most int) [][]byte {
	var l [][]byte
	for n := range most + 1 {
		for x := range 1 << n {
			b := make([]byte, n)
			for i := range b {
				b[i] = byte(x >> i & 1)
			}
			l = append(l, b)
		}
	}
	return l
}

// texts are short ones, and others in which much occurs again.
func texts() [][]byte {
	l := append(short(10), nil, []byte("abcabcabcd"), []byte("abcabcabc"), []byte("abcdXabcdYabcd"), bytes.Repeat([]byte("a"), 40), make([]byte, 300))
	r := rand.New(rand.NewSource(15))
	for range 60 {
		l = append(l, pieces(r, 1+r.Intn(400), 1+r.Intn(5)), letters(r, r.Intn(200), 1+r.Intn(4)))
	}
	return l
}

// best is the definition's words: the longest match of a position, and of these the smallest offset.
func best(b []byte, at int) (int, int) {
	off, n := 0, 3
	for o := 1; o <= min(at, 65536); o++ {
		m := 0
		for m < 1<<20 && at+m < len(b) && b[at+m] == b[at+m-o] {
			m++
		}
		if m > n {
			off, n = o, m
		}
	}
	if off == 0 {
		return 0, 0
	}
	return off, n
}

// greedy is the definition's words: a copy of the best match, or else a literal, which goes
// to the run that is last.
func greedy(b []byte) []api.Token {
	var l []api.Token
	for at := 0; at < len(b); {
		if off, n := best(b, at); n > 0 {
			l = append(l, back(off, n))
			at += n
			continue
		}
		if len(l) == 0 || l[len(l)-1].Off > 0 {
			l = append(l, api.Token{})
		}
		last := &l[len(l)-1]
		last.Lit = append(last.Lit, b[at])
		at++
	}
	return l
}

// encoding is the definition's words: the head, and the bytes or the offset.
func encoding(l []api.Token) []byte {
	var b []byte
	for _, t := range l {
		if t.Off == 0 {
			b = append(b, varint.Bytes(uint64(2*(len(t.Lit)-1)))...)
			b = append(b, t.Lit...)
		} else {
			b = append(b, varint.Bytes(uint64(2*(t.Len-4)+1))...)
			b = append(b, varint.Bytes(uint64(t.Off-1))...)
		}
	}
	return b
}

// P15.1, P15.2, P15.4: the examples of the chapter.
func TestExamples(t *testing.T) {
	want := []api.Token{run('a', 'b', 'c'), back(3, 6), run('d')}
	if l, code := press.Tokens([]byte("abcabcabcd")); code != api.OK || !token.Same(l, want) {
		t.Error(l, code)
	}
	if b, code := press.Bytes([]byte("abcabcabcd")); code != api.OK || !bytes.Equal(b, []byte{4, 'a', 'b', 'c', 5, 2, 0, 'd'}) {
		t.Error(b, code)
	}
	if b, _ := press.Bytes(bytes.Repeat([]byte("a"), 40)); !bytes.Equal(b, []byte{0, 97, 71, 0}) {
		t.Error(b)
	}
	if press.Written([]api.Token{run([]byte("aaaaaaaa")...)}) {
		t.Error("a run of eight bytes a is canonical")
	}
	if !press.Written([]api.Token{run('a'), back(1, 7)}) {
		t.Error("a and the copy of 7 bytes are not canonical")
	}
	if n := press.LeastSize([]byte("abc")); n != 4 {
		t.Error(n)
	}
}

// P15.1: the tokens and their encoding are those of the definition.
func TestTokensAndBytes(t *testing.T) {
	for _, b := range texts() {
		want := greedy(b)
		if l, code := press.Tokens(b); code != api.OK || !token.Same(l, want) {
			t.Fatal(b, l, code, want)
		}
		if got, code := press.Bytes(b); code != api.OK || !bytes.Equal(got, encoding(want)) {
			t.Fatal(b, got, code)
		}
	}
}

// P15.1: a single run, and no tokens for no bytes.
func TestRuns(t *testing.T) {
	for _, b := range texts() {
		l, code := press.Runs(b)
		switch {
		case code != api.OK:
			t.Error(b, code)
		case len(b) == 0 && len(l) != 0:
			t.Error(l)
		case len(b) > 0 && !token.Same(l, []api.Token{{Lit: b}}):
			t.Error(b, l)
		}
	}
}

// P15.1, P15.2: no bytes have no tokens.
func TestNoBytes(t *testing.T) {
	for _, b := range [][]byte{nil, {}} {
		l, code := press.Tokens(b)
		runs, codeR := press.Runs(b)
		least, codeL := press.Least(b)
		if len(l)+len(runs)+len(least) != 0 || code != api.OK || codeR != api.OK || codeL != api.OK {
			t.Error(l, code, runs, codeR, least, codeL)
		}
		if e, code := press.Bytes(b); len(e) != 0 || code != api.OK {
			t.Error(e, code)
		}
		if press.Saves(b) != 0 || press.LeastSize(b) != 0 || press.Gain(b) != 0 {
			t.Error(press.Saves(b), press.LeastSize(b), press.Gain(b))
		}
		if out, own, f := press.Check(b, 0); len(out) != 0 || !own || f != good {
			t.Error(out, own, f)
		}
	}
	if !press.Written(nil) || !press.Written([]api.Token{}) {
		t.Error("no tokens are not canonical")
	}
}

// P15.1, P15.2: texts of MaxPayload bytes are compressed, and longer ones are not.
func TestMaxPayload(t *testing.T) {
	const n = api.MaxPayload
	for _, b := range [][]byte{make([]byte, n), distinct(n), pieces(rand.New(rand.NewSource(1)), n, 9)} {
		l, code := press.Tokens(b)
		out, f := expand.Tokens(l, n)
		if code != api.OK || f != good || !bytes.Equal(out, b) || !press.Written(l) {
			t.Error(len(l), code, f, len(out))
		}
		e, code := press.Bytes(b)
		if code != api.OK || !bytes.Equal(e, encoding(l)) || press.Saves(b) != n-len(e) {
			t.Error(len(e), code, press.Saves(b))
		}
		for _, bound := range []int{n, n + 1, math.MaxInt} {
			if out, own, f := press.Check(e, bound); !bytes.Equal(out, b) || !own || f != good {
				t.Error(bound, len(out), own, f)
			}
		}
		if out, own, f := press.Check(e, n-1); out != nil || own || f.Code != api.ErrBound {
			t.Error(len(out), own, f)
		}
		if l, code := press.Runs(b); code != api.OK || !token.Same(l, []api.Token{{Lit: b}}) {
			t.Error(len(l), code)
		}
	}
}

// P15.1, P15.2: texts of more than MaxPayload bytes.
func TestTooLong(t *testing.T) {
	for _, n := range []int{api.MaxPayload + 1, api.MaxPayload + 1000} {
		b := make([]byte, n)
		if l, code := press.Tokens(b); l != nil || code != api.ErrLong {
			t.Error(n, len(l), code)
		}
		if e, code := press.Bytes(b); e != nil || code != api.ErrLong {
			t.Error(n, len(e), code)
		}
		if l, code := press.Runs(b); l != nil || code != api.ErrLong {
			t.Error(n, len(l), code)
		}
		if press.Saves(b) != 0 {
			t.Error(n, press.Saves(b))
		}
	}
}

// P15.2: tokens that produce too much, or nothing, are not canonical, and Check keeps to its own bound.
func TestTooMuchIsProduced(t *testing.T) {
	const n = api.MaxPayload
	long := []api.Token{run(0), back(1, n)}
	if press.Written(long) || press.Written(append(long[:2:2], back(1, n))) {
		t.Error("tokens of more than MaxPayload bytes are canonical")
	}
	if !press.Written([]api.Token{run(0), back(1, n-1)}) {
		t.Error("tokens of MaxPayload bytes are not canonical")
	}
	at2 := api.Fault{Code: api.ErrBound, At: 2}
	for _, bound := range []int{n, n + 1, 2 * n, math.MaxInt} {
		if out, own, f := press.Check(encoding(long), bound); out != nil || own || f != at2 {
			t.Error(bound, len(out), own, f)
		}
	}
}

// P15.2: what is no tokens is not canonical.
func TestWrittenOfWhatIsNone(t *testing.T) {
	for _, l := range [][]api.Token{
		{{}}, {run('a'), {}}, {back(1, 4)}, {run('a'), back(2, 4)}, {run('a'), back(1, 3)},
		{run('a'), back(1, 7), {Off: -1, Len: 4}}, {{Lit: []byte("a"), Off: 1, Len: 4}}, {{Lit: []byte("a"), Len: 1}},
		{run('a'), back(1, math.MaxInt)}, {run('a'), back(math.MaxInt, 4)},
	} {
		if press.Written(l) {
			t.Error(l)
		}
	}
}

// all are all lists of tokens that produce a text.
func all(b []byte, at int, visit func([]api.Token), ahead []api.Token) {
	if at == len(b) {
		visit(ahead)
		return
	}
	for n := 1; at+n <= len(b); n++ {
		l := append(ahead[:len(ahead):len(ahead)], run(b[at:at+n]...))
		all(b, at+n, visit, l)
	}
	for off := 1; off <= at; off++ {
		for n := 1; at+n <= len(b) && b[at+n-1] == b[at+n-1-off]; n++ {
			if n >= 4 {
				all(b, at+n, visit, append(ahead[:len(ahead):len(ahead)], back(off, n)))
			}
		}
	}
}

// P15.2, P15.3, P15.4: of all tokens that produce a text the canonical ones are those of the
// definition alone, and no others are written in fewer bytes than the least ones.
func TestAllTokens(t *testing.T) {
	l := append(short(9), []byte("abcabcabcd"), []byte("ababababab"), []byte("abcdabcda"), make([]byte, 10))
	for _, b := range l {
		want := greedy(b)
		least, canonical := math.MaxInt, 0
		all(b, 0, func(l []api.Token) {
			own := token.Same(l, want)
			if own {
				canonical++
			}
			e := encoding(l)
			least = min(least, len(e))
			if press.Written(l) != own {
				t.Fatal(b, l, own)
			}
			if out, got, f := press.Check(e, len(b)); !bytes.Equal(out, b) || got != own || f != good {
				t.Fatal(b, l, out, got, f)
			}
		}, nil)
		if n := press.LeastSize(b); n != least || canonical != 1 {
			t.Fatal(b, n, least, canonical)
		}
	}
}

// others are lists of tokens that produce what one of them produces, of which each one
// differs in one token.
func others(l []api.Token, text []byte) [][]api.Token {
	var out [][]api.Token
	at := 0
	for i, t := range l {
		put := func(instead ...api.Token) {
			out = append(out, slices.Concat(l[:i], instead, l[i+1:]))
		}
		n := token.Len(t)
		if t.Off == 0 {
			for k := 1; k < n; k++ {
				put(run(t.Lit[:k]...), run(t.Lit[k:]...))
			}
		} else {
			put(run(text[at : at+n]...))
			put(back(t.Off, n-1), run(text[at+n-1]))
			put(run(text[at]), back(t.Off, n-1))
			put(back(t.Off, n-4), back(t.Off, 4))
			for off := 1; off <= min(at, 65536); off++ {
				if off != t.Off && seek.Match(text, at, off) >= n {
					put(back(off, n))
				}
			}
		}
		at += n
	}
	return out
}

// P15.2, P15.3: other tokens of longer texts are not canonical, but expand to the same.
func TestOtherTokens(t *testing.T) {
	r := rand.New(rand.NewSource(152))
	tried := 0
	for range 60 {
		text := pieces(r, 1+r.Intn(300), 1+r.Intn(4))
		own := greedy(text)
		if !press.Written(own) {
			t.Fatal(text, own)
		}
		for _, l := range others(own, text) {
			out, f := expand.Tokens(l, len(text))
			if f != good || !bytes.Equal(out, text) {
				continue // too short a copy is none
			}
			tried++
			if press.Written(l) {
				t.Fatal(text, l)
			}
			if out, canonical, f := press.Check(encoding(l), len(text)); !bytes.Equal(out, text) || canonical || f != good {
				t.Fatal(text, l, canonical, f)
			}
		}
	}
	if tried < 1000 {
		t.Error(tried)
	}
}

// P15.2: Check has the faults of expand.Bytes with the smaller bound, the output, and whether
// the tokens are the canonical ones.
func TestCheck(t *testing.T) {
	r := rand.New(rand.NewSource(12))
	for _, text := range texts() {
		e := encoding(greedy(text))
		for range 8 {
			x := slices.Clone(e)
			if len(x) > 0 && r.Intn(3) > 0 {
				x[r.Intn(len(x))] = byte(r.Intn(256))
			}
			x = x[:len(x)-r.Intn(len(x)+1)/4]
			for _, bound := range []int{math.MinInt, -1, 0, 1, len(text) - 1, len(text), len(text) + 1, math.MaxInt} {
				want, wantF := expand.Bytes(x, min(bound, api.MaxPayload))
				own := wantF == good && bytes.Equal(x, encoding(greedy(want)))
				out, got, f := press.Check(x, bound)
				if f != wantF || !bytes.Equal(out, want) || got != own || f != good && out != nil {
					t.Fatal(x, bound, out, got, f, want, own, wantF)
				}
			}
		}
	}
}

// P15.2: faults of Check at each kind of place.
func TestCheckRefuses(t *testing.T) {
	for _, c := range []struct {
		b     []byte
		bound int
		f     api.Fault
	}{
		{[]byte{0, 9, 1, 1}, 9, api.Fault{Code: api.ErrToken, At: 3}},
		{[]byte{0, 9, 1, 0}, 4, api.Fault{Code: api.ErrBound, At: 2}},
		{[]byte{0, 9}, 0, api.Fault{Code: api.ErrBound, At: 0}},
		{[]byte{0, 9}, -1, api.Fault{Code: api.ErrBound, At: 0}},
		{[]byte{2, 9}, 9, api.Fault{Code: api.ErrShort, At: 2}},
		{[]byte{128, 0}, 9, api.Fault{Code: api.ErrNonMinimal, At: 1}},
		{[]byte{0, 9, 1}, 9, api.Fault{Code: api.ErrShort, At: 3}},
		{[]byte{128, 128, 128, 1}, math.MaxInt, api.Fault{Code: api.ErrLong, At: 0}},
	} {
		if out, own, f := press.Check(c.b, c.bound); out != nil || own || f != c.f {
			t.Error(c.b, c.bound, out, own, f)
		}
	}
	if out, own, f := press.Check(nil, -1); len(out) != 0 || !own || f != good {
		t.Error(out, own, f)
	}
}

// P15.2: how many bytes are saved, and how many are added where nothing occurs again.
func TestSaves(t *testing.T) {
	for _, b := range texts() {
		if n := press.Saves(b); n != len(b)-len(encoding(greedy(b))) {
			t.Error(b, n)
		}
	}
	for n, want := range map[int]int{0: 0, 1: -1, 3: -1, 64: -1, 65: -2, 8192: -2, 8193: -3} {
		if got := press.Saves(distinct(n)); got != want {
			t.Error(n, got)
		}
	}
	if n := press.Saves(make([]byte, 40)); n != 36 {
		t.Error(n)
	}
}

// P15.3: compressed data expands to the original, each copy is the longest, and no literal
// has a match.
func TestExpands(t *testing.T) {
	r := rand.New(rand.NewSource(153))
	l := [][]byte{distinct(3000), append(distinct(70000), distinct(70000)...), append(distinct(65536), distinct(90)...), append(distinct(65537), distinct(90)...)}
	for range 20 {
		l = append(l, pieces(r, r.Intn(20000), 1+r.Intn(20)))
	}
	for _, text := range append(l, texts()...) {
		tokens, _ := press.Tokens(text)
		out, f := expand.Tokens(tokens, len(text))
		if f != good || !bytes.Equal(out, text) || !press.Written(tokens) {
			t.Fatal(len(text), f)
		}
		e, _ := press.Bytes(text)
		if out, own, f := press.Check(e, len(text)); !bytes.Equal(out, text) || !own || f != good {
			t.Fatal(len(text), own, f)
		}
		s := seek.New(text)
		at, ranAhead := 0, false
		for _, token := range tokens {
			if token.Off > 0 {
				if off, n := s.Best(at); token.Off != off || token.Len != n {
					t.Fatal(at, token, off, n)
				}
				at += token.Len
			}
			for range token.Lit {
				if off, n := s.Best(at); n > 0 {
					t.Fatal(at, off, n)
				}
				at++
			}
			if ran := token.Off == 0; ran && ranAhead {
				t.Fatal("adjacent runs ahead of", at)
			} else {
				ranAhead = ran
			}
		}
	}
}

// P15.1, P15.3: a copy reaches back a whole window and no further.
func TestWindow(t *testing.T) {
	for _, far := range []int{65535, 65536, 65537} {
		text := append(distinct(far), distinct(9)...)
		want := []api.Token{{Lit: text}}
		if far <= 65536 {
			want = []api.Token{{Lit: text[:far]}, back(far, 9)}
		} else { // the first byte is out of reach, the eight behind it too
			want = []api.Token{{Lit: text}}
		}
		if l, _ := press.Tokens(text); !token.Same(l, want) {
			t.Error(far, len(l))
		}
	}
}

// size is the definition's words: the shortest way from each position on by every token there
// is, adjacent runs too.
func size(b []byte) int {
	best := make([]int, len(b)+1)
	for at := len(b) - 1; at >= 0; at-- {
		best[at] = math.MaxInt
		put := func(t api.Token, head int) {
			size := head + len(varint.Bytes(uint64(max(t.Off-1, 0))))
			if t.Off == 0 {
				size = head + t.Len
			}
			best[at] = min(best[at], size+best[at+t.Len])
		}
		for n := 1; at+n <= len(b); n++ {
			put(back(0, n), len(varint.Bytes(uint64(2*(n-1)))))
		}
		for off := 1; off <= at; off++ {
			for n := 1; at+n <= len(b) && b[at+n-1] == b[at+n-1-off]; n++ {
				if n >= 4 {
					put(back(off, n), len(varint.Bytes(uint64(2*(n-4)+1))))
				}
			}
		}
	}
	return best[0]
}

// leastTexts are texts of at most 1024 bytes, some with matches at the edges of the numbers' sizes.
func leastTexts() [][]byte {
	l := texts()
	for _, n := range []int{1, 63, 64, 65, 66, 128, 129, 130, 1023, 1024} {
		l = append(l, distinct(n))
		for _, m := range []int{3, 4, 5, 66, 67, 68, 69, 70, 135} {
			if n+m <= 1024 {
				l = append(l, append(distinct(n), distinct(n + m)[max(0, n-130):][:m]...))
				l = append(l, slices.Concat(distinct(n), distinct(min(n, m)), []byte{1}))
			}
		}
	}
	for _, n := range []int{65, 66, 129} { // a literal in between, to be copied along or not
		l = append(l, slices.Concat(distinct(n), []byte{0}, distinct(n), []byte{9}, distinct(n)))
	}
	r := rand.New(rand.NewSource(154))
	for range 20 {
		l = append(l, pieces(r, 1024-r.Intn(300), 2+r.Intn(5)))
	}
	return slices.DeleteFunc(l, func(b []byte) bool { return len(b) > 1024 })
}

// P15.4, P15.5: the minimum size, tokens of that size without adjacent runs, and how much
// less that is than the canonical tokens have.
func TestLeast(t *testing.T) {
	gains := 0
	for _, b := range leastTexts() {
		want := size(b)
		n := press.LeastSize(b)
		if n != want {
			t.Fatal(b, n, want)
		}
		l, code := press.Least(b)
		out, f := expand.Tokens(l, len(b))
		if code != api.OK || f != good || !bytes.Equal(out, b) || len(encoding(l)) != want {
			t.Fatal(b, l, code, f, want)
		}
		for i := range l {
			if i > 0 && l[i].Off == 0 && l[i-1].Off == 0 {
				t.Fatal(b, l)
			}
		}
		canonical, _ := press.Bytes(b)
		runs, _ := press.Runs(b)
		if gain := press.Gain(b); gain != len(canonical)-want || gain < 0 {
			t.Fatal(b, gain)
		}
		if want > len(canonical) || want > len(encoding(runs)) {
			t.Fatal(b, want)
		}
		if want < len(canonical) {
			gains++
		}
	}
	if gains < 10 {
		t.Error(gains)
	}
}

// P15.4: the minimum size of a single run, at which runs are neither split nor joined for nothing.
func TestLeastOfDistinct(t *testing.T) {
	for n, want := range map[int]int{0: 0, 1: 2, 3: 4, 64: 65, 65: 67, 128: 130, 129: 131, 1024: 1026} {
		b := distinct(n)
		if got := press.LeastSize(b); got != want {
			t.Error(n, got)
		}
		if l, _ := press.Least(b); len(l) != min(n, 1) {
			t.Error(n, len(l))
		}
		if press.Gain(b) != 0 {
			t.Error(n, press.Gain(b))
		}
	}
}

// P15.4: a shorter copy may be the better one, as an offset up to 128 is written in one byte:
// six bytes stand nearer than ten do, and what is behind the six is a copy as a whole.
func TestLeastOfNearAndFar(t *testing.T) {
	for _, c := range [][2]int{{127, 200}, {128, 200}, {129, 200}, {100, 128}, {100, 129}} {
		off, far := c[0], c[1]
		const at, n = 400, 442
		text := letters(rand.New(rand.NewSource(2)), n, 256)
		copy(text[at-far:], text[at:at+10])
		copy(text[at-off:], text[at:at+6])
		copy(text[at-60:], text[at+6:n])
		if got, want := press.LeastSize(text), size(text); got != want {
			t.Error(off, far, got, want)
		}
	}
}

// P15.4: 1024 bytes at most.
func TestLeastLimit(t *testing.T) {
	for _, n := range []int{1025, 2000, api.MaxPayload + 1} {
		b := distinct(n)
		if l, code := press.Least(b); l != nil || code != api.ErrLong {
			t.Error(n, len(l), code)
		}
		if press.LeastSize(b) != 0 || press.Gain(b) != 0 {
			t.Error(n, press.LeastSize(b), press.Gain(b))
		}
	}
	b := make([]byte, 1024)
	if n := press.LeastSize(b); n != 5 {
		t.Error(n)
	}
	if l, code := press.Least(b); code != api.OK || len(encoding(l)) != 5 {
		t.Error(l, code)
	}
}

// Rules 4 and 7: arguments stay as they are, and what is given is new memory.
func TestMemory(t *testing.T) {
	text := []byte("xyzabcabcabcdXYZabca")
	whole := slices.Clone(text)
	lists := [][]api.Token{}
	for _, give := range []func([]byte) ([]api.Token, api.Errno){press.Tokens, press.Runs, press.Least} {
		l, _ := give(text)
		before := encoding(l)
		again, _ := give(text)
		for _, t := range again {
			for i := range t.Lit {
				t.Lit[i] = 99
			}
			_ = append(t.Lit, 98, 98)
		}
		if !bytes.Equal(encoding(l), before) {
			t.Error("two results share memory")
		}
		lists = append(lists, l)
	}
	if !bytes.Equal(text, whole) {
		t.Error(text)
	}
	for _, l := range lists {
		before := encoding(l)
		press.Written(l)
		if !bytes.Equal(encoding(l), before) {
			t.Error(l)
		}
	}
	e, _ := press.Bytes(text)
	before := slices.Clone(e)
	out, _, _ := press.Check(e, 99)
	if !bytes.Equal(e, before) {
		t.Error(e)
	}
	for i := range out {
		out[i] = 1
	}
	if !bytes.Equal(e, before) || !bytes.Equal(text, whole) {
		t.Error(e, text)
	}
}

// Ways, layer 15: Tokens collects runs by a closure, which assigns what it keeps.
func TestRunsAreCollectedByAClosure(t *testing.T) {
	file, err := parser.ParseFile(gotoken.NewFileSet(), "press.go", nil, 0)
	if err != nil {
		t.Fatal(err)
	}
	found := false
	ast.Inspect(file, func(n ast.Node) bool {
		fn, ok := n.(*ast.FuncDecl)
		if !ok || fn.Name.Name != "Tokens" {
			return true
		}
		ast.Inspect(fn, func(n ast.Node) bool {
			literal, ok := n.(*ast.FuncLit)
			if !ok {
				return true
			}
			ast.Inspect(literal, func(n ast.Node) bool {
				if a, ok := n.(*ast.AssignStmt); ok && a.Tok == gotoken.ASSIGN {
					found = true
				}
				return true
			})
			return false
		})
		return false
	})
	if !found {
		t.Error("no closure collects the runs")
	}
}
