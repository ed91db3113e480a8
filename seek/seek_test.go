package seek_test

import (
	"bytes"
	"go/ast"
	"go/parser"
	"go/token"
	"math"
	"math/rand"
	"slices"
	"testing"

	"tholepin/api"
	"tholepin/seek"
)

// match is the definition's words: bytes compared one by one up to the end.
func match(b []byte, at, off int) int {
	n := 0
	for n < 1<<20 && at+n < len(b) && b[at+n] == b[at+n-off] {
		n++
	}
	return n
}

// best is the definition's words: the longest match, and of these the smallest offset.
func best(b []byte, at int) [2]int {
	off, n := 0, 3
	for o := 1; at >= 0 && at < len(b) && o <= min(at, 65536); o++ {
		if m := match(b, at, o); m > n {
			off, n = o, m
		}
	}
	if off == 0 {
		return [2]int{}
	}
	return [2]int{off, n}
}

// around are positions of a text, and some that are none.
func around(b []byte) []int {
	l := []int{math.MinInt, math.MinInt + 1, -65536, -1}
	for at := range len(b) + 4 {
		l = append(l, at)
	}
	return append(l, 65536, 1<<32, math.MaxInt-1, math.MaxInt)
}

// letters is a text of n bytes, with so many different ones.
func letters(r *rand.Rand, n, kinds int) []byte {
	b := make([]byte, n)
	for i := range b {
		b[i] = byte(r.Intn(kinds))
	}
	return b
}

// texts are all short ones of two bytes, and others in which much occurs again.
func texts() [][]byte {
	l := [][]byte{nil, {}, []byte("aaaaaa"), []byte("abcabc"), []byte("abcdXabcdYabcd"), []byte("abcabcabcd"), make([]byte, 150)}
	for n := range 11 {
		for x := range 1 << n {
			b := make([]byte, n)
			for i := range b {
				b[i] = byte(x >> i & 1)
			}
			l = append(l, b)
		}
	}
	r := rand.New(rand.NewSource(14))
	for range 80 {
		b := letters(r, r.Intn(30), 1+r.Intn(4))
		for len(b) < 150 { // pieces of what stands there
			from := r.Intn(len(b) + 1)
			b = append(b, b[from:min(len(b), from+r.Intn(90))]...)
			b = append(b, byte(r.Intn(4)))
		}
		l = append(l, b)
	}
	return l
}

// P14.1, P14.2: the examples of the chapter.
func TestExamples(t *testing.T) {
	if off, n := seek.Best([]byte("aaaaaa"), 1); off != 1 || n != 5 {
		t.Error(off, n)
	}
	if off, n := seek.Best([]byte("abcabc"), 3); off != 0 || n != 0 {
		t.Error(off, n)
	}
	if off, n := seek.New([]byte("abcdXabcdYabcd")).Best(10); off != 5 || n != 4 {
		t.Error(off, n)
	}
	if off, n := seek.New([]byte("aaaaaa")).Best(1); off != 1 || n != 5 {
		t.Error(off, n)
	}
}

// P14.1: a match has the bytes from a position on that equal those at the offset, and 0
// where there is no such position or offset.
func TestMatch(t *testing.T) {
	for _, b := range texts() {
		for _, at := range around(b) {
			for _, off := range around(b) {
				want := 0
				if at >= 0 && at < len(b) && off >= 1 && off <= at {
					want = match(b, at, off)
				}
				if n := seek.Match(b, at, off); n != want {
					t.Fatal(b, at, off, n, want)
				}
			}
		}
	}
}

// P14.1: a match ends at the first byte that differs, however many equal ones are ahead of
// it and behind it.
func TestMatchEndsAnywhere(t *testing.T) {
	for n := range 300 {
		for _, off := range []int{1, 7, 63, 64, 65, 200} {
			b := make([]byte, off+n+150)
			b[off+n] = 1
			if got := seek.Match(b, off, off); got != n {
				t.Fatal(n, off, got)
			}
			if got := seek.Match(b[:off+n], off, off); got != n { // up to the end
				t.Fatal(n, off, got)
			}
		}
	}
}

// P14.1: a match may be at any offset, beyond the window too.
func TestMatchFarBack(t *testing.T) {
	b := make([]byte, 200000)
	copy(b, "abcde")
	copy(b[150000:], "abcdX")
	if n := seek.Match(b, 150000, 150000); n != 4 {
		t.Error(n)
	}
	if n := seek.Match(b, 150000, 150001); n != 0 {
		t.Error(n)
	}
	if n := seek.Match(b, 199999, 199994); n != 1 {
		t.Error(n)
	}
}

// P14.1, P14.2: a match has at most 2^20 bytes, and those of that length are equally long.
func TestMaxMatch(t *testing.T) {
	if api.MaxMatch != 1<<20 || api.MinMatch != 4 || api.Window != 65536 {
		t.Error(api.MaxMatch, api.MinMatch, api.Window)
	}
	b := bytes.Repeat([]byte("abcde"), 1<<20/5+40)
	s := seek.New(b)
	for _, at := range []int{5, 10, 37, len(b) - 1<<20 - 1, len(b) - 1<<20, len(b) - 1<<20 + 1, len(b) - 4} {
		want := min(1<<20, len(b)-at)
		for _, off := range []int{5, 10, at - at%5} {
			if n := seek.Match(b, at, off); off <= at && n != want {
				t.Error(at, off, n, want)
			}
		}
		if off, n := seek.Best(b, at); off != 5 || n != want {
			t.Error(at, off, n, want)
		}
		if off, n := s.Best(at); off != 5 || n != want {
			t.Error(at, off, n, want)
		}
	}
	for _, at := range []int{0, 4, len(b) - 3, len(b) - 1} {
		if off, n := s.Best(at); off != 0 || n != 0 {
			t.Error(at, off, n)
		}
	}
}

// P14.1: a match is better if it is longer, or equally long with a smaller offset.
func TestBetter(t *testing.T) {
	if !seek.Better(9, 5, 1, 4) || seek.Better(1, 4, 9, 5) || !seek.Better(1, 4, 2, 4) || seek.Better(2, 4, 1, 4) || seek.Better(3, 4, 3, 4) {
		t.Error("it is another order")
	}
	l := []int{math.MinInt, -1, 0, 1, 2, 3, 4, 5, 65536, 1 << 20, math.MaxInt}
	for _, off := range l {
		for _, n := range l {
			for _, other := range l {
				for _, m := range l {
					want := n > m
					if n == m {
						want = off < other
					}
					if seek.Better(off, n, other, m) != want {
						t.Error(off, n, other, m)
					}
				}
			}
		}
	}
}

// P14.1, P14.2: the best match is that of the definition, of each position of a text and of
// what is none, and the seeker's is the same.
func TestBest(t *testing.T) {
	found := 0
	for _, b := range texts() {
		s := seek.New(b)
		for _, at := range around(b) {
			want := best(b, at)
			if off, n := seek.Best(b, at); [2]int{off, n} != want {
				t.Fatal(b, at, off, n, want)
			}
			if off, n := s.Best(at); [2]int{off, n} != want {
				t.Fatal(b, at, off, n, want)
			}
			if want[0] > 0 {
				found++
			}
		}
	}
	if found < 5000 {
		t.Error("too few were found:", found)
	}
}

// P14.2: the order in which positions are asked for doesn't count, nor how often.
func TestBestInAnyOrder(t *testing.T) {
	r := rand.New(rand.NewSource(41))
	for _, b := range texts() {
		if len(b) < 11 {
			continue
		}
		want := make([][2]int, len(b))
		for at := range b {
			want[at] = best(b, at)
		}
		order := append(r.Perm(len(b)), r.Perm(len(b))...)
		for at := len(b) - 1; at >= 0; at-- {
			order = append(order, at, at)
		}
		s := seek.New(b)
		for _, at := range order {
			if off, n := s.Best(at); [2]int{off, n} != want[at] {
				t.Fatal(b, at, off, n, want[at])
			}
		}
		late := r.Intn(len(b))
		if off, n := seek.New(b).Best(late); [2]int{off, n} != want[late] { // as the first one asked for
			t.Fatal(b, late, off, n)
		}
	}
}

// P14.3: no offset has a longer match than the best one, no smaller one an equally long
// one, and where there is none, none has four bytes.
func TestBestOfAll(t *testing.T) {
	for _, b := range texts() {
		for at := range b {
			off, n := seek.Best(b, at)
			if (off == 0) != (n == 0) || n != 0 && (n < 4 || seek.Match(b, at, off) != n) {
				t.Fatal(b, at, off, n)
			}
			for o := 1; o <= at; o++ {
				m := seek.Match(b, at, o)
				if m > max(n, 3) || m == n && o < off {
					t.Fatal(b, at, off, n, o, m)
				}
			}
		}
	}
}

// P14.3: a best match goes on at the next position, with one byte less.
func TestBestGoesOn(t *testing.T) {
	for _, b := range texts() {
		s := seek.New(b)
		for at := range b {
			off, n := s.Best(at)
			if n == 0 {
				continue
			}
			if m := seek.Match(b, at+1, off); m != n-1 {
				t.Fatal(b, at, off, n, m)
			}
			if _, m := s.Best(at + 1); n > 4 && m < n-1 {
				t.Fatal(b, at, n, m)
			}
		}
	}
}

// noise is n bytes in which hardly any four occur again.
func noise(n int) []byte {
	return letters(rand.New(rand.NewSource(7)), n, 256)
}

// P14.1, P14.2: an offset of 2^16 is near enough, and a greater one is not, however long
// its match is.
func TestWindow(t *testing.T) {
	for _, c := range []struct {
		off  int
		want [2]int
	}{{65535, [2]int{65535, 20}}, {65536, [2]int{65536, 20}}, {65537, [2]int{}}, {65538, [2]int{}}} {
		b := noise(65536 + 200)
		at := c.off + 50
		copy(b[at:], b[50:70])
		b[at+20] = ^b[70]
		if off, n := seek.Best(b, at); [2]int{off, n} != c.want {
			t.Error(c.off, off, n)
		}
		if off, n := seek.New(b).Best(at); [2]int{off, n} != c.want {
			t.Error(c.off, off, n)
		}
		copy(b[at-30:], b[50:55]) // a shorter match that is nearer
		b[at-25] = ^b[55]
		want := c.want
		if want[0] == 0 {
			want = [2]int{30, 5}
		}
		if off, n := seek.Best(b, at); [2]int{off, n} != want {
			t.Error(c.off, off, n)
		}
		if off, n := seek.New(b).Best(at); [2]int{off, n} != want {
			t.Error(c.off, off, n)
		}
	}
}

// P14.1: among many matches of one length the smallest offset counts, and a longer one
// further back counts more.
func TestTies(t *testing.T) {
	for _, c := range []struct {
		b    string
		at   int
		want [2]int
	}{
		{"abcd1abcd2abcd3abcd4abcd", 20, [2]int{5, 4}},
		{"abcd1abcd4abcd3abcd1abcd4", 20, [2]int{15, 5}},
		{"abcd1abcd2abcd1abcd3abcd1", 20, [2]int{10, 5}},
		{"aaaab", 1, [2]int{}},
		{"aaaabaaaab", 5, [2]int{5, 5}},
		{"aaaaabaaaaa", 6, [2]int{6, 5}},
		{"aaaaabaaaaaa", 7, [2]int{1, 5}},
		{"aaaaaaaabaaaaa", 9, [2]int{6, 5}},
		{"abababab", 2, [2]int{2, 6}},
		{"abababab", 4, [2]int{2, 4}},
		{"abababab", 5, [2]int{}},
	} {
		b := []byte(c.b)
		if best(b, c.at) != c.want {
			t.Fatal(c, best(b, c.at))
		}
		if off, n := seek.Best(b, c.at); [2]int{off, n} != c.want {
			t.Error(c, off, n)
		}
		if off, n := seek.New(b).Best(c.at); [2]int{off, n} != c.want {
			t.Error(c, off, n)
		}
	}
}

// runs is n bytes of long runs, whose matches are many and long.
func runs(n int) []byte {
	r := rand.New(rand.NewSource(8))
	var b []byte
	for len(b) < n {
		b = append(b, make([]byte, r.Intn(100))...)
		b = append(b, byte(r.Intn(3)))
	}
	return b[:n]
}

// P14.1, P14.2: in long texts too, of which more lies ahead than the window.
func TestLongTexts(t *testing.T) {
	r := rand.New(rand.NewSource(15))
	for _, b := range [][]byte{noise(100000), runs(100000), letters(r, 100000, 2), letters(r, 100000, 20)} {
		s := seek.New(b)
		at := []int{4, 65535, 65536, 65537, 65540, 99995, 99996, 99997, 99999}
		for range 6 {
			at = append(at, r.Intn(len(b)))
		}
		for _, at := range at {
			want := best(b, at)
			if off, n := seek.Best(b, at); [2]int{off, n} != want {
				t.Error(at, off, n, want)
			}
			if off, n := s.Best(at); [2]int{off, n} != want {
				t.Error(at, off, n, want)
			}
		}
	}
}

// P14.1, P14.2: of long runs with noise between, the one ahead has a match a byte longer
// at each position further back; that takes no more than a moment.
func TestManyLongMatches(t *testing.T) {
	var b []byte
	for i := range 16 {
		b = append(b, make([]byte, 32768)...)
		b = append(b, noise(300)...)
		b = append(b, byte(i))
	}
	s := seek.New(b)
	for at := 33069; at < len(b); at += 33069 {
		if off, n := s.Best(at); off != 33069 || n != 33068 {
			t.Error(at, off, n)
		}
		if off, n := seek.Best(b, at); off != 33069 || n != 33068 {
			t.Error(at, off, n)
		}
	}
}

// P14.2: Tried counts what was examined: nothing at first, nothing where nothing can
// match, and something for each match that is found.
func TestTried(t *testing.T) {
	for _, b := range texts() {
		s := seek.New(b)
		if s.Tried() != 0 {
			t.Fatal(b, s.Tried())
		}
		for _, at := range around(b) {
			before := s.Tried()
			_, n := s.Best(at)
			took := s.Tried() - before
			if took < 0 || took > max(0, min(at, len(b))) || n > 0 && took == 0 || n == 0 && took != 0 {
				t.Fatal(b, at, n, took)
			}
		}
	}
	s := seek.New([]byte("abcdXabcdYabcdX"))
	s.Best(5)
	if s.Tried() != 1 {
		t.Error(s.Tried())
	}
	s.Best(10)
	if s.Tried() != 3 {
		t.Error(s.Tried())
	}
}

// P14.2: a seeker doesn't look at what can't match.
func TestTriedFew(t *testing.T) {
	b := noise(50000)
	s := seek.New(b)
	for at := range b {
		s.Best(at)
	}
	if s.Tried() > 500 {
		t.Error(s.Tried())
	}
}

// P14.2: a nil seeker has nothing; nor has one that New did not return.
func TestNil(t *testing.T) {
	for _, s := range []*seek.Seeker{nil, {}, seek.New(nil)} {
		for _, at := range around([]byte("abcd")) {
			if off, n := s.Best(at); off != 0 || n != 0 || s.Tried() != 0 {
				t.Error(at, off, n, s.Tried())
			}
		}
	}
}

// P14.1, P14.2: a seeker has a copy of its bytes, and bytes are left as they are.
func TestMemory(t *testing.T) {
	b := []byte("abcdXabcdYabcd")
	s, other := seek.New(b), seek.New(b)
	seek.Best(b, 10)
	seek.Match(b, 10, 5)
	s.Best(10)
	if !bytes.Equal(b, []byte("abcdXabcdYabcd")) || other.Tried() != 0 {
		t.Error(b, other.Tried())
	}
	copy(b, "ZZZZZZZZZZZZZZ")
	if off, n := s.Best(10); off != 5 || n != 4 {
		t.Error(off, n)
	}
	if off, n := other.Best(5); off != 5 || n != 4 {
		t.Error(off, n)
	}
	within := []byte("abcdabcdabcdabcd")[:6:16] // what lies behind the end is not its
	if off, n := seek.Best(within, 4); off != 0 || n != 0 || seek.Match(within, 4, 4) != 2 {
		t.Error(off, n)
	}
	if off, n := seek.New(within).Best(4); off != 0 || n != 0 {
		t.Error(off, n)
	}
}

// iterators are the names of the functions of seek.go that give an iterator, and ranged
// are what its functions range over.
func iterators(t *testing.T) (names, ranged []string) {
	t.Helper()
	file, err := parser.ParseFile(token.NewFileSet(), "seek.go", nil, 0)
	if err != nil {
		t.Fatal(err)
	}
	ast.Inspect(file, func(n ast.Node) bool {
		switch x := n.(type) {
		case *ast.FuncDecl:
			if x.Type.Results == nil {
				return true
			}
			if seq, ok := x.Type.Results.List[0].Type.(*ast.IndexExpr); ok {
				if f, ok := seq.X.(*ast.SelectorExpr); ok && f.Sel.Name == "Seq" {
					names = append(names, x.Name.Name)
				}
			}
		case *ast.RangeStmt:
			if name, ok := x.X.(*ast.Ident); ok {
				ranged = append(ranged, name.Name)
			}
		}
		return true
	})
	return names, ranged
}

// Ways of layer 14: candidate positions are yielded by an iterator function, over which
// the best match is looked for.
func TestCandidatesAreYielded(t *testing.T) {
	names, ranged := iterators(t)
	if !slices.Equal(names, []string{"ahead"}) || !slices.Equal(ranged, []string{"places"}) {
		t.Error(names, ranged)
	}
}
