package chain_test

import (
	"bytes"
	"go/ast"
	"go/parser"
	"go/token"
	"math"
	"math/rand"
	"slices"
	"testing"

	"tholepin/api"
	"tholepin/chain"
)

// full is a chain of bytes with all positions added.
func full(b []byte) *chain.Chain {
	c := chain.New(b)
	c.AddTo(len(b))
	return c
}

// key is the definition's words.
func key(b []byte, at int) (uint32, bool) {
	if at < 0 || at >= len(b) || len(b)-at < 4 {
		return 0, false
	}
	return uint32(b[at]) + 256*uint32(b[at+1]) + 65536*uint32(b[at+2]) + 16777216*uint32(b[at+3]), true
}

// places is the definition's words: of the positions added those with the key of at,
// less than it and at most 2^16 before it, from the nearest one on.
func places(b []byte, added, at int) []int {
	var l []int
	k, ok := key(b, at)
	for p := at - 1; ok && p >= 0 && p >= at-65536; p-- {
		if other, has := key(b, p); has && other == k && p < added {
			l = append(l, p)
		}
	}
	return l
}

// keys is how many different keys the first positions have.
func keys(b []byte, added int) int {
	m := map[uint32]bool{}
	for p := range added {
		if k, ok := key(b, p); ok {
			m[k] = true
		}
	}
	return len(m)
}

// texts are bytes with few keys and with many, and too short ones.
func texts() [][]byte {
	l := [][]byte{nil, {}, {7}, {7, 7}, {7, 7, 7}, {7, 7, 7, 7}, {7, 7, 7, 7, 7},
		[]byte("abcdabcdabcd"), []byte("abcabcabc"), []byte("abcdXabcdYabcd"), make([]byte, 70)}
	r := rand.New(rand.NewSource(13))
	for i := range 60 {
		b := make([]byte, r.Intn(60))
		for k := range b {
			b[k] = byte(r.Intn(1 + i/12))
		}
		l = append(l, b)
	}
	return l
}

// around are positions of a text, and some that are none.
func around(b []byte) []int {
	l := []int{math.MinInt, -65536, -4, -1}
	for at := range len(b) + 5 {
		l = append(l, at)
	}
	return append(l, 65536, 1<<32, 1<<32+1, math.MaxInt-3, math.MaxInt)
}

// P13.1, P13.2: the examples of the chapter.
func TestExamples(t *testing.T) {
	c := chain.New([]byte("abcdabcdabcd"))
	if n := c.AddTo(99); n != 12 || c.Added() != 12 {
		t.Error(n, c.Added())
	}
	if n := c.Keys(); n != 4 {
		t.Error(n)
	}
	if l := c.Near(8, 9); !slices.Equal(l, []int{4, 0}) {
		t.Error(l)
	}
	if l := c.Near(9, 9); len(l) != 0 {
		t.Error(l)
	}
}

// P13.1: a key is the four bytes from a position on, the first one being the lowest.
func TestKey(t *testing.T) {
	if k, ok := chain.Key([]byte{9, 1, 2, 3, 4, 9}, 1); k != 0x04030201 || !ok {
		t.Error(k, ok)
	}
	if k, ok := chain.Key([]byte{255, 254, 253, 252}, 0); k != 0xfcfdfeff || !ok {
		t.Error(k, ok)
	}
	if k, ok := chain.Key([]byte{0, 0, 0, 0}, 0); k != 0 || !ok {
		t.Error(k, ok)
	}
	for i := range 32 {
		b := make([]byte, 7)
		b[2+i/8] = 1 << (i % 8)
		if k, ok := chain.Key(b, 2); k != 1<<i || !ok {
			t.Error(i, k, ok)
		}
	}
}

// P13.1: no key is where four bytes are not left, or at is no position.
func TestKeyAtTheEnds(t *testing.T) {
	for _, b := range texts() {
		for _, at := range around(b) {
			want, has := key(b, at)
			if k, ok := chain.Key(b, at); k != want || ok != has {
				t.Error(b, at, k, ok)
			}
		}
	}
	within := []byte{1, 2, 3, 4, 5, 6}[:4:6] // what lies behind the end is not its
	if k, ok := chain.Key(within, 1); k != 0 || ok {
		t.Error(k, ok)
	}
}

// P13.1: Add adds the positions one by one, those without a key too.
func TestAdd(t *testing.T) {
	for _, b := range texts() {
		c := chain.New(b)
		for n := range len(b) {
			if c.Added() != n || c.Keys() != keys(b, n) {
				t.Fatal(b, n, c.Added(), c.Keys())
			}
			if !c.Add() {
				t.Fatal(b, n)
			}
		}
		for range 3 {
			if c.Add() || c.Added() != len(b) || c.Keys() != keys(b, len(b)) {
				t.Fatal(b, c.Added(), c.Keys())
			}
		}
	}
}

// P13.1: AddTo adds as many as are lacking, and never takes one away.
func TestAddTo(t *testing.T) {
	for _, b := range texts() {
		for first := range len(b) + 3 {
			c := chain.New(b)
			added := min(first, len(b))
			if n := c.AddTo(first); n != added || c.Added() != added || c.Keys() != keys(b, added) {
				t.Fatal(b, first, n, c.Added())
			}
			for _, at := range []int{math.MinInt, -1, 0, first - 1, first, first + 1, first + 5, len(b) - 1, len(b), len(b) + 1, math.MaxInt, 0} {
				added = max(added, min(at, len(b)))
				if n := c.AddTo(at); n != added || c.Added() != added || c.Keys() != keys(b, added) {
					t.Fatal(b, first, at, n, c.Added())
				}
			}
		}
	}
}

// P13.1: keys are told apart by each of their bytes.
func TestKeysThatDiffer(t *testing.T) {
	for i := range 4 {
		b := make([]byte, 8)
		b[4+i] = 1
		c := full(b)
		if l := c.Near(4, 9); len(l) != 0 {
			t.Error(i, l)
		}
		if n := c.Keys(); n != keys(b, 8) {
			t.Error(i, n)
		}
	}
}

// P13.2, P13.3: the positions are those of the definition, however many were added and
// whether or not at was.
func TestPlaces(t *testing.T) {
	told := 0
	for _, b := range texts() {
		c := chain.New(b)
		for added := range len(b) + 1 {
			c.AddTo(added)
			for _, at := range around(b) {
				want := places(b, added, at)
				if got := slices.Collect(c.Places(at)); !slices.Equal(got, want) {
					t.Fatal(b, added, at, got, want)
				}
				for _, most := range []int{math.MinInt, -1, 0, 1, 2, len(want) - 1, len(want), len(want) + 1, math.MaxInt} {
					if got := c.Near(at, most); !slices.Equal(got, want[:max(0, min(most, len(want)))]) {
						t.Fatal(b, added, at, most, got, want)
					}
				}
				told += len(want)
			}
		}
	}
	if told < 10000 {
		t.Error("too few were told:", told)
	}
}

// P13.3: the positions decrease, each has the key, and no nearer or further one is left out.
func TestConsequences(t *testing.T) {
	r := rand.New(rand.NewSource(31))
	b := make([]byte, 300)
	for i := range b {
		b[i] = byte(r.Intn(2))
	}
	c := full(b)
	for at := range b {
		k, ok := chain.Key(b, at)
		next := at - 1
		for p := range c.Places(at) {
			if p > next {
				t.Fatal(at, p, next)
			}
			for ; next > p; next-- {
				if other, _ := chain.Key(b, next); other == k {
					t.Fatal(at, p, next)
				}
			}
			if other, has := chain.Key(b, p); !has || other != k || !ok {
				t.Fatal(at, p)
			}
			next = p - 1
		}
		for ; ok && next >= 0; next-- {
			if other, _ := chain.Key(b, next); other == k {
				t.Fatal(at, next)
			}
		}
	}
}

// P13.2: 2^16 before is near enough, and one more is not.
func TestWindow(t *testing.T) {
	if api.Window != 65536 {
		t.Error(api.Window)
	}
	for _, c := range []struct {
		at, added int
		want      []int
	}{
		{65535 + 9, 1 << 20, []int{9}}, {65536 + 9, 1 << 20, []int{9}}, {65537 + 9, 1 << 20, nil},
		{65536 + 9, 65536, []int{9}}, {65537 + 9, 65536, nil}, {65536 + 9, 9, nil}, {65536 + 9, 10, []int{9}},
	} {
		b := make([]byte, 65536+30)
		copy(b[9:], "abcd")
		copy(b[c.at:], "abcd")
		chained := chain.New(b)
		chained.AddTo(c.added)
		if got := slices.Collect(chained.Places(c.at)); !slices.Equal(got, c.want) {
			t.Error(c.at, c.added, got)
		}
		if got := chained.Near(c.at, 5); !slices.Equal(got, c.want) {
			t.Error(c.at, c.added, got)
		}
	}
}

// P13.2: where each position has the key, there are as many as are near enough, and no
// step is too great.
func TestWindowOfOneKey(t *testing.T) {
	b := make([]byte, 65536+300)
	c := full(b)
	for _, at := range []int{0, 1, 65535, 65536, 65537, 65536 + 296} {
		next := at
		for p := range c.Places(at) {
			if next--; p != next {
				t.Fatal(at, p, next)
			}
		}
		if next != max(0, at-65536) || len(c.Near(at, math.MaxInt)) != min(at, 65536) {
			t.Error(at, next)
		}
	}
	if l := c.Near(65536+297, math.MaxInt); len(l) != 0 {
		t.Error(len(l))
	}
}

// P13.2: a nearer position with the key does not hide the one at the window's edge, nor
// does it bring in the one beyond.
func TestWindowBehindNearerOnes(t *testing.T) {
	b := make([]byte, 65536+30)
	for _, at := range []int{9, 10 + 4, 300, 65536 + 14} {
		copy(b[at:], "abcd")
	}
	if l := full(b).Near(65536+14, 9); !slices.Equal(l, []int{300, 14}) {
		t.Error(l)
	}
}

// P13.2: an iterator may be left at each position, and begins anew each time.
func TestIterators(t *testing.T) {
	c := full(make([]byte, 20))
	it := c.Places(9)
	for stop := range 9 {
		n := 0
		for p := range it {
			if p != 8-n {
				t.Fatal(stop, p)
			}
			if n == stop {
				break
			}
			n++
		}
		if n != stop {
			t.Fatal(n, stop)
		}
	}
	for p := range it {
		for q := range it { // one within the other
			if q == p {
				break
			}
		}
	}
	if l := slices.Collect(it); len(l) != 9 {
		t.Error(l)
	}
}

// P13.2: an iterator tells what was added when it was asked for, so it ends though
// positions are added while it is visited.
func TestAddWhileVisited(t *testing.T) {
	c := chain.New(make([]byte, 50))
	c.AddTo(4)
	it := c.Places(30)
	var l []int
	for p := range it {
		c.AddTo(c.Added() + 5)
		l = append(l, p)
	}
	if !slices.Equal(l, []int{3, 2, 1, 0}) || !slices.Equal(slices.Collect(it), l) || c.Added() != 24 {
		t.Error(l, c.Added())
	}
	if l := c.Near(30, 2); !slices.Equal(l, []int{23, 22}) {
		t.Error(l)
	}
}

// P13.1, P13.2: a nil chain has nothing; nor has one that New did not return.
func TestNil(t *testing.T) {
	for _, c := range []*chain.Chain{nil, {}} {
		if c.Add() || c.AddTo(9) != 0 || c.AddTo(-9) != 0 || c.Added() != 0 || c.Keys() != 0 {
			t.Error("there are positions")
		}
		for _, at := range around(nil) {
			it := c.Places(at)
			if it == nil {
				t.Fatal("a nil iterator")
			}
			if l := slices.Collect(it); len(l) != 0 || len(c.Near(at, 9)) != 0 {
				t.Error(at, l)
			}
		}
	}
	for _, at := range around(nil) {
		if chain.New(nil).Places(at) == nil {
			t.Error("a nil iterator")
		}
	}
}

// P13.1, P13.2: a chain has a copy of its bytes, which it leaves as they are, and lists
// are new memory.
func TestMemory(t *testing.T) {
	b := []byte("abcdabcdabcdabcd")
	c, other := chain.New(b), chain.New(b)
	c.AddTo(8)
	copy(b, "XXXXXXXXXXXXXXXX")
	if c.AddTo(99) != 16 || c.Keys() != 4 || other.Added() != 0 || other.Keys() != 0 {
		t.Error(c.Added(), c.Keys(), other.Added(), other.Keys())
	}
	if !bytes.Equal(b, []byte("XXXXXXXXXXXXXXXX")) {
		t.Error(b)
	}
	l := c.Near(8, 1)
	l[0], l = 77, append(l, 78, 79)
	if again := c.Near(8, 9); !slices.Equal(again, []int{4, 0}) {
		t.Error(again)
	}
	if all := slices.Collect(c.Places(12)); !slices.Equal(all, []int{8, 4, 0}) || len(l) != 3 {
		t.Error(all, l)
	}
}

// P13.1, P13.2: many positions with few keys, and as many with one each.
func TestManyPositions(t *testing.T) {
	b := make([]byte, 1<<18)
	for i := range b {
		b[i] = byte(i >> 2 >> (8 * (i % 4))) // four bytes count
	}
	c := full(b)
	if c.Added() != 1<<18 || c.Keys() != keys(b, 1<<18) {
		t.Error(c.Added(), c.Keys())
	}
	for at := 0; at < len(b); at += 4099 {
		if got, want := c.Near(at, 99), places(b, len(b), at); !slices.Equal(got, want[:min(99, len(want))]) {
			t.Error(at, got, want)
		}
	}
}

// declared is the functions of chain.go by their names, and its types.
func declared(t *testing.T) (map[string]*ast.FuncDecl, []ast.Node) {
	t.Helper()
	file, err := parser.ParseFile(token.NewFileSet(), "chain.go", nil, 0)
	if err != nil {
		t.Fatal(err)
	}
	functions := map[string]*ast.FuncDecl{}
	var types []ast.Node
	for _, d := range file.Decls {
		switch x := d.(type) {
		case *ast.FuncDecl:
			functions[x.Name.Name] = x
		case *ast.GenDecl:
			if x.Tok == token.TYPE {
				types = append(types, x)
			}
		}
	}
	return functions, types
}

// Ways of layer 13: the last position of each key is stored in a map.
func TestLastPositionsAreInAMap(t *testing.T) {
	_, types := declared(t)
	maps := 0
	for _, d := range types {
		ast.Inspect(d, func(n ast.Node) bool {
			if m, ok := n.(*ast.MapType); ok {
				k, isName := m.Key.(*ast.Ident)
				v, also := m.Value.(*ast.Ident)
				if isName && also && k.Name == "uint32" && v.Name == "int" {
					maps++
				}
			}
			return true
		})
	}
	if maps != 1 {
		t.Error(maps)
	}
}

// Ways of layer 13: Places hands out a function that yields, and Near ranges over it.
func TestPositionsAreYielded(t *testing.T) {
	functions, _ := declared(t)
	yields, ranges := 0, 0
	ast.Inspect(functions["Places"], func(n ast.Node) bool {
		if x, ok := n.(*ast.CallExpr); ok {
			if f, ok := x.Fun.(*ast.Ident); ok && f.Name == "yield" {
				yields++
			}
		}
		return true
	})
	ast.Inspect(functions["Near"], func(n ast.Node) bool {
		if x, ok := n.(*ast.RangeStmt); ok {
			if call, ok := x.X.(*ast.CallExpr); ok {
				if f, ok := call.Fun.(*ast.SelectorExpr); ok && f.Sel.Name == "Places" {
					ranges++
				}
			}
		}
		return true
	})
	if yields != 1 || ranges != 1 {
		t.Error(yields, ranges)
	}
}
