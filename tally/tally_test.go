package tally_test

import (
	"go/ast"
	"go/parser"
	"go/token"
	"math"
	"math/cmplx"
	"slices"
	"testing"

	"tholepin/api"
	"tholepin/tally"
)

const most = 1 << 50

// tallies are some with few things, and those at the limits.
func tallies() []complex128 {
	var l []complex128
	for things := range 12 {
		l = append(l, complex(float64(things), 0))
		for bytes := range 12 {
			if things > 0 {
				l = append(l, complex(float64(things), float64(bytes)))
			}
		}
	}
	for _, x := range []float64{1, 2, 1 << 49, most - 1, most} {
		l = append(l, complex(x, 0), complex(x, 7), complex(x, most-1), complex(x, most), complex(1, x))
	}
	return l
}

// others are numbers that are no tallies.
func others() []complex128 {
	wrong := []float64{-1, -most, 0.5, -0.5, 1.0000001, most - 0.5, most + 0.5, most + 1, 1 << 53, 1 << 62, 1e300,
		math.Inf(1), math.Inf(-1), math.NaN(), math.SmallestNonzeroFloat64, math.MaxFloat64}
	l := []complex128{1i, 3i, most * 1i}
	for _, x := range wrong {
		l = append(l, complex(x, 0), complex(x, 1), complex(0, x), complex(1, x), complex(most, x))
		for _, y := range wrong {
			l = append(l, complex(x, y))
		}
	}
	return l
}

// P9.1, P9.2, P9.3: the examples of the chapter.
func TestExamples(t *testing.T) {
	if tally.Right(3i) {
		t.Error("3i is a tally")
	}
	if c := tally.Sum(tally.One(3), tally.One(0)); c != 2+3i || tally.Things(c) != 2 || tally.Bytes(c) != 3 {
		t.Error(c)
	}
	if c, code := tally.Without(2+3i, tally.One(1)); c != 1+2i || code != api.OK {
		t.Error(c, code)
	}
	if c := tally.Times(2+3i, 2); c != 4+6i {
		t.Error(c)
	}
	if n := tally.Share(tally.One(4), tally.One(3)); n != 750 {
		t.Error(n)
	}
	if c := tally.Swap(2 + 3i); c != 3+2i {
		t.Error(c)
	}
}

// P9.1: a tally has counts from 0 to 2^50, and no bytes without an item.
func TestRight(t *testing.T) {
	if tally.Most != 1<<50 {
		t.Error(tally.Most)
	}
	for _, c := range tallies() {
		if !tally.Right(c) {
			t.Error(c)
		}
	}
	for _, c := range others() {
		if tally.Right(c) {
			t.Error(c)
		}
	}
	for _, c := range []complex128{0, most, most + most*1i, complex(math.Copysign(0, -1), 0), complex(5, math.Copysign(0, -1))} {
		if !tally.Right(c) {
			t.Error(c)
		}
	}
}

// P9.1: Of is a tally of two counts, and Things and Bytes are those of a tally.
func TestOf(t *testing.T) {
	counts := []int{math.MinInt, math.MinInt + 1, -most, -2, -1, 0, 1, 2, 3, 1000, most - 1, most, most + 1, 1 << 53, 1<<53 + 1, 1 << 62, math.MaxInt - 1, math.MaxInt}
	for _, things := range counts {
		for _, bytes := range counts {
			ok := 0 <= things && things <= most && 0 <= bytes && bytes <= most && (things > 0 || bytes == 0)
			c, code := tally.Of(things, bytes)
			switch {
			case !ok && (c != 0 || code != api.ErrArg):
				t.Errorf("Of(%d, %d) = %v, %d", things, bytes, c, code)
			case ok && (c != complex(float64(things), float64(bytes)) || code != api.OK):
				t.Errorf("Of(%d, %d) = %v, %d", things, bytes, c, code)
			case ok && (tally.Things(c) != things || tally.Bytes(c) != bytes):
				t.Errorf("%v has %d things and %d bytes", c, tally.Things(c), tally.Bytes(c))
			}
		}
	}
}

// P9.1: One is one item, of at most 2^50 bytes.
func TestOne(t *testing.T) {
	for _, n := range []int{0, 1, 2, 300, most - 1, most} {
		if c := tally.One(n); c != complex(1, float64(n)) || tally.Things(c) != 1 || tally.Bytes(c) != n {
			t.Error(n, c)
		}
	}
	for _, n := range []int{-1, -most, math.MinInt, most + 1, 1<<53 + 1, math.MaxInt} {
		if c := tally.One(n); c != 0 {
			t.Error(n, c)
		}
	}
}

// P9.1: what is no tally has no items and no bytes.
func TestThingsAndBytes(t *testing.T) {
	for _, c := range tallies() {
		if tally.Things(c) != int(real(c)) || tally.Bytes(c) != int(imag(c)) {
			t.Error(c, tally.Things(c), tally.Bytes(c))
		}
	}
	for _, c := range others() {
		if tally.Things(c) != 0 || tally.Bytes(c) != 0 {
			t.Error(c, tally.Things(c), tally.Bytes(c))
		}
	}
}

// add is the definition's words, in integers.
func add(l ...complex128) complex128 {
	things, bytes := 0, 0
	for _, c := range l {
		things += tally.Things(c)
		bytes += tally.Bytes(c)
	}
	c, _ := tally.Of(things, bytes)
	return c
}

// P9.2: Sum is the sum, or 0 where it or an argument is not valid.
func TestSum(t *testing.T) {
	if c := tally.Sum(); c != 0 {
		t.Error(c)
	}
	l := tallies()
	for _, a := range l {
		if c := tally.Sum(a); c != a {
			t.Error(a, c)
		}
		for _, b := range l {
			if c := tally.Sum(a, b); c != add(a, b) {
				t.Errorf("%v and %v are %v", a, b, c)
			}
		}
	}
	for _, c := range []struct {
		l    []complex128
		want complex128
	}{
		{[]complex128{1, 2 + 1i, 3, 4 + 9i}, 10 + 10i},
		{[]complex128{most - 1, 1}, most},
		{[]complex128{most - 1, 1, 1}, 0},
		{[]complex128{most, 0, 0}, most},
		{[]complex128{most, 1}, 0},
		{[]complex128{1 + (most-1)*1i, 1 + 1i}, 2 + most*1i},
		{[]complex128{1 + most*1i, 1 + 1i}, 0},
		{[]complex128{1 + most*1i, most}, 0},
		{slices.Repeat([]complex128{1 + 3i}, 1000), 1000 + 3000i},
		{slices.Repeat([]complex128{most + most*1i}, 1000), 0},
		{append(slices.Repeat([]complex128{most}, 16), 1, 1, 1), 0}, // rounded on the way
	} {
		if got := tally.Sum(c.l...); got != c.want {
			t.Errorf("the sum of %d is %v, not %v", len(c.l), got, c.want)
		}
	}
}

// P9.2: an argument that is not valid makes the sum 0, even where the others make it a tally.
func TestSumOfOthers(t *testing.T) {
	for _, c := range others() {
		for _, l := range [][]complex128{{c}, {c, 5 + 5i}, {5 + 5i, c}, {1, c, 2}} {
			if got := tally.Sum(l...); got != 0 {
				t.Errorf("the sum of %v is %v", l, got)
			}
		}
	}
	for _, l := range [][]complex128{{0.5, 0.5}, {-1, 2}, {2, -1}, {3i, 1}, {1, 3i}, {1 - 1i, 1 + 1i}, {most + 1, -1}} {
		if got := tally.Sum(l...); got != 0 {
			t.Errorf("the sum of %v is %v", l, got)
		}
	}
}

// P9.4: sums do not depend on the order.
func TestSumInAnyOrder(t *testing.T) {
	for _, l := range [][]complex128{
		{1 + 1i, 2 + 5i, 0, 7}, {most - 3, 1, 1 + 9i, 1}, {most, 1, 2, 3}, {3, 1 + most*1i, 1, 1 + 1i}, {1, 3i, 2, -1},
	} {
		want := tally.Sum(l...)
		for i := range 24 { // each order of four
			order := slices.Clone(l)
			for n, k := 4, i; n > 1; n-- {
				order[n-1], order[k%n] = order[k%n], order[n-1]
				k /= n
			}
			if got := tally.Sum(order...); got != want {
				t.Errorf("the sum of %v is %v, not %v", order, got, want)
			}
			if got := tally.Sum(tally.Sum(order[:2]...), tally.Sum(order[2:]...)); want != 0 && got != want {
				t.Errorf("the sum of %v in two parts is %v, not %v", order, got, want)
			}
		}
	}
}

// P9.2: Without is the difference, or ErrArg where it or an argument is not valid.
func TestWithout(t *testing.T) {
	l := tallies()
	for _, a := range l {
		for _, b := range l {
			want, code := tally.Of(tally.Things(a)-tally.Things(b), tally.Bytes(a)-tally.Bytes(b))
			if got, e := tally.Without(a, b); got != want || e != code {
				t.Errorf("%v without %v is %v, %d", a, b, got, e)
			}
			if sum := tally.Sum(a, b); sum != 0 {
				if got, e := tally.Without(sum, b); got != a || e != api.OK {
					t.Errorf("%v without %v is %v, %d", sum, b, got, e)
				}
			}
		}
		if got, e := tally.Without(a, a); got != 0 || e != api.OK {
			t.Errorf("%v without itself is %v, %d", a, got, e)
		}
	}
	refused := [][2]complex128{
		{2 + 3i, 2}, // bytes without an item would be left
		{2 + 3i, 3}, {2 + 3i, 1 + 4i}, {0, 1}, {1, 1 + 1i},
		{3i, 0}, {3i, 3i}, {0.5, 0.5}, {most + 1, 1}, {1, -1}, {1, 0.5}, {2 + 3i, 3i},
	}
	for _, c := range others() {
		refused = append(refused, [2]complex128{c, 0}, [2]complex128{c, c}, [2]complex128{5 + 5i, c})
	}
	for _, c := range refused {
		if got, e := tally.Without(c[0], c[1]); got != 0 || e != api.ErrArg {
			t.Errorf("%v without %v is %v, %d", c[0], c[1], got, e)
		}
	}
}

// P9.2: Times is the product, or 0 where it or the tally is not valid or the number is negative.
func TestTimes(t *testing.T) {
	for _, c := range tallies() {
		sum := complex128(0)
		for n := range 9 {
			if got := tally.Times(c, n); got != sum {
				t.Errorf("%d times %v is %v, not %v", n, c, got, sum)
			}
			sum = tally.Sum(sum, c)
			if sum == 0 {
				break // too great from here on
			}
		}
		for _, n := range []int{-1, -2, math.MinInt} {
			if got := tally.Times(c, n); got != 0 {
				t.Errorf("%d times %v is %v", n, c, got)
			}
		}
	}
	for _, c := range others() {
		for _, n := range []int{-1, 0, 1, 2, math.MaxInt} {
			if got := tally.Times(c, n); got != 0 {
				t.Errorf("%d times %v is %v", n, c, got)
			}
		}
	}
	for _, c := range []struct {
		c    complex128
		n    int
		want complex128
	}{
		{1, most, most}, {1, most + 1, 0}, {1 + 1i, most, most + most*1i}, {1 + 2i, most / 2, most/2 + most*1i}, {1 + 2i, most/2 + 1, 0},
		{2, most / 2, most}, {3, most / 3, most / 3 * 3}, {3, most/3 + 1, 0}, {most + most*1i, 1, most + most*1i}, {most, 2, 0},
		{1, 1<<53 + 1, 0}, {1, math.MaxInt, 0}, {most + most*1i, math.MaxInt, 0}, {0, math.MaxInt, 0}, {0, 5, 0}, {0.5, 2, 0},
	} {
		if got := tally.Times(c.c, c.n); got != c.want {
			t.Errorf("%d times %v is %v, not %v", c.n, c.c, got, c.want)
		}
	}
}

// P9.2: Rows counts rows, those without bytes too, and their bytes; it changes none of them.
func TestRows(t *testing.T) {
	for _, c := range []struct {
		l    [][]byte
		want complex128
	}{
		{nil, 0}, {[][]byte{}, 0}, {[][]byte{nil}, 1}, {[][]byte{{}, nil}, 2}, {[][]byte{{9}}, 1 + 1i},
		{[][]byte{{1, 2, 3}, {}}, 2 + 3i}, {[][]byte{{}, {1}, nil, {2, 3}, make([]byte, 5000)}, 5 + 5003i},
		{slices.Repeat([][]byte{make([]byte, 7)}, 1000), 1000 + 7000i},
	} {
		if got := tally.Rows(c.l); got != c.want {
			t.Errorf("%d rows are %v, not %v", len(c.l), got, c.want)
		}
	}
	l := [][]byte{{1, 2}, {3}}
	tally.Rows(l)
	if !slices.Equal(l[0], []byte{1, 2}) || !slices.Equal(l[1], []byte{3}) {
		t.Error(l)
	}
}

// P9.2: Share is in thousandths, rounded down.
func TestShare(t *testing.T) {
	for _, c := range []struct {
		a, b complex128
		want int
	}{
		{1 + 4i, 1 + 3i, 750}, {1 + 3i, 1 + 1i, 333}, {1 + 3i, 1 + 2i, 666}, {1 + 7i, 1 + 7i, 1000}, {1 + 1i, 1 + 1i, 1000},
		{1 + 1001i, 1 + 1i, 0}, {1 + 1000i, 1 + 1i, 1}, {1 + 1000i, 1 + 999i, 999}, {1 + 4i, 1, 0}, {1 + 4i, 0, 0},
		{1 + 4i, 9 + 2i, 500}, {9 + 4i, 1 + 2i, 500}, // only bytes count
		{1 + 3i, 1 + 4i, 0}, {1, 1, 0}, {0, 0, 0}, {1, 1 + 1i, 0}, {5, 0, 0},
		{1 + most*1i, 1 + most*1i, 1000}, {1 + most*1i, 1 + (most-1)*1i, 999}, {most + most*1i, 1 + most/2*1i, 500}, {1 + most*1i, 1 + 1i, 0},
	} {
		if got := tally.Share(c.a, c.b); got != c.want {
			t.Errorf("of %v, the share %v is %d, not %d", c.a, c.b, got, c.want)
		}
	}
	for _, c := range others() {
		if x, y, z := tally.Share(c, 1+1i), tally.Share(1+most*1i, c), tally.Share(c, c); x != 0 || y != 0 || z != 0 {
			t.Error(c, x, y, z)
		}
	}
}

// equal tells whether a part is the wanted one, or also no number, and has no sign as 0.
func equal(got, want float64) bool {
	if math.IsNaN(want) {
		return math.IsNaN(got)
	}
	return got == want && (got != 0 || !math.Signbit(got))
}

// P9.3, P9.4: Swap exchanges the parts of any number, and twice restores it.
func TestSwap(t *testing.T) {
	parts := []float64{0, math.Copysign(0, -1), 1, -1, 2, 0.5, most, most + 1, -1e300, math.SmallestNonzeroFloat64,
		-math.SmallestNonzeroFloat64, math.MaxFloat64, math.Inf(1), math.Inf(-1), math.NaN()}
	for _, x := range parts {
		for _, y := range parts {
			c := complex(x, y)
			got := tally.Swap(c)
			if !equal(real(got), y) || !equal(imag(got), x) {
				t.Errorf("Swap(%v) = %v", c, got)
			}
			if twice := tally.Swap(got); !equal(real(twice), x) || !equal(imag(twice), y) {
				t.Errorf("%v twice is %v", c, twice)
			}
		}
	}
	for _, c := range tallies() {
		if got := tally.Swap(c); got != 1i*cmplx.Conj(c) {
			t.Errorf("Swap(%v) = %v", c, got)
		}
	}
}

// P9.1, P9.2: a part that is 0 counts as 0 whatever sign it has, and has none in a result.
func TestSignOfZero(t *testing.T) {
	minus := math.Copysign(0, -1)
	zero, five := complex(minus, minus), complex(5, minus)
	less, code := tally.Without(zero, 0)
	if code != api.OK {
		t.Error(code)
	}
	for _, c := range []complex128{tally.Sum(zero), tally.Sum(zero, zero), less, tally.Times(zero, 3), tally.Times(five, 0)} {
		if !equal(real(c), 0) || !equal(imag(c), 0) {
			t.Error(c)
		}
	}
	if c := tally.Times(five, 3); !equal(real(c), 15) || !equal(imag(c), 0) {
		t.Error(c)
	}
	if tally.Things(five) != 5 || tally.Bytes(five) != 0 || tally.Things(zero) != 0 || tally.Share(five, five) != 0 {
		t.Error(tally.Things(five), tally.Bytes(five), tally.Things(zero))
	}
}

// Ways of layer 9: Sum takes any number of tallies, and both parts are added, taken
// off and multiplied by a single operation.
func TestPartsAreAddedAtOnce(t *testing.T) {
	file, err := parser.ParseFile(token.NewFileSet(), "tally.go", nil, 0)
	if err != nil {
		t.Fatal(err)
	}
	want := map[string]token.Token{"Sum": token.ADD_ASSIGN, "Rows": token.ADD_ASSIGN, "Without": token.SUB, "Times": token.MUL}
	for _, d := range file.Decls {
		f, ok := d.(*ast.FuncDecl)
		if !ok || want[f.Name.Name] == token.ILLEGAL {
			continue
		}
		operations := 0
		ast.Inspect(f, func(n ast.Node) bool {
			switch x := n.(type) {
			case *ast.AssignStmt:
				if x.Tok == want[f.Name.Name] {
					operations++
				}
			case *ast.BinaryExpr:
				if x.Op == want[f.Name.Name] {
					operations++
				}
			case *ast.Ident:
				if x.Name == "real" || x.Name == "imag" {
					t.Error(f.Name.Name, "takes a tally apart")
				}
			}
			return true
		})
		if operations != 1 {
			t.Error(f.Name.Name, "has", operations, "operations")
		}
		if _, variadic := f.Type.Params.List[0].Type.(*ast.Ellipsis); variadic != (f.Name.Name == "Sum") {
			t.Error(f.Name.Name, "takes any number of arguments:", variadic)
		}
		delete(want, f.Name.Name)
	}
	if len(want) > 0 {
		t.Error("not found:", want)
	}
}
