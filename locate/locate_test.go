package locate_test

import (
	"go/ast"
	"go/parser"
	"go/token"
	"math"
	"math/big"
	"math/rand"
	"slices"
	"testing"

	"tholepin/api"
	"tholepin/locate"
	"tholepin/proj"
)

// top is MaxPos, at which the last stripe ends.
const top = uint64(1) << 62

// most is the greatest node.
const most = uint64(1<<32 - 1)

// near is up to which positions everything is counted one by one.
const near = 400

// whole is a projection whose stripes end at some positions and, the last one, at MaxPos.
func whole(ends []uint64, sets ...[][]uint64) api.Projection {
	p := api.Projection{Epoch: 3}
	from := uint64(0)
	for i, to := range append(slices.Clone(ends), top) {
		s := api.Stripe{From: from, To: to}
		for _, set := range sets[i%len(sets)] {
			s.Sets = append(s.Sets, slices.Clone(set))
		}
		p.Stripes = append(p.Stripes, s)
		from = to
	}
	return p
}

// example is the chapter's projection.
func example() api.Projection { return whole([]uint64{4}, [][]uint64{{1}, {2}}, [][]uint64{{3}}) }

// steps is n ends, a position apart.
func steps(n int) []uint64 {
	var l []uint64
	for i := range n {
		l = append(l, uint64(i+1))
	}
	return l
}

// large is 8 sets of 8 nodes each.
func large() [][]uint64 {
	sets := make([][]uint64, 8)
	for i := range sets {
		for k := range 8 {
			sets[i] = append(sets[i], uint64(k*8+7-i))
		}
	}
	return sets
}

// single is n sets of one node each, from one on.
func single(n int, from uint64) [][]uint64 {
	var sets [][]uint64
	for i := range n {
		sets = append(sets, []uint64{from + uint64(i)})
	}
	return sets
}

// rights are valid projections.
func rights() []api.Projection {
	a, b, c := [][]uint64{{1}, {2}}, [][]uint64{{3}}, [][]uint64{{1, 5}, {2, 3, most}, {0}}
	return []api.Projection{
		example(), whole(nil, b), whole(nil, large()), whole(nil, single(7, 1)), whole([]uint64{1, 2, 50}, a, b, c, a),
		whole([]uint64{top - 1}, c, b), whole([]uint64{1 << 40, top - 2, top - 1}, b, c), whole([]uint64{10, 27, 128}, large(), a, c),
		whole(steps(62), a, b, c), whole(steps(63), a, b), whole([]uint64{3, 4, 9, 16, 300}, c, single(5, 2), single(8, 0)),
	}
}

// wrongs are projections that are not valid, and most of them nearly are.
func wrongs() []api.Projection {
	l := []api.Projection{{}, {Epoch: 1}, {Stripes: example().Stripes}, whole(steps(64), [][]uint64{{7}})}
	for _, change := range []func(p *api.Projection){
		func(p *api.Projection) { p.Epoch = top },
		func(p *api.Projection) { p.Stripes = p.Stripes[1:] },
		func(p *api.Projection) { p.Stripes = p.Stripes[:1] },
		func(p *api.Projection) { p.Stripes[1].From++ },
		func(p *api.Projection) { p.Stripes[1].From-- },
		func(p *api.Projection) { p.Stripes[1].To-- },
		func(p *api.Projection) { p.Stripes[1].To = math.MaxUint64 },
		func(p *api.Projection) { p.Stripes[1].Sets = nil },
		func(p *api.Projection) { p.Stripes[0].Sets[1] = nil },
		func(p *api.Projection) { p.Stripes[0].Sets[1][0] = 1 },
		func(p *api.Projection) { p.Stripes[0].Sets[1] = []uint64{9, 8} },
		func(p *api.Projection) { p.Stripes[1].Sets[0][0] = most + 1 },
		func(p *api.Projection) { slices.Reverse(p.Stripes) },
	} {
		p := proj.Copy(example())
		change(&p)
		l = append(l, p)
	}
	return l
}

// edges are positions around the ends of a projection's stripes, and numbers that are none.
func edges(p api.Projection) []uint64 {
	l := []uint64{0, 1, 2, 300, 1 << 40, 1 << 61, top - 2, top - 1, top, top + 1, 1 << 63, math.MaxUint64 - 1, math.MaxUint64}
	for _, s := range p.Stripes {
		for k := range uint64(10) {
			l = append(l, s.From+k, s.To-1-k, s.To+k)
		}
	}
	return l
}

// some are positions of all kinds: the near ones, those around ends, and any.
func some(r *rand.Rand, p api.Projection) []uint64 {
	l := edges(p)
	for k := range uint64(near) {
		l = append(l, k, r.Uint64()>>(2+r.Intn(62)))
	}
	return slices.DeleteFunc(l, func(x uint64) bool { return x >= top })
}

// nodes are all that a valid projection has, and some that it perhaps does not have.
func nodes(p api.Projection) []uint64 {
	l := []uint64{0, 1, 2, 3, 4, 5, 77, most - 1, most, most + 1, math.MaxUint64}
	for _, s := range p.Stripes {
		l = append(l, slices.Concat(s.Sets...)...)
	}
	slices.Sort(l)
	return slices.Compact(l)
}

// place is the definition's words, in one stripe after the other.
func place(p api.Projection, pos uint64) locate.Place {
	for i, s := range p.Stripes {
		if s.From <= pos && pos < s.To {
			n := uint64(len(s.Sets))
			set := int((pos - s.From) % n)
			return locate.Place{Stripe: i, Set: set, Local: (pos - s.From) / n, Nodes: s.Sets[set]}
		}
	}
	panic("no stripe has the position")
}

func same(a, b locate.Place) bool {
	return a.Stripe == b.Stripe && a.Set == b.Set && a.Local == b.Local && slices.Equal(a.Nodes, b.Nodes)
}

func isZero(x locate.Place) bool {
	return x.Stripe == 0 && x.Set == 0 && x.Local == 0 && x.Nodes == nil
}

// P21.1, P21.2, P21.3: the examples of the chapter.
func TestExamples(t *testing.T) {
	p := example()
	x, code := locate.At(p, 3)
	if code != api.OK || !same(x, locate.Place{Stripe: 0, Set: 1, Local: 1, Nodes: []uint64{2}}) {
		t.Error(x, code)
	}
	if pos, code := locate.Pos(p, 1, 0, 6); pos != 10 || code != api.OK {
		t.Error(pos, code)
	}
	if one, three := locate.Count(p, 1, 9), locate.Count(p, 3, 9); one != 2 || three != 5 {
		t.Error(one, three)
	}
	if pos, ok := locate.First(p, p); pos != 0 || ok {
		t.Error(pos, ok)
	}
	if i, ok := locate.Stripe(p, 3); i != 0 || !ok {
		t.Error(i, ok)
	}
	if i, ok := locate.Stripe(p, 4); i != 1 || !ok {
		t.Error(i, ok)
	}
}

// P21.1: Stripe and At, of the near positions, of those around all ends, and of any.
func TestStripeAndAt(t *testing.T) {
	r := rand.New(rand.NewSource(21))
	for _, p := range rights() {
		for _, pos := range some(r, p) {
			want := place(p, pos)
			if i, ok := locate.Stripe(p, pos); i != want.Stripe || !ok {
				t.Fatal(p, pos, i, ok)
			}
			if x, code := locate.At(p, pos); !same(x, want) || code != api.OK {
				t.Fatal(p, pos, x, code, "not", want)
			}
		}
	}
}

// P21.1: the local number of a position is that of the earlier ones of the stripe with the same set.
func TestLocalIsANumberOfEarlierPositions(t *testing.T) {
	for _, p := range rights() {
		earlier := map[[2]int]uint64{}
		for pos := range uint64(near) {
			x, code := locate.At(p, pos)
			at := [2]int{x.Stripe, x.Set}
			if code != api.OK || x.Local != earlier[at] {
				t.Fatal(p, pos, x, code)
			}
			earlier[at]++
		}
	}
}

// P21.1: a number from MaxPos on is no position: ErrArg, but ErrInvalid ahead of it.
func TestNoPosition(t *testing.T) {
	for _, pos := range []uint64{top, top + 1, top + 3, 1 << 63, math.MaxUint64 - 1, math.MaxUint64} {
		for _, p := range rights() {
			if i, ok := locate.Stripe(p, pos); i != 0 || ok {
				t.Error(pos, i, ok)
			}
			if x, code := locate.At(p, pos); !isZero(x) || code != api.ErrArg {
				t.Error(pos, x, code)
			}
		}
		for _, p := range wrongs() {
			if x, code := locate.At(p, pos); !isZero(x) || code != api.ErrInvalid {
				t.Error(pos, x, code)
			}
		}
	}
	if x, code := locate.At(example(), top-1); code != api.OK || x.Stripe != 1 || x.Local != top-5 {
		t.Error(x, code)
	}
}

// P21.1, P21.2, P21.3: a projection that is not valid has no positions and no nodes.
func TestNotValid(t *testing.T) {
	good := example()
	for _, p := range wrongs() {
		for _, pos := range []uint64{0, 1, 3, 4, 5, 300, top - 1} {
			if i, ok := locate.Stripe(p, pos); i != 0 || ok {
				t.Error(p, pos, i, ok)
			}
			if x, code := locate.At(p, pos); !isZero(x) || code != api.ErrInvalid {
				t.Error(p, pos, x, code)
			}
			for _, node := range nodes(good) {
				if n := locate.Count(p, node, pos); n != 0 {
					t.Error(p, node, pos, n)
				}
			}
			if locate.Moved(p, good, pos) || locate.Moved(good, p, pos) || locate.Moved(p, p, pos) {
				t.Error(p, pos)
			}
		}
		for _, c := range [][2]int{{0, 0}, {1, 0}, {-1, 0}, {9, 9}} { // ahead of ErrNone
			if pos, code := locate.Pos(p, c[0], c[1], 0); pos != 0 || code != api.ErrInvalid {
				t.Error(p, c, pos, code)
			}
		}
		if l := locate.Nodes(p); l != nil {
			t.Error(p, l)
		}
		other := whole(nil, [][]uint64{{99}})
		for _, pair := range [][2]api.Projection{{p, other}, {other, p}, {p, p}, {p, wrongs()[3]}} {
			if pos, ok := locate.First(pair[0], pair[1]); pos != 0 || ok {
				t.Error(pair, pos, ok)
			}
		}
	}
}

// P21.1: Pos, of each set's first and last position, and of what is none.
func TestPos(t *testing.T) {
	for _, p := range rights() {
		for i, s := range p.Stripes {
			n := uint64(len(s.Sets))
			for set := range s.Sets {
				first := s.From + uint64(set)
				for local := range uint64(60) {
					want, code := first+local*n, api.OK
					if want >= s.To {
						want, code = 0, api.ErrNone
					}
					if pos, c := locate.Pos(p, i, set, local); pos != want || c != code {
						t.Fatal(p, i, set, local, pos, c, "not", want, code)
					}
				}
				if first >= s.To {
					continue
				}
				last := (s.To - 1 - first) / n
				if pos, c := locate.Pos(p, i, set, last); pos != first+last*n || c != api.OK {
					t.Fatal(p, i, set, last, pos, c)
				}
				// The last three are small again where the numbers wrap round.
				for _, local := range []uint64{last + 1, last + n, top, 1 << 63, math.MaxUint64, math.MaxUint64/n + 1, -first, -s.From} {
					if local <= last {
						continue
					}
					if pos, c := locate.Pos(p, i, set, local); pos != 0 || c != api.ErrNone {
						t.Fatal(p, i, set, local, pos, c)
					}
				}
			}
			for _, set := range []int{-1, len(s.Sets), 8, 9, math.MinInt, math.MaxInt} {
				if pos, c := locate.Pos(p, i, set, 0); pos != 0 || c != api.ErrNone {
					t.Fatal(p, i, set, pos, c)
				}
			}
		}
		for _, i := range []int{-1, len(p.Stripes), len(p.Stripes) + 1, 64, math.MinInt, math.MaxInt} {
			if pos, c := locate.Pos(p, i, 0, 0); pos != 0 || c != api.ErrNone {
				t.Fatal(p, i, pos, c)
			}
		}
	}
}

// P21.4: At and Pos are inverse to each other, both ways round.
func TestAtAndPosAreInverse(t *testing.T) {
	r := rand.New(rand.NewSource(214))
	for _, p := range rights() {
		for _, pos := range some(r, p) {
			x, _ := locate.At(p, pos)
			if again, code := locate.Pos(p, x.Stripe, x.Set, x.Local); again != pos || code != api.OK {
				t.Fatal(p, pos, x, again, code)
			}
		}
		for i, s := range p.Stripes {
			for set, l := range s.Sets {
				for range 30 {
					local := r.Uint64() >> r.Intn(64)
					pos, code := locate.Pos(p, i, set, local)
					if code != api.OK {
						continue
					}
					if x, code := locate.At(p, pos); !same(x, locate.Place{Stripe: i, Set: set, Local: local, Nodes: l}) || code != api.OK {
						t.Fatal(p, i, set, local, pos, x, code)
					}
				}
			}
		}
	}
}

// P21.2: Count, below each of the near positions, is how many of those were dealt to the node.
func TestCountOneByOne(t *testing.T) {
	for _, p := range rights() {
		got := map[uint64]uint64{}
		all := nodes(p)
		for below := range uint64(near) {
			for _, node := range all {
				if n := locate.Count(p, node, below); n != got[node] {
					t.Fatal(p, node, below, n, "not", got[node])
				}
			}
			for _, node := range place(p, below).Nodes {
				got[node]++
			}
		}
	}
}

// P21.2: Count far out: it rises by one at each of the node's positions, and above MaxPos it is that at MaxPos.
func TestCountFarOut(t *testing.T) {
	r := rand.New(rand.NewSource(212))
	for _, p := range rights() {
		for _, pos := range some(r, p) {
			for _, node := range []uint64{0, 1, 3, 5, 77, most, most + 1} {
				rise := uint64(0)
				if slices.Contains(place(p, pos).Nodes, node) {
					rise = 1
				}
				if a, b := locate.Count(p, node, pos), locate.Count(p, node, pos+1); b-a != rise {
					t.Fatal(p, node, pos, a, b)
				}
			}
		}
		for _, node := range nodes(p) {
			n := locate.Count(p, node, top)
			for _, below := range []uint64{top + 1, top + 7, 1 << 63, math.MaxUint64} {
				if m := locate.Count(p, node, below); m != n {
					t.Fatal(p, node, below, m, n)
				}
			}
			if m := locate.Count(p, node, 0); m != 0 {
				t.Fatal(p, node, m)
			}
		}
	}
	if n := locate.Count(whole(nil, [][]uint64{{3}}), 3, math.MaxUint64); n != top {
		t.Error(n)
	}
	p := whole([]uint64{7}, [][]uint64{{1}, {2}}, [][]uint64{{2, 3}, {1}, {4}}) // in different sets
	for node, want := range map[uint64]uint64{1: 4 + (top-7)/3, 2: 3 + (top-7+2)/3, 3: (top - 7 + 2) / 3, 4: (top - 7) / 3, 5: 0} {
		if n := locate.Count(p, node, top); n != want {
			t.Error(node, n, want)
		}
	}
}

// P21.4: the counts of all nodes add up to the positions, each as often as its set has nodes.
func TestCountsAddUp(t *testing.T) {
	for _, p := range rights() {
		for _, below := range []uint64{0, 1, 5, 17, 299, 1 << 40, 1<<61 + 5, top - 2, top - 1, top, math.MaxUint64} {
			want, sum := new(big.Int), new(big.Int)
			for _, s := range p.Stripes {
				end := min(s.To, below)
				if end <= s.From {
					continue
				}
				n := uint64(len(s.Sets))
				for k, set := range s.Sets {
					first := s.From + uint64(k)
					if first < end {
						share := new(big.Int).SetUint64((end-1-first)/n + 1)
						want.Add(want, share.Mul(share, big.NewInt(int64(len(set)))))
					}
				}
			}
			for _, node := range locate.Nodes(p) {
				sum.Add(sum, new(big.Int).SetUint64(locate.Count(p, node, below)))
			}
			if sum.Cmp(want) != 0 {
				t.Fatal(p, below, sum, want)
			}
		}
	}
}

// P21.2: Nodes is those, in increasing order and each once, that a set has.
func TestNodes(t *testing.T) {
	for _, p := range rights() {
		l := locate.Nodes(p)
		for i, node := range l {
			if i > 0 && l[i-1] >= node {
				t.Fatal(p, l)
			}
		}
		for _, node := range nodes(p) {
			has := false
			for _, s := range p.Stripes {
				has = has || slices.Contains(slices.Concat(s.Sets...), node)
			}
			if slices.Contains(l, node) != has {
				t.Fatal(p, node, l)
			}
		}
	}
	p := whole([]uint64{4, 9}, [][]uint64{{7, 9}, {2}}, [][]uint64{{most}}, [][]uint64{{8}, {0, 7, 9}})
	if l := locate.Nodes(p); !slices.Equal(l, []uint64{0, 2, 7, 8, 9, most}) {
		t.Error(l)
	}
	if l := locate.Nodes(whole(steps(63), [][]uint64{{7}})); !slices.Equal(l, []uint64{7}) {
		t.Error(l)
	}
}

// variants are valid projections that differ little from each other.
func variants() []api.Projection {
	a, b, c := [][]uint64{{1}, {2}}, [][]uint64{{1}, {2}, {3}}, [][]uint64{{1}, {2}, {4}}
	return append(rights(),
		whole(nil, a), whole(nil, b), whole(nil, c), whole([]uint64{6}, a), whole([]uint64{7}, a), whole([]uint64{6, 12}, a, b),
		whole([]uint64{1}, [][]uint64{{1}}, [][]uint64{{2}, {1}}), whole([]uint64{2}, b, a), whole([]uint64{2, 3}, b, [][]uint64{{1}}, a),
		whole([]uint64{300}, a, a), whole([]uint64{301}, a, a), whole([]uint64{300}, a, b), whole([]uint64{300}, c, b),
		whole([]uint64{top - 1}, a, a), whole([]uint64{top - 2}, a, a), whole([]uint64{top - 1}, a, b), whole([]uint64{top - 1}, a, [][]uint64{{2}}),
		whole(nil, single(8, 1)), whole(nil, single(7, 1)), whole([]uint64{7}, single(7, 1), single(8, 1)), whole([]uint64{8}, single(8, 1)),
		whole([]uint64{8, 15}, single(8, 1), single(7, 1), single(8, 1)), whole(nil, [][]uint64{{1, 2}}), whole([]uint64{5}, [][]uint64{{1}}, [][]uint64{{1, 2}}),
		whole(nil, [][]uint64{{1}}), whole([]uint64{1 << 50}, [][]uint64{{1}}), whole(nil, append(single(7, 1), []uint64{8, 9})),
	)
}

// moved is the chapter's words, of valid projections.
func moved(a, b api.Projection, pos uint64) bool {
	return !slices.Equal(place(a, pos).Nodes, place(b, pos).Nodes)
}

// P21.3: Moved, for all pairs, at all kinds of numbers; a number that is no position has not moved.
func TestMoved(t *testing.T) {
	did, didNot := 0, 0
	for _, a := range variants() {
		for _, b := range variants() {
			for _, pos := range []uint64{0, 1, 2, 3, 6, 7, 12, 14, 299, 300, 301, 1 << 50, top - 2, top - 1} {
				want := moved(a, b, pos)
				if locate.Moved(a, b, pos) != want {
					t.Fatal(a, b, pos, !want)
				}
				if want {
					did++
				} else {
					didNot++
				}
			}
			for _, pos := range []uint64{top, top + 1, 1 << 63, math.MaxUint64} {
				if locate.Moved(a, b, pos) {
					t.Fatal(a, b, pos)
				}
			}
		}
	}
	if min(did, didNot) < 1000 {
		t.Error(did, didNot)
	}
}

// first is the first position that moved, looked for one by one in the 60 positions from where each
// stripe begins: 56 of them at most, which are 7 times 8, are dealt before both stripes' turns agree again.
func first(a, b api.Projection) (uint64, bool) {
	var from []uint64
	for _, s := range slices.Concat(a.Stripes, b.Stripes) {
		from = append(from, s.From)
	}
	slices.Sort(from)
	for _, at := range from {
		for pos := at; pos < min(at+60, top); pos++ {
			if moved(a, b, pos) {
				return pos, true
			}
		}
	}
	return 0, false
}

// checkFirst holds First of two projections, both ways round, against what is counted one by one.
func checkFirst(t *testing.T, a, b api.Projection) (uint64, bool) {
	t.Helper()
	want, wanted := first(a, b)
	for _, pair := range [][2]api.Projection{{a, b}, {b, a}} {
		pos, ok := locate.First(pair[0], pair[1])
		if pos != want || ok != wanted {
			t.Fatal(pair, pos, ok, "not", want, wanted)
		}
		if ok && !locate.Moved(pair[0], pair[1], pos) {
			t.Fatal(pair, pos)
		}
	}
	return want, wanted
}

// P21.3, P21.4: First, for all pairs; before it no position has moved.
func TestFirst(t *testing.T) {
	r := rand.New(rand.NewSource(213))
	found, none, late := 0, 0, 0
	for i, a := range variants() {
		for k, b := range variants() {
			pos, ok := checkFirst(t, a, b)
			if i == k && ok {
				t.Fatal(a, pos)
			}
			switch {
			case !ok:
				none++
				pos = top
			case pos > 100:
				late++
			default:
				found++
			}
			for _, earlier := range some(r, b)[:200] {
				if earlier < pos && locate.Moved(a, b, earlier) {
					t.Fatal(a, b, pos, earlier)
				}
			}
		}
	}
	if found < 500 || none < 60 || late < 20 {
		t.Error(found, none, late)
	}
}

// P21.3: First, row by row.
func TestFirstRows(t *testing.T) {
	a, b := [][]uint64{{1}, {2}}, [][]uint64{{1}, {2}, {3}}
	for i, c := range []struct {
		a, b api.Projection
		pos  uint64
		ok   bool
	}{
		{whole(nil, a), whole(nil, a), 0, false},
		{whole(nil, a), whole(nil, b), 2, true},
		{whole(nil, a), whole(nil, [][]uint64{{2}, {1}}), 0, true},
		{whole(nil, a), whole(nil, [][]uint64{{1}, {3}}), 1, true},
		{whole(nil, a), whole([]uint64{6}, a), 0, false}, // other stripes, but the same nodes
		{whole(nil, a), whole([]uint64{7}, a), 7, true},  // in which the turns change
		{whole(nil, a), whole([]uint64{1}, [][]uint64{{1}}, [][]uint64{{2}, {1}}), 0, false},
		{whole(nil, [][]uint64{{1}}), whole(nil, [][]uint64{{1, 2}}), 0, true},
		{whole(nil, single(8, 1)), whole(nil, single(7, 1)), 7, true},
		{whole(nil, single(8, 1)), whole(nil, append(single(7, 1), []uint64{8, 9})), 7, true},
		{whole([]uint64{top - 1}, a, b), whole([]uint64{top - 1}, a, [][]uint64{{2}}), top - 1, true},
		{whole([]uint64{top - 1}, a, b), whole([]uint64{top - 1}, a, [][]uint64{{1}}), 0, false},
		{whole(nil, a), whole([]uint64{top - 1}, a, [][]uint64{{2}}), 0, false}, // the last position is odd
		{whole(nil, a), whole([]uint64{top - 1}, a), top - 1, true},
		{whole([]uint64{300, 302}, a, b, a), whole([]uint64{300, 303}, a, b, a), 302, true},
		{whole([]uint64{5, 9}, b, [][]uint64{{4}}, a), whole([]uint64{5, 8}, b, [][]uint64{{4}}, a), 8, true},
		{whole([]uint64{2, 4}, single(5, 1), single(5, 1), a), whole([]uint64{2, 4}, a, a, a), 0, false}, // stripes that end ahead of the difference
	} {
		if pos, ok := locate.First(c.a, c.b); pos != c.pos || ok != c.ok {
			t.Errorf("case %d: %d, %v", i, pos, ok)
		}
		checkFirst(t, c.a, c.b)
	}
	p, q := whole(nil, a), whole(nil, a)
	q.Epoch = 77 // the epoch is no node
	if pos, ok := locate.First(p, q); pos != 0 || ok {
		t.Error(pos, ok)
	}
}

// random is a projection of some stripes with few nodes, whose turns often agree with those of another one.
func random(r *rand.Rand) api.Projection {
	var ends []uint64
	for end := uint64(0); r.Intn(3) > 0; {
		end += uint64(1 + r.Intn(1<<r.Intn(6)))
		ends = append(ends, end)
	}
	var all [][][]uint64
	turn := r.Intn(4)
	for range len(ends) + 1 {
		n := 1 + r.Intn(4)
		if r.Intn(3) > 0 {
			n = 2
		}
		sets := single(n, 1)
		for range turn {
			sets = append(sets[1:], sets[0])
		}
		all = append(all, sets)
		if r.Intn(3) == 0 {
			turn = r.Intn(4)
		}
	}
	return whole(ends, all...)
}

// P21.3: First of any projections, and of those that are made of one by growing it and swapping nodes.
func TestFirstOfAny(t *testing.T) {
	r := rand.New(rand.NewSource(2130))
	seen := map[uint64]int{}
	for range 20000 {
		a := random(r)
		b := random(r)
		if r.Intn(2) == 0 {
			b = proj.Copy(a)
		}
		last := b.Stripes[len(b.Stripes)-1]
		if r.Intn(2) == 0 {
			b, _ = proj.Grow(b, last.From+1+uint64(r.Intn(9)), last.Sets)
		}
		pos, ok := checkFirst(t, a, b)
		if ok {
			pos++
		}
		seen[min(pos, 20)]++
	}
	for n := range uint64(21) {
		if seen[n] < 30 {
			t.Error(n, seen)
		}
	}
}

// P21.2, P21.3: the greatest projection, of 64 stripes of 8 sets of 8 nodes each.
func TestGreatestProjection(t *testing.T) {
	p := whole(steps(63), large())
	if l := locate.Nodes(p); len(l) != 64 || l[0] != 0 || l[63] != 63 {
		t.Error(l)
	}
	if i, ok := locate.Stripe(p, 1<<50); i != 63 || !ok {
		t.Error(i, ok)
	}
	q := proj.Copy(p)
	q.Stripes[63].Sets[7][7] = most // which only the last stripe's last set has
	if pos, ok := locate.First(p, q); pos != 70 || !ok {
		t.Error(pos, ok)
	}
	if pos, ok := locate.First(p, proj.Copy(p)); pos != 0 || ok {
		t.Error(pos, ok)
	}
}

// P9: a projection that has grown distributes all positions before the cut as before.
func TestGrownDistributesAsBefore(t *testing.T) {
	r := rand.New(rand.NewSource(9))
	grown := 0
	for _, p := range variants() {
		last := p.Stripes[len(p.Stripes)-1]
		for _, at := range []uint64{last.From + 1, last.From + 2, last.From + 30, last.From + (top-last.From)/2, top - 1} {
			for _, sets := range [][][]uint64{{{8}, {9}, {0}}, {{1}, {2}}, large(), {{1000}}, last.Sets} {
				q, code := proj.Grow(p, at, sets)
				if code != api.OK {
					continue
				}
				grown++
				checkGrown(t, r, p, q, at)
			}
		}
	}
	if grown < 500 {
		t.Error(grown)
	}
}

// checkGrown holds a projection that has grown against the one that it was.
func checkGrown(t *testing.T, r *rand.Rand, p, q api.Projection, at uint64) {
	t.Helper()
	l := []uint64{0, at - 1, at / 2}
	for k := range uint64(40) {
		l = append(l, k, at-1-k, r.Uint64()%at)
	}
	for _, pos := range l {
		if pos >= at {
			continue
		}
		x, code := locate.At(p, pos)
		y, other := locate.At(q, pos)
		if !same(x, y) || code != api.OK || other != api.OK || locate.Moved(p, q, pos) {
			t.Fatal(p, at, pos, x, y)
		}
		if again, code := locate.Pos(q, x.Stripe, x.Set, x.Local); again != pos || code != api.OK {
			t.Fatal(p, at, pos, again, code)
		}
	}
	for _, node := range locate.Nodes(q) {
		if a, b := locate.Count(p, node, at), locate.Count(q, node, at); a != b {
			t.Fatal(p, at, node, a, b)
		}
	}
	if pos, ok := checkFirst(t, p, q); ok && pos < at {
		t.Fatal(p, at, pos)
	}
	n := len(p.Stripes)
	if i, ok := locate.Stripe(q, at-1); i != n-1 || !ok {
		t.Fatal(p, at, i, ok)
	}
	if x, code := locate.At(q, at); x.Stripe != n || x.Set != 0 || x.Local != 0 || code != api.OK {
		t.Fatal(p, at, x, code)
	}
}

// P9: that holds through all the times that a projection can grow.
func TestGrowsOnAndOn(t *testing.T) {
	r := rand.New(rand.NewSource(99))
	p := whole(nil, [][]uint64{{7}, {8, 9}})
	all := []api.Projection{p}
	var cuts []uint64
	for k := range uint64(63) {
		at := 1 + k*(k+3)
		q, code := proj.Grow(p, at, single(1+int(k%8), k))
		if code != api.OK {
			t.Fatal(k, code)
		}
		checkGrown(t, r, p, q, at)
		all, cuts, p = append(all, q), append(cuts, at), q
	}
	for i, old := range all[:63] { // and of all of them, from each one's own first cut on
		for pos := range cuts[i] {
			if locate.Moved(old, p, pos) {
				t.Fatal(i, pos)
			}
		}
		if pos, ok := locate.First(old, p); !ok || pos < cuts[i] {
			t.Fatal(i, pos, ok)
		}
	}
}

// Rules 4 and 7: arguments stay as they are, and what is given is new memory.
func TestMemory(t *testing.T) {
	p := whole([]uint64{4, 9}, [][]uint64{{1, 5, 9}, {2}}, [][]uint64{{3}}, [][]uint64{{4}, {5, 6}})
	before := proj.Copy(p)
	x, _ := locate.At(p, 0)
	y, _ := locate.At(p, 0)
	l, m := locate.Nodes(p), locate.Nodes(p)
	x.Nodes[0], l[0] = 77, 77
	x.Nodes, l = append(x.Nodes, 78), append(l, 78)
	if !slices.Equal(y.Nodes, []uint64{1, 5, 9}) || !slices.Equal(m, []uint64{1, 2, 3, 4, 5, 6, 9}) {
		t.Error(y, m)
	}
	locate.Stripe(p, 5)
	locate.Pos(p, 1, 0, 0)
	locate.Count(p, 5, 6)
	locate.Moved(p, p, 3)
	locate.First(p, whole(nil, [][]uint64{{1, 5, 9}, {2}}))
	if !proj.Same(p, before) {
		t.Error(p)
	}
}

// Ways of layer 21: a library function that searches is given a function literal, and all functions
// that look for a position reach it.
func TestPositionsAreSearchedByClosure(t *testing.T) {
	file, err := parser.ParseFile(token.NewFileSet(), "locate.go", nil, 0)
	if err != nil {
		t.Fatal(err)
	}
	passed, callers := "", map[string]map[string]bool{}
	for _, d := range file.Decls {
		f, ok := d.(*ast.FuncDecl)
		if !ok {
			continue
		}
		ast.Inspect(f, func(n ast.Node) bool {
			call, ok := n.(*ast.CallExpr)
			if !ok {
				return true
			}
			switch x := call.Fun.(type) {
			case *ast.Ident:
				if callers[x.Name] == nil {
					callers[x.Name] = map[string]bool{}
				}
				callers[x.Name][f.Name.Name] = true
			case *ast.SelectorExpr:
				if name := x.Sel.Name; name == "Search" || name == "BinarySearchFunc" {
					if _, ok := call.Args[len(call.Args)-1].(*ast.FuncLit); ok {
						passed = f.Name.Name
					}
				}
			}
			return true
		})
	}
	if passed == "" {
		t.Fatal("no search is given a closure")
	}
	for _, name := range []string{"Stripe", "At", "First"} {
		if name != passed && !callers[passed][name] {
			t.Error(name, "does not search")
		}
	}
	if !callers["At"]["Moved"] {
		t.Error("Moved does not search")
	}
}
