package peek_test

import (
	"go/ast"
	"go/parser"
	"go/token"
	"math"
	"math/rand"
	"path/filepath"
	"slices"
	"strconv"
	"strings"
	"testing"

	"tholepin/api"
	"tholepin/batch"
	"tholepin/entry"
	"tholepin/peek"
)

// The greatest numbers, and how many bytes of data a batch has at most.
const (
	top      = uint64(math.MaxUint64)
	maxPos   = uint64(1) << 62
	mostData = 1 << 20
)

// of is an entry of some streams, and its data.
func of(data string, streams ...uint64) api.Entry {
	e := api.Entry{Data: []byte(data)}
	for _, s := range streams {
		e.Links = append(e.Links, api.Link{Stream: s})
	}
	return e
}

// at is a batch of epoch 3 from a position on.
func at(base uint64, l ...api.Entry) api.Batch {
	return api.Batch{Epoch: 3, Base: base, Entries: l}
}

// tail is a link.
func tail(stream uint64, backs ...uint64) api.Link { return api.Link{Stream: stream, Backs: backs} }

// threaded is the batch of the chapter: two entries of the stream 5 from 10 on.
func threaded() api.Batch {
	return at(10, api.Entry{Links: []api.Link{tail(5)}}, api.Entry{Links: []api.Link{tail(5, 10)}})
}

// num is a number in decimal.
func num(x uint64) string { return strconv.FormatUint(x, 10) }

// linked is links in words, in which nil and empty lists are the same.
func linked(l []api.Link) string {
	var s strings.Builder
	for _, x := range l {
		s.WriteString("[" + num(x.Stream) + ":")
		for _, y := range x.Backs {
			s.WriteString(" " + num(y))
		}
		s.WriteString("]")
	}
	return s.String()
}

// text is a batch in words.
func text(b api.Batch) string {
	var s strings.Builder
	s.WriteString(num(b.Epoch) + "@" + num(b.Base))
	for _, e := range b.Entries {
		s.WriteString("{" + linked(e.Links) + "|" + string(e.Data) + "}")
	}
	return s.String()
}

// isZero tells whether a batch is the zero one.
func isZero(b api.Batch) bool { return b.Epoch == 0 && b.Base == 0 && b.Entries == nil }

// random is a batch of up to some entries of a few streams, with Backs as they come.
func random(rnd *rand.Rand, most int) api.Batch {
	b := at(uint64(rnd.Intn(30)))
	if rnd.Intn(10) == 0 {
		b.Base = maxPos - uint64(rnd.Intn(30))
	}
	for range rnd.Intn(most + 1) {
		e := of(strings.Repeat("x", rnd.Intn(3)))
		for s := range uint64(6) {
			if rnd.Intn(3) == 0 {
				e.Links = append(e.Links, tail(s*s, falling(rnd, b.Base)...))
			}
		}
		b.Entries = append(b.Entries, e)
	}
	return b
}

// falling is up to four numbers that decrease below one.
func falling(rnd *rand.Rand, below uint64) []uint64 {
	var l []uint64
	for range rnd.Intn(5) {
		step := uint64(1 + rnd.Intn(5))
		if step > below {
			break
		}
		below -= step
		l = append(l, below)
	}
	return l
}

// spoiled is a random batch with something wrong in it, perhaps.
func spoiled(rnd *rand.Rand, most int) api.Batch {
	b := random(rnd, most)
	switch rnd.Intn(8) {
	case 0:
		b.Epoch = 0
	case 1:
		b.Base = []uint64{maxPos, top, top - 3, top - 9}[rnd.Intn(4)]
	case 2:
		b.Entries = append(b.Entries, of("", 3, 3))
	case 3:
		b.Entries = append(b.Entries, of("", 9, 4, 0, 4, 9))
	case 4:
		b.Entries = append(b.Entries, api.Entry{Links: []api.Link{tail(4, 1, 2, 3)}})
	}
	return b
}

// P26.1 to P26.3: the examples of the chapter.
func TestExamples(t *testing.T) {
	b, tails, code := peek.Thread(at(10, of("", 5), of("", 5)), nil)
	if code != api.OK || text(b) != "3@10{[5:]|}{[5: 10]|}" || linked(tails) != "[5: 11 10]" {
		t.Error(text(b), linked(tails), code)
	}
	if l := peek.Of(b, 5); !slices.Equal(l, []uint64{10, 11}) {
		t.Error(l)
	}
	if !peek.Chained(b) {
		t.Error("not chained")
	}
	if c, ok := peek.Cut(b, 11, 12); !ok || text(c) != "3@11{[5: 10]|}" {
		t.Error(text(c), ok)
	}
}

// P26.1: the entry at each position, and at none else.
func TestAt(t *testing.T) {
	b := at(10, of("a", 5), of("b", 5, 7), of(""))
	for i, want := range b.Entries {
		if e, ok := peek.At(b, 10+uint64(i)); !ok || !entry.Same(e, want) {
			t.Error(i, e, ok)
		}
	}
	for _, pos := range []uint64{0, 1, 9, 13, 14, 20, 1 << 32, maxPos, top - 9, top} {
		if e, ok := peek.At(b, pos); ok || e.Links != nil || e.Data != nil {
			t.Error(pos, e, ok)
		}
	}
	three := func(base uint64) api.Batch { return at(base, of("a"), of("b"), of("c")) }
	for i, c := range []struct {
		b    api.Batch
		pos  uint64
		want string
	}{
		{api.Batch{}, 0, ""},
		{at(10), 10, ""},
		{three(0), 0, "a"},
		{three(0), 2, "c"},
		{three(0), 3, ""},
		{three(0), top, ""},
		{three(maxPos - 1), maxPos, "b"}, // positions of a batch that is not valid
		{three(top - 3), top - 1, "c"},
		{three(top - 3), top, ""},
		{three(top - 2), top, ""}, // its end is 0
		{three(top - 2), top - 2, ""},
		{three(top - 2), 0, ""},
		{three(top), top, ""}, // its end is 2
		{three(top), 0, ""},
		{three(top), 1, ""},
		{three(top), 2, ""},
		{api.Batch{Entries: three(0).Entries}, 1, "b"}, // of no epoch
	} {
		if e, ok := peek.At(c.b, c.pos); ok != (c.want != "") || string(e.Data) != c.want {
			t.Errorf("case %d: %s, %v", i, e.Data, ok)
		}
	}
}

// P26.1: the positions of streams, and all streams.
func TestOfAndStreams(t *testing.T) {
	b := at(10, of("", 5, 7), of("", 0), of(""), of("", 3, 5, top), of("", 7))
	for _, c := range []struct {
		stream uint64
		want   []uint64
	}{
		{5, []uint64{10, 13}}, {7, []uint64{10, 14}}, {0, []uint64{11}}, {3, []uint64{13}}, {top, []uint64{13}}, {1, nil}, {6, nil}, {10, nil},
	} {
		if l := peek.Of(b, c.stream); !slices.Equal(l, c.want) {
			t.Error(c.stream, l)
		}
	}
	if l := peek.Streams(b); !slices.Equal(l, []uint64{0, 3, 5, 7, top}) {
		t.Error(l)
	}
	wrong := at(10, of("", 7, 5, 7, 5), of("", 5, 5)) // each position and each stream once
	if l := peek.Of(wrong, 5); !slices.Equal(l, []uint64{10, 11}) {
		t.Error(l)
	}
	if l := peek.Of(wrong, 7); !slices.Equal(l, []uint64{10}) {
		t.Error(l)
	}
	if l := peek.Streams(wrong); !slices.Equal(l, []uint64{5, 7}) {
		t.Error(l)
	}
	for _, c := range []struct {
		b   api.Batch
		has bool
	}{
		{api.Batch{}, false}, {at(10), false}, {at(10, of("")), false}, {at(10, of("", 5)), true}, {api.Batch{Entries: []api.Entry{of("", 5)}}, true},
		{at(maxPos, of("", 5)), true}, {at(top-1, of("", 5)), true}, {at(top, of("", 5)), false}, {at(top-1, of("", 5), of("", 5)), false}, {at(top, of("", 5), of("", 5)), false},
	} {
		l, all := peek.Of(c.b, 5), peek.Streams(c.b)
		if c.has && (!slices.Equal(l, []uint64{c.b.Base}) || !slices.Equal(all, []uint64{5})) || !c.has && (l != nil || all != nil) {
			t.Error(text(c.b), l, all)
		}
	}
}

// P26.1: the three functions of many batches, valid or not, against the chapter's words.
func TestFindsInAnyBatch(t *testing.T) {
	rnd := rand.New(rand.NewSource(26))
	for range 5000 {
		b := spoiled(rnd, 18)
		n := len(b.Entries)
		if b.Base+uint64(n) < b.Base {
			n = 0
		}
		seen := map[uint64][]uint64{}
		for i := range n {
			pos := b.Base + uint64(i)
			if e, ok := peek.At(b, pos); !ok || !entry.Same(e, b.Entries[i]) {
				t.Fatal(text(b), pos, e, ok)
			}
			for _, x := range b.Entries[i].Links {
				if !slices.Contains(seen[x.Stream], pos) {
					seen[x.Stream] = append(seen[x.Stream], pos)
				}
			}
		}
		for _, pos := range []uint64{b.Base - 1, b.Base + uint64(n), b.Base + uint64(n) + 1} {
			if e, ok := peek.At(b, pos); ok || e.Links != nil || e.Data != nil {
				t.Fatal(text(b), pos, e, ok)
			}
		}
		all := peek.Streams(b)
		if len(all) != len(seen) || !slices.IsSorted(all) {
			t.Fatal(text(b), all)
		}
		for s := range uint64(30) {
			if l := peek.Of(b, s); !slices.Equal(l, seen[s]) || slices.Contains(all, s) != (len(l) > 0) {
				t.Fatal(text(b), s, l, all)
			}
		}
	}
}

// thread is the chapter's words: each link gets the Backs of the tail of its stream, and is then,
// extended, the tail.
func thread(b api.Batch, tails []api.Link) (api.Batch, []api.Link, bool) {
	out := batch.Copy(b)
	for i := range out.Entries {
		for k := range out.Entries[i].Links {
			out.Entries[i].Links[k].Backs = nil
		}
	}
	for i := 1; i < len(tails); i++ {
		if tails[i-1].Stream >= tails[i].Stream {
			return api.Batch{}, nil, false
		}
	}
	if !batch.Right(out) {
		return api.Batch{}, nil, false
	}
	ends := slices.Clone(tails)
	for i := range out.Entries {
		pos := out.Base + uint64(i)
		for k := range out.Entries[i].Links {
			x := &out.Entries[i].Links[k]
			at, has := slices.BinarySearchFunc(ends, x.Stream, func(y api.Link, s uint64) int {
				switch {
				case y.Stream < s:
					return -1
				case y.Stream > s:
					return 1
				}
				return 0
			})
			if !has {
				ends = slices.Insert(ends, at, api.Link{Stream: x.Stream})
			}
			x.Backs = slices.Clone(ends[at].Backs)
			next := append([]uint64{pos}, x.Backs...)
			ends[at].Backs = next[:min(len(next), 4)]
		}
	}
	if !batch.Right(out) {
		return api.Batch{}, nil, false
	}
	return out, ends, true
}

// P26.2: threading, case by case.
func TestThread(t *testing.T) {
	for i, c := range []struct {
		b     api.Batch
		tails []api.Link
		want  string
		ends  string
	}{
		{at(10, of("a")), nil, "3@10{|a}", ""},
		{at(10, of("a", 5)), nil, "3@10{[5:]|a}", "[5: 10]"},
		{at(0, of("a", 0)), []api.Link{}, "3@0{[0:]|a}", "[0: 0]"},
		{at(10, of("", 5, 7), of("", 6), of("", 5)), nil, "3@10{[5:][7:]|}{[6:]|}{[5: 10]|}", "[5: 12 10][6: 11][7: 10]"},
		{at(10, of("", 5), of("", 5)), []api.Link{tail(5, 9, 3)}, "3@10{[5: 9 3]|}{[5: 10 9 3]|}", "[5: 11 10 9 3]"},
		{at(10, of("", 5), of("", 5)), []api.Link{tail(5, 9, 3, 2, 1)}, "3@10{[5: 9 3 2 1]|}{[5: 10 9 3 2]|}", "[5: 11 10 9 3]"},
		{at(10, of("", 5)), []api.Link{tail(5)}, "3@10{[5:]|}", "[5: 10]"},
		// tails of streams that are not in the batch stay, whatever they are
		{at(10, of("", 5)), []api.Link{tail(0, 1), tail(4), tail(6, 50, 60, 70, 80, 90)}, "3@10{[5:]|}", "[0: 1][4:][5: 10][6: 50 60 70 80 90]"},
		{at(10, of("a")), []api.Link{tail(1, 99), tail(top, 99, 99)}, "3@10{|a}", "[1: 99][18446744073709551615: 99 99]"},
		// the Backs of the batch are gone
		{at(10, api.Entry{Links: []api.Link{tail(5, 3), tail(6, 99, 99, 1, 2, 3, 4)}}), nil, "3@10{[5:][6:]|}", "[5: 10][6: 10]"},
		{at(10, api.Entry{Links: []api.Link{tail(5, 3)}}), []api.Link{tail(5, 4)}, "3@10{[5: 4]|}", "[5: 10 4]"},
		{at(maxPos-1, of("", 5)), []api.Link{tail(5, maxPos-2)}, "3@4611686018427387903{[5: 4611686018427387902]|}", "[5: 4611686018427387903 4611686018427387902]"},
		// not valid without Backs
		{api.Batch{}, nil, "", ""},
		{at(10), nil, "", ""},
		{at(maxPos, of("", 5)), nil, "", ""},
		{at(top, of("", 5), of("", 5)), nil, "", ""},
		{at(10, of("", 5, 5)), nil, "", ""},
		{at(10, of("", 6, 5)), nil, "", ""},
		{api.Batch{Base: 10, Entries: []api.Entry{of("", 5)}}, nil, "", ""},
		{at(10, make([]api.Entry, 17)...), nil, "", ""},
		{at(10, api.Entry{Data: make([]byte, mostData+1)}), nil, "", ""},
		// tails that do not increase
		{at(10, of("", 5)), []api.Link{tail(5), tail(5)}, "", ""},
		{at(10, of("", 5)), []api.Link{tail(7), tail(6)}, "", ""},
		{at(10, of("a")), []api.Link{tail(1), tail(2), tail(2)}, "", ""},
		{at(10, of("a")), []api.Link{tail(top), tail(0)}, "", ""},
		// tails that the batch can't have
		{at(10, of("", 5)), []api.Link{tail(5, 10)}, "", ""},
		{at(10, of("", 5)), []api.Link{tail(5, 11)}, "", ""},
		{at(10, of("a"), of("", 5)), []api.Link{tail(5, 10)}, "3@10{|a}{[5: 10]|}", "[5: 11 10]"},
		{at(10, of("", 5)), []api.Link{tail(5, 3, 3)}, "", ""},
		{at(10, of("", 5)), []api.Link{tail(5, 3, 4)}, "", ""},
		{at(10, of("", 5)), []api.Link{tail(5, 5, 4, 3, 2, 1)}, "", ""},
		{at(10, of("a"), of("", 4), of("", 4, 6)), []api.Link{tail(6, 12)}, "", ""},
	} {
		b, ends, code := peek.Thread(c.b, c.tails)
		if c.want == "" {
			if code != api.ErrInvalid || !isZero(b) || ends != nil {
				t.Errorf("case %d: %.200s, %s, %v", i, text(b), linked(ends), code)
			}
			continue
		}
		if code != api.OK || text(b) != c.want || linked(ends) != c.ends || !peek.Chained(b) {
			t.Errorf("case %d: %s, %s, %v", i, text(b), linked(ends), code)
		}
	}
}

// tailsOf is random tails, most of which a batch from a position on can have.
func tailsOf(rnd *rand.Rand, base uint64) []api.Link {
	var l []api.Link
	for s := range uint64(30) {
		if rnd.Intn(4) == 0 {
			l = append(l, tail(s, falling(rnd, base)...))
		}
	}
	if len(l) > 0 && rnd.Intn(20) == 0 {
		l[rnd.Intn(len(l))].Backs = []uint64{base + uint64(rnd.Intn(4))}
	}
	if len(l) > 0 && rnd.Intn(20) == 0 {
		l[rnd.Intn(len(l))].Stream = uint64(rnd.Intn(30))
	}
	return l
}

// P26.2, P26.4: threading of many batches with many tails, against the chapter's words. What is threaded
// is chained, and threading it again changes nothing.
func TestThreadOfManyBatches(t *testing.T) {
	rnd := rand.New(rand.NewSource(27))
	done, refused := 0, 0
	for range 20000 {
		b := spoiled(rnd, 17)
		tails := tailsOf(rnd, b.Base)
		before, given := text(b), linked(tails)
		want, ends, ok := thread(b, tails)
		got, made, code := peek.Thread(b, tails)
		if text(got) != text(want) || linked(made) != linked(ends) || ok != (code == api.OK) {
			t.Fatal(before, given, text(got), linked(made), code, "not", text(want), linked(ends))
		}
		if text(b) != before || linked(tails) != given {
			t.Fatal(before, given, "became", text(b), linked(tails))
		}
		if !ok {
			refused++
			if code != api.ErrInvalid || !isZero(got) || made != nil {
				t.Fatal(before, given, text(got), linked(made), code)
			}
			continue
		}
		done++
		if !batch.Right(got) || !peek.Chained(got) {
			t.Fatal(before, given, "is not chained:", text(got))
		}
		again, same, code := peek.Thread(got, tails)
		if code != api.OK || text(again) != text(got) || linked(same) != linked(made) {
			t.Fatal(text(got), "becomes", text(again), linked(same), code)
		}
	}
	if min(done, refused) < 2000 {
		t.Error(done, refused)
	}
}

// P26.2: batch after batch, each with the tails of the one before, every entry has the last four of its stream.
func TestThreadOnAndOn(t *testing.T) {
	rnd := rand.New(rand.NewSource(28))
	var tails []api.Link
	told := map[uint64][]uint64{}
	pos := uint64(0)
	for range 200 {
		b := at(pos)
		for range 1 + rnd.Intn(16) {
			var streams []uint64
			for s := range uint64(20) {
				if rnd.Intn(5) == 0 {
					streams = append(streams, s)
				}
			}
			b.Entries = append(b.Entries, of("x", streams...))
		}
		got, next, code := peek.Thread(b, tails)
		if code != api.OK {
			t.Fatal(text(b), linked(tails), code)
		}
		for _, e := range got.Entries {
			for _, x := range e.Links {
				l := told[x.Stream]
				if !slices.Equal(x.Backs, l[:min(4, len(l))]) {
					t.Fatal(pos, x, l)
				}
				told[x.Stream] = append([]uint64{pos}, l...)
			}
			pos++
		}
		tails = next
	}
	if len(tails) != len(told) {
		t.Error(linked(tails))
	}
	for _, x := range tails {
		if !slices.Equal(x.Backs, told[x.Stream][:4]) {
			t.Error(x, told[x.Stream])
		}
	}
}

// P26.2: a great many tails, more than an entry may have links, and each as it was.
func TestVeryManyTails(t *testing.T) {
	var tails []api.Link
	for i := range uint64(1 << 17) {
		tails = append(tails, tail(2*i, 9, 3))
	}
	b := at(10)
	for i := range uint64(16) {
		var streams []uint64
		for k := range uint64(16) {
			streams = append(streams, 1000*k+i)
		}
		b.Entries = append(b.Entries, of("", streams...))
	}
	want, ends, _ := thread(b, tails)
	got, made, code := peek.Thread(b, tails)
	if code != api.OK || text(got) != text(want) || linked(made) != linked(ends) || len(made) != 1<<17+128 {
		t.Error(code, text(got), len(made))
	}
}

// chained is the chapter's words.
func chained(b api.Batch) bool {
	if !batch.Right(b) {
		return false
	}
	for i, e := range b.Entries {
		for _, x := range e.Links {
			for k := i - 1; k >= 0; k-- {
				n := slices.IndexFunc(b.Entries[k].Links, func(y api.Link) bool { return y.Stream == x.Stream })
				if n < 0 {
					continue
				}
				want := append([]uint64{b.Base + uint64(k)}, b.Entries[k].Links[n].Backs...)
				if !slices.Equal(x.Backs, want[:min(len(want), 4)]) {
					return false
				}
				break
			}
		}
	}
	return true
}

// P26.2: which batches are chained.
func TestChained(t *testing.T) {
	link := func(l ...api.Link) api.Entry { return api.Entry{Links: l} }
	for i, c := range []struct {
		b    api.Batch
		want bool
	}{
		{threaded(), true},
		{api.Batch{}, false},
		{at(10), false},
		{at(10, of("a")), true},
		{at(10, link(tail(5, 9, 3))), true}, // the first one may have any
		{at(10, link(tail(5, 10))), false},  // if it is valid
		{at(10, link(tail(5)), link(tail(5))), false},
		{at(10, link(tail(5)), link(tail(5, 9))), false},
		{at(10, link(tail(5)), link(tail(5, 10, 9))), false},
		{at(10, link(tail(5, 9)), link(tail(5, 10))), false},
		{at(10, link(tail(5, 9)), link(tail(5, 10, 9))), true},
		{at(10, link(tail(5, 9, 8, 7, 6)), link(tail(5, 10, 9, 8, 7))), true},
		{at(10, link(tail(5, 9, 8, 7, 6)), link(tail(5, 10, 9, 8, 6))), false},
		{at(10, link(tail(5, 9, 8, 7, 6)), link(tail(5, 10, 9, 8))), false},
		{at(10, link(tail(5)), of("a"), link(tail(5, 10))), true},
		{at(10, link(tail(5)), of("a"), link(tail(5, 11))), false},
		{at(10, link(tail(5)), link(tail(5, 10)), link(tail(5, 11, 10))), true},
		{at(10, link(tail(5)), link(tail(5, 10)), link(tail(5, 10))), false}, // the last one counts
		{at(10, link(tail(5)), link(tail(5)), link(tail(5, 11))), false},     // and each of them
		{at(10, link(tail(5)), link(tail(6)), link(tail(5, 10), tail(6, 11))), true},
		{at(10, link(tail(5)), link(tail(6)), link(tail(5, 11), tail(6, 10))), false},
		{at(10, link(tail(0)), link(tail(0, 10)), link(tail(1, 4))), true},
		{at(top, link(tail(5)), link(tail(5))), false},
		{at(top-9, link(tail(5)), link(tail(5, top-9))), false},
		{api.Batch{Base: 10, Entries: threaded().Entries}, false},
		{at(10, of("", 5, 5)), false},
	} {
		if peek.Chained(c.b) != c.want || chained(c.b) != c.want {
			t.Errorf("case %d: %v, %v", i, peek.Chained(c.b), chained(c.b))
		}
	}
	rnd := rand.New(rand.NewSource(29))
	yes, no := 0, 0
	for range 20000 {
		b := spoiled(rnd, 4)
		if got, _, code := peek.Thread(b, tailsOf(rnd, b.Base)); code == api.OK {
			b = got
			e := &b.Entries[rnd.Intn(len(b.Entries))]
			if len(e.Links) > 0 && rnd.Intn(2) == 0 {
				e.Links[rnd.Intn(len(e.Links))].Backs = falling(rnd, b.Base)
			}
		}
		if peek.Chained(b) != chained(b) {
			t.Fatal(text(b), !chained(b))
		}
		if chained(b) {
			yes++
		} else {
			no++
		}
	}
	if min(yes, no) < 2000 {
		t.Error(yes, no)
	}
}

// P26.3: cutting, of every part of a batch, and of none.
func TestCut(t *testing.T) {
	b := at(10, of("a", 5), of("b", 5, 7), of("c"), of("d", 7))
	for from := uint64(7); from < 17; from++ {
		for to := uint64(7); to < 17; to++ {
			c, ok := peek.Cut(b, from, to)
			if want := from >= 10 && from < to && to <= 14; ok != want {
				t.Error(from, to, ok)
			}
			if !ok {
				if !isZero(c) {
					t.Error(from, to, text(c))
				}
				continue
			}
			if want := at(from, b.Entries[from-10:to-10]...); text(c) != text(want) || !batch.Right(c) {
				t.Error(from, to, text(c))
			}
		}
	}
	high := at(maxPos-2, of("a"), of("b"))
	for i, c := range []struct {
		b        api.Batch
		from, to uint64
		want     string
	}{
		{b, 0, top, ""},
		{b, 10, top, ""},
		{b, top, 12, ""},
		{b, top, 0, ""},
		{b, 0, 0, ""},
		{high, maxPos - 2, maxPos, "3@4611686018427387902{|a}{|b}"},
		{high, maxPos - 1, maxPos, "3@4611686018427387903{|b}"},
		{high, maxPos, maxPos, ""},
		{high, maxPos - 1, maxPos + 1, ""},
		{at(0, of("a"), of("b")), 0, 1, "3@0{|a}"},
		{api.Batch{}, 0, 1, ""},
		{api.Batch{}, 0, 0, ""},
		{api.Batch{Base: 10, Entries: b.Entries}, 10, 11, ""}, // not valid
		{at(10, of("", 5), of("", 5, 5)), 10, 11, ""},
		{at(maxPos-1, of("a"), of("b")), maxPos - 1, maxPos, ""},
		{at(top, of("a"), of("b")), top, top, ""},
		{at(10, make([]api.Entry, 17)...), 10, 12, ""},
	} {
		got, ok := peek.Cut(c.b, c.from, c.to)
		if ok != (c.want != "") || ok && text(got) != c.want || !ok && !isZero(got) {
			t.Errorf("case %d: %s, %v", i, text(got), ok)
		}
	}
}

// P26.3: joining, and its errors in their order.
func TestJoin(t *testing.T) {
	later := func(b api.Batch) api.Batch { b.Epoch = 4; return b }
	zero := func(n int) api.Entry { return api.Entry{Data: make([]byte, n)} }
	wrong := at(10, of("", 5, 5))
	for i, c := range []struct {
		a, b api.Batch
		want string
		code api.Errno
	}{
		{at(10, of("a", 5)), at(11, of("b"), of("c")), "3@10{[5:]|a}{|b}{|c}", api.OK},
		{later(at(0, of("a"))), later(at(1, of("b"))), "4@0{|a}{|b}", api.OK},
		{at(maxPos-2, of("a")), at(maxPos-1, of("b")), "3@4611686018427387902{|a}{|b}", api.OK},
		// not valid, whatever else there is
		{api.Batch{}, api.Batch{}, "", api.ErrInvalid},
		{at(10), at(10, of("a")), "", api.ErrInvalid},
		{at(10, of("a")), at(11), "", api.ErrInvalid},
		{wrong, at(11, of("a")), "", api.ErrInvalid},
		{at(9, of("a")), wrong, "", api.ErrInvalid},
		{wrong, at(50, of("a")), "", api.ErrInvalid},
		{at(50, of("a")), later(wrong), "", api.ErrInvalid},
		{at(maxPos-1, of("a")), at(maxPos, of("b")), "", api.ErrInvalid},
		{at(10, zero(mostData+1)), at(11, of("b")), "", api.ErrInvalid},
		// elsewhere, or of another epoch
		{at(10, of("a")), at(12, of("b")), "", api.ErrOrder},
		{at(10, of("a")), at(10, of("b")), "", api.ErrOrder},
		{at(10, of("a")), at(9, of("b")), "", api.ErrOrder},
		{at(10, of("a"), of("b")), at(11, of("c")), "", api.ErrOrder},
		{at(10, of("a")), later(at(11, of("b"))), "", api.ErrOrder},
		{later(at(10, of("a"))), at(11, of("b")), "", api.ErrOrder},
		{at(10, make([]api.Entry, 16)...), at(27, of("b")), "", api.ErrOrder},
		{at(10, make([]api.Entry, 16)...), later(at(26, of("b"))), "", api.ErrOrder},
		// too much
		{at(10, make([]api.Entry, 16)...), at(26, of("b")), "", api.ErrLong},
		{at(10, of("a")), at(11, make([]api.Entry, 16)...), "", api.ErrLong},
		{at(10, make([]api.Entry, 9)...), at(19, make([]api.Entry, 8)...), "", api.ErrLong},
		{at(10, zero(mostData)), at(11, of("b")), "", api.ErrLong},
		{at(10, zero(1), zero(mostData-1)), at(12, of(""), of("b")), "", api.ErrLong},
		// just not
		{at(10, zero(0), zero(0)), at(12, of("")), "3@10{|}{|}{|}", api.OK},
		{at(10, make([]api.Entry, 9)...), at(19, make([]api.Entry, 7)...), "3@10" + strings.Repeat("{|}", 16), api.OK},
	} {
		got, code := peek.Join(c.a, c.b)
		if code != c.code || code == api.OK && text(got) != c.want || code != api.OK && !isZero(got) {
			t.Errorf("case %d: %.200s, %v", i, text(got), code)
		}
	}
	if got, code := peek.Join(at(10, zero(mostData)), at(11, of(""))); code != api.OK || entry.Total(got.Entries) != mostData || !batch.Right(got) {
		t.Error(code)
	}
}

// P26.4: a batch that is cut in two and joined again is the same, and what is cut out of a chained one is
// chained.
func TestCutAndJoin(t *testing.T) {
	rnd := rand.New(rand.NewSource(30))
	done, parts := 0, 0
	for range 3000 {
		b := random(rnd, 16)
		if rnd.Intn(2) == 0 {
			b, _, _ = peek.Thread(b, tailsOf(rnd, b.Base))
		}
		if !batch.Right(b) {
			continue
		}
		before, is := text(b), peek.Chained(b)
		end := batch.End(b)
		for mid := b.Base + 1; mid < end; mid++ {
			done++
			front, ok := peek.Cut(b, b.Base, mid)
			back, fine := peek.Cut(b, mid, end)
			if !ok || !fine || batch.End(front) != mid || back.Base != mid {
				t.Fatal(before, mid, text(front), text(back))
			}
			if whole, code := peek.Join(front, back); code != api.OK || text(whole) != before {
				t.Fatal(before, mid, text(whole), code)
			}
		}
		if whole, ok := peek.Cut(b, b.Base, end); !ok || text(whole) != before {
			t.Fatal(before, text(whole))
		}
		if !is {
			continue
		}
		for from := b.Base; from < end; from++ {
			for to := from + 1; to <= end; to++ {
				parts++
				if c, ok := peek.Cut(b, from, to); !ok || !peek.Chained(c) {
					t.Fatal(before, from, to, text(c), ok)
				}
			}
		}
	}
	if min(done, parts) < 5000 {
		t.Error(done, parts)
	}
}

// spoil changes all that a batch shares with others.
func spoil(b api.Batch) {
	for i := range b.Entries {
		e := &b.Entries[i]
		for k := range e.Links {
			e.Links[k].Stream += 50
			for j := range e.Links[k].Backs {
				e.Links[k].Backs[j] += 70
			}
			e.Links[k].Backs = append(e.Links[k].Backs, 7)
		}
		for k := range e.Data {
			e.Data[k]++
		}
		e.Links = append(e.Links, api.Link{Stream: 99})
		e.Data = append(e.Data, 90)
	}
}

// Rule 4: arguments are not changed, and results are new memory.
func TestMemory(t *testing.T) {
	fresh := func() api.Batch {
		b := threaded()
		b.Entries[0].Data = []byte("ab")
		b.Entries[1].Data = []byte("cd")
		return b
	}
	b, c := fresh(), at(12, of("e", 5, 7))
	tails := []api.Link{tail(4, 8, 7), tail(5, 9, 3), tail(6, 1)}
	want, other, given := text(b), text(c), linked(tails)
	calls := []func() api.Batch{
		func() api.Batch { e, _ := peek.At(b, 11); return at(0, e) },
		func() api.Batch { x, _ := peek.Cut(b, 10, 12); return x },
		func() api.Batch { x, _ := peek.Cut(b, 11, 12); return x },
		func() api.Batch { x, _ := peek.Join(b, c); return x },
		func() api.Batch { x, _, _ := peek.Thread(b, tails); return x },
		func() api.Batch { _, l, _ := peek.Thread(b, tails); return at(0, api.Entry{Links: l}) },
	}
	for i, call := range calls {
		made, again := call(), call()
		result := text(again)
		spoil(made)
		if text(again) != result || text(b) != want || text(c) != other || linked(tails) != given {
			t.Error(i, text(again), text(b), text(c), linked(tails))
		}
	}
	for i, call := range calls { // what is changed afterwards does not come to count
		made := call()
		result := text(made)
		spoil(b)
		spoil(c)
		spoil(at(0, api.Entry{Links: tails}))
		if text(made) != result {
			t.Error(i, text(made), "not", result)
		}
		b, c, tails = fresh(), at(12, of("e", 5, 7)), []api.Link{tail(4, 8, 7), tail(5, 9, 3), tail(6, 1)}
	}
	x, ends, _ := peek.Thread(b, tails) // the two results share nothing with each other
	result := linked(ends)
	spoil(x)
	if linked(ends) != result || result != "[4: 8 7][5: 11 10 9 3][6: 1]" {
		t.Error(linked(ends))
	}
	peek.Chained(b)
	peek.Of(b, 5)[0] = 77
	peek.Streams(b)[0] = 77
	if text(b) != want || !slices.Equal(peek.Of(b, 5), []uint64{10, 11}) || !slices.Equal(peek.Streams(b), []uint64{5}) {
		t.Error(text(b))
	}
}

// Rule 9: batches far beyond the limits are searched whole, and not threaded, cut or joined.
func TestVeryManyEntries(t *testing.T) {
	n := 1 << 16
	b := at(10, make([]api.Entry, n)...)
	for i := range n {
		b.Entries[i] = of("", uint64(i%3), 5)
	}
	if l := peek.Of(b, 5); len(l) != n || l[n-1] != uint64(9+n) {
		t.Error(len(l))
	}
	if l := peek.Of(b, 1); len(l) != n/3 {
		t.Error(len(l))
	}
	if l := peek.Streams(b); !slices.Equal(l, []uint64{0, 1, 2, 5}) {
		t.Error(l)
	}
	if e, ok := peek.At(b, uint64(9+n)); !ok || len(e.Links) != 2 {
		t.Error(e, ok)
	}
	if x, l, code := peek.Thread(b, nil); code != api.ErrInvalid || !isZero(x) || l != nil || peek.Chained(b) {
		t.Error(code)
	}
	if x, ok := peek.Cut(b, 10, 11); ok || !isZero(x) {
		t.Error(text(x))
	}
	if x, code := peek.Join(b, at(uint64(10+n), of("a"))); code != api.ErrInvalid || !isZero(x) {
		t.Error(code)
	}
}

// function is a function of the package.
func function(t *testing.T, name string) *ast.FuncDecl {
	t.Helper()
	files, err := filepath.Glob("*.go")
	if err != nil {
		t.Fatal(err)
	}
	for _, file := range files {
		parsed, err := parser.ParseFile(token.NewFileSet(), file, nil, 0)
		if err != nil {
			t.Fatal(err)
		}
		for _, d := range parsed.Decls {
			if f, ok := d.(*ast.FuncDecl); ok && f.Name.Name == name && !strings.HasSuffix(file, "_test.go") {
				return f
			}
		}
	}
	t.Fatal("no function", name)
	return nil
}

// Ways of layer 26: the streams are visited by closures that store into a variable of the function
// around them, the tails.
func TestStreamsAreVisitedByClosuresOverTheTails(t *testing.T) {
	for _, name := range []string{"Thread", "Chained"} {
		stores := false
		ast.Inspect(function(t, name), func(n ast.Node) bool {
			literal, ok := n.(*ast.FuncLit)
			if !ok {
				return true
			}
			ast.Inspect(literal.Body, func(n ast.Node) bool {
				assigned, ok := n.(*ast.AssignStmt)
				if !ok || assigned.Tok != token.ASSIGN {
					return true
				}
				if cell, ok := assigned.Lhs[0].(*ast.IndexExpr); ok {
					kept, ok := cell.X.(*ast.Ident)
					stores = stores || ok && kept.Obj != nil && kept.Obj.Pos() < literal.Pos()
				}
				return true
			})
			return true
		})
		if !stores {
			t.Error(name, "has no closure over the tails")
		}
	}
}
