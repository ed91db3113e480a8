package press

import (
	"tholepin/api"
	"tholepin/seek"
	"tholepin/varint"
)

const (
	mostLeast = 1024          // how many bytes a text may have for which the least tokens are searched
	near      = 1 << 7        // the greatest offset that is written in one byte; two are enough for all others
	noSize    = 2 * mostLeast // more than any such text is written in
)

// runSize is how many bytes a run of n bytes is written in.
func runSize(n int) int { return varint.Size(2*uint64(n-1)) + n }

// copySize is how many bytes a copy is written in.
func copySize(off, n int) int {
	return varint.Size(2*uint64(n-api.MinMatch)+1) + varint.Size(uint64(off-1))
}

// step is the first token of the end of a text (a run, if it has no offset), and in how
// many bytes that end is written.
type step struct{ size, off, n int }

// less is the one of two steps with the smaller size.
func less(a, b step) step {
	if b.size < a.size {
		return b
	}
	return a
}

// search is the best first steps of all ends of a text. Those that are copies are kept
// apart for runs, because no run follows a run: two are never written in fewer bytes than
// one.
type search struct {
	b      []byte
	steps  []step
	copies []step
}

// searched is a text's best steps. They are found from the end on, as each one counts on
// those behind it.
func searched(b []byte) *search {
	s := search{b, make([]step, len(b)+1), make([]step, len(b)+1)}
	for at := len(b) - 1; at >= 0; at-- {
		s.copies[at] = s.bestCopy(at)
		s.steps[at] = less(s.copies[at], s.bestRun(at))
	}
	return &s
}

// bestCopy is the best step at a position that is a copy. Of the offsets that are written
// in equally many bytes, the one with the longest match does for all of them.
func (s *search) bestCopy(at int) step {
	best := step{size: noSize}
	least := api.MinMatch
	for _, window := range [...]int{near, mostLeast} {
		from := max(at-window, 0)
		off, most := seek.Best(s.b[from:], at-from)
		for n := least; n <= most; n++ {
			best = less(best, step{copySize(off, n) + s.steps[at+n].size, off, n})
		}
		least = max(least, most+1)
	}
	return best
}

// bestRun is the best step at a position that is a run.
func (s *search) bestRun(at int) step {
	best := step{size: noSize}
	for n := 1; at+n <= len(s.b); n++ {
		best = less(best, step{runSize(n) + s.copies[at+n].size, 0, n})
	}
	return best
}

// tokens is the tokens of the best steps. Behind a run the best one is a copy: a run would
// have been no worse as a part of the run ahead, and of equally good steps a copy is taken.
func (s *search) tokens() []api.Token {
	var l []api.Token
	for at := 0; at < len(s.b); {
		t := s.steps[at]
		if t.off > 0 {
			l = append(l, api.Token{Off: t.off, Len: t.n})
		} else {
			l = run(l, s.b[at:at+t.n])
		}
		at += t.n
	}
	return l
}

// LeastSize is in how few bytes a text can be written.
func LeastSize(b []byte) int {
	if len(b) > mostLeast {
		return 0
	}
	return searched(b).steps[0].size
}

// Least is a text's tokens that are written in the fewest bytes.
func Least(b []byte) ([]api.Token, api.Errno) {
	if len(b) > mostLeast {
		return nil, api.ErrLong
	}
	return searched(b).tokens(), api.OK
}

// Gain is how many bytes fewer the least tokens of a text have than its own.
func Gain(b []byte) int {
	if len(b) > mostLeast {
		return 0
	}
	t, _ := Bytes(b)
	return len(t) - LeastSize(b)
}
