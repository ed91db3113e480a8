package frame

import (
	"tholepin/blob"
	"tholepin/crc"
	"tholepin/cursor"
	"tholepin/fault"
)

// search looks for frames in bytes. Each position may begin with a length that
// reaches far, so that the checksums of all those payloads, each by itself, would
// take about as many steps as there are pairs of bytes. The sums from the first
// byte on are kept instead, from which that of any part follows in a few steps.
type search struct {
	b     []byte
	limit limit
	sums  []uint32 // of the bytes ahead of each position, as far as they were asked for
}

// ahead is the checksum of the bytes ahead of a position.
func (s *search) ahead(at int) uint32 {
	for k := len(s.sums); k <= at; k++ {
		sum := crc.Sum(nil)
		if k > 0 {
			sum = crc.End(crc.Add(crc.End(s.sums[k-1]), s.b[k-1]))
		}
		s.sums = append(s.sums, sum)
	}
	return s.sums[at]
}

// between is the checksum of the bytes between two positions: joining it to that
// of the bytes ahead gives that of all of them, and joining that gives it back.
func (s *search) between(from, to int) uint32 {
	return crc.Join(s.ahead(from), s.ahead(to), to-from)
}

// frame is how many bytes the frame at a position has, if one begins there: what
// Get tells of the bytes from there on.
func (s *search) frame(at int) (int, bool) {
	n, size, f := front(s.b[at:], s.limit.length)
	from := at + size
	to := from + n
	if !fault.Good(f) || to+sumSize > len(s.b) {
		return 0, false
	}
	if blob.ReadFixed(cursor.New(s.b[to:]), sumSize) != uint64(s.between(from, to)) {
		return 0, false
	}
	return Size(n), true
}

// next is the first position from one on at which a frame begins, and how many
// bytes that has.
func (s *search) next(from int) (int, int, bool) {
	for at := from; at < len(s.b); at++ {
		if n, ok := s.frame(at); ok {
			return at, n, true
		}
	}
	return 0, 0, false
}

// Next is the first position from one on at which a frame begins.
func Next(b []byte, from, most int) (int, bool) {
	from = min(max(from, 0), len(b))
	s := search{b: b[from:], limit: limited(most)} // what lies ahead need not be summed
	at, _, ok := s.next(0)
	if !ok {
		return 0, false
	}
	return from + at, true
}

// Scan is the positions of frames, each the next one from the end of the one before.
func Scan(b []byte, most int) []int {
	s := search{b: b, limit: limited(most)}
	var l []int
	for at, n, ok := s.next(0); ok; at, n, ok = s.next(at + n) {
		l = append(l, at)
	}
	return l
}
