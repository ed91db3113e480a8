package talk

import (
	"fmt"
	"testing"

	"tholepin/api"
)

// P30.6: the last positions are taken, but none behind them. A unit gets there by so many requests only
// that the test sets its next position itself.
func TestTakesLastPositions(t *testing.T) {
	take := func(n int) api.Msg {
		return api.Msg{Kind: api.Take, Epoch: 2, Seq: 5, Count: n, Streams: []uint64{5}}
	}
	for left := range uint64(5) {
		for n := 1; n <= 6; n++ {
			u, _ := NewUnit(1, 2)
			u.next = api.MaxPos - left
			u.tails[5] = api.Link{Stream: 5, Backs: []uint64{9, 8}}
			before := fmt.Sprint(*u)
			a, code := u.Answer(take(n))
			want := api.Msg{Kind: api.Failed, Epoch: 2, Seq: 5, State: int(api.ErrLong)}
			if uint64(n) <= left {
				want = api.Msg{Kind: api.Taken, Epoch: 2, Seq: 5, Pos: api.MaxPos - left, Links: []api.Link{{Stream: 5, Backs: []uint64{9, 8}}}}
			}
			if fmt.Sprint(a) != fmt.Sprint(want) || code != api.OK || Fits(take(n), a) != api.OK {
				t.Error(left, n, a, code)
			}
			if uint64(n) > left {
				if after := fmt.Sprint(*u); after != before {
					t.Error(left, n, after)
				}
				continue
			}
			if u.next != api.MaxPos-left+uint64(n) || u.tails[5].Backs[0] != u.next-1 {
				t.Error(left, n, u.next, u.tails)
			}
		}
	}
	u, _ := NewUnit(1, 2)
	u.next = api.MaxPos - 1<<16
	if a, code := u.Answer(take(1 << 16)); a.Kind != api.Taken || code != api.OK {
		t.Error(a, code)
	}
	if a, code := u.Answer(take(1)); a.State != int(api.ErrLong) || code != api.OK {
		t.Error(a, code)
	}
}
