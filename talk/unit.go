package talk

import (
	"bytes"
	"math"

	"tholepin/api"
	"tholepin/body"
	"tholepin/epoch"
	"tholepin/kind"
	"tholepin/link"
	"tholepin/proj"
	"tholepin/rpc"
)

// cell is the state of a position that isn't Empty, and its data while it is Written.
type cell struct {
	state int
	data  []byte
}

// Unit is one node of a log.
type Unit struct {
	node, epoch uint64
	sealed      bool
	cells       map[uint64]cell
	tail        uint64              // behind the greatest position in cells, which none ever leaves
	proj        api.Projection      // of Epoch 0 while there is none
	next        uint64              // the next position to be taken, or MaxPos if all are
	tails       map[uint64]api.Link // by their Streams
}

// NewUnit is a unit at which nothing was written.
func NewUnit(node, e uint64) (*Unit, api.Errno) {
	if node > math.MaxUint32 || !epoch.Right(e) {
		return nil, api.ErrArg
	}
	return &Unit{node: node, epoch: e, cells: map[uint64]cell{}, tails: map[uint64]api.Link{}}, api.OK
}

// State is the state of a position.
func (u *Unit) State(pos uint64) int {
	if u == nil {
		return 0
	}
	if c, ok := u.cells[pos]; ok {
		return c.state
	}
	return api.Empty
}

// Tail is behind the greatest position that isn't Empty.
func (u *Unit) Tail() uint64 {
	if u == nil {
		return 0
	}
	return u.tail
}

// Epoch is the unit's epoch, and whether it is sealed in it.
func (u *Unit) Epoch() (uint64, bool) {
	if u == nil {
		return 0, false
	}
	return u.epoch, u.sealed
}

// Answer executes a request and gives the response.
func (u *Unit) Answer(q api.Msg) (api.Msg, api.Errno) {
	switch {
	case u == nil || u.cells == nil: // without cells it is none that NewUnit made
		return api.Msg{}, api.ErrNil
	case !rpc.Right(q):
		return api.Msg{}, api.ErrInvalid
	case !kind.Request(q.Kind):
		return api.Msg{}, api.ErrKind
	}
	a, code := u.execute(q)
	if code != api.OK {
		return Fail(q, q.Epoch, code)
	}
	a.Epoch, a.Seq = q.Epoch, q.Seq
	return body.Copy(a), api.OK // what is in it is the unit's own
}

// execute changes the unit as a request says, and gives the fields that its response has
// by its kind; or it changes nothing and gives the code with which the request fails.
func (u *Unit) execute(q api.Msg) (api.Msg, api.Errno) {
	switch q.Kind {
	case api.SealReq:
		return u.seal(q.Epoch)
	case api.PutProj:
		return u.putProj(q)
	case api.GetProj:
		return u.getProj()
	}
	if code := epoch.Admit(u.epoch, u.sealed, q.Epoch); code != api.OK {
		return api.Msg{}, code
	}
	state := u.State(q.Pos)
	switch q.Kind {
	case api.Read:
		return api.Msg{Kind: api.Value, State: state, Data: u.cells[q.Pos].data}, api.OK
	case api.Write:
		return u.set(q.Pos, cell{api.Written, q.Data}, state == api.Empty)
	case api.Fill:
		return u.set(q.Pos, cell{state: api.Filled}, state == api.Empty || state == api.Filled)
	case api.Trim:
		return u.set(q.Pos, cell{state: api.Trimmed}, true)
	}
	return u.take(uint64(q.Count), q.Streams)
}

// seal seals the unit in an epoch.
func (u *Unit) seal(e uint64) (api.Msg, api.Errno) {
	if u.epoch > e {
		return api.Msg{}, api.ErrState
	}
	u.epoch, u.sealed = e, true
	return api.Msg{Kind: api.Sealed, Seal: api.Seal{Epoch: e, Node: u.node, Tail: u.tail}}, api.OK
}

// putProj opens the epoch of a projection.
func (u *Unit) putProj(q api.Msg) (api.Msg, api.Errno) {
	switch {
	case q.Proj.Epoch != q.Epoch:
		return api.Msg{}, api.ErrInvalid
	case u.epoch > q.Epoch || u.epoch == q.Epoch && !u.sealed:
		return api.Msg{}, api.ErrState
	}
	u.epoch, u.sealed = q.Epoch, false
	u.proj = proj.Copy(q.Proj)
	return api.Msg{Kind: api.Done}, api.OK
}

// getProj gives the projection.
func (u *Unit) getProj() (api.Msg, api.Errno) {
	if u.proj.Epoch == 0 {
		return api.Msg{}, api.ErrNone
	}
	return api.Msg{Kind: api.IsProj, Proj: u.proj}, api.OK
}

// set makes a position what it is to be, if its state allows that.
func (u *Unit) set(pos uint64, c cell, allowed bool) (api.Msg, api.Errno) {
	if !allowed {
		return api.Msg{}, api.ErrState
	}
	c.data = bytes.Clone(c.data)
	u.cells[pos] = c
	u.tail = max(u.tail, pos+1)
	return api.Msg{Kind: api.Done}, api.OK
}

// take takes the next positions for some streams.
func (u *Unit) take(count uint64, streams []uint64) (api.Msg, api.Errno) {
	if count > api.MaxPos-u.next {
		return api.Msg{}, api.ErrLong
	}
	a := api.Msg{Kind: api.Taken, Pos: u.next}
	for _, stream := range streams {
		x := api.Link{Stream: stream, Backs: u.tails[stream].Backs}
		a.Links = append(a.Links, x)
		u.tails[stream] = extended(x, u.next, count)
	}
	u.next += count
	return a, api.OK
}

// extended is a link extended at so many positions from one on. A link has no room for
// more than the last of them, so the others are passed over.
func extended(x api.Link, from, count uint64) api.Link {
	end := from + count
	for pos := end - min(count, api.MaxBacks); pos < end; pos++ {
		x = link.Extend(x, pos)
	}
	return x
}
