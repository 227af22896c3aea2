package credit_test

import (
	"slices"
	"testing"

	"braid/api"
	"braid/credit"
)

const (
	greatest = ^uint64(0)
	sideErr  = api.ErrCreditSide
	idErr    = api.ErrCreditId
	manyErr  = api.ErrCreditMany
	overErr  = api.ErrCreditOver
	numErr   = api.ErrCreditNumber
	noneErr  = api.ErrCreditNothing
)

// check is a book whose answers are held against what is awaited. A call that answers an error must leave the book as it was.
type check struct {
	t *testing.T
	b *credit.Book
}

func rooms(all, each uint64, streams int) api.Rooms {
	return api.Rooms{All: all, Each: each, Streams: streams}
}

func book(t *testing.T, side int, own, peer api.Rooms) check {
	t.Helper()
	b, e := credit.New(side, own, peer)
	if e != api.OK || b == nil {
		t.Fatalf("New(%d, %v, %v): %d", side, own, peer, e)
	}
	return check{t, b}
}

// getting is a book of side 0 that grants so much, with the peer's streams 2, 4 .. open.
func getting(t *testing.T, all, each uint64, open int) check {
	t.Helper()
	c := book(t, 0, rooms(all, each, open), rooms(1, 1, 1))
	for i := range uint64(open) {
		c.open(2+2*i, api.OK)
	}
	return c
}

func note(id, limit uint64) api.RoomNote { return api.RoomNote{Stream: id, Limit: limit} }

// answer holds one call against its error and its notes.
func (c check) answer(what string, id, n uint64, call func() ([]api.RoomNote, api.Errno), want api.Errno, notes ...api.RoomNote) {
	c.t.Helper()
	before := c.b.View()
	next, may := c.b.Next()
	got, e := call()
	if e != want || !slices.Equal(got, notes) {
		c.t.Errorf("%s(%d, %d): %v, %d, want %v, %d", what, id, n, got, e, notes, want)
	}
	if e == api.OK {
		return
	}
	if after := c.b.View(); !slices.Equal(before, after) {
		c.t.Errorf("%s(%d, %d) is an error, and yet %v became %v", what, id, n, before, after)
	}
	if again, ok := c.b.Next(); again != next || ok != may {
		c.t.Errorf("%s(%d, %d) is an error, and yet Next %d became %d", what, id, n, next, again)
	}
}

func alone(e api.Errno) ([]api.RoomNote, api.Errno) { return nil, e }

func (c check) open(id uint64, want api.Errno) {
	c.t.Helper()
	c.answer("Open", id, 0, func() ([]api.RoomNote, api.Errno) { return alone(c.b.Open(id)) }, want)
}

func (c check) close(id uint64, want api.Errno) {
	c.t.Helper()
	c.answer("Close", id, 0, func() ([]api.RoomNote, api.Errno) { return alone(c.b.Close(id)) }, want)
}

func (c check) spend(id, n uint64, want api.Errno) {
	c.t.Helper()
	c.answer("Spend", id, n, func() ([]api.RoomNote, api.Errno) { return alone(c.b.Spend(id, n)) }, want)
}

func (c check) raise(id, limit uint64, rises bool, want api.Errno) {
	c.t.Helper()
	c.answer("Raise", id, limit, func() ([]api.RoomNote, api.Errno) {
		rose, e := c.b.Raise(id, limit)
		if rose != rises {
			c.t.Errorf("Raise(%d, %d): %v", id, limit, rose)
		}
		return alone(e)
	}, want)
}

func (c check) take(id, n uint64, want api.Errno, notes ...api.RoomNote) {
	c.t.Helper()
	c.answer("Take", id, n, func() ([]api.RoomNote, api.Errno) { return c.b.Take(id, n) }, want, notes...)
}

func (c check) use(id, n uint64, want api.Errno, notes ...api.RoomNote) {
	c.t.Helper()
	c.answer("Use", id, n, func() ([]api.RoomNote, api.Errno) { return c.b.Use(id, n) }, want, notes...)
}

func (c check) waste(id uint64, want api.Errno, notes ...api.RoomNote) {
	c.t.Helper()
	c.answer("Waste", id, 0, func() ([]api.RoomNote, api.Errno) { return c.b.Waste(id) }, want, notes...)
}

// next awaits this number of Next; 0: none.
func (c check) next(want uint64) {
	c.t.Helper()
	if id, ok := c.b.Next(); id != want || ok != (want != 0) {
		c.t.Errorf("Next: %d, %v, want %d", id, ok, want)
	}
}

func (c check) left(id, want uint64) {
	c.t.Helper()
	if n := c.b.Left(id); n != want {
		c.t.Errorf("Left(%d): %d, want %d", id, n, want)
	}
}

func (c check) room(id, want uint64) {
	c.t.Helper()
	if n := c.b.Room(id); n != want {
		c.t.Errorf("Room(%d): %d, want %d", id, n, want)
	}
}

func (c check) view(want ...api.RoomView) {
	c.t.Helper()
	if v := c.b.View(); !slices.Equal(v, want) {
		c.t.Errorf("View: %v, want %v", v, want)
	}
}

// of awaits the numbers Came, Used, Told of one stream, or of all together.
func (c check) of(id, came, used, told uint64) {
	c.t.Helper()
	for _, v := range c.b.View() {
		if v.Stream == id {
			if v.Came != came || v.Used != used || v.Told != told {
				c.t.Errorf("View of %d: %+v, want Came %d, Used %d, Told %d", id, v, came, used, told)
			}
			return
		}
	}
	c.t.Errorf("View has no %d", id)
}

// gone awaits that a stream is not told any more.
func (c check) gone(id uint64) {
	c.t.Helper()
	for _, v := range c.b.View() {
		if v.Stream == id {
			c.t.Errorf("View has %+v still", v)
		}
	}
}
