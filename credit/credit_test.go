package credit_test

import (
	"math"
	"testing"

	"braid/api"
	"braid/credit"
)

// The chapter's examples 1 to 5.
func TestExamples(t *testing.T) {
	a := book(t, 0, rooms(10, 6, 2), rooms(20, 8, 1))
	a.next(1)
	a.open(3, idErr)
	a.open(1, api.OK)
	a.next(0)
	a.open(3, manyErr)
	a.open(4, idErr)
	a.open(2, api.OK)
	a.open(4, api.OK)
	a.open(6, manyErr)

	a.room(1, 8)
	a.spend(1, 9, overErr)
	a.spend(1, 8, api.OK)
	a.room(1, 0)
	a.raise(1, 30, true, api.OK)
	a.room(1, 12)
	a.raise(1, 29, false, api.OK)
	a.raise(0, 1<<62+1, false, numErr)
	a.raise(9, 1<<63, false, idErr)

	a.take(2, 7, overErr)
	a.take(2, 6, api.OK)
	a.take(4, 5, overErr)
	a.take(4, 4, api.OK)
	a.use(2, 7, noneErr)
	a.use(2, 2, api.OK)
	a.use(2, 1, api.OK, note(2, 9))
	a.use(4, 2, api.OK, note(0, 15))

	a.waste(2, api.OK)
	a.take(2, 3, api.OK, note(0, 21))
	a.close(2, api.OK)
	a.open(2, idErr)
	a.use(2, 0, idErr)
	a.open(6, api.OK)

	a.close(4, api.OK)
	a.view(
		api.RoomView{Stream: 0, Sent: 8, May: 20, Came: 13, Used: 11, Told: 21},
		api.RoomView{Stream: 1, Sent: 8, May: 30, Told: 6},
		api.RoomView{Stream: 4, May: 8, Came: 4, Used: 2, Told: 6},
		api.RoomView{Stream: 6, May: 8, Told: 6})
	a.spend(4, 1, idErr)
	a.use(4, 3, noneErr)
	a.use(4, 2, api.OK)
	a.gone(4)
	a.use(4, 0, idErr)
}

// P18.1; example 6: each number at both ends of its bounds, and just beyond them.
func TestNewRooms(t *testing.T) {
	fair := rooms(5, 5, 5)
	for _, x := range []struct {
		r    api.Rooms
		want api.Errno
	}{
		{rooms(1, 1, 1), api.OK},
		{rooms(1<<40, 1<<40, 1024), api.OK},
		{rooms(1, 1<<40, 1024), api.OK},
		{rooms(1<<40, 1, 1), api.OK},
		{rooms(0, 1, 1), sideErr},
		{rooms(1, 0, 1), sideErr},
		{rooms(1, 1, 0), sideErr},
		{rooms(1<<40+1, 5, 5), sideErr},
		{rooms(5, 1<<40+1, 5), sideErr},
		{rooms(5, 5, 1025), sideErr},
		{rooms(5, 5, -1), sideErr},
		{rooms(5, 5, math.MinInt), sideErr},
		{rooms(5, 5, math.MaxInt), sideErr},
		{rooms(greatest, 5, 5), sideErr},
		{rooms(5, greatest, 5), sideErr},
		{api.Rooms{}, sideErr},
	} {
		for _, pair := range [][2]api.Rooms{{x.r, fair}, {fair, x.r}, {x.r, x.r}} {
			for side := range 2 {
				b, e := credit.New(side, pair[0], pair[1])
				if e != x.want || (b != nil) != (x.want == api.OK) {
					t.Errorf("New(%d, %v, %v): %v, %d, want %d", side, pair[0], pair[1], b != nil, e, x.want)
				}
			}
		}
	}
}

// P18.1: the side is the lowest bit of whatever number; own is what this side grants, peer what the other one does; no stream is open.
func TestNewSide(t *testing.T) {
	for _, side := range []int{0, 1, 2, 3, -1, -2, 1 << 40, 1<<40 + 1, math.MaxInt, math.MinInt, math.MinInt + 1} {
		c := book(t, side, rooms(10, 6, 2), rooms(20, 8, 3))
		own, peers := uint64(1+side&1), uint64(2-side&1)
		c.view(api.RoomView{May: 20, Told: 10})
		c.next(own)
		c.open(own, api.OK)
		c.open(peers, api.OK)
		c.next(own + 2)
		c.view(
			api.RoomView{May: 20, Told: 10},
			api.RoomView{Stream: 1, May: 8, Told: 6},
			api.RoomView{Stream: 2, May: 8, Told: 6})
		c.open(peers+2, api.OK)
		c.open(peers+4, manyErr) // of the peer's as many as own.Streams
		c.open(own+2, api.OK)
		c.open(own+4, api.OK)
		c.open(own+6, manyErr) // of the own as many as peer.Streams
		c.next(0)
	}
}

// P18.2: only the next number of a side's streams, once.
func TestOpenOrder(t *testing.T) {
	for side := range 2 {
		c := book(t, side, rooms(10, 6, 4), rooms(10, 6, 4))
		wrong := func(ids ...uint64) {
			t.Helper()
			for _, id := range append(ids, 0, greatest, greatest-1, 1<<63, 1<<63+1, 1<<62) {
				c.open(id, idErr)
			}
		}
		wrong(3, 4, 5, 6)
		c.open(2, api.OK)
		wrong(2, 3, 6, 5)
		c.open(1, api.OK)
		wrong(1, 2, 5, 6)
		c.open(3, api.OK)
		wrong(1, 2, 3, 7, 6)
		c.open(4, api.OK)
		c.open(6, api.OK)
		wrong(1, 2, 3, 4, 6, 7, 10)
		c.close(1, api.OK)
		c.close(6, api.OK)
		wrong(1, 6)
		c.open(5, api.OK)
		c.open(8, api.OK)
	}
}

// P18.2: as many as the other side's Streams are open, and again behind a Close; one that is left is not open.
func TestOpenMany(t *testing.T) {
	for _, most := range []int{1, 2, 3, 1024} {
		c := book(t, 1, rooms(10, 10, most), rooms(10, 10, 1))
		id := uint64(1)
		for range most {
			c.open(id, api.OK)
			id += 2
		}
		c.open(id, manyErr)
		c.open(id, manyErr)
		c.open(id+2, idErr)
		c.open(2, api.OK) // the own ones are counted apart
		c.open(4, manyErr)
		c.close(2, api.OK)
		c.open(id, manyErr)
		c.open(4, api.OK)
		c.take(1, 3, api.OK)
		c.close(1, api.OK)
		c.open(id, api.OK)
		c.open(id+2, manyErr)
		c.use(1, 3, api.OK) // that it is gone is no Close
		c.open(id+2, manyErr)
		c.close(id, api.OK)
		c.open(id+2, api.OK)
		c.open(id+4, manyErr)
	}
}

// P18.2: Next is what Open takes, and none where Open of it would be an error.
func TestNext(t *testing.T) {
	for side := range 2 {
		first := uint64(1 + side)
		c := book(t, side, rooms(10, 10, 1), rooms(10, 10, 2))
		c.next(first)
		c.next(first) // to ask is not to open
		c.open(3-first, api.OK)
		c.next(first) // the peer's are counted apart
		c.open(first, api.OK)
		c.next(first + 2)
		c.open(first+2, api.OK)
		c.next(0)
		c.open(first+4, manyErr)
		c.close(3-first, api.OK)
		c.next(0)
		c.take(first, 1, api.OK)
		c.close(first, api.OK)
		c.next(first + 4)
		c.open(first+4, api.OK)
		c.next(0)
		c.use(first, 1, api.OK)
		c.next(0)
		c.close(first+4, api.OK)
		c.close(first+2, api.OK)
		c.next(first + 6)
	}
}

// P18.3: of streams that are open, left, gone and never were; of all together.
func TestLeftAndRoom(t *testing.T) {
	c := book(t, 0, rooms(10, 6, 2), rooms(20, 8, 4))
	c.left(0, 20)
	c.room(0, 0)
	for _, id := range []uint64{1, 2, 3, greatest} {
		c.left(id, 0)
		c.room(id, 0)
	}
	c.open(1, api.OK)
	c.open(2, api.OK)
	c.left(1, 8)
	c.left(2, 8)
	c.room(2, 8)
	c.spend(1, 3, api.OK)
	c.left(1, 5)
	c.room(1, 5)
	c.left(2, 8)
	c.left(0, 17)
	c.room(0, 0)
	c.raise(2, 100, true, api.OK)
	c.left(2, 100)
	c.room(2, 17)
	c.take(2, 1, api.OK)
	c.close(2, api.OK) // left
	c.left(2, 0)
	c.room(2, 0)
	c.left(0, 17)
	c.use(2, 1, api.OK) // gone
	c.left(2, 0)
	c.room(2, 0)
	c.close(1, api.OK) // gone at once; what it spent stays spent
	c.left(1, 0)
	c.room(1, 0)
	c.left(0, 17)
}

// P18.3: Spend of 0, of just the room and of one more, where the stream's room is the less and where that of all together is.
func TestSpend(t *testing.T) {
	c := book(t, 0, rooms(9, 9, 2), rooms(20, 8, 4))
	c.spend(1, 0, idErr)
	c.spend(0, 0, idErr)
	c.spend(0, 1, idErr)
	c.open(1, api.OK)
	c.open(3, api.OK)
	c.open(5, api.OK)
	c.spend(1, 0, api.OK)
	c.spend(1, 9, overErr)
	c.spend(1, greatest, overErr)
	c.spend(1, 8, api.OK)
	c.spend(1, 0, api.OK)
	c.spend(1, 1, overErr)
	c.spend(1, greatest, overErr)   // a sum would wrap round to 7
	c.spend(1, greatest-7, overErr) // and here to 0
	c.spend(3, 8, api.OK)
	c.room(5, 4)
	c.left(5, 8)
	c.spend(5, 5, overErr)
	c.spend(5, 4, api.OK)
	c.spend(5, 1, overErr)
	c.spend(5, 0, api.OK)
	c.view(
		api.RoomView{Sent: 20, May: 20, Told: 9},
		api.RoomView{Stream: 1, Sent: 8, May: 8, Told: 9},
		api.RoomView{Stream: 3, Sent: 8, May: 8, Told: 9},
		api.RoomView{Stream: 5, Sent: 4, May: 8, Told: 9})
	c.open(2, api.OK)
	c.spend(2, 1, overErr)
	c.take(2, 1, api.OK)
	c.close(2, api.OK)
	c.spend(2, 0, idErr)        // left
	c.spend(2, greatest, idErr) // the first of the table
	c.use(2, 1, api.OK)
	c.spend(2, 0, idErr) // gone
	c.spend(7, 1, idErr) // never opened
	c.spend(greatest, greatest, idErr)
}

// P18.4: below, at and above May; at and above MaxLimit; of all together and of streams.
func TestRaise(t *testing.T) {
	c := book(t, 1, rooms(9, 9, 2), rooms(20, 8, 4))
	c.open(1, api.OK)
	c.open(2, api.OK)
	for _, x := range []struct{ id, may uint64 }{{0, 20}, {1, 8}, {2, 8}} {
		c.raise(x.id, 0, false, api.OK)
		c.raise(x.id, x.may-1, false, api.OK)
		c.raise(x.id, x.may, false, api.OK)
		c.left(x.id, x.may)
		c.raise(x.id, x.may+1, true, api.OK)
		c.left(x.id, x.may+1)
		c.raise(x.id, x.may+1, false, api.OK)
		c.raise(x.id, x.may, false, api.OK)
		c.left(x.id, x.may+1)
		c.raise(x.id, api.MaxLimit+1, false, numErr)
		c.raise(x.id, greatest, false, numErr)
		c.raise(x.id, api.MaxLimit-1, true, api.OK)
		c.raise(x.id, api.MaxLimit, true, api.OK)
		c.left(x.id, api.MaxLimit)
		c.raise(x.id, api.MaxLimit, false, api.OK)
	}
	c.spend(1, api.MaxLimit-1, api.OK)
	c.room(2, 1)
	c.spend(2, 2, overErr)
	c.spend(1, 1, api.OK)
	c.spend(1, 1, overErr)
	c.room(2, 0)
	c.take(1, 1, api.OK)
	c.close(1, api.OK)
	c.raise(1, 5, false, idErr) // left
	c.raise(1, greatest, false, idErr)
	c.use(1, 1, api.OK)
	c.raise(1, 5, false, idErr) // gone
	c.raise(3, 5, false, idErr) // never opened
	c.raise(3, api.MaxLimit+1, false, idErr)
}

// The sentence on a Book that New did not give; example 6.
func TestNobody(t *testing.T) {
	for _, b := range []*credit.Book{nil, {}, new(credit.Book)} {
		c := check{t, b}
		for _, id := range []uint64{0, 1, 2, 3, greatest} {
			c.open(id, sideErr)
			c.room(id, 0)
			c.left(id, 0)
			c.close(id, sideErr)
			c.waste(id, sideErr)
			for _, n := range []uint64{0, 1, greatest} {
				c.spend(id, n, sideErr)
				c.raise(id, n, false, sideErr)
				c.take(id, n, sideErr)
				c.use(id, n, sideErr)
			}
		}
		c.next(0)
		if v := c.b.View(); len(v) != 0 {
			t.Errorf("View: %v", v)
		}
	}
}
