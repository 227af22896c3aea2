package credit_test

import (
	"testing"

	"braid/api"
)

// P18.5: up to Told and beyond it, of the stream and of all together; nothing is told of what is only taken.
func TestTake(t *testing.T) {
	c := getting(t, 10, 6, 2)
	c.take(0, 0, idErr)
	c.take(1, 0, idErr)
	c.take(6, greatest, idErr)
	c.take(2, 0, api.OK)
	c.take(2, 7, overErr)
	c.take(2, 5, api.OK)
	c.take(2, 2, overErr)
	c.take(2, 1, api.OK)
	c.take(2, 1, overErr)
	c.take(2, 0, api.OK)
	c.of(2, 6, 0, 6)
	c.of(0, 6, 0, 10)
	for n := range uint64(8) {
		c.take(2, greatest-n, overErr) // sums that would wrap round
		c.take(4, greatest-n, overErr)
	}
	c.take(4, 5, overErr) // all together has 4 left
	c.take(4, 4, api.OK)
	c.take(4, 1, overErr)
	c.take(4, 0, api.OK)
	c.of(4, 4, 0, 6)
	c.of(0, 10, 0, 10)
	c.close(4, api.OK)
	c.take(4, 0, idErr) // left
	c.use(4, 4, api.OK)
	c.take(4, 0, idErr) // gone
	c.take(4, greatest, idErr)
}

// P18.5: what comes on a deaf stream is used at once, of both; what is due of all together is told, never of the stream.
func TestTakeDeaf(t *testing.T) {
	c := getting(t, 8, 6, 2)
	c.waste(2, api.OK)
	c.of(2, 0, 0, 6)
	c.take(2, 3, api.OK)
	c.of(2, 3, 3, 6)
	c.of(0, 3, 3, 8)
	c.take(2, 1, api.OK, note(0, 12))
	c.of(2, 4, 4, 6)
	c.of(0, 4, 4, 12)
	c.take(2, 3, overErr) // its Told has stood still
	c.take(2, 2, api.OK)
	c.take(2, 1, overErr)
	c.take(2, 0, api.OK)
	c.of(2, 6, 6, 6)
	c.take(4, 6, api.OK)
	c.use(4, 6, api.OK, note(4, 12), note(0, 20))
	c.view(
		api.RoomView{May: 1, Came: 12, Used: 12, Told: 20},
		api.RoomView{Stream: 2, May: 1, Came: 6, Used: 6, Told: 6, Deaf: true},
		api.RoomView{Stream: 4, May: 1, Came: 6, Used: 6, Told: 12})
}

// P18.6: of 0, of all and of one more than all that is not used; of streams that are open, left, gone and never were.
func TestUse(t *testing.T) {
	c := getting(t, 100, 60, 2)
	c.use(0, 0, idErr)
	c.use(1, 0, idErr)
	c.use(6, greatest, idErr)
	c.use(2, 0, api.OK)
	c.use(2, 1, noneErr)
	c.take(2, 9, api.OK)
	c.take(4, 5, api.OK)
	c.use(0, 0, idErr) // all together is no stream
	c.use(2, 10, noneErr)
	c.use(2, greatest, noneErr)
	c.use(2, 0, api.OK)
	c.of(2, 9, 0, 60)
	c.use(2, 4, api.OK)
	c.use(2, 6, noneErr)
	c.use(2, greatest-3, noneErr) // a sum would wrap round to 0
	c.of(2, 9, 4, 60)
	c.of(0, 14, 4, 100)
	c.use(2, 5, api.OK)
	c.use(2, 1, noneErr)
	c.of(2, 9, 9, 60)
	c.of(0, 14, 9, 100)
	c.close(4, api.OK)
	c.use(4, 6, noneErr)
	c.use(4, 0, api.OK)
	c.use(4, 4, api.OK)
	c.of(4, 5, 4, 60)
	c.use(4, 1, api.OK)
	c.of(0, 14, 14, 100)
	c.gone(4)
	c.use(4, 0, idErr)
	c.use(4, greatest, idErr)
}

// halves are rooms with half of them, rounded up.
func halves() [][2]uint64 {
	return [][2]uint64{{1, 1}, {2, 1}, {3, 2}, {4, 2}, {5, 3}, {6, 3}, {7, 4}, {100, 50}, {101, 51}}
}

// The words 'A limit is due', of a stream: at just half of the room, and not one below; Told becomes the limit by it.
func TestStreamDue(t *testing.T) {
	for _, x := range halves() {
		room, half := x[0], x[1]
		c := getting(t, 1000, room, 1)
		c.take(2, room, api.OK)
		c.use(2, half-1, api.OK)
		c.of(2, room, half-1, room)
		c.use(2, 1, api.OK, note(2, room+half))
		c.of(2, room, half, room+half)
		c.take(2, half+1, overErr)
		c.take(2, half, api.OK)
		c.use(2, half-1, api.OK)
		c.use(2, 0, api.OK)
		c.use(2, 1, api.OK, note(2, room+2*half))
		c.use(2, 0, api.OK)
		c.of(0, room+half, 2*half, 1000)
	}
}

// The words 'A limit is due', of all together: by whatever stream, one that is left too, which tells nothing of its own.
func TestAllDue(t *testing.T) {
	for _, x := range halves() {
		room, half := x[0], x[1]
		c := getting(t, room, 1000, 2)
		c.take(2, room, api.OK)
		c.take(4, 1, overErr)
		c.use(2, half-1, api.OK)
		c.of(0, room, half-1, room)
		c.use(2, 1, api.OK, note(0, room+half))
		c.of(2, room, half, 1000)
		c.take(4, half+1, overErr)
		c.take(4, half, api.OK)
		c.use(4, half-1, api.OK)
		c.use(4, 1, api.OK, note(0, room+2*half))

		c = getting(t, room, room, 1)
		c.take(2, room, api.OK)
		c.close(2, api.OK)
		c.use(2, half-1, api.OK)
		c.use(2, 1, api.OK, note(0, room+half))
		if room > half {
			c.of(2, room, half, room)
		} else {
			c.gone(2)
		}
	}
}

// P18.6: both at once, the stream's first.
func TestBothDue(t *testing.T) {
	for _, room := range []uint64{1, 2, 3, 10, 1<<40 - 1, 1 << 40} {
		c := getting(t, room, room, 1)
		c.take(2, room, api.OK)
		c.use(2, room, api.OK, note(2, 2*room), note(0, 2*room))
		c.take(2, room, api.OK)
		c.take(2, 1, overErr)
		half := (room + 1) / 2
		c.use(2, half-1, api.OK)
		c.use(2, 1, api.OK, note(2, 2*room+half), note(0, 2*room+half))
	}
}

// toTheTop brings a stream, and by it all together, to just this much that has come and is used, far up towards MaxLimit.
func toTheTop(c check, room, used uint64) {
	c.t.Helper()
	for done := uint64(0); done < used; {
		n := min(room, used-done)
		_, e1 := c.b.Take(2, n)
		_, e2 := c.b.Use(2, n)
		if e1 != api.OK || e2 != api.OK {
			c.t.Fatalf("behind %d: Take %d, Use %d", done, e1, e2)
		}
		done += n
	}
}

// The words 'The limit': MaxLimit at most. Told is short of it by just half of the room: it becomes due; or by one less, or by nothing: it never does.
func TestMaxLimit(t *testing.T) {
	const top = api.MaxLimit
	const room, half = uint64(1) << 40, uint64(1) << 39
	for _, short := range []uint64{half, half - 1, 0} {
		t.Run("", func(t *testing.T) {
			t.Parallel()
			c := getting(t, room, room, 1)
			at := top - room - short
			toTheTop(c, room, at)
			c.of(2, at, at, top-short)
			c.of(0, at, at, top-short)
			c.take(2, room+1, overErr)
			c.take(2, room, api.OK)
			c.use(2, half-1, api.OK)
			if short == half {
				c.use(2, 1, api.OK, note(2, top), note(0, top))
				c.take(2, half+1, overErr)
				c.take(2, half, api.OK)
				c.use(2, room, api.OK)
				c.of(2, top, top, top)
				c.of(0, top, top, top)
			} else {
				c.use(2, half+1, api.OK)
				c.of(2, top-short, top-short, top-short)
				c.of(0, top-short, top-short, top-short)
			}
			c.take(2, 1, overErr)
			c.take(2, greatest, overErr)
			c.take(2, 0, api.OK)
			c.waste(2, api.OK)
		})
	}
}

// P18.7: what was not used counts as used, of both; all together's limit may be due by it, the stream's is not.
func TestWaste(t *testing.T) {
	c := getting(t, 20, 10, 3)
	c.waste(0, idErr)
	c.waste(1, idErr)
	c.waste(8, idErr)
	c.take(2, 9, api.OK)
	c.waste(2, api.OK) // 9 of the stream, its half is 5; of all together half is 10
	c.of(2, 9, 9, 10)
	c.of(0, 9, 9, 20)
	c.waste(2, api.OK)
	c.of(2, 9, 9, 10)
	c.use(2, 1, noneErr)
	c.use(2, 0, api.OK)
	c.take(2, 2, overErr)
	c.take(2, 1, api.OK, note(0, 30))
	c.use(2, 1, noneErr)
	c.use(2, 0, api.OK)
	c.waste(2, api.OK)

	c.take(4, 10, api.OK)
	c.use(4, 3, api.OK)
	c.waste(4, api.OK, note(0, 40))
	c.of(4, 10, 10, 10)
	c.of(0, 20, 20, 40)

	c.take(6, 4, api.OK)
	c.close(6, api.OK)
	c.waste(6, api.OK) // one that is left is gone by it
	c.gone(6)
	c.of(0, 24, 24, 40)
	c.waste(6, idErr)
	c.close(2, api.OK)
	c.waste(2, idErr)
	c.close(4, api.OK)
	c.view(api.RoomView{May: 1, Came: 24, Used: 24, Told: 40})
}

// P18.7: a stream that is left and wasted tells nothing of itself, but what is due of all together.
func TestWasteLeft(t *testing.T) {
	c := getting(t, 10, 10, 1)
	c.take(2, 10, api.OK)
	c.close(2, api.OK)
	c.waste(2, api.OK, note(0, 20))
	c.view(api.RoomView{May: 1, Came: 10, Used: 10, Told: 20})
}

// P18.7: a deaf stream goes on otherwise: it is open, counted, spends and is raised.
func TestDeafIsOpen(t *testing.T) {
	c := book(t, 1, rooms(9, 9, 1), rooms(20, 8, 1))
	c.open(1, api.OK)
	c.waste(1, api.OK)
	c.open(3, manyErr)
	c.spend(1, 8, api.OK)
	c.raise(1, 9, true, api.OK)
	c.left(1, 1)
	c.view(api.RoomView{Sent: 8, May: 20, Told: 9}, api.RoomView{Stream: 1, Sent: 8, May: 9, Told: 9, Deaf: true})
	c.close(1, api.OK)
	c.open(3, api.OK)
	c.take(3, 5, api.OK) // another stream hears
	c.of(3, 5, 0, 9)
}

// P18.8: left with something that is not used, gone with nothing; nothing of all together becomes used by it.
func TestClose(t *testing.T) {
	c := getting(t, 10, 6, 3)
	c.close(0, idErr)
	c.close(1, idErr)
	c.close(8, idErr)
	c.close(greatest, idErr)
	c.take(2, 6, api.OK)
	c.take(4, 4, api.OK)
	c.use(4, 4, api.OK, note(4, 10))
	c.close(4, api.OK)
	c.gone(4)
	c.close(4, idErr)
	c.close(6, api.OK) // nothing ever came
	c.gone(6)
	c.close(2, api.OK)
	c.of(2, 6, 0, 6)
	c.of(0, 10, 4, 10)
	c.close(2, idErr)
	c.use(2, 1, api.OK, note(0, 15))
	c.use(2, 4, api.OK)
	c.of(2, 6, 5, 6)
	c.close(2, idErr)
	c.use(2, 1, api.OK, note(0, 20))
	c.gone(2)
	c.close(2, idErr)
	c.open(2, idErr)
	c.open(8, api.OK)
}

// P18.9: by rising number, in whatever order streams were opened and left.
func TestViewOrder(t *testing.T) {
	c := book(t, 0, rooms(5000, 7, 600), rooms(5000, 8, 600))
	want := []api.RoomView{{May: 5000, Told: 5000}}
	for id := uint64(2); id <= 1200; id += 2 {
		c.open(id, api.OK)
	}
	for id := uint64(1); id <= 1199; id += 2 {
		c.open(id, api.OK)
	}
	for id := uint64(1); id <= 1200; id++ {
		switch id % 3 {
		case 0: // gone
			c.close(id, api.OK)
		case 1: // left
			c.take(id, 2, api.OK)
			c.close(id, api.OK)
			want[0].Came += 2
			want = append(want, api.RoomView{Stream: id, May: 8, Came: 2, Told: 7})
		case 2:
			c.spend(id, 1, api.OK)
			want[0].Sent++
			want = append(want, api.RoomView{Stream: id, Sent: 1, May: 8, Told: 7})
		}
	}
	c.view(want...)
}
