package fair_test

import (
	"math"
	"testing"

	"braid/api"
)

// The chapter's examples.
func TestExamples(t *testing.T) {
	c := begin(t, 10)
	c.add(5, 1, 1, api.OK)
	c.add(6, 1, 2, api.OK)
	c.add(7, 0, 1, api.OK)
	c.add(5, 0, 1, idErr)
	c.add(8, 8, 0, classErr)
	c.add(8, 7, 0, shareErr)
	c.none(100)
	c.more(5, 25, api.OK)
	c.more(6, 25, api.OK)
	c.more(9, 1, idErr)
	c.more(5, 0, moreErr)

	c.next(100, 5, 10)
	c.next(100, 6, 20)
	c.next(4, 5, 4)
	c.view(look(5, 1, 1, 11, 6), look(6, 1, 2, 5, 0), look(7, 0, 1, 0, 0))
	c.more(7, 3, api.OK)
	c.next(100, 7, 3)
	c.next(100, 5, 6)
	c.next(100, 6, 5)
	c.next(100, 5, 5)
	c.none(100)
	c.waiting(0)

	c.remove(6, api.OK)
	c.remove(6, idErr)
	c.view(look(5, 1, 1, 0, 0), look(7, 0, 1, 0, 0))
}

// P19.1: a quantum below 1 counts as 1, one above MaxQuantum as MaxQuantum; there are no streams.
func TestQuantum(t *testing.T) {
	for _, x := range []struct{ quantum, want int }{
		{math.MinInt, 1}, {-65536, 1}, {-1, 1}, {0, 1}, {1, 1}, {2, 2}, {3, 3}, {255, 255},
		{65535, 65535}, {65536, 65536}, {65537, 65536}, {1 << 32, 65536}, {math.MaxInt, 65536},
	} {
		c := begin(t, x.quantum)
		c.none(1)
		c.add(1, 0, 1, api.OK)
		c.more(1, 1<<20, api.OK)
		c.next(1<<20, 1, x.want)
		c.view(look(1, 0, 1, 1<<20-x.want, 0))
	}
}

// P19.2: each class and each share at both ends of its bounds, and beyond them.
func TestAddBounds(t *testing.T) {
	c := begin(t, 10)
	for _, class := range []int{-1, 8, 9, 255, 256, 1 << 32, -1 << 32, math.MinInt, math.MaxInt} {
		c.add(1, class, 1, classErr)
	}
	for _, share := range []int{0, -1, 256, 257, 1<<32 + 1, -1 << 32, math.MinInt, math.MaxInt} {
		c.add(1, 0, share, shareErr)
		c.add(1, 7, share, shareErr)
	}
	c.view()
	c.add(1, 0, 1, api.OK)
	c.add(2, 7, 255, api.OK)
	c.add(3, 0, 255, api.OK)
	c.add(4, 7, 1, api.OK)
	c.view(look(1, 0, 1, 0, 0), look(2, 7, 255, 0, 0), look(3, 0, 255, 0, 0), look(4, 7, 1, 0, 0))
}

// P19.2: any number may be a stream's, once.
func TestAddIds(t *testing.T) {
	c := begin(t, 10)
	for _, id := range []uint64{1 << 63, 0, greatest, 1<<63 - 1, 1} {
		c.remove(id, idErr)
		c.more(id, 1, idErr)
		c.add(id, 2, 3, api.OK)
		c.add(id, 2, 3, idErr)
		c.add(id, 0, 1, idErr)
	}
	c.view(look(0, 2, 3, 0, 0), look(1, 2, 3, 0, 0), look(1<<63-1, 2, 3, 0, 0), look(1<<63, 2, 3, 0, 0), look(greatest, 2, 3, 0, 0))
}

// P19.2 and DOC.md, 0.2: of several errors that apply the first one that the chapter names.
func TestAddFirstError(t *testing.T) {
	c := begin(t, 10)
	c.add(1, 8, 0, classErr)
	c.add(1, -1, 256, classErr)
	for id := range uint64(api.MaxFair) {
		c.add(id, 1, 1, api.OK)
	}
	c.add(5, 8, 0, idErr)
	c.add(5, 8, 1, idErr)
	c.add(5, 0, 0, idErr)
	c.add(5, 0, 1, idErr)
	c.add(5000, 8, 0, classErr)
	c.add(5000, 8, 1, classErr)
	c.add(5000, 0, 0, shareErr)
	c.add(5000, 0, 1, fullErr)
}

// P19.2: MaxFair streams may be there, of whatever classes, and not one more.
func TestFull(t *testing.T) {
	c := begin(t, 10)
	for id := range uint64(1024) {
		c.add(id, int(id%8), 1, api.OK)
	}
	c.add(1024, 0, 1, fullErr)
	c.add(1024, 7, 1, fullErr)
	c.more(1023, 9, api.OK)
	c.remove(1023, api.OK)
	c.add(1024, 0, 1, api.OK)
	c.add(1025, 0, 1, fullErr)
	c.more(1024, 1, api.OK)
	c.next(9, 1024, 1)
	c.add(1025, 0, 1, fullErr) // one of which nothing waits is there all the same
	c.none(9)
}

// P19.2: what can't be more, and that it changes nothing.
func TestMoreBounds(t *testing.T) {
	c := streams(t, 10, 1, 1)
	for _, n := range []int{0, -1, -1 << 40, math.MinInt, 1<<40 + 1, 1 << 62, math.MaxInt} {
		c.more(1, n, moreErr)
		c.more(9, n, idErr)
	}
	c.none(1)
	c.more(1, 1, api.OK)
	for _, n := range []int{0, -1, math.MinInt, 1 << 40, 1<<40 + 1, math.MaxInt - 1, math.MaxInt} {
		c.more(1, n, moreErr)
	}
	c.more(1, 1<<40-1, api.OK)
	c.more(1, 1, moreErr)
	c.more(1, math.MaxInt, moreErr)
	c.more(1, 0, moreErr)
	c.of(1, 1<<40, 0)
	c.more(2, 1<<40, api.OK) // the bound is each stream's own
	c.waiting(1 << 41)
	c.next(3, 1, 3)
	c.more(1, 4, moreErr)
	c.more(1, 3, api.OK)
	c.of(1, 1<<40, 7)
}

// P19.2 and P19.5: MaxFair streams with MaxWaiting bytes each.
func TestAllWaits(t *testing.T) {
	c := begin(t, 1)
	for id := range uint64(1024) {
		c.add(id, 7, 255, api.OK)
		c.more(id, 1<<40, api.OK)
	}
	c.waiting(1 << 50)
	for id := range uint64(1024) {
		c.next(math.MaxInt, id, 255)
	}
	c.next(math.MaxInt, 0, 255)
	c.waiting(1<<50 - 1025*255)
}

// P19.2: a stream that is taken out of any place of its row; the others keep their places.
func TestRemove(t *testing.T) {
	for _, x := range []struct {
		out  uint64
		want []uint64
	}{{1, []uint64{2, 3, 4}}, {2, []uint64{1, 3, 4}}, {3, []uint64{1, 2, 4}}, {4, []uint64{1, 2, 3}}, {5, []uint64{1, 2, 3, 4}}} {
		c := streams(t, 10, 1, 1, 1, 1, 1)
		for id := range uint64(4) {
			c.more(id+1, 5, api.OK)
		}
		c.remove(x.out, api.OK)
		c.waiting(5 * len(x.want))
		c.remove(x.out, idErr)
		c.more(x.out, 1, idErr)
		c.row(x.want...)
		c.remove(6, idErr)
	}
}

// P19.2: the only stream of a row, and the last one of all.
func TestRemoveOnly(t *testing.T) {
	c := streams(t, 10, 1)
	c.add(9, 5, 1, api.OK)
	c.more(1, 5, api.OK)
	c.more(9, 5, api.OK)
	c.remove(1, api.OK)
	c.next(2, 9, 2)
	c.remove(9, api.OK)
	c.none(1)
	c.view()
	c.remove(9, idErr)
}

// P19.2 and P19.3: a stream that is taken out in the midst of its turn; the next one begins with a credit of its own.
func TestRemoveInTurn(t *testing.T) {
	c := streams(t, 10, 3, 2)
	c.more(1, 100, api.OK)
	c.more(2, 100, api.OK)
	c.next(7, 1, 7)
	c.of(1, 93, 23)
	c.remove(1, api.OK)
	c.view(look(2, 3, 2, 100, 0))
	c.next(100, 2, 20)
	c.next(100, 2, 20)
}

// P19.2 and P19.3: behind Remove an id is a new one: nothing of it waits, no credit is left, its class and share are those that it was added with.
func TestAddedAgain(t *testing.T) {
	c := streams(t, 10, 3, 2)
	c.more(1, 100, api.OK)
	c.more(2, 100, api.OK)
	c.next(7, 1, 7)
	c.remove(1, api.OK)
	c.add(1, 3, 1, api.OK)
	c.view(look(1, 3, 1, 0, 0), look(2, 3, 2, 100, 0))
	c.next(5, 2, 5)
	c.more(1, 50, api.OK)
	c.next(100, 2, 15) // the row had only 2 in it
	c.next(100, 1, 10)
	c.remove(1, api.OK)
	c.add(1, 0, 4, api.OK)
	c.next(100, 2, 20)
	c.more(1, 1<<40, api.OK) // nothing of what waited once counts
	c.next(100, 1, 40)
	c.next(1, 1, 1)
	c.remove(2, api.OK)
	c.view(look(1, 0, 4, 1<<40-41, 39))
}

// P19.3: who joins does so at the end; More of one that stands in the row leaves its place and its credit.
func TestMoreInRow(t *testing.T) {
	c := streams(t, 10, 1, 1, 1)
	c.more(2, 5, api.OK)
	c.more(1, 5, api.OK)
	c.more(3, 5, api.OK)
	c.more(2, 5, api.OK)
	c.more(1, 1, api.OK)
	c.view(look(1, 3, 1, 6, 0), look(2, 3, 1, 10, 0), look(3, 3, 1, 5, 0))
	c.next(4, 2, 4)
	c.of(2, 6, 6)
	c.more(2, 10, api.OK)
	c.of(2, 16, 6)
	c.more(3, 20, api.OK)
	c.next(100, 2, 6)
	c.of(2, 10, 0)
	c.next(100, 1, 6)
	c.more(1, 1, api.OK)
	c.next(100, 3, 10)
	c.next(100, 2, 10)
	c.next(100, 1, 1)
	c.next(100, 3, 10)
	c.next(100, 3, 5)
	c.none(100)
}

// P19.3: who has left its row joins at the end, with no credit of the turn that is over.
func TestJoinsAgain(t *testing.T) {
	c := streams(t, 10, 2, 1)
	c.more(1, 3, api.OK)
	c.more(2, 30, api.OK)
	c.next(100, 1, 3)
	c.of(1, 0, 0)
	c.more(1, 30, api.OK)
	c.of(1, 30, 0)
	c.next(100, 2, 10)
	c.next(100, 1, 20)
	c.next(100, 2, 10)
}

// P19.4: nothing, if most is below 1, whatever waits; a turn is not begun by it, and goes on behind it.
func TestNextMostBelow(t *testing.T) {
	c := streams(t, 10, 1, 1)
	below := func() {
		t.Helper()
		for _, most := range []int{0, -1, -1 << 40, math.MinInt} {
			c.none(most)
		}
	}
	below()
	c.more(1, 20, api.OK)
	c.more(2, 20, api.OK)
	below()
	c.of(1, 20, 0)
	c.next(1, 1, 1)
	c.of(1, 19, 9)
	below()
	c.next(100, 1, 9)
	below()
	c.next(100, 2, 10)
}

// P19.4: N is the least of most, the bytes that wait, and the credit: each of them the least, and two or all alike.
func TestNextLeast(t *testing.T) {
	for _, x := range []struct{ most, waiting, want int }{
		{1, 20, 1}, {9, 20, 9}, {10, 20, 10}, {11, 20, 10}, {19, 20, 10}, {20, 20, 10}, {21, 20, 10}, {math.MaxInt, 20, 10},
		{9, 10, 9}, {10, 10, 10}, {11, 10, 10}, {10, 11, 10}, {11, 11, 10},
		{1, 1, 1}, {2, 1, 1}, {1, 2, 1}, {10, 9, 9}, {9, 9, 9}, {8, 9, 8}, {math.MaxInt, 1 << 40, 10},
	} {
		c := streams(t, 5, 2)
		c.more(1, x.waiting, api.OK)
		c.next(x.most, 1, x.want)
		left := x.waiting - x.want
		if left == 0 {
			c.of(1, 0, 0)
			c.none(1)
			continue
		}
		c.of(1, left, 10-x.want)
		c.next(100, 1, min(left, 10-x.want+10*(x.want/10)))
	}
}

// P19.4: a turn that ends as no bytes wait: the stream leaves, and what is left of its credit is gone.
func TestTurnEndsEmpty(t *testing.T) {
	c := streams(t, 10, 1, 1)
	c.more(1, 9, api.OK)
	c.more(2, 1, api.OK)
	c.next(5, 1, 5)
	c.of(1, 4, 5)
	c.next(4, 1, 4)
	c.of(1, 0, 0)
	c.more(1, 20, api.OK)
	c.next(100, 2, 1)
	c.next(100, 1, 10)
}

// P19.4: a turn that ends as the credit is spent: the stream goes to the end of the row.
func TestTurnEndsSpent(t *testing.T) {
	c := streams(t, 10, 1, 1, 1)
	for id := range uint64(3) {
		c.more(id+1, 11, api.OK)
	}
	c.next(3, 1, 3)
	c.next(7, 1, 7)
	c.of(1, 1, 0)
	c.next(100, 2, 10)
	c.next(100, 3, 10)
	c.row(1, 2, 3)
}

// P19.4: no bytes wait and the credit is spent at once: it leaves the row.
func TestTurnEndsBoth(t *testing.T) {
	c := streams(t, 10, 1, 1)
	c.more(1, 10, api.OK)
	c.more(2, 11, api.OK)
	c.next(100, 1, 10)
	c.of(1, 0, 0)
	c.next(100, 2, 10)
	c.more(1, 1, api.OK)
	c.row(2, 1)
}

// P19.4: a turn goes on over several Nexts, byte by byte, and is no longer than its credit.
func TestTurnGoesOn(t *testing.T) {
	c := streams(t, 4, 3, 1)
	c.more(1, 100, api.OK)
	c.more(2, 100, api.OK)
	for round := range 3 {
		for i := range 12 {
			c.next(1, 1, 1)
			c.of(1, 100-12*round-i-1, 11-i)
		}
		for i := range 4 {
			c.next(1, 2, 1)
			c.of(2, 100-4*round-i-1, 3-i)
		}
	}
}

// P19.4: the credit of a stream that is alone is spent too, and its next turn begins.
func TestAlone(t *testing.T) {
	c := streams(t, 4, 2)
	c.more(1, 21, api.OK)
	c.next(100, 1, 8)
	c.next(7, 1, 7)
	c.of(1, 6, 1)
	c.next(7, 1, 1)
	c.of(1, 5, 0)
	c.next(7, 1, 5)
	c.none(7)
}

// P19.4: in the midst of a turn bytes of a lower class come to wait: they go first, and the credit stays; so does the place.
func TestLowerComes(t *testing.T) {
	c := begin(t, 10)
	c.add(1, 7, 1, api.OK)
	c.add(2, 7, 1, api.OK)
	c.add(3, 4, 2, api.OK)
	c.add(4, 0, 1, api.OK)
	c.more(1, 50, api.OK)
	c.more(2, 50, api.OK)
	c.next(3, 1, 3)
	c.more(3, 50, api.OK)
	c.next(5, 3, 5)
	c.more(4, 15, api.OK)
	c.view(look(1, 7, 1, 47, 7), look(2, 7, 1, 50, 0), look(3, 4, 2, 45, 15), look(4, 0, 1, 15, 0))
	c.next(100, 4, 10)
	c.next(100, 4, 5)
	c.view(look(1, 7, 1, 47, 7), look(2, 7, 1, 50, 0), look(3, 4, 2, 45, 15), look(4, 0, 1, 0, 0))
	c.next(100, 3, 15)
	c.next(100, 3, 20)
	c.next(100, 3, 10)
	c.next(100, 1, 7)
	c.next(100, 2, 10)
	c.next(100, 1, 10)
}

// P19.4 and P19.7: the row of the lowest class, of all eight; bytes of a higher one that come bar nobody.
func TestClasses(t *testing.T) {
	c := begin(t, 1)
	for class := range 8 {
		c.add(uint64(100-class), class, 1, api.OK)
		c.add(uint64(200-class), class, 1, api.OK)
	}
	for class := 7; class >= 0; class-- {
		c.more(uint64(200-class), 2, api.OK)
		c.more(uint64(100-class), 1, api.OK)
	}
	for class := range 8 {
		c.next(9, uint64(200-class), 1)
		if class < 7 {
			c.more(uint64(100-7), 1, api.OK)
		}
		c.next(9, uint64(100-class), 1)
		c.next(9, uint64(200-class), 1)
	}
	for range 7 {
		c.next(9, 93, 1)
	}
	c.none(9)
}

// P19.4: the greatest quantum times the greatest share is one turn.
func TestGreatestTurn(t *testing.T) {
	c := begin(t, math.MaxInt)
	c.add(1, 0, 255, api.OK)
	c.add(2, 0, 255, api.OK)
	c.more(1, 1<<40, api.OK)
	c.more(2, 1<<40, api.OK)
	turn := 65536 * 255
	c.next(math.MaxInt, 1, turn)
	c.next(1, 2, 1)
	c.of(2, 1<<40-1, turn-1)
	c.next(math.MaxInt, 2, turn-1)
	c.view(look(1, 0, 255, 1<<40-turn, 0), look(2, 0, 255, 1<<40-turn, 0))
	c.next(turn+1, 1, turn)
}

// P19.5: by rising Id, in whatever order they were added, of whatever class.
func TestViewOrder(t *testing.T) {
	c := begin(t, 10)
	for i, id := range []uint64{9, 3, greatest, 0, 5, 1 << 40, 4} {
		c.add(id, 7-i, i+1, api.OK)
		c.more(id, 10*i+1, api.OK)
	}
	c.next(5, 4, 5)
	c.view(look(0, 4, 4, 31, 0), look(3, 6, 2, 11, 0), look(4, 1, 7, 56, 65), look(5, 3, 5, 41, 0),
		look(9, 7, 1, 1, 0), look(1<<40, 2, 6, 51, 0), look(greatest, 5, 3, 21, 0))
	c.remove(1<<40, api.OK)
	c.remove(3, api.OK)
	c.view(look(0, 4, 4, 31, 0), look(4, 1, 7, 56, 65), look(5, 3, 5, 41, 0), look(9, 7, 1, 1, 0), look(greatest, 5, 3, 21, 0))
}
