package emu_test

import (
	"testing"

	"braid/api"
)

// The chapter's examples 1 to 3.
func TestExampleQueue(t *testing.T) {
	c := lay(t, api.LinkConfig{Rate: 1000, Delay: 500, Queue: 10, Loss: []bool{false, false, true}})
	c.put(0, "abcd", true)
	c.next(4500)
	c.is(api.LinkStat{Busy: 4000, Put: 1, Waiting: 4, Flying: 1})
	c.put(1000, "efg", true)
	c.is(api.LinkStat{Now: 1000, Busy: 7000, Put: 2, Waiting: 7, Flying: 2})
	c.put(1000, "x", false)
	c.put(1000, "hijk", false)
	c.put(1000, "hij", true)
	c.is(api.LinkStat{Now: 1000, Busy: 10000, Put: 5, Lost: 1, Full: 1, Waiting: 10, Flying: 3})
	c.next(4500)
	c.take(4499)
	c.is(api.LinkStat{Now: 4499, Busy: 10000, Put: 5, Lost: 1, Full: 1, Waiting: 6, Flying: 3})
	c.take(4500, arrival(4500, 0, "abcd"))
	c.take(4500)
	c.next(7500)
	c.take(20000, arrival(7500, 1, "efg"), arrival(10500, 4, "hij"))
	c.still()
	c.is(api.LinkStat{Now: 20000, Busy: 10000, Put: 5, Lost: 1, Full: 1, Come: 3})
	c.put(3, "z", false)
	c.is(api.LinkStat{Now: 20000, Busy: 10000, Put: 6, Lost: 2, Full: 1, Come: 3})
	c.put(3, "z", true)
	c.is(api.LinkStat{Now: 20000, Busy: 21000, Put: 7, Lost: 2, Full: 1, Come: 3, Waiting: 1, Flying: 1})
	c.next(21500)
	c.take(30000, arrival(21500, 6, "z"))
}

// The chapter's examples 4 and 5.
func TestExampleJitter(t *testing.T) {
	c := lay(t, api.LinkConfig{Delay: 7, Queue: 1, Jitter: []int{10, 0}})
	c.put(1, "a", true)
	c.next(18)
	c.put(1, "b", true)
	c.next(8)
	c.take(30, arrival(8, 1, "b"), arrival(18, 0, "a"))
	c.put(30, "ab", false)
	c.is(api.LinkStat{Now: 30, Busy: 1, Put: 3, Full: 1, Come: 2})
	c = lay(t, api.LinkConfig{Rate: 3, Queue: 1})
	c.put(0, "a", true)
	c.next(333334)
}

// P24.2: a frame as long as Queue finds room in an empty one, one more byte does not, none always.
func TestRoom(t *testing.T) {
	for _, rate := range []int{0, 1000} {
		c := lay(t, api.LinkConfig{Rate: rate, Queue: 5})
		c.put(0, long(6), false)
		c.put(0, "", true)
		c.put(0, long(5), true)
		c.put(0, "", true)
		c.put(0, "a", rate == 0)
		c.put(0, "", true)
		c.put(4999, "a", rate == 0)
		c.put(5000, long(6), false)
		c.put(5000, long(5), true)
		c.put(5000, long(1<<20), false)
	}
	c := lay(t, api.LinkConfig{Rate: 1000, Queue: 5})
	c.put(0, "ab", true)
	c.put(0, "cde", true)
	c.is(api.LinkStat{Busy: 5000, Put: 2, Waiting: 5, Flying: 2})
	c.put(0, "f", false)
	c.put(1999, "f", false)
	c.put(2000, "fgh", false)
	c.put(2000, "fg", true)
	c.is(api.LinkStat{Now: 2000, Busy: 7000, Put: 6, Full: 3, Waiting: 5, Flying: 3})
	c.put(4999, "h", false)
	c.put(5000, "hij", true)
	c.is(api.LinkStat{Now: 5000, Busy: 10000, Put: 8, Full: 4, Waiting: 5, Flying: 4})
	c.put(9999, "kl", true)
	c.is(api.LinkStat{Now: 9999, Busy: 12000, Put: 9, Full: 4, Waiting: 5, Flying: 5})
	c.put(12000, "m", true)
	c.is(api.LinkStat{Now: 12000, Busy: 13000, Put: 10, Full: 4, Waiting: 1, Flying: 6})
	c.put(20000, "n", true)
	c.is(api.LinkStat{Now: 20000, Busy: 21000, Put: 11, Full: 4, Waiting: 1, Flying: 7})
}

// P24.2: a sending begins at the moment of the Put, or when the one ahead of it is over.
func TestTurn(t *testing.T) {
	for _, x := range []struct{ second, come uint64 }{{0, 4000}, {1, 4000}, {1999, 4000}, {2000, 4000}, {2001, 4001}, {9000, 11000}} {
		c := lay(t, api.LinkConfig{Rate: 1000, Queue: 100})
		c.put(0, "ab", true)
		c.put(x.second, "cd", true)
		c.take(1<<50, arrival(2000, 0, "ab"), arrival(x.come, 1, "cd"))
	}
	// What was lost is not sent: nobody waits for it.
	c := lay(t, api.LinkConfig{Rate: 1000, Queue: 2, Loss: []bool{true, false, false, false}})
	c.put(0, "ab", false)
	c.put(0, "cd", true)
	c.put(0, "ef", false)
	c.is(api.LinkStat{Busy: 2000, Put: 3, Lost: 1, Full: 1, Waiting: 2, Flying: 1})
	c.put(2000, "gh", true)
	c.take(5000, arrival(2000, 1, "cd"), arrival(4000, 3, "gh"))
	// A frame without bytes waits for its turn all the same.
	c = lay(t, api.LinkConfig{Rate: 1000, Delay: 1, Queue: 2})
	c.put(5, "ab", true)
	c.put(6, "", true)
	c.is(api.LinkStat{Now: 6, Busy: 2005, Put: 2, Waiting: 2, Flying: 2})
	c.take(2006, arrival(2006, 0, "ab"), arrival(2006, 1, ""))
	c.put(3000, "", true)
	c.is(api.LinkStat{Now: 3000, Busy: 3000, Put: 3, Come: 2, Flying: 1})
	c.take(3001, arrival(3001, 2, ""))
}

// The time of a call is never less than one that an earlier call was told: Put, whatever became of the frame, and Take.
func TestTimes(t *testing.T) {
	c := lay(t, api.LinkConfig{Delay: 3, Queue: 1, Loss: []bool{false, true, false, false, false, false}})
	c.put(10, "a", true)
	c.put(4, "b", false)
	c.is(api.LinkStat{Now: 10, Busy: 10, Put: 2, Lost: 1, Flying: 1})
	c.put(4, "c", true)
	c.next(13)
	c.next(13)
	c.put(11, "de", false)
	c.put(5, "f", true)
	c.take(9)
	c.take(13, arrival(13, 0, "a"), arrival(13, 2, "c"))
	c.take(2)
	c.put(2, "g", true)
	c.is(api.LinkStat{Now: 13, Busy: 13, Put: 6, Lost: 1, Full: 1, Come: 2, Flying: 2})
	c.take(0)
	c.take(50, arrival(14, 4, "f"), arrival(16, 5, "g"))
	c.put(20, "h", true)
	c.next(53)
	// A frame that the pattern loses, and one without room, tell a time as any other.
	c = lay(t, api.LinkConfig{Delay: 3, Queue: 1, Loss: []bool{true, false, false}})
	c.put(7, "a", false)
	c.is(api.LinkStat{Now: 7, Put: 1, Lost: 1})
	c.put(9, "ab", false)
	c.is(api.LinkStat{Now: 9, Put: 2, Lost: 1, Full: 1})
	c.put(0, "c", true)
	c.next(12)
	// Next and Stat tell none.
	c = lay(t, api.LinkConfig{Delay: 3, Queue: 1})
	c.put(5, "a", true)
	c.next(8)
	c.put(6, "b", true)
	c.take(8, arrival(8, 0, "a"))
	c.next(9)
	c.put(8, "c", true)
	c.take(11, arrival(9, 1, "b"), arrival(11, 2, "c"))
}

// A time is at most MaxTime; a frame may come behind it, and is never taken.
func TestLate(t *testing.T) {
	for _, now := range []uint64{maxTime, maxTime + 1, 1 << 63, ^uint64(0)} {
		c := lay(t, api.LinkConfig{Rate: 1000000, Delay: 0, Queue: 9})
		c.put(maxTime-3, "abc", true)
		c.put(maxTime-3, "", true)
		c.put(now, "de", true)
		c.is(api.LinkStat{Now: maxTime, Busy: maxTime + 2, Put: 3, Waiting: 2, Flying: 3})
		c.take(now, arrival(maxTime, 0, "abc"), arrival(maxTime, 1, ""))
		c.next(maxTime + 2)
		c.take(now)
		c.take(^uint64(0))
		c.put(1, "f", true)
		c.next(maxTime + 2)
		c.is(api.LinkStat{Now: maxTime, Busy: maxTime + 3, Put: 4, Come: 2, Waiting: 3, Flying: 2})
	}
	c := lay(t, api.LinkConfig{Rate: 1, Delay: maxSpan, Queue: maxQueue, Jitter: []int{maxSpan, 0}})
	text := long(1 << 20)
	c.put(^uint64(0), text, true)
	c.put(0, text, true)
	c.is(api.LinkStat{Now: maxTime, Busy: maxTime + 2000000<<20, Put: 2, Waiting: 2 << 20, Flying: 2})
	c.next(maxTime + 2000000<<20 + maxSpan)
	c.take(^uint64(0))
	c = lay(t, api.LinkConfig{Delay: 1, Queue: 1})
	c.put(maxTime-1, "a", true)
	c.take(maxTime - 1)
	c.put(maxTime, "b", true)
	c.take(maxTime, arrival(maxTime, 0, "a"))
	c.next(maxTime + 1)
	c.is(api.LinkStat{Now: maxTime, Busy: maxTime, Put: 2, Come: 1, Flying: 1})
}

// P24.2: how long a sending takes is rounded up, each by itself.
func TestRates(t *testing.T) {
	for _, x := range []struct {
		rate, count int
		takes       uint64
	}{
		{0, 0, 0}, {0, 9, 0}, {1, 0, 0}, {1, 1, 1000000}, {1, 1048, 1048000000}, {1, 1 << 22, 1000000 << 22},
		{3, 1, 333334}, {3, 2, 666667}, {3, 3, 1000000}, {3, 4, 1333334}, {7, 1, 142858},
		{999999, 1, 2}, {1000000, 1, 1}, {1000001, 1, 1}, {1000001, 2, 2}, {999999, 999999, 1000000}, {2000000, 1, 1}, {2000000, 2, 1}, {2000000, 3, 2},
		{1 << 40, 0, 0}, {1 << 40, 1, 1}, {1 << 40, 1 << 20, 1}, {1 << 40, 1099511, 1}, {1 << 40, 1099512, 2}, {1 << 40, 2199023, 2}, {1 << 40, 2199024, 3},
	} {
		c := lay(t, api.LinkConfig{Rate: x.rate, Queue: maxQueue})
		text := long(x.count)
		c.put(5, text, true)
		c.put(5, text, true)
		c.is(api.LinkStat{Now: 5, Busy: 5 + 2*x.takes, Put: 2, Flying: 2, Waiting: map[bool]int{true: 2 * x.count}[x.takes > 0]})
		c.take(5+x.takes, map[bool][]api.Arrival{true: {arrival(5, 0, text), arrival(5, 1, text)}, false: {arrival(5+x.takes, 0, text)}}[x.takes == 0]...)
	}
}

// P24.2: patterns are gone round by the numbers of all frames, those that were lost and those without room too.
func TestPatterns(t *testing.T) {
	c := lay(t, api.LinkConfig{Delay: 100, Queue: 2, Loss: []bool{false, true, false}, Jitter: []int{50, 40, 30, 20, 10}})
	for n := range 15 {
		// Number 5 and 12 are too long, and numbers all the same.
		text := string(rune('a' + n))
		if n == 5 || n == 12 {
			text = "xyz"
		}
		c.put(uint64(n)*1000, text, n%3 != 1 && n != 5 && n != 12)
	}
	want := []api.Arrival{}
	for _, n := range []uint64{0, 2, 3, 6, 8, 9, 11, 14} {
		want = append(want, arrival(n*1000+100+50-n%5*10, n, string(rune('a'+n))))
	}
	c.is(api.LinkStat{Now: 14000, Busy: 14000, Put: 15, Lost: 5, Full: 2, Flying: 8})
	c.take(20000, want...)
	c = lay(t, api.LinkConfig{Queue: 1, Loss: []bool{true}})
	for n := range uint64(5) {
		c.put(n, "a", false)
	}
	c.is(api.LinkStat{Now: 4, Put: 5, Lost: 5})
	// The pattern comes ahead of the room.
	c.put(9, "ab", false)
	c.is(api.LinkStat{Now: 9, Put: 6, Lost: 6})
	// A Jitter of the frame's own number, not of those that are sent.
	c = lay(t, api.LinkConfig{Queue: 1, Loss: []bool{true, false}, Jitter: []int{1, 2}})
	c.put(0, "a", false)
	c.put(0, "b", true)
	c.next(2)
}

// P24.4: by rising time, and of one time by rising number, however they were put.
func TestOrder(t *testing.T) {
	c := lay(t, api.LinkConfig{Queue: 9, Jitter: []int{5, 4, 3, 2, 1, 0, 9, 0}})
	for i, text := range []string{"a", "b", "c", "d", "e", "f", "g", "h"} {
		c.put(uint64(i), text, true)
	}
	c.next(5)
	c.take(14, arrival(5, 0, "a"), arrival(5, 1, "b"), arrival(5, 2, "c"), arrival(5, 3, "d"), arrival(5, 4, "e"), arrival(5, 5, "f"), arrival(7, 7, "h"))
	c.next(15)
	c.take(15, arrival(15, 6, "g"))
	c = lay(t, api.LinkConfig{Queue: 9, Jitter: []int{9, 7, 5, 3, 1}})
	for _, text := range []string{"a", "b", "c", "d", "e"} {
		c.put(0, text, true)
	}
	c.take(5, arrival(1, 4, "e"), arrival(3, 3, "d"), arrival(5, 2, "c"))
	c.put(5, "f", true)
	c.put(5, "g", true)
	c.take(99, arrival(7, 1, "b"), arrival(9, 0, "a"), arrival(12, 6, "g"), arrival(14, 5, "f"))
}
