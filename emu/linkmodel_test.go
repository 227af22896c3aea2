package emu_test

import (
	"cmp"
	"slices"
	"strings"
	"testing"

	"braid/api"
)

// someLink is a link that may be.
func (d *dice) someLink() api.LinkConfig {
	c := api.LinkConfig{
		Rate:  d.one(0, 0, 1, 3, 7, 999, 1000, 999999, 1000000, 1000001, 1<<40-1, 1<<40),
		Delay: d.one(0, 0, 1, 5, 1000, 333333, 1<<40),
		Queue: d.one(1, 2, 5, 10, 30, 30, 100, 1000, maxQueue),
	}
	for range d.one(0, 0, 1, 2, 3, 7) {
		c.Loss = append(c.Loss, d.maybe(3))
	}
	for range d.one(0, 0, 1, 2, 3, 5) {
		c.Jitter = append(c.Jitter, d.one(0, 0, 1, 2, 10, 1000, 400000, 1<<40))
	}
	return c
}

// someText is a frame's bytes, which no other number's are, if there are some.
func (d *dice) someText(n int) string {
	return strings.Repeat(string(rune('a'+n%26)), d.one(0, 1, 1, 2, 3, 5, 10, 11, 30, d.below(100)))
}

// someTime is a time about one at which something becomes otherwise.
func (d *dice) someTime(m *linkByBook) uint64 {
	at := m.now
	switch d.below(8) {
	case 0, 1:
		return at
	case 2:
		return at - min(at, uint64(d.below(2000)))
	case 3:
		at += uint64(d.below(5000))
	case 4, 5:
		at = m.busy()
	case 6:
		if next, ok := m.next(); ok {
			at = next
		}
	case 7:
		if n := len(m.frames); n > 0 {
			f := m.frames[d.below(n)]
			at = []uint64{f.over, f.come, f.put}[d.below(3)]
		}
	}
	return at + uint64(d.below(3)) - min(at, 1)
}

// held is a link held against the book behind each call.
type held struct {
	link
	m *linkByBook
}

func (h held) same(what string) {
	h.t.Helper()
	at, ok := h.l.Next()
	if want, there := h.m.next(); at != want || ok != there {
		h.t.Errorf("%s: Next: %d, %v, want %d, %v", what, at, ok, want, there)
	}
	h.is(h.m.stat())
	if h.t.Failed() {
		h.t.Fatalf("%s of %+v", what, h.m.c)
	}
}

func (h held) put(now uint64, text string) {
	h.t.Helper()
	h.link.put(now, text, h.m.put(now, text))
	h.same("Put")
}

func (h held) take(now uint64) {
	h.t.Helper()
	h.link.take(now, h.m.take(now)...)
	h.same("Take")
}

// P24.1 to P24.5: any calls at any times, against a book that reckons each answer anew.
func TestAnyCalls(t *testing.T) {
	for row := range rows(1500) {
		d := dice(row)
		c := d.someLink()
		h := held{lay(t, c), &linkByBook{c: c}}
		if row%10 == 0 {
			h.take(maxTime - uint64(d.below(3000)))
		}
		for n := range 60 {
			if d.below(5) < 3 {
				h.put(d.someTime(h.m), d.someText(n))
			} else {
				h.take(d.someTime(h.m))
			}
			if d.maybe(200) {
				h.take([]uint64{maxTime - 1, maxTime, maxTime + 1, ^uint64(0)}[d.below(4)])
			}
		}
	}
}

// P24.4: many frames at once, that come in any order, also many at one time.
func TestManyFly(t *testing.T) {
	for row := range rows(100) {
		d := dice(100 + row)
		c := api.LinkConfig{Queue: 1}
		for range 1 + d.below(300) {
			c.Jitter = append(c.Jitter, d.below(d.one(1, 5, 1000, 1<<30)))
		}
		l := lay(t, c)
		var want []api.Arrival
		for n := range uint64(300) {
			l.put(n, "", true)
			want = append(want, arrival(n+uint64(c.Jitter[n%uint64(len(c.Jitter))]), n, ""))
		}
		slices.SortStableFunc(want, func(a, b api.Arrival) int { return cmp.Compare(a.At, b.At) })
		for now := uint64(299); len(want) > 0; {
			k := 0
			for k < len(want) && want[k].At <= now {
				k++
			}
			l.next(want[0].At)
			l.take(now, want[:k]...)
			want = want[k:]
			if len(want) > 0 {
				now = want[d.below(min(len(want), 20))].At - uint64(d.below(2))
			}
		}
		l.still()
	}
}

// sentFrame is one that a link took, and when it came.
type sentFrame struct {
	put  uint64
	text string
	at   uint64
	come bool
}

// run puts many frames on a link at times that do not fall, and takes them as it likes; the numbers of those that came stand in their order.
func (d *dice) run(t *testing.T, c api.LinkConfig, puts int) (link, map[uint64]*sentFrame, []uint64) {
	t.Helper()
	l := lay(t, c)
	sent := make(map[uint64]*sentFrame)
	var order []uint64
	var now uint64
	take := func(now uint64) {
		for _, a := range l.l.Take(now) {
			f := sent[a.Num]
			if f == nil || f.come || f.text != string(a.Bytes) {
				t.Fatalf("%+v: %v comes of itself, twice or with other bytes", c, a)
			}
			f.at, f.come = a.At, true
			order = append(order, a.Num)
		}
	}
	for n := range puts {
		now += uint64(d.one(0, 0, 1, 100, d.below(1000000)))
		text := d.someText(n)
		if l.l.Put(now, []byte(text)) {
			sent[uint64(n)] = &sentFrame{put: now, text: text}
		}
		if d.maybe(3) {
			take(now)
		}
		s := l.l.Stat()
		if s.Put != s.Lost+s.Full+s.Come+uint64(s.Flying) || s.Waiting > c.Queue || s.Waiting < 0 {
			t.Fatalf("%+v: %+v", c, s)
		}
	}
	take(maxTime)
	return l, sent, order
}

// P24.6: Put is Lost, Full, Come and Flying together; each frame that was not lost comes just once, with its own bytes; Waiting is at most Queue. P24.7: without Jitter frames come in the order in which they were put.
func TestConservation(t *testing.T) {
	for row := range rows(400) {
		d := dice(200 + row)
		c := d.someLink()
		l, sent, order := d.run(t, c, 100)
		if s := l.l.Stat(); s.Flying != 0 || int(s.Come) != len(sent) || len(order) != len(sent) || s.Put != 100 || s.Waiting != 0 {
			t.Fatalf("%+v: %+v", c, s)
		}
		for i := 1; i < len(order) && len(c.Jitter) == 0; i++ {
			if order[i-1] > order[i] {
				t.Fatalf("%+v: %d ahead of %d", c, order[i-1], order[i])
			}
		}
	}
}

// P24.8: no more than its rate; no frame comes sooner than its own sending and Delay, nor later than the sending of Queue, Delay and its Jitter.
func TestRate(t *testing.T) {
	for row := range rows(400) {
		d := dice(300 + row)
		c := d.someLink()
		c.Rate = d.one(1, 3, 1000, 999999, 1<<40)
		c.Queue = min(c.Queue, 100)
		_, sent, _ := d.run(t, c, 100)
		book := &linkByBook{c: c}
		var overs []uint64 // of the frames that were sent, in their order
		var counts []int
		var ahead []*sentFrame
		for n := range uint64(100) {
			f := sent[n]
			if f == nil {
				continue
			}
			jitter := uint64(0)
			if len(c.Jitter) > 0 {
				jitter = uint64(c.Jitter[n%uint64(len(c.Jitter))])
			}
			over := f.at - uint64(c.Delay) - jitter
			own := book.sending(len(f.text))
			queue := own // each frame's time rounded up by itself
			room := c.Queue - len(f.text)
			for i := len(ahead) - 1; i >= 0 && len(ahead[i].text) <= room; i-- {
				room -= len(ahead[i].text)
				queue += book.sending(len(ahead[i].text))
			}
			if over < f.put+own || over > f.put+queue {
				t.Fatalf("%+v: frame %d, put at %d, is over at %d", c, n, f.put, over)
			}
			sum := 0
			for i := len(overs) - 1; i >= 0; i-- {
				sum += counts[i]
				// All frames behind number i were sent since it was over.
				all := sum - counts[i] + len(f.text)
				if ceil(all, 1000000, c.Rate) > over-overs[i] {
					t.Fatalf("%+v: %d bytes in %d microseconds", c, all, over-overs[i])
				}
			}
			overs, counts, ahead = append(overs, over), append(counts, len(f.text)), append(ahead, f)
		}
	}
}

// P24.9: how often and when Next, Stat and Take are asked changes nothing of when frames come.
func TestAskedOften(t *testing.T) {
	for row := range rows(400) {
		d := dice(500 + row)
		c := d.someLink()
		x, y := lay(t, c), lay(t, c)
		var now uint64
		var often []api.Arrival
		for n := range 80 {
			next := now + uint64(d.one(0, 1, 50, d.below(2000000)))
			for range d.below(4) {
				x.l.Next()
				x.l.Stat()
				often = append(often, x.l.Take(now+uint64(d.below(int(next-now)+1)))...)
				now = x.l.Stat().Now
			}
			now = next
			text := d.someText(n)
			if a, b := x.l.Put(now, []byte(text)), y.l.Put(now, []byte(text)); a != b {
				t.Fatalf("%+v: Put %d: %v and %v", c, n, a, b)
			}
		}
		often = append(often, x.l.Take(maxTime)...)
		once := y.l.Take(maxTime)
		if !sameArrivals(often, once) {
			t.Fatalf("%+v: %v and %v", c, often, once)
		}
		if x.l.Stat() != y.l.Stat() {
			t.Fatalf("%+v: %+v and %+v", c, x.l.Stat(), y.l.Stat())
		}
	}
}
