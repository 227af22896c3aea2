package credit_test

import (
	"testing"

	"braid/api"
	"braid/credit"
)

// letter is what one side lets the other one know: 'o'pen, 'b'ytes, 'r'oom, 'c'lose.
type letter struct {
	kind  byte
	id, n uint64
}

// party is a side with its book, the letters that are under way to the other one, and the streams that are open in its book.
type party struct {
	t    *testing.T
	d    *dice
	b    *credit.Book
	own  api.Rooms
	away []letter
	open []uint64
}

// pair is two sides with each other's rooms.
func pair(t *testing.T, d *dice) [2]*party {
	own, peer := d.rooms(), d.rooms()
	return [2]*party{
		{t: t, d: d, b: book(t, 0, own, peer).b, own: own},
		{t: t, d: d, b: book(t, 1, peer, own).b, own: peer},
	}
}

func (p *party) ok(what string, e api.Errno) {
	p.t.Helper()
	if e != api.OK {
		p.t.Fatalf("%s: %d", what, e)
	}
}

func (p *party) isOpen(id uint64) bool { return p.place(id) >= 0 }

func (p *party) place(id uint64) int {
	for i, x := range p.open {
		if x == id {
			return i
		}
	}
	return -1
}

// some is any of its open streams; 0, if there is none.
func (p *party) some() uint64 {
	if len(p.open) == 0 {
		return 0
	}
	return p.open[p.d.below(len(p.open))]
}

func (p *party) tell(notes []api.RoomNote, e api.Errno) {
	p.t.Helper()
	p.ok("what tells", e)
	for _, n := range notes {
		p.away = append(p.away, letter{'r', n.Stream, n.Limit})
	}
}

func (p *party) begin() {
	if id, may := p.b.Next(); may {
		p.ok("Open of Next", p.b.Open(id))
		p.open = append(p.open, id)
		p.away = append(p.away, letter{'o', id, 0})
	}
}

func (p *party) spend() {
	id := p.some()
	if id == 0 {
		return
	}
	n := p.b.Room(id)
	if p.d.below(2) == 0 {
		n = uint64(p.d.below(int(min(n, 1<<30)) + 1))
	}
	p.ok("Spend of the room", p.b.Spend(id, n))
	p.away = append(p.away, letter{'b', id, n})
}

// use uses some of what has come on any stream, open or left.
func (p *party) use() {
	views := p.b.View()
	v := views[p.d.below(len(views))]
	if v.Stream == 0 {
		return
	}
	n := v.Came - v.Used
	if p.d.below(2) == 0 {
		n = uint64(p.d.below(int(min(n, 1<<30)) + 1))
	}
	p.tell(p.b.Use(v.Stream, n))
}

func (p *party) waste() {
	if id := p.some(); id != 0 {
		p.tell(p.b.Waste(id))
	}
}

func (p *party) close(id uint64) {
	if i := p.place(id); i >= 0 {
		p.ok("Close", p.b.Close(id))
		p.open = append(p.open[:i], p.open[i+1:]...)
	}
}

// hear is what comes of the first letter of the other side's.
func (p *party) hear(other *party) {
	p.t.Helper()
	if len(other.away) == 0 {
		return
	}
	l := other.away[0]
	other.away = other.away[1:]
	switch l.kind {
	case 'o':
		p.ok("Open that Next allowed", p.b.Open(l.id))
		p.open = append(p.open, l.id)
	case 'b':
		if p.isOpen(l.id) {
			p.tell(p.b.Take(l.id, l.n))
		} else if _, e := p.b.Take(l.id, l.n); e != idErr {
			p.t.Fatalf("Take of a stream that is not open: %d", e)
		}
	case 'r':
		rose, e := p.b.Raise(l.id, l.n)
		if l.id != 0 && !p.isOpen(l.id) {
			if rose || e != idErr {
				p.t.Fatalf("Raise of a stream that is not open: %v, %d", rose, e)
			}
		} else if !rose || e != api.OK {
			p.t.Fatalf("a limit that was told is no news: %v, %d", rose, e)
		}
	case 'c':
		p.close(l.id)
	}
}

func (p *party) step(other *party, closes bool) {
	p.t.Helper()
	switch p.d.below(12) {
	case 0:
		p.begin()
	case 1, 2, 3:
		p.spend()
	case 4, 5:
		p.use()
	case 6:
		if p.d.below(8) == 0 {
			p.waste()
		}
	case 7:
		if id := p.some(); closes && id != 0 {
			p.close(id)
			p.away = append(p.away, letter{'c', id, 0})
		}
	default:
		p.hear(other)
	}
}

// P18.10: two books with letters under way between them, in their order: no Take on an open stream is refused, nor an Open that Next allowed; and each limit that was told is news.
func TestPair(t *testing.T) {
	d := dice(1810)
	for range 400 {
		two := pair(t, &d)
		for range 300 {
			i := d.below(2)
			two[i].step(two[1-i], true)
		}
		settle(two)
	}
}

// settle lets all letters arrive.
func settle(two [2]*party) {
	for len(two[0].away)+len(two[1].away) > 0 {
		two[0].hear(two[1])
		two[1].hear(two[0])
	}
}

// P18.10, P18.12: as long as nothing is closed, all that one side may still send is what the other one still takes; and behind all letters, with all used, more than half of each room is there again.
func TestPairAtRest(t *testing.T) {
	d := dice(1812)
	for range 200 {
		two := pair(t, &d)
		for range 200 {
			i := d.below(2)
			two[i].step(two[1-i], false)
		}
		settle(two)
		for i, p := range two {
			for _, v := range p.b.View()[1:] {
				p.tell(p.b.Use(v.Stream, v.Came-v.Used))
			}
			settle(two)
			atRest(t, p, two[1-i])
		}
	}
}

// atRest holds what one side has told against what the other one may send.
func atRest(t *testing.T, taker, sender *party) {
	t.Helper()
	takes, sends := taker.b.View(), sender.b.View()
	if len(takes) != len(sends) {
		t.Fatalf("%v and %v", takes, sends)
	}
	room := taker.own.All
	for i, v := range takes {
		w := sends[i]
		if v.Stream != w.Stream || v.Told != w.May || v.Came != w.Sent || v.Came != v.Used {
			t.Fatalf("%+v and %+v", v, w)
		}
		if n := sender.b.Left(v.Stream); !v.Deaf && n <= room/2 {
			t.Fatalf("%+v: only %d may go out, of a room of %d", v, n, room)
		}
		room = taker.own.Each
	}
}
