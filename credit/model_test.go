package credit_test

import (
	"math/big"
	"slices"
	"testing"

	"braid/api"
	"braid/credit"
)

// dice gives the same row of numbers in every run.
type dice uint64

func (d *dice) below(n int) int {
	*d = *d*6364136223846793005 + 1442695040888963407
	return int(uint64(*d) >> 33 % uint64(n))
}

// rooms are small ones mostly, so that their ends are met often.
func (d *dice) rooms() api.Rooms {
	number := func() uint64 {
		switch d.below(12) {
		case 0:
			return 1
		case 1:
			return 1 << 40
		case 2:
			return 1<<40 - 1
		}
		return uint64(1 + d.below(24))
	}
	return rooms(number(), number(), 1+d.below(4))
}

// near is a number about another one, or any.
func (d *dice) near(n uint64) uint64 {
	switch d.below(12) {
	case 0:
		return n + 1
	case 1, 2:
		return n
	case 3:
		return n - 1 // of 0 the greatest
	case 4:
		return greatest - uint64(d.below(20))
	case 5:
		return 0
	}
	return uint64(d.below(int(min(n, 1<<30)) + 1))
}

// numbersByBook is what the chapter's Words have for a stream and for all together, in numbers that do not wrap round.
type numbersByBook struct {
	stream                      uint64
	sent, may, came, used, told big.Int
	room                        uint64
	isOpen, isDeaf              bool
}

// byBook is a book by the chapter's words: nothing is looked up, all is searched for.
type byBook struct {
	side  int
	own   api.Rooms
	peer  api.Rooms
	ever  []uint64 // each number that was opened
	there []*numbersByBook
}

func number(n uint64) *big.Int { return new(big.Int).SetUint64(n) }

func sum(a *big.Int, b *big.Int) *big.Int { return new(big.Int).Add(a, b) }

func less(a *big.Int, b *big.Int) *big.Int { return new(big.Int).Sub(a, b) }

func newByBook(side int, own, peer api.Rooms) *byBook {
	m := &byBook{side: side, own: own, peer: peer}
	all := &numbersByBook{room: own.All}
	all.may.SetUint64(peer.All)
	all.told.SetUint64(own.All)
	m.there = []*numbersByBook{all}
	return m
}

func (m *byBook) all() *numbersByBook { return m.there[0] }

// find is a stream that is open or left.
func (m *byBook) find(id uint64) *numbersByBook {
	for _, x := range m.there {
		if x.stream == id && id != 0 {
			return x
		}
	}
	return nil
}

func (m *byBook) isOpen(id uint64) bool { return m.find(id) != nil && m.find(id).isOpen }

// leastUnopened is the next number of the streams of a side.
func (m *byBook) leastUnopened(side int) uint64 {
	id := uint64(side + 1)
	for slices.Contains(m.ever, id) {
		id += 2
	}
	return id
}

func (m *byBook) open(id uint64) api.Errno {
	var errors []api.Errno
	who := 0
	if id%2 == 0 {
		who = 1
	}
	if id != m.leastUnopened(who) {
		errors = append(errors, idErr)
	}
	open := 0
	for _, x := range m.there {
		if x.isOpen && x.stream%2 == id%2 {
			open++
		}
	}
	if who == m.side && open >= m.peer.Streams || who != m.side && open >= m.own.Streams {
		errors = append(errors, manyErr)
	}
	if len(errors) > 0 {
		return slices.Min(errors)
	}
	x := &numbersByBook{stream: id, room: m.own.Each, isOpen: true}
	x.may.SetUint64(m.peer.Each)
	x.told.SetUint64(m.own.Each)
	m.there = append(m.there, x)
	m.ever = append(m.ever, id)
	return api.OK
}

func (m *byBook) next() (uint64, bool) {
	id := m.leastUnopened(m.side)
	try := &byBook{side: m.side, own: m.own, peer: m.peer, ever: slices.Clone(m.ever), there: slices.Clone(m.there)}
	if try.open(id) != api.OK {
		return 0, false
	}
	return id, true
}

func (m *byBook) left(id uint64) uint64 {
	switch {
	case id == 0:
		return less(&m.all().may, &m.all().sent).Uint64()
	case m.isOpen(id):
		return less(&m.find(id).may, &m.find(id).sent).Uint64()
	}
	return 0
}

func (m *byBook) room(id uint64) uint64 {
	if id == 0 {
		return 0
	}
	return min(m.left(id), m.left(0))
}

func (m *byBook) spend(id, n uint64) api.Errno {
	switch {
	case !m.isOpen(id):
		return idErr
	case n > m.room(id):
		return overErr
	}
	for _, x := range []*numbersByBook{m.find(id), m.all()} {
		x.sent = *sum(&x.sent, number(n))
	}
	return api.OK
}

func (m *byBook) raise(id, limit uint64) (bool, api.Errno) {
	x := m.all()
	if id != 0 {
		x = m.find(id)
	}
	switch {
	case id != 0 && !m.isOpen(id):
		return false, idErr
	case limit > 1<<62:
		return false, numErr
	case number(limit).Cmp(&x.may) <= 0:
		return false, api.OK
	}
	x.may.SetUint64(limit)
	return true, api.OK
}

func (m *byBook) take(id, n uint64) ([]api.RoomNote, api.Errno) {
	if !m.isOpen(id) {
		return nil, idErr
	}
	both := []*numbersByBook{m.find(id), m.all()}
	for _, x := range both {
		if sum(&x.came, number(n)).Cmp(&x.told) > 0 {
			return nil, overErr
		}
	}
	for _, x := range both {
		x.came = *sum(&x.came, number(n))
	}
	if both[0].isDeaf {
		return m.count(both[0], number(n)), api.OK
	}
	return nil, api.OK
}

func (m *byBook) use(id, n uint64) ([]api.RoomNote, api.Errno) {
	x := m.find(id)
	switch {
	case x == nil:
		return nil, idErr
	case number(n).Cmp(less(&x.came, &x.used)) > 0:
		return nil, noneErr
	}
	return m.count(x, number(n)), api.OK
}

func (m *byBook) waste(id uint64) ([]api.RoomNote, api.Errno) {
	x := m.find(id)
	if x == nil {
		return nil, idErr
	}
	x.isDeaf = true
	return m.count(x, less(&x.came, &x.used)), api.OK
}

// count uses bytes of a stream; what is due.
func (m *byBook) count(s *numbersByBook, n *big.Int) []api.RoomNote {
	var notes []api.RoomNote
	for _, x := range []*numbersByBook{s, m.all()} {
		x.used = *sum(&x.used, n)
		if x == s && (s.isDeaf || !s.isOpen) {
			continue
		}
		limit := sum(&x.used, number(x.room))
		if limit.Cmp(number(1<<62)) > 0 {
			limit = number(1 << 62)
		}
		half := number((x.room + 1) / 2)
		if limit.Cmp(sum(&x.told, half)) >= 0 {
			x.told = *limit
			notes = append(notes, note(x.stream, limit.Uint64()))
		}
	}
	m.clear()
	return notes
}

// clear takes out what is gone.
func (m *byBook) clear() {
	m.there = slices.DeleteFunc(m.there, func(x *numbersByBook) bool {
		return x.stream != 0 && !x.isOpen && x.came.Cmp(&x.used) == 0
	})
}

func (m *byBook) close(id uint64) api.Errno {
	if !m.isOpen(id) {
		return idErr
	}
	m.find(id).isOpen = false
	m.clear()
	return api.OK
}

func (m *byBook) view() []api.RoomView {
	var l []api.RoomView
	for id := uint64(0); len(l) < len(m.there); id++ {
		for _, x := range m.there {
			if x.stream == id {
				l = append(l, api.RoomView{Stream: id, Sent: x.sent.Uint64(), May: x.may.Uint64(), Came: x.came.Uint64(), Used: x.used.Uint64(), Told: x.told.Uint64(), Deaf: x.isDeaf})
			}
		}
	}
	return l
}

// id is the number of a stream that is there, or was, or may come next, or of none.
func (m *byBook) id(d *dice) uint64 {
	switch d.below(16) {
	case 0:
		return 0
	case 1:
		return greatest - uint64(d.below(2))
	case 2, 3:
		return uint64(d.below(len(m.ever) + 6))
	}
	if len(m.there) == 1 {
		return uint64(1 + d.below(2))
	}
	return m.there[1+d.below(len(m.there)-1)].stream
}

// of is the numbers of a stream, or of all together if there is none.
func (m *byBook) of(id uint64) *numbersByBook {
	if x := m.find(id); x != nil {
		return x
	}
	return m.all()
}

// both makes one call, any, of the book and of its model.
func both(d *dice, b *credit.Book, m *byBook) (name string, got, want []api.RoomNote, e, f api.Errno) {
	id := m.id(d)
	x := m.of(id)
	switch d.below(10) {
	case 0, 1:
		if d.below(3) > 0 {
			id = m.leastUnopened(d.below(2))
		}
		return "Open", nil, nil, b.Open(id), m.open(id)
	case 2:
		n := d.near(m.room(id))
		return "Spend", nil, nil, b.Spend(id, n), m.spend(id, n)
	case 3:
		n := d.near(x.may.Uint64())
		if d.below(3) == 0 {
			n = d.near(1 << 62)
		}
		rose, e := b.Raise(id, n)
		rises, f := m.raise(id, n)
		if rose != rises {
			return "Raise, whether it rose", nil, nil, 1, 0
		}
		return "Raise", nil, nil, e, f
	case 4, 5:
		n := d.near(min(less(&x.told, &x.came).Uint64(), less(&m.all().told, &m.all().came).Uint64()))
		got, e := b.Take(id, n)
		want, f := m.take(id, n)
		return "Take", got, want, e, f
	case 6, 7:
		n := d.near(less(&x.came, &x.used).Uint64())
		got, e := b.Use(id, n)
		want, f := m.use(id, n)
		return "Use", got, want, e, f
	case 8:
		if d.below(3) > 0 {
			return "", nil, nil, 0, 0
		}
		got, e := b.Waste(id)
		want, f := m.waste(id)
		return "Waste", got, want, e, f
	}
	return "Close", nil, nil, b.Close(id), m.close(id)
}

// asked holds all that can be asked of a book against its model.
func asked(t *testing.T, b *credit.Book, m *byBook) bool {
	t.Helper()
	if v, w := b.View(), m.view(); !slices.Equal(v, w) {
		t.Errorf("View: %v, want %v", v, w)
		return false
	}
	id, may := b.Next()
	if i, ok := m.next(); i != id || ok != may {
		t.Errorf("Next: %d, %v, want %d, %v", id, may, i, ok)
		return false
	}
	for id := range uint64(len(m.ever) + 4) {
		if b.Left(id) != m.left(id) || b.Room(id) != m.room(id) {
			t.Errorf("Left and Room of %d: %d, %d, want %d, %d", id, b.Left(id), b.Room(id), m.left(id), m.room(id))
			return false
		}
	}
	return true
}

// P18.1 to P18.9: any calls, one behind the other, of a book and of its model.
func TestRows(t *testing.T) {
	d := dice(18)
	seen := map[string]int{}
	for range 500 {
		side, own, peer := d.below(2), d.rooms(), d.rooms()
		c, m := book(t, side, own, peer), newByBook(side, own, peer)
		for range 120 {
			name, got, want, e, f := both(&d, c.b, m)
			if e != f || !slices.Equal(got, want) {
				t.Fatalf("%s: %v, %d, want %v, %d", name, got, e, want, f)
			}
			if !asked(t, c.b, m) {
				t.Fatalf("behind %s", name)
			}
			follows(t, c.b, m)
			seen[name+" "+f.Error()]++
			if len(got) > 0 {
				seen[name+" tells"]++
			}
		}
	}
	// The rows are worth something only if they meet each answer often.
	for _, what := range []string{"Open error 0", "Open error 181", "Open error 182", "Spend error 0", "Spend error 181", "Spend error 183", "Raise error 0", "Raise error 181", "Raise error 184", "Take error 0", "Take error 181", "Take error 183", "Take tells", "Use error 0", "Use error 181", "Use error 185", "Use tells", "Waste error 0", "Waste error 181", "Waste tells", "Close error 0", "Close error 181"} {
		if seen[what] < 40 {
			t.Errorf("%s: only %d times", what, seen[what])
		}
	}
}

// follows is P18.10 (its first sentence), P18.11 and P18.12 of what a book shows.
func follows(t *testing.T, b *credit.Book, m *byBook) {
	t.Helper()
	views := b.View()
	all, streams := views[0], views[1:]
	unused := uint64(0)
	for i, v := range views {
		room := m.own.Each
		if i == 0 {
			room = m.own.All
		} else {
			unused += v.Came - v.Used
		}
		if v.Sent > v.May || v.Used > v.Came || v.Came > v.Told || v.Told > v.Used+room {
			t.Fatalf("P18.10: %+v, with a room of %d", v, room)
		}
		if v.Came == v.Used && !v.Deaf && v.Told-v.Came <= room/2 {
			t.Fatalf("P18.12: %+v, with a room of %d", v, room)
		}
	}
	if all.Came-all.Used != unused {
		t.Fatalf("P18.11: %+v, and of the streams %d are not used", all, unused)
	}
	if len(streams) == 0 && all.Came != all.Used {
		t.Fatalf("P18.11: %+v without streams", all)
	}
}

// P18.11: whatever was opened, taken, used, wasted and closed: when no stream is open or left the limit is the whole of All ahead of what came, told or not yet due.
func TestNoLeak(t *testing.T) {
	d := dice(1811)
	for range 200 {
		side, own, peer := d.below(2), d.rooms(), d.rooms()
		c, m := book(t, side, own, peer), newByBook(side, own, peer)
		for range 60 {
			both(&d, c.b, m)
		}
		for _, v := range c.b.View()[1:] {
			finish(&d, c.b, v)
		}
		all := c.b.View()
		if len(all) != 1 || all[0].Came != all[0].Used {
			t.Fatalf("%v, and there should be no stream", all)
		}
		if behind := all[0].Came + own.All - all[0].Told; behind >= (own.All+1)/2 {
			t.Fatalf("%v, and All is %d: the limit is due", all, own.All)
		}
	}
}

// finish uses or wastes the rest of a stream and closes it, in either order.
func finish(d *dice, b *credit.Book, v api.RoomView) {
	first := d.below(2) == 0
	if first {
		b.Close(v.Stream)
	}
	if d.below(2) == 0 {
		b.Use(v.Stream, v.Came-v.Used)
	} else {
		b.Waste(v.Stream)
	}
	if !first {
		b.Close(v.Stream)
	}
}
