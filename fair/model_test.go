package fair_test

import (
	"math"
	"math/big"
	"slices"
	"testing"

	"braid/api"
	"braid/fair"
)

// dice gives the same row of numbers in every run.
type dice uint64

func (d *dice) below(n int) int {
	*d = *d*6364136223846793005 + 1442695040888963407
	return int(uint64(*d) >> 33 % uint64(n))
}

// one is one of these.
func (d *dice) one(of ...int) int { return of[d.below(len(of))] }

// near is a number about another one, or any.
func (d *dice) near(n int) int {
	switch d.below(12) {
	case 0, 1:
		return n
	case 2:
		return n + 1
	case 3:
		return n - 1
	case 4:
		return d.one(0, -1, math.MinInt, math.MinInt+1)
	case 5:
		return d.one(math.MaxInt, math.MaxInt-1, 1<<40, 1<<40+1, 1<<62)
	}
	return 1 + d.below(min(max(n, 1), 1<<30))
}

// streamByBook is a stream by the chapter's words, its bytes in numbers that do not wrap round.
type streamByBook struct {
	id           uint64
	class, share int
	waits        big.Int
	place        int // the later it went to the end of its row, the greater
	begun        bool
	credit       big.Int
	said, given  big.Int // by all Mores and Nexts
	ahead        big.Int // what others of its class were given since its own last bytes, or its joining
	bound        big.Int // of ahead, by P19.9
	barred       bool    // bytes of a lower class have waited since then
}

// byBook has no rows: whose turn it is is searched for among all streams.
type byBook struct {
	quantum int
	there   []*streamByBook
	places  int
}

func number(n int) *big.Int { return big.NewInt(int64(n)) }

func newByBook(quantum int) *byBook {
	switch {
	case quantum < 1:
		quantum = 1
	case quantum > 65536:
		quantum = 65536
	}
	return &byBook{quantum: quantum}
}

func (m *byBook) find(id uint64) *streamByBook {
	for _, s := range m.there {
		if s.id == id {
			return s
		}
	}
	return nil
}

func (m *byBook) add(id uint64, class, share int) api.Errno {
	for _, x := range []struct {
		applies bool
		e       api.Errno
	}{
		{m.find(id) != nil, idErr},
		{!slices.Contains([]int{0, 1, 2, 3, 4, 5, 6, 7}, class), classErr},
		{share <= 0 || share >= 256, shareErr},
		{len(m.there) == 1024, fullErr},
	} {
		if x.applies {
			return x.e
		}
	}
	m.there = append(m.there, &streamByBook{id: id, class: class, share: share})
	return api.OK
}

func (m *byBook) remove(id uint64) api.Errno {
	s := m.find(id)
	if s == nil {
		return idErr
	}
	m.there = slices.DeleteFunc(m.there, func(x *streamByBook) bool { return x == s })
	return api.OK
}

func (m *byBook) more(id uint64, n int) api.Errno {
	s := m.find(id)
	if s == nil {
		return idErr
	}
	sum := new(big.Int).Add(&s.waits, number(n))
	if n < 1 || sum.Cmp(number(1<<40)) > 0 {
		return moreErr
	}
	if s.waits.Sign() == 0 {
		m.toEnd(s)
		m.watch(s)
	}
	s.waits = *sum
	s.said.Add(&s.said, number(n))
	m.bar(s)
	return api.OK
}

func (m *byBook) toEnd(s *streamByBook) {
	m.places++
	s.place = m.places
}

// watch begins P19.9's reckoning of what others are given ahead of a stream's next bytes.
func (m *byBook) watch(s *streamByBook) {
	s.ahead, s.bound = big.Int{}, big.Int{}
	for _, x := range m.there {
		if x != s && x.class == s.class {
			s.bound.Add(&s.bound, number(m.quantum*x.share))
		}
	}
	s.barred = m.lowerWaits(s.class)
}

func (m *byBook) lowerWaits(class int) bool {
	return slices.ContainsFunc(m.there, func(x *streamByBook) bool { return x.class < class && x.waits.Sign() > 0 })
}

// bar notes at all streams of higher classes that a lower one waits.
func (m *byBook) bar(s *streamByBook) {
	for _, x := range m.there {
		if x.class > s.class {
			x.barred = true
		}
	}
}

// first is the stream that is to have a turn: of those that wait the one of the lowest class, among these the one that stands there longest.
func (m *byBook) first() *streamByBook {
	var best *streamByBook
	for _, s := range m.there {
		if s.waits.Sign() > 0 && (best == nil || s.class < best.class || s.class == best.class && s.place < best.place) {
			best = s
		}
	}
	return best
}

func (m *byBook) next(most int) (api.Turn, bool) {
	s := m.first()
	if s == nil || most < 1 {
		return api.Turn{}, false
	}
	if !s.begun {
		s.begun = true
		s.credit.Mul(number(m.quantum), number(s.share))
	}
	n := number(most)
	for _, x := range []*big.Int{&s.waits, &s.credit} {
		if x.Cmp(n) < 0 {
			n = new(big.Int).Set(x)
		}
	}
	for _, x := range []*big.Int{&s.waits, &s.credit} {
		x.Sub(x, n)
	}
	m.give(s, n)
	switch {
	case s.waits.Sign() == 0:
		s.begun, s.credit = false, big.Int{}
	case s.credit.Sign() == 0:
		s.begun = false
		m.toEnd(s)
	}
	return api.Turn{Id: s.id, N: int(n.Int64())}, true
}

// give notes bytes for what follows: P19.6 and P19.9.
func (m *byBook) give(s *streamByBook, n *big.Int) {
	s.given.Add(&s.given, n)
	for _, x := range m.there {
		if x != s && x.class == s.class {
			x.ahead.Add(&x.ahead, n)
		}
	}
	m.watch(s)
}

func (m *byBook) view() []api.FairView {
	var l []api.FairView
	for _, s := range m.there {
		l = append(l, look(s.id, s.class, s.share, int(s.waits.Int64()), int(s.credit.Int64())))
	}
	slices.SortFunc(l, func(a, b api.FairView) int {
		if a.Id < b.Id {
			return -1
		}
		return 1
	})
	return l
}

func (m *byBook) waiting() int {
	sum := new(big.Int)
	for _, s := range m.there {
		sum.Add(sum, &s.waits)
	}
	return int(sum.Int64())
}

// id is the number of a stream that is there, mostly.
func (m *byBook) id(d *dice) uint64 {
	if len(m.there) == 0 || d.below(8) == 0 {
		return uint64(d.below(12))
	}
	return m.there[d.below(len(m.there))].id
}

// kind is a class and a share that may be, mostly.
func (d *dice) kind(classes int) (class, share int) {
	class, share = d.below(classes), 1+d.below(4)
	switch d.below(16) {
	case 0:
		class = d.one(-1, 8, math.MinInt, math.MaxInt)
	case 1:
		share = d.one(0, -1, 256, math.MinInt, math.MaxInt)
	case 2:
		class, share = d.one(-1, 8), d.one(0, 256)
	case 3:
		class, share = 7, 255
	}
	return class, share
}

// both makes one call, any, of a Fair and of its model: its name, and both answers.
func both(d *dice, f *fair.Fair, m *byBook, classes int) (name string, got, want api.Turn, e, g api.Errno) {
	id := m.id(d)
	switch d.below(16) {
	case 0, 1, 2:
		if d.below(4) > 0 {
			id = uint64(d.below(12))
		}
		class, share := d.kind(classes)
		return "Add", got, want, f.Add(id, class, share), m.add(id, class, share)
	case 3:
		return "Remove", got, want, f.Remove(id), m.remove(id)
	case 4, 5, 6, 7:
		n := m.amount(d, id)
		return "More", got, want, f.More(id, n), m.more(id, n)
	}
	most := m.most(d)
	got, e = asError(f.Next(most))
	want, g = asError(m.next(most))
	return "Next", got, want, e, g
}

// amount is a number of bytes: about a turn's, or about as many as may still wait.
func (m *byBook) amount(d *dice, id uint64) int {
	s := m.find(id)
	if s == nil {
		return d.near(5)
	}
	if d.below(8) == 0 {
		return d.near(1<<40 - int(s.waits.Int64()))
	}
	return d.near(m.quantum * s.share)
}

// most is about the bytes or the credit of the stream whose turn it is.
func (m *byBook) most(d *dice) int {
	s := m.first()
	if s == nil {
		return d.near(5)
	}
	if d.below(2) == 0 {
		return d.near(int(s.waits.Int64()))
	}
	return d.near(m.quantum * s.share)
}

// asError tells a turn that there is not as error 1.
func asError(turn api.Turn, ok bool) (api.Turn, api.Errno) {
	if ok {
		return turn, api.OK
	}
	return turn, 1
}

// P19.1 to P19.7 and P19.9: any calls, one behind the other, of a Fair and of its model.
func TestRows(t *testing.T) {
	d := dice(19)
	seen := map[string]int{}
	for range 600 {
		quantum, classes := d.one(0, 1, 2, 3, 7, 10, 65536, 65537), 1+d.below(3)
		f, m := fair.New(quantum), newByBook(quantum)
		for range 150 {
			before, first := m.view(), m.first()
			name, got, want, e, g := both(&d, f, m, classes)
			if e != g || got != want {
				t.Fatalf("%s: %v, %d, want %v, %d, behind %v", name, got, e, want, g, before)
			}
			if v, w := f.View(), m.view(); !slices.Equal(v, w) || f.Waiting() != m.waiting() {
				t.Fatalf("behind %s: %v, Waiting %d, want %v, %d", name, v, f.Waiting(), w, m.waiting())
			}
			if name == "Next" && e == api.OK {
				strict(t, before, got)
				seen[ending(first)]++
			}
			follows(t, m)
			seen[name+" "+g.Error()]++
		}
	}
	// The rows are worth something only if they meet each answer often.
	for _, what := range []string{"Add error 0", "Add error 190", "Add error 191", "Add error 192", "Remove error 0", "Remove error 190", "More error 0", "More error 190", "More error 193", "Next error 0", "Next error 1", "the turn goes on", "none waits", "the credit is spent"} {
		if seen[what] < 400 {
			t.Errorf("%s: only %d times", what, seen[what])
		}
	}
}

// ending is what became of a turn.
func ending(s *streamByBook) string {
	switch {
	case s.begun:
		return "the turn goes on"
	case s.waits.Sign() == 0:
		return "none waits"
	}
	return "the credit is spent"
}

// strict is P19.6's first sentence and P19.7, of what was looked at ahead of a turn.
func strict(t *testing.T, before []api.FairView, turn api.Turn) {
	t.Helper()
	at := slices.IndexFunc(before, func(v api.FairView) bool { return v.Id == turn.Id })
	if at < 0 || turn.N < 1 || turn.N > before[at].Waiting {
		t.Fatalf("P19.6: %v, of %v", turn, before)
	}
	for _, v := range before {
		if v.Class < before[at].Class && v.Waiting > 0 {
			t.Fatalf("P19.7: %v, though of stream %d bytes wait", turn, v.Id)
		}
	}
}

// follows is P19.6's second sentence and P19.9. The model's sums are the program's own, as each turn was held against it.
func follows(t *testing.T, m *byBook) {
	t.Helper()
	for _, s := range m.there {
		if s.given.Cmp(&s.said) > 0 {
			t.Fatalf("P19.6: of stream %d %v were given, and %v said", s.id, &s.given, &s.said)
		}
		if s.waits.Sign() > 0 && !s.barred && s.ahead.Cmp(&s.bound) > 0 {
			t.Fatalf("P19.9: ahead of stream %d others were given %v, more than %v", s.id, &s.ahead, &s.bound)
		}
	}
}

// P19.6: whatever was called, Nexts go on till all that waits is given, neither less nor more.
func TestWorkGoesOn(t *testing.T) {
	d := dice(196)
	for range 300 {
		quantum, classes := d.one(1, 2, 5, 65536), 1+d.below(8)
		f, m := fair.New(quantum), newByBook(quantum)
		for range 60 {
			both(&d, f, m, classes)
		}
		for _, v := range f.View() {
			if v.Waiting > 1000 {
				f.Remove(v.Id)
			}
		}
		left := map[uint64]int{}
		for _, v := range f.View() {
			left[v.Id] = v.Waiting
		}
		for f.Waiting() > 0 {
			turn, ok := f.Next(1 + d.below(9))
			if !ok || turn.N < 1 || turn.N > left[turn.Id] {
				t.Fatalf("%v, %v, and of it %d wait", turn, ok, left[turn.Id])
			}
			left[turn.Id] -= turn.N
		}
		for id, n := range left {
			if n != 0 {
				t.Fatalf("nothing waits, and %d bytes of stream %d were not given", n, id)
			}
		}
		if turn, ok := f.Next(math.MaxInt); ok || turn != (api.Turn{}) {
			t.Fatalf("nothing waits, and %v", turn)
		}
	}
}

// P19.2: calls that answer an error, and Nexts that have no turn, change nothing: not the order of the rows either. A twin that is spared them answers the same.
func TestErrorsChangeNothing(t *testing.T) {
	d := dice(192)
	for range 300 {
		quantum := d.one(1, 3, 10)
		f, twin, m := fair.New(quantum), fair.New(quantum), newByBook(quantum)
		for range 100 {
			if _, _, _, e, _ := both(&d, f, m, 2); e == api.OK {
				follow(twin, f)
			}
		}
		for range 400 {
			a, ok := f.Next(4)
			b, may := twin.Next(4)
			if a != b || ok != may {
				t.Fatalf("%v, %v, and without the errors %v, %v", a, ok, b, may)
			}
		}
	}
}

// follow makes of a twin the call that was just made of the other one: the two looks tell which.
func follow(twin, f *fair.Fair) {
	was := map[uint64]api.FairView{}
	for _, v := range twin.View() {
		was[v.Id] = v
	}
	for _, v := range f.View() {
		old, there := was[v.Id]
		delete(was, v.Id)
		switch {
		case !there:
			twin.Add(v.Id, v.Class, v.Share)
		case v.Waiting > old.Waiting:
			twin.More(v.Id, v.Waiting-old.Waiting)
		case v.Waiting < old.Waiting:
			twin.Next(old.Waiting - v.Waiting)
		}
	}
	for id := range was {
		twin.Remove(id)
	}
}
