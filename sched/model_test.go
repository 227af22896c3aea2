package sched_test

import (
	"math"
	"math/big"
	"reflect"
	"slices"
	"testing"

	"braid/api"
	"braid/sched"
)

// dice gives the same row of numbers in every run.
type dice uint64

func (d *dice) below(n uint64) uint64 {
	*d = *d*6364136223846793005 + 1442695040888963407
	return uint64(*d) >> 20 % n
}

func (d *dice) one(in uint64) bool { return d.below(in) == 0 }

func (d *dice) oneOf(l ...int) int { return l[d.below(uint64(len(l)))] }

func (d *dice) offset(l ...uint64) uint64 { return l[d.below(uint64(len(l)))] }

// model is a scheduler as the chapter words it.
type model struct {
	kind       int
	weights    []int
	list       []api.Pick
	turn, left int
}

func newModel(kind int, weights []int, list []api.Pick) *model {
	m := &model{kind: kind, weights: slices.Clone(weights), list: slices.Clone(list)}
	m.left = m.weight(0)
	return m
}

func (m *model) weight(path int) int {
	switch {
	case path >= len(m.weights), m.weights[path] < 1:
		return 1
	case m.weights[path] > 255:
		return 255
	}
	return m.weights[path]
}

func room(p api.PathView) bool {
	return p.Usable && p.Window >= 1 && p.Inflight < p.Window
}

func called(v api.View, path int) bool {
	if !v.Paths[path].Usable {
		return false
	}
	if !v.Paths[path].Backup {
		return true
	}
	for _, p := range v.Paths {
		if p.Usable && !p.Backup {
			return false
		}
	}
	return true
}

func timeOf(p api.PathView) uint64 {
	switch {
	case !p.Known:
		return 1000
	case p.Srtt < 1:
		return 1
	case p.Srtt > 60000:
		return 60000
	}
	return p.Srtt
}

// those is the paths on call for which this holds too, the quicker ones first.
func those(v api.View, also func(p api.PathView) bool) []int {
	var l []int
	for i, p := range v.Paths {
		if called(v, i) && also(p) {
			l = append(l, i)
		}
	}
	slices.SortStableFunc(l, func(a, b int) int { return int(timeOf(v.Paths[a])) - int(timeOf(v.Paths[b])) })
	return l
}

func (m *model) next(v api.View) (api.Pick, bool) {
	switch m.kind {
	case api.MinRtt:
		if l := those(v, room); v.Has && len(l) > 0 {
			return want(v, l[0])
		}
	case api.RoundRobin:
		return m.robin(v)
	case api.Redundant:
		return redundant(v)
	case api.Blest:
		return blest(v)
	case api.Replay:
		if len(m.list) > 0 {
			p := m.list[0]
			m.list = m.list[1:]
			if p.Len >= 0 {
				return p, true
			}
		}
	}
	return api.Pick{}, false
}

func want(v api.View, path int) (api.Pick, bool) {
	return api.Pick{Path: path, Off: v.Want.Off, Len: v.Want.Len}, true
}

func (m *model) robin(v api.View) (api.Pick, bool) {
	if !v.Has || len(those(v, room)) == 0 {
		return api.Pick{}, false
	}
	for m.turn >= len(v.Paths) || !called(v, m.turn) || !room(v.Paths[m.turn]) || m.left == 0 {
		m.turn++
		if m.turn >= len(v.Paths) {
			m.turn = 0
		}
		m.left = m.weight(m.turn)
	}
	m.left--
	return want(v, m.turn)
}

func redundant(v api.View) (api.Pick, bool) {
	l := those(v, func(p api.PathView) bool { return room(p) && p.Has })
	if len(l) == 0 {
		return api.Pick{}, false
	}
	slices.Sort(l)
	best := l[0]
	for _, i := range l {
		if v.Paths[i].Next.Off < v.Paths[best].Next.Off {
			best = i
		}
	}
	return api.Pick{Path: best, Off: v.Paths[best].Next.Off, Len: v.Paths[best].Next.Len}, true
}

func blest(v api.View) (api.Pick, bool) {
	wide := those(v, func(p api.PathView) bool { return p.Window >= 1 })
	if !v.Has || len(wide) == 0 {
		return api.Pick{}, false
	}
	if room(v.Paths[wide[0]]) {
		return want(v, wide[0])
	}
	free := those(v, room)
	if len(free) == 0 || holdsUp(v, v.Paths[wide[0]], v.Paths[free[0]]) {
		return api.Pick{}, false
	}
	return want(v, free[0])
}

// within is n, but lo at least and hi at most, as a number that has no end.
func within(n, lo, hi int) *big.Int {
	if n < lo {
		n = lo
	}
	if n > hi {
		n = hi
	}
	return big.NewInt(int64(n))
}

// holdsUp is P10.5's, in numbers that have no end.
func holdsUp(v api.View, f, s api.PathView) bool {
	one, two := big.NewInt(1), big.NewInt(2)
	mss := within(v.Mss, 1, 1024)
	n, rest := new(big.Int).QuoRem(big.NewInt(int64(timeOf(s))), big.NewInt(int64(timeOf(f))), new(big.Int))
	if rest.Sign() > 0 {
		n.Add(n, one)
	}
	x := new(big.Int).Mul(two, within(f.Window, 0, 256))
	x.Add(x, n).Sub(x, one).Mul(x, n).Mul(x, mss).Quo(x, two)
	r := new(big.Int).SetUint64(v.Edge)
	if r.Sub(r, new(big.Int).SetUint64(v.Want.Off)).Sign() < 0 {
		r.SetInt64(0)
	}
	beside := within(s.Inflight, 0, 256)
	beside.Add(beside, one).Mul(beside, mss)
	r.Sub(r, beside)
	return x.Cmp(r) > 0
}

func someChunk(d *dice) api.Chunk {
	c := api.Chunk{
		Off: d.offset(0, 1, 50, 100, 100, 110, 1000, 1<<62, 1<<63, math.MaxUint64),
		Len: d.oneOf(0, 1, 10, 10, 10, 1024, -1, math.MaxInt, math.MinInt),
		Fin: d.one(5),
	}
	if d.one(3) {
		c.On = []int{int(d.below(8))}
	}
	return c
}

func somePath(d *dice) api.PathView {
	p := api.PathView{
		Usable: !d.one(4),
		Backup: d.one(4),
		Known:  !d.one(4),
		Srtt:   d.offset(0, 1, 2, 10, 20, 20, 50, 999, 1000, 1001, 59999, 60000, 60001, math.MaxUint64, d.below(3000)),
		Window: d.oneOf(1, 1, 2, 3, 4, 10, 0, -1, 255, 256, 257, math.MaxInt, math.MinInt),
		Has:    !d.one(4),
		Next:   someChunk(d),
	}
	p.Inflight = d.oneOf(p.Window-1, p.Window-1, p.Window, p.Window, p.Window+1, 0, 1, -1, 255, 256, 257, math.MaxInt, math.MinInt)
	return p
}

// bytesAhead is some room between the wanted chunk and the edge.
func bytesAhead(d *dice) uint64 {
	return d.offset(0, 1, 10, d.below(1<<(1+d.below(44))), 1<<40, 1<<63, math.MaxUint64)
}

func someView(d *dice) api.View {
	v := api.View{
		Has:  !d.one(8),
		Want: someChunk(d),
		Mss:  d.oneOf(1, 4, 10, 10, 1023, 1024, 1025, 0, -1, math.MaxInt, math.MinInt),
	}
	v.Edge = v.Want.Off + bytesAhead(d)
	n := d.below(9)
	if d.one(20) {
		n = d.below(12)
	}
	for range n {
		v.Paths = append(v.Paths, somePath(d))
	}
	return v
}

// alter changes a part of a view, so that rows of calls see much of the same.
func alter(d *dice, v api.View) api.View {
	v = cloned(v)
	switch d.below(8) {
	case 0:
		return someView(d)
	case 1:
		v.Has = !v.Has
	case 2:
		v.Want = someChunk(d)
		v.Edge = v.Want.Off + bytesAhead(d)
	case 3:
		v.Edge = v.Want.Off + bytesAhead(d)
	default:
		if len(v.Paths) > 0 {
			v.Paths[d.below(uint64(len(v.Paths)))] = somePath(d)
		}
	}
	return v
}

func cloned(v api.View) api.View {
	v.Paths = slices.Clone(v.Paths)
	for i := range v.Paths {
		v.Paths[i].Next.On = slices.Clone(v.Paths[i].Next.On)
	}
	v.Want.On = slices.Clone(v.Want.On)
	return v
}

func someWeights(d *dice) []int {
	var l []int
	for range d.below(11) {
		l = append(l, d.oneOf(1, 2, 3, 4, 0, -1, 254, 255, 256, math.MaxInt, math.MinInt))
	}
	return l
}

func somePicks(d *dice, n uint64) []api.Pick {
	var l []api.Pick
	for range n {
		l = append(l, api.Pick{
			Path: d.oneOf(0, 1, 7, 8, -1, math.MaxInt, math.MinInt),
			Off:  d.offset(0, 100, 1<<62, math.MaxUint64),
			Len:  d.oneOf(0, 1, 10, 1024, 1025, -1, math.MaxInt, math.MinInt),
		})
	}
	return l
}

// decided fails unless a decision is one as P10.9 says, and is there where P10.9 says that one is.
func decided(t *testing.T, kind int, v api.View, p api.Pick, ok bool) {
	t.Helper()
	if kind == api.Replay {
		return
	}
	if ok {
		c := v.Want
		if kind == api.Redundant {
			c = v.Paths[p.Path].Next
		}
		if !called(v, p.Path) || !room(v.Paths[p.Path]) || p.Off != c.Off || p.Len != c.Len {
			t.Fatalf("kind %d decides %v of %+v", kind, p, v)
		}
		return
	}
	l := those(v, room)
	if !v.Has || len(l) == 0 || kind == api.Redundant {
		return
	}
	quicker := those(v, func(p api.PathView) bool { return p.Window >= 1 })[0]
	if kind != api.Blest || quicker == l[0] {
		t.Fatalf("kind %d does not decide of %+v", kind, v)
	}
}

// P10.1 to P10.6, P10.9, P10.11 and rule 0.3: the five side by side, over rows of views, against the model; v stays as it was.
func TestAgainstModel(t *testing.T) {
	rows := 1000
	if testing.Short() {
		rows = 100
	}
	d := dice(10)
	seen := [5]int{}
	for range rows {
		var real [5]*sched.Sched
		var models [5]*model
		for kind := range 5 {
			weights, list := someWeights(&d), somePicks(&d, d.below(40))
			real[kind], models[kind] = sched.New(kind, weights, list), newModel(kind, weights, list)
		}
		v := someView(&d)
		for range 60 {
			for kind, s := range real {
				before := cloned(v)
				p, ok := s.Next(v)
				q, want := models[kind].next(v)
				if p != q || ok != want {
					t.Fatalf("kind %d: %v %v, want %v %v, of %+v", kind, p, ok, q, want, v)
				}
				if !reflect.DeepEqual(v, before) {
					t.Fatalf("kind %d has changed the view", kind)
				}
				decided(t, kind, v, p, ok)
				if left := s.Left(); kind == api.Replay && left != len(models[kind].list) || kind != api.Replay && left != 0 {
					t.Fatalf("kind %d has %d left", kind, left)
				}
				if ok {
					seen[kind]++
				}
			}
			v = alter(&d, v)
		}
	}
	for kind, n := range seen {
		if n < rows*5 {
			t.Errorf("kind %d has decided only %d times", kind, n)
		}
	}
}

// P10.5: where Blest has the choice, so that both answers come often.
func TestBlestAgainstModel(t *testing.T) {
	rows := 200000
	if testing.Short() {
		rows = 20000
	}
	d, s := dice(5), sched.New(api.Blest, nil, nil)
	var taken, left int
	for range rows {
		f, g := somePath(&d), somePath(&d)
		f.Usable, f.Backup, f.Inflight = true, false, f.Window
		g.Usable, g.Backup = true, false
		v := api.View{Paths: []api.PathView{f, g}, Has: true, Want: someChunk(&d), Mss: d.oneOf(1, 10, 1024, 2000, int(d.below(1200)))}
		v.Edge = v.Want.Off + bytesAhead(&d)
		p, ok := s.Next(v)
		if q, want := blest(v); p != q || ok != want {
			t.Fatalf("%v %v, want %v %v, of %+v", p, ok, q, want, v)
		}
		switch {
		case len(those(v, room)) == 0 || those(v, func(p api.PathView) bool { return p.Window >= 1 })[0] == 1:
		case ok:
			taken++
		default:
			left++
		}
	}
	if taken < rows/20 || left < rows/20 {
		t.Errorf("%d taken and %d left of %d", taken, left, rows)
	}
}
