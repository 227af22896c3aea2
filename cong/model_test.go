package cong_test

import (
	"math"
	"math/big"
	"testing"

	"braid/api"
	"braid/cong"
)

// dice gives the same row of numbers in every run.
type dice uint64

func (d *dice) below(n uint64) uint64 {
	*d = *d*6364136223846793005 + 1442695040888963407
	return uint64(*d) >> 20 % n
}

func (d *dice) among(list ...int) int { return list[d.below(uint64(len(list)))] }

// mark is a path as the chapter words it.
type mark struct {
	cwnd, thresh int
	taken, known bool
	time         uint64
}

func (m mark) counts() bool { return m.taken && m.known }

// model is a Group as the chapter words it; steps are reckoned in numbers that have no end.
type model []mark

func newModel(paths int) model {
	m := make(model, paths)
	for i := range m {
		m[i] = mark{cwnd: 10240, thresh: 262144}
	}
	return m
}

func (m model) there(path int) bool { return path >= 0 && path < len(m) }

// product is these numbers multiplied, and quotient that divided by the other ones, rounded down.
func product(list ...uint64) *big.Int {
	p := big.NewInt(1)
	for _, x := range list {
		p.Mul(p, new(big.Int).SetUint64(x))
	}
	return p
}

func quotient(t *testing.T, above, below *big.Int) uint64 {
	t.Helper()
	if above.Cmp(product(1<<62)) > 0 || below.Cmp(product(1<<62)) > 0 {
		t.Fatalf("a number above 2^62 on the way: %v / %v", above, below)
	}
	return new(big.Int).Quo(above, below).Uint64()
}

// alpha is P6.5's, with T.
func (m model) alpha(t *testing.T) (alpha, all uint64) {
	t.Helper()
	least := uint64(math.MaxUint64)
	for _, x := range m {
		if x.counts() {
			least = min(least, x.time)
		}
	}
	var sum, best uint64
	for _, x := range m {
		if !x.counts() {
			continue
		}
		c, r := uint64(x.cwnd), x.time
		sum += quotient(t, product(c, 16, least), product(r))
		best = max(best, quotient(t, product(c, 16, least, least), product(r, r)))
		all += c
	}
	q := quotient(t, product(best, 1048576), product(sum))
	p := quotient(t, product(all, 8192), product(sum))
	return quotient(t, product(q, p), product(1048576)), all
}

func (m model) step(t *testing.T, path int) int {
	t.Helper()
	own := 1048576 / m[path].cwnd
	if !m[path].counts() {
		return own
	}
	alpha, all := m.alpha(t)
	coupled := int(quotient(t, product(alpha, 2048), product(all)))
	return max(1, min(own, coupled))
}

func (m model) acked(t *testing.T, path, frames int) {
	t.Helper()
	if !m.there(path) {
		return
	}
	for x := &m[path]; frames > 0 && x.cwnd < 262144; frames-- {
		if x.cwnd < x.thresh {
			x.cwnd = min(x.cwnd+1024, x.thresh)
		} else {
			x.cwnd = min(x.cwnd+m.step(t, path), 262144)
		}
	}
}

func (m model) lose(path int, all bool) {
	if !m.there(path) {
		return
	}
	x := &m[path]
	x.thresh = max(x.cwnd/2, 2048)
	x.cwnd = x.thresh
	if all {
		x.cwnd = 1024
	}
}

func (m model) take(path int, on bool) {
	if m.there(path) {
		m[path].taken = on
	}
}

func (m model) rtt(path int, ms uint64) {
	if m.there(path) {
		m[path].time, m[path].known = min(max(ms, 1), 60000), true
	}
}

// someTime is mostly one of a size, at times one at an end.
func someTime(d *dice) uint64 {
	ends := []uint64{0, 1, 2, api.MaxRto - 1, api.MaxRto, api.MaxRto + 1, 1 << 63, math.MaxUint64}
	if d.below(4) == 0 {
		return ends[d.below(uint64(len(ends)))]
	}
	return d.below(1 << (1 + d.below(17)))
}

// oneCall makes the same call of both.
func oneCall(t *testing.T, d *dice, g *cong.Group, m model) {
	t.Helper()
	path := int(d.below(uint64(len(m))))
	if d.below(30) == 0 {
		path = d.among(-1, len(m), api.MaxPaths, math.MaxInt, math.MinInt)
	}
	switch d.below(12) {
	case 0:
		g.Cut(path)
		m.lose(path, false)
	case 1:
		g.Timeout(path)
		m.lose(path, true)
	case 2, 3:
		on := d.below(3) > 0
		g.Take(path, on)
		m.take(path, on)
	case 4, 5:
		ms := someTime(d)
		g.Rtt(path, ms)
		m.rtt(path, ms)
	default:
		frames := d.among(math.MinInt, -1, 0, 1, 1, 1, 2, 3, 7, 40, 300)
		g.Acked(path, frames)
		m.acked(t, path, frames)
	}
}

// same holds all windows of a Group against the model, and against P6.3 and P6.7.
func same(t *testing.T, g *cong.Group, m model) {
	t.Helper()
	for path := -1; path <= api.MaxPaths; path++ {
		w, frames := g.Window(path), g.Frames(path)
		if !m.there(path) {
			if w != (api.Window{}) || frames != 0 {
				t.Fatalf("path %d is not there: %v, %d frames", path, w, frames)
			}
			continue
		}
		if want := (api.Window{Cwnd: m[path].cwnd, Thresh: m[path].thresh}); w != want || frames != want.Cwnd/1024 {
			t.Fatalf("path %d: %v, %d frames, want %v", path, w, frames, want)
		}
		if w.Cwnd < 1024 || w.Cwnd > 262144 || w.Thresh < 2048 || w.Thresh > 262144 || frames < 1 || frames > 256 {
			t.Fatalf("path %d out of its bounds: %v, %d frames", path, w, frames)
		}
	}
}

// P6.1 to P6.7 and P6.9: rows of calls, each held against the model.
func TestModel(t *testing.T) {
	d := dice(6)
	rows := 300
	if testing.Short() {
		rows = 30
	}
	for range rows {
		paths := 1 + int(d.below(api.MaxPaths))
		g, m := cong.New(paths), newModel(paths)
		same(t, g, m)
		for range 120 {
			oneCall(t, &d, g, m)
			same(t, g, m)
		}
	}
}
