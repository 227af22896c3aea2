package rtt_test

import (
	"math/big"
	"testing"

	"braid/api"
	"braid/rtt"
)

// dice gives the same row of numbers in every run.
type dice uint64

func (d *dice) below(n uint64) uint64 {
	*d = *d*6364136223846793005 + 1442695040888963407
	return uint64(*d) >> 20 % n
}

// model is an Est as the chapter words it, in numbers that have a sign and no end.
type model struct {
	s, v         *big.Int
	known        bool
	backs        int
	least, great uint64
}

func number(x uint64) *big.Int { return new(big.Int).SetUint64(x) }

func (m *model) sample(ms uint64) {
	ms = min(ms, 60000)
	if !m.known {
		m.s = new(big.Int).Mul(number(8), number(ms))
		m.v = new(big.Int).Mul(number(2), number(ms))
		m.known, m.least, m.great = true, ms, ms
		return
	}
	d := new(big.Int).Sub(number(ms), new(big.Int).Div(m.s, number(8)))
	m.s.Add(m.s, d)
	quarter := new(big.Int).Div(m.v, number(4))
	m.v.Add(m.v, d.Abs(d)).Sub(m.v, quarter)
	m.least, m.great = min(m.least, ms), max(m.great, ms)
}

func (m *model) rto() uint64 {
	r := uint64(1000)
	if m.known {
		s := m.s.Uint64() / 8
		r = min(max(s+m.v.Uint64(), s+1, 200), 60000)
	}
	for range m.backs {
		r = min(2*r, 60000)
	}
	return r
}

func (m *model) look() look {
	l := look{rto: m.rto(), known: m.known, backs: m.backs}
	if m.known {
		l.srtt, l.dev = m.s.Uint64()/8, m.v.Uint64()/4
	}
	return l
}

// someTime is a sample: mostly of one size, at times at an end or anywhere.
func someTime(d *dice, size uint64) uint64 {
	ends := []uint64{0, 1, api.MinRto, api.MaxRto - 1, api.MaxRto, api.MaxRto + 1, 1 << 63, 1<<64 - 1}
	switch d.below(12) {
	case 0:
		return ends[d.below(uint64(len(ends)))]
	case 1:
		return d.below(1 << 40)
	}
	return d.below(size)
}

// follows holds what an Est tells against P5.6, P5.7 and P5.3.
func follows(t *testing.T, m *model, l look) {
	t.Helper()
	if l.rto < api.MinRto || l.rto > api.MaxRto {
		t.Fatalf("Rto %d", l.rto)
	}
	if m.known && (l.srtt < m.least || l.srtt > m.great) {
		t.Fatalf("Srtt %d, samples from %d to %d", l.srtt, m.least, m.great)
	}
	if !m.known && (l.srtt != 0 || l.dev != 0) {
		t.Fatalf("no sample, and %+v", l)
	}
}

// P5.1 to P5.7 and P5.9: rows of calls, each held against the model.
func TestModel(t *testing.T) {
	d := dice(5)
	rows := 3000
	if testing.Short() {
		rows = 300
	}
	for range rows {
		e, m := rtt.New(), &model{}
		size := uint64(1) << (1 + d.below(18))
		for range 80 {
			was := e.Rto()
			switch d.below(8) {
			case 0, 1:
				e.Back()
				m.backs = min(m.backs+1, 16)
				if e.Rto() < was {
					t.Fatalf("Back lowers Rto from %d to %d", was, e.Rto())
				}
			case 2:
				e.Calm()
				m.backs = 0
				if e.Rto() > was {
					t.Fatalf("Calm raises Rto from %d to %d", was, e.Rto())
				}
			default:
				ms := someTime(&d, size)
				e.Sample(ms)
				m.sample(ms)
			}
			l := lookAt(t, e)
			if l != m.look() {
				t.Fatalf("%+v, want %+v", l, m.look())
			}
			follows(t, m, l)
		}
	}
}
