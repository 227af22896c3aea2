package fair_test

import (
	"math/big"
	"testing"

	"braid/api"
	"braid/fair"
)

// pair is two streams of one class of which bytes wait all the time, and what they were given since both stand in the row.
type pair struct {
	ids    [2]uint64
	shares [2]int
	given  [2]int
}

func (p *pair) note(turn api.Turn) {
	for i, id := range p.ids {
		if turn.Id == id {
			p.given[i] += turn.N
		}
	}
}

// apart is how the two part, each one's bytes times the other one's share, held against a turn: below 0, if it is less than quantum * s * t, 0, if it is just that.
func (p *pair) apart(quantum int) int {
	a := new(big.Int).Mul(number(p.given[0]), number(p.shares[1]))
	b := new(big.Int).Mul(number(p.given[1]), number(p.shares[0]))
	turn := new(big.Int).Mul(number(quantum*p.shares[0]), number(p.shares[1]))
	return a.Sub(a, b).CmpAbs(turn)
}

// P19.8: two streams, by hand: the whole turn apart behind the first one's, level behind both; half of it, if the second one joins in the first one's midst.
func TestSharesOfTwo(t *testing.T) {
	c := streams(t, 10, 2, 3)
	p := pair{[2]uint64{1, 2}, [2]int{2, 3}, [2]int{}}
	c.more(1, 1000, api.OK)
	c.more(2, 1000, api.OK)
	for range 10 {
		c.next(100, 1, 20)
		p.note(api.Turn{Id: 1, N: 20})
		if p.apart(10) != 0 {
			t.Errorf("behind the first: %v", p.given)
		}
		c.next(100, 2, 30)
		p.note(api.Turn{Id: 2, N: 30})
		if 3*p.given[0] != 2*p.given[1] {
			t.Errorf("behind both: %v", p.given)
		}
	}
	c.view(look(1, 3, 2, 800, 0), look(2, 3, 3, 700, 0))

	c = streams(t, 10, 2, 3)
	c.more(1, 1000, api.OK)
	c.next(100, 1, 20)
	c.next(10, 1, 10)
	c.more(2, 1000, api.OK)
	for range 10 {
		c.next(100, 1, 10)
		c.next(100, 2, 30)
		c.next(10, 1, 10)
	}
}

// crowd is streams of one class that never run out of bytes, others of that class that come and go, and some of a higher class.
type crowd struct {
	f       *fair.Fair
	quantum int
	shares  map[uint64]int // of those that never run out, once they have joined
	pairs   []*pair
}

const (
	steady   = 5       // numbers 0 to 4 are streams that never run out
	visitors = 10      // numbers 5 to 9 come and go
	higher   = 12      // numbers 10 and 11 are of a higher class
	plenty   = 1 << 39 // bytes that no test has given
)

// join adds a stream that never runs out, and makes pairs of it and those that are there.
func (c *crowd) join(d *dice, id uint64) {
	share := d.one(1, 1, 2, 3, 7, 255)
	c.f.Add(id, 2, share)
	c.f.More(id, plenty)
	for other, s := range c.shares {
		c.pairs = append(c.pairs, &pair{[2]uint64{id, other}, [2]int{share, s}, [2]int{}})
	}
	c.shares[id] = share
}

// stir makes any call that leaves the streams that never run out where they are.
func (c *crowd) stir(d *dice) {
	visitor := uint64(steady + d.below(visitors-steady))
	switch d.below(8) {
	case 0:
		c.f.Add(visitor, 2, 1+d.below(255))
	case 1:
		c.f.Remove(visitor)
	case 2, 3:
		c.f.More(visitor, 1+d.below(3*c.quantum))
	case 4:
		id := uint64(visitors + d.below(higher-visitors))
		c.f.Add(id, 3+d.below(5), 1+d.below(255))
		c.f.More(id, 1+d.below(1000))
	case 5:
		c.f.More(uint64(d.below(steady)), 1+d.below(9))
	}
}

// P19.8: behind any calls two streams that wait all the time part by at most a turn.
func TestShares(t *testing.T) {
	d := dice(198)
	whole, crossed := 0, 0
	for range 250 {
		c := &crowd{quantum: d.one(1, 2, 10, 65536), shares: map[uint64]int{}}
		c.f = fair.New(c.quantum)
		for i := range 200 {
			if id := uint64(len(c.shares)); id < steady && (i == 0 || d.below(20) == 0) {
				c.join(&d, id)
			}
			c.stir(&d)
			turn, ok := c.f.Next(d.one(1+d.below(9), 1+d.below(c.quantum), c.quantum, 256*c.quantum))
			if !ok || turn.Id >= visitors {
				t.Fatalf("%v, %v, though stream 0 waits", turn, ok)
			}
			for _, p := range c.pairs {
				p.note(turn)
				switch p.apart(c.quantum) {
				case 1:
					t.Fatalf("%v of shares %v were given %v: more than a turn apart", p.ids, p.shares, p.given)
				case 0:
					whole++
				}
			}
		}
		for _, p := range c.pairs {
			if p.given[0] > 0 && p.given[1] > 0 {
				crossed++
			}
		}
	}
	// Worth something only if the bound is come to, and if both of a pair are given bytes.
	if whole < 500 || crossed < 500 {
		t.Errorf("only %d times a whole turn apart, only %d pairs that both were given bytes", whole, crossed)
	}
}

// P19.9: just as many bytes as all others of the class have credit for go ahead of a stream that joins, however many wait, however they come.
func TestNobodyStarves(t *testing.T) {
	for _, most := range []int{1, 3, 10, 1000} {
		c := streams(t, 10, 4, 1, 2, 1)
		for _, id := range []uint64{1, 2, 3} {
			c.more(id, 500, api.OK)
		}
		c.more(4, 25, api.OK)
		for round := range 3 {
			ahead := 0
			for {
				turn, ok := c.f.Next(most)
				if !ok {
					t.Fatal("no turn")
				}
				if turn.Id == 4 {
					c.f.Next(min(10, 25-10*round) - turn.N) // the rest of its turn
					break
				}
				ahead += turn.N
				c.more(turn.Id, turn.N, api.OK)
			}
			if ahead != 10*(4+1+2) {
				t.Errorf("by at most %d: %d bytes ahead of stream 4, want 70", most, ahead)
			}
		}
		c.of(4, 0, 0)
	}
}

// P19.9: those that run out and join again, or are taken out and added again, come behind who waits already.
func TestNobodyGoesAhead(t *testing.T) {
	c := streams(t, 10, 1, 2, 1)
	c.more(1, 3, api.OK)
	c.more(2, 3, api.OK)
	c.more(3, 50, api.OK)
	c.next(100, 1, 3)
	c.more(1, 9, api.OK)
	c.remove(2, api.OK)
	c.add(2, 3, 255, api.OK)
	c.more(2, 9, api.OK)
	c.add(9, 3, 255, api.OK)
	c.more(9, 9, api.OK)
	c.add(8, 4, 255, api.OK)
	c.more(8, 9, api.OK)
	c.next(100, 3, 10)
	c.row(1, 2, 9, 3, 3, 3, 3, 8)
}
