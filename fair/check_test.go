package fair_test

import (
	"slices"
	"testing"

	"braid/api"
	"braid/fair"
)

const (
	greatest = ^uint64(0)
	idErr    = api.ErrFairId
	classErr = api.ErrFairClass
	shareErr = api.ErrFairShare
	moreErr  = api.ErrFairMore
	fullErr  = api.ErrFairFull
)

// check is a Fair whose answers are held against what is awaited. A call that answers an error, or that there is no turn, must leave the streams as they were.
type check struct {
	t *testing.T
	f *fair.Fair
}

// begin is a Fair without streams.
func begin(t *testing.T, quantum int) check {
	t.Helper()
	f := fair.New(quantum)
	if f == nil {
		t.Fatalf("New(%d) is nil", quantum)
	}
	c := check{t, f}
	c.view()
	return c
}

// streams is a Fair with streams 1, 2 .. of class 3, of these shares.
func streams(t *testing.T, quantum int, shares ...int) check {
	t.Helper()
	c := begin(t, quantum)
	for i, share := range shares {
		c.add(uint64(i+1), 3, share, api.OK)
	}
	return c
}

// look is a stream looked at.
func look(id uint64, class, share, waiting, credit int) api.FairView {
	return api.FairView{Id: id, Class: class, Share: share, Waiting: waiting, Credit: credit}
}

// answer holds one call against its error.
func (c check) answer(want api.Errno, call func() api.Errno, what string, args ...any) {
	c.t.Helper()
	before := c.f.View()
	e := call()
	if e != want {
		c.t.Errorf("%s%v: %d, want %d", what, args, e, want)
	}
	if e == api.OK {
		return
	}
	if after := c.f.View(); !slices.Equal(before, after) {
		c.t.Errorf("%s%v is an error, and yet %v became %v", what, args, before, after)
	}
}

func (c check) add(id uint64, class, share int, want api.Errno) {
	c.t.Helper()
	c.answer(want, func() api.Errno { return c.f.Add(id, class, share) }, "Add", id, class, share)
}

func (c check) remove(id uint64, want api.Errno) {
	c.t.Helper()
	c.answer(want, func() api.Errno { return c.f.Remove(id) }, "Remove", id)
}

func (c check) more(id uint64, n int, want api.Errno) {
	c.t.Helper()
	c.answer(want, func() api.Errno { return c.f.More(id, n) }, "More", id, n)
}

// next awaits a turn.
func (c check) next(most int, id uint64, n int) {
	c.t.Helper()
	if got, ok := c.f.Next(most); !ok || got != (api.Turn{Id: id, N: n}) {
		c.t.Errorf("Next(%d): %v, %v, want {%d %d}", most, got, ok, id, n)
	}
}

// none awaits no turn.
func (c check) none(most int) {
	c.t.Helper()
	before := c.f.View()
	if got, ok := c.f.Next(most); ok || got != (api.Turn{}) {
		c.t.Errorf("Next(%d): %v, %v, want none", most, got, ok)
	}
	if after := c.f.View(); !slices.Equal(before, after) {
		c.t.Errorf("Next(%d) has none, and yet %v became %v", most, before, after)
	}
}

// row awaits turns of these streams, one behind the other, and then nothing.
func (c check) row(ids ...uint64) {
	c.t.Helper()
	var got []uint64
	for range len(ids) + 1 {
		if turn, ok := c.f.Next(1 << 50); ok {
			got = append(got, turn.Id)
		}
	}
	if !slices.Equal(got, ids) {
		c.t.Errorf("turns of %v, want %v", got, ids)
	}
}

func (c check) waiting(want int) {
	c.t.Helper()
	if got := c.f.Waiting(); got != want {
		c.t.Errorf("Waiting: %d, want %d", got, want)
	}
}

// view holds all streams against these, and Waiting against their sum.
func (c check) view(want ...api.FairView) {
	c.t.Helper()
	if got := c.f.View(); !slices.Equal(got, want) {
		c.t.Errorf("View: %v, want %v", got, want)
	}
	sum := 0
	for _, v := range want {
		sum += v.Waiting
	}
	c.waiting(sum)
}

// of holds one stream's numbers against these.
func (c check) of(id uint64, waiting, credit int) {
	c.t.Helper()
	for _, v := range c.f.View() {
		if v.Id == id {
			if v.Waiting != waiting || v.Credit != credit {
				c.t.Errorf("stream %d: Waiting %d, Credit %d, want %d, %d", id, v.Waiting, v.Credit, waiting, credit)
			}
			return
		}
	}
	c.t.Errorf("stream %d is not there", id)
}
