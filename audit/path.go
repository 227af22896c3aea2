package audit

import (
	"braid/api"
	"braid/ivset"
)

// path is what one side's frames on one path came to, and the numbers by which that is told.
type path struct {
	api.PathReport
	numbered uint64            // frames with a number that were sent
	came     *ivset.Set        // numbers that were heard
	proper   *ivset.Set        // those of them that may be acknowledged
	top      uint64            // the greatest number that was heard
	told     *ivset.Set        // numbers that were acknowledged to the side
	open     *ivset.Set        // numbers that were sent and not
	clocks   map[uint64]uint64 // when each of these was sent first
}

func newPaths(n int) []path {
	l := make([]path, n)
	for p := range l {
		l[p] = path{came: ivset.New(), proper: ivset.New(), told: ivset.New(), open: ivset.New(), clocks: make(map[uint64]uint64)}
	}
	return l
}

func one(num uint64) api.Range { return api.Range{Lo: num, Hi: num + 1} }

// send takes down when a number was sent, if its time is still to be told.
func (p *path) send(num, clock uint64) {
	if p.told.Has(num) || p.open.Has(num) {
		return
	}
	p.open.Add(one(num))
	p.clocks[num] = clock
}

// hear counts a number that was heard.
func (p *path) hear(num uint64) {
	switch {
	case p.came.Has(num):
		p.Twice++
	case num < p.top:
		p.Late++
	}
	p.came.Add(one(num))
	p.top = max(p.top, num)
}

// acknowledged takes the numbers that an ACK tells, of which the greatest new one gives a time.
func (p *path) acknowledged(l []api.Range, clock uint64) {
	var sent uint64
	found := false
	for _, r := range l {
		p.told.Add(r)
		for _, fresh := range common(p.open, r) {
			found = true
			for num := fresh.Lo; num < fresh.Hi; num++ {
				sent = p.clocks[num]
				delete(p.clocks, num)
			}
		}
		p.open.Remove(r)
	}
	if found {
		p.time(clock - min(clock, sent))
	}
}

// time counts a time there and back.
func (p *path) time(ms uint64) {
	if p.Rtts == 0 || ms < p.RttMin {
		p.RttMin = ms
	}
	p.RttMax = max(p.RttMax, ms)
	p.RttSum += ms
	p.Rtts++
}
