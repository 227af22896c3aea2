package emu

import (
	"slices"

	"braid/api"
)

// second is how many microseconds one has.
const second = 1000000

// Link is a queue, a sender of a given rate, and a way that takes its time.
type Link struct {
	config  api.LinkConfig // with patterns of its own; the plain one in a Link that NewLink did not give
	stat    api.LinkStat   // all but Flying
	sending heap[int]      // the bytes of each frame that Waiting counts, until its sending is over
	flying  heap[[]byte]
}

// NewLink is a link on which nothing was put.
func NewLink(c api.LinkConfig) (*Link, api.Errno) {
	if bad := fitLink(c); bad != api.OK {
		return nil, bad
	}
	c.Loss, c.Jitter = slices.Clone(c.Loss), slices.Clone(c.Jitter)
	return &Link{config: c}, api.OK
}

// fitLink tells what is wrong with a link.
func fitLink(c api.LinkConfig) api.Errno {
	switch {
	case c.Rate < 0 || c.Rate > api.MaxRate:
		return api.ErrLinkRate
	case c.Delay < 0 || c.Delay > api.MaxDelay:
		return api.ErrLinkDelay
	case c.Queue < 1 || c.Queue > api.MaxQueue:
		return api.ErrLinkQueue
	case max(len(c.Loss), len(c.Jitter)) > api.MaxPattern || slices.ContainsFunc(c.Jitter, tooLate):
		return api.ErrLinkJitter
	}
	return api.OK
}

func tooLate(jitter int) bool { return jitter < 0 || jitter > api.MaxDelay }

// none tells whether NewLink did not give this Link: no queue that may be is without room.
func (l *Link) none() bool { return l == nil || l.config.Queue == 0 }

// Put puts a frame into the queue: was there room, and is it not to be lost?
func (l *Link) Put(now uint64, frame []byte) bool {
	if l.none() {
		return false
	}
	l.goOn(now)
	num := l.stat.Put
	l.stat.Put++
	switch {
	case meet(len(l.config.Loss), num, func(place int) bool { return l.config.Loss[place] }):
		l.stat.Lost++
		return false
	case l.stat.Waiting+len(frame) > l.config.Queue:
		l.stat.Full++
		return false
	}
	l.send(num, frame)
	return true
}

// goOn lets the time go on to that of a call, and what was sent by then wait no more.
func (l *Link) goOn(now uint64) {
	l.stat.Now = max(l.stat.Now, min(now, api.MaxTime))
	for {
		sent, ok := due(&l.sending, l.stat.Now)
		if !ok {
			return
		}
		l.stat.Waiting -= sent.what
	}
}

// meet asks a pattern of so many places what it says of a frame's number; one without places says nothing.
func meet[T any](places int, num uint64, ask func(place int) T) T {
	if places == 0 {
		var nothing T
		return nothing
	}
	return ask(int(num % uint64(places)))
}

// send lets a frame for which there is room wait for those ahead of it, be sent, and fly.
func (l *Link) send(num uint64, frame []byte) {
	over := max(l.stat.Now, l.stat.Busy) + l.takes(len(frame))
	l.stat.Busy = over
	if over > l.stat.Now && len(frame) > 0 {
		l.sending.push(item[int]{over, num, len(frame)})
		l.stat.Waiting += len(frame)
	}
	late := meet(len(l.config.Jitter), num, func(place int) int { return l.config.Jitter[place] })
	l.flying.push(item[[]byte]{over + uint64(l.config.Delay) + uint64(late), num, slices.Clone(frame)})
}

// takes is how long so many bytes are sent.
func (l *Link) takes(count int) uint64 {
	if l.config.Rate == 0 {
		return 0
	}
	rate := uint64(l.config.Rate)
	return (uint64(count)*second + rate - 1) / rate
}

// Next is when the next frame comes.
func (l *Link) Next() (uint64, bool) {
	if l.none() || len(l.flying.items) == 0 {
		return 0, false
	}
	return l.flying.items[0].at, true
}

// Take takes the frames that have come.
func (l *Link) Take(now uint64) []api.Arrival {
	if l.none() {
		return nil
	}
	l.goOn(now)
	var come []api.Arrival
	for {
		a, ok := l.takeOne()
		if !ok {
			return come
		}
		come = append(come, a)
	}
}

// takeOne takes the frame that has come first, if one has.
func (l *Link) takeOne() (api.Arrival, bool) {
	x, ok := due(&l.flying, l.stat.Now)
	if !ok {
		return api.Arrival{}, false
	}
	l.stat.Come++
	return api.Arrival{At: x.at, Num: x.num, Bytes: x.what}, true
}

// Stat looks at the link.
func (l *Link) Stat() api.LinkStat {
	if l.none() {
		return api.LinkStat{}
	}
	s := l.stat
	s.Flying = len(l.flying.items)
	return s
}
