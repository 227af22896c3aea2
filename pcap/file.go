package pcap

import (
	"bytes"

	"braid/api"
)

// What a file begins with.
const (
	millionths         = 0xa1b2c3d4
	thousandMillionths = 0xa1b23c4d
	major              = 2
	minor              = 4
)

// How many bytes there are of each thing.
const (
	numberSize = 4
	shortSize  = 2
	headSize   = 24 // of a file
	aheadSize  = 16 // of a packet, ahead of those that are kept
)

func magic(nano bool) uint64 {
	if nano {
		return thousandMillionths
	}
	return millionths
}

// second is how many parts a second has.
func second(nano bool) uint32 {
	if nano {
		return 1_000_000_000
	}
	return 1_000_000
}

func snapFits(snap uint32) bool { return snap >= 1 && snap <= api.MaxSnap }

// fault is why a packet of which so many bytes are kept can't stand in a capture.
func fault(c api.Capture, p api.Packet, kept uint64) api.Errno {
	switch {
	case p.Part >= second(c.Nano):
		return api.ErrCapTime
	case kept > uint64(min(c.Snap, p.Len)):
		return api.ErrCapLength
	}
	return api.OK
}

// reader takes what stands in a file off its front.
type reader struct {
	order
	left []byte
}

// next takes a number. Who asks has seen to it that its bytes are there.
func (r *reader) next(size int) uint32 {
	n := r.number(r.left[:size])
	r.left = r.left[size:]
	return uint32(n)
}

// head reads the head, and gives a capture without packets.
func (r *reader) head() (api.Capture, api.Errno) {
	if len(r.left) < headSize {
		return api.Capture{}, api.ErrCapShort
	}
	c, ok := r.begin()
	if !ok {
		return api.Capture{}, api.ErrCapMagic
	}
	if r.next(shortSize) != major || r.next(shortSize) != minor {
		return api.Capture{}, api.ErrCapVersion
	}
	r.left = r.left[2*numberSize:]
	c.Snap, c.Link = r.next(numberSize), r.next(numberSize)
	if !snapFits(c.Snap) {
		return api.Capture{}, api.ErrCapSnap
	}
	return c, api.OK
}

// begin reads the magic, by which the order of all other numbers is known.
func (r *reader) begin() (api.Capture, bool) {
	first := r.left[:numberSize]
	r.left = r.left[numberSize:]
	for _, little := range []bool{false, true} {
		r.order = orderOf(little)
		for _, nano := range []bool{false, true} {
			if r.number(first) == magic(nano) {
				return api.Capture{Little: little, Nano: nano}, true
			}
		}
	}
	return api.Capture{}, false
}

// packet reads the next packet of a capture.
func (r *reader) packet(c api.Capture) (api.Packet, api.Errno) {
	if len(r.left) < aheadSize {
		return api.Packet{}, api.ErrCapCut
	}
	p := api.Packet{Sec: r.next(numberSize), Part: r.next(numberSize)}
	kept := uint64(r.next(numberSize))
	p.Len = r.next(numberSize)
	if e := fault(c, p, kept); e != api.OK {
		return api.Packet{}, e
	}
	if kept > uint64(len(r.left)) {
		return api.Packet{}, api.ErrCapCut
	}
	p.Data = bytes.Clone(r.left[:kept])
	r.left = r.left[kept:]
	return p, api.OK
}

// layHead is b with the head of a capture behind it.
func layHead(b []byte, o order, c api.Capture) []byte {
	b = o.lay(b, magic(c.Nano), numberSize)
	b = o.lay(b, major, shortSize)
	b = o.lay(b, minor, shortSize)
	b = append(b, make([]byte, 2*numberSize)...)
	b = o.lay(b, uint64(c.Snap), numberSize)
	return o.lay(b, uint64(c.Link), numberSize)
}

// layPacket is b with a packet behind it.
func layPacket(b []byte, o order, p api.Packet) []byte {
	b = o.lay(b, uint64(p.Sec), numberSize)
	b = o.lay(b, uint64(p.Part), numberSize)
	b = o.lay(b, uint64(len(p.Data)), numberSize)
	b = o.lay(b, uint64(p.Len), numberSize)
	return append(b, p.Data...)
}
