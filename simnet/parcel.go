package simnet

import (
	"maps"

	"braid/api"
)

// parcel is a frame that lies in a bag. It keeps what was put and what was turned since apart: so it is spoilt just if something is turned, and doubles of a long frame take no room for its bytes.
type parcel struct {
	put    []byte       // never written into: doubles share it
	turned map[int]byte // by place of the byte, its bits that are turned; none of them is 0
}

// newParcel is a frame as it is put: its bytes stay the caller's own.
func newParcel(frame []byte) *parcel {
	return &parcel{put: clone(frame)}
}

// double is a second frame that is spoilt just as this one, and from then on goes its own way.
func (p *parcel) double() *parcel {
	return &parcel{put: p.put, turned: maps.Clone(p.turned)}
}

// turn turns bits of a byte; bits that are turned twice are as they were put.
func (p *parcel) turn(at int, mask byte) {
	now := p.turned[at] ^ mask
	if now == 0 {
		delete(p.turned, at)
		return
	}
	if p.turned == nil {
		p.turned = make(map[int]byte)
	}
	p.turned[at] = now
}

// tell is the frame as it is now, in memory of its own.
func (p *parcel) tell() api.Parcel {
	out := clone(p.put)
	for at, mask := range p.turned {
		out[at] ^= mask
	}
	return api.Parcel{Bytes: out, Spoilt: len(p.turned) > 0}
}

// clone is the same bytes in new memory without spare room.
func clone(b []byte) []byte {
	out := make([]byte, len(b))
	copy(out, b)
	return out
}
