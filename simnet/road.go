package simnet

import "braid/api"

// road is a path: what belongs to its two directions lies in arrays.
type road struct {
	view api.NetView // all but Lying, which the bags themselves tell
	bags [2][]*parcel
}

// full: no frame more has room in that direction.
func (r *road) full(dir int) bool { return len(r.bags[dir]) >= r.view.Cap }

// lay lays a frame down behind the others.
func (r *road) lay(dir int, p *parcel) { r.bags[dir] = append(r.bags[dir], p) }

// cut takes the frame at place k out. The shorter side moves up, since most frames leave from the front of a bag that may be long.
func (r *road) cut(dir, k int) {
	b := r.bags[dir]
	last := len(b) - 1
	if k < last-k {
		copy(b[1:k+1], b[:k])
		b[0] = nil // else the bag would keep what has left it
		r.bags[dir] = b[1:]
		return
	}
	copy(b[k:], b[k+1:])
	b[last] = nil
	r.bags[dir] = b[:last]
}

// look is the path as it is now.
func (r *road) look() api.NetView {
	v := r.view
	for d := range len(r.bags) {
		v.Lying[d] = len(r.bags[d])
	}
	return v
}
