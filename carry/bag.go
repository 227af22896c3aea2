package carry

import (
	"braid/api"
	"braid/wire"
)

// list is things in the order in which they lie.
type list[T any] []T

// sought is what can be looked for among things of one type.
type sought[T any] interface {
	is(T) bool
}

// find is the place of the first thing that is what is looked for; false, if none is.
func find[T any, S sought[T]](l list[T], what S) (int, bool) {
	for k, x := range l {
		if what.is(x) {
			return k, true
		}
	}
	return 0, false
}

// read is the frame in a parcel; the zero one, which is of no kind, if there is none.
func read(p api.Parcel) api.Frame {
	f, _ := wire.Decode(p.Bytes)
	return f
}

// ofKind is any frame of a kind.
type ofKind int

func (k ofKind) is(p api.Parcel) bool { return read(p).Kind == int(k) }

// chunkAt is the chunk at an offset, or the end that stands there.
type chunkAt uint64

func (off chunkAt) is(p api.Parcel) bool {
	f := read(p)
	return (f.Kind == api.KindData || f.Kind == api.KindFin) && f.Off == uint64(off)
}

// noMoreThan is a DACK that tells nothing beyond these two.
type noMoreThan struct {
	acked uint64
	edge  uint64
}

func (m noMoreThan) is(p api.Parcel) bool {
	f := read(p)
	return f.Kind == api.KindDack && f.Off <= m.acked && f.Edge <= m.edge
}
