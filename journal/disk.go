package journal

import (
	"slices"

	"braid/api"
)

// Disk is a disk of so many bytes, with a cache.
type Disk struct {
	safe    []byte
	now     []byte  // as it was written last
	waiting []write // those that are not safe, in their order
	lives   int     // each crash and each Open begins a new one, which no earlier log outlives
}

// write is bytes that were written at a place.
type write struct {
	at    int
	bytes []byte
}

// onto lays the bytes at their place.
func (w write) onto(all []byte) { copy(all[w.at:], w.bytes) }

// torn is what there is of a write whose first n bytes came through. Its room ends there too: what is lost can't be reached by it.
func (w write) torn(n int) write {
	n = within(n, len(w.bytes))
	return write{at: w.at, bytes: w.bytes[:n:n]}
}

// within is n, or the nearest to it of 0 to most.
func within(n, most int) int { return max(0, min(n, most)) }

// NewDisk is a disk of zeros.
func NewDisk(size int) (*Disk, api.Errno) {
	if !mayBe(size) {
		return nil, api.ErrDiskSize
	}
	return &Disk{safe: make([]byte, size), now: make([]byte, size)}, api.OK
}

// LoadDisk is a disk with these bytes, all of them safe.
func LoadDisk(image []byte) (*Disk, api.Errno) {
	if !mayBe(len(image)) {
		return nil, api.ErrDiskSize
	}
	return &Disk{safe: slices.Clone(image), now: slices.Clone(image)}, api.OK
}

func mayBe(size int) bool { return 1 <= size && size <= api.MaxDisk }

// Size is how many bytes it has.
func (d *Disk) Size() int { return len(d.now) }

// has tells whether n bytes from at on lie on the disk. The sum of the two might wrap round; the difference can't, as at is not below 0.
func (d *Disk) has(at, n int) bool { return at >= 0 && n >= 0 && n <= d.Size()-at }

// Write writes bytes into the cache.
func (d *Disk) Write(at int, b []byte) api.Errno {
	if !d.has(at, len(b)) {
		return api.ErrDiskPlace
	}
	if len(b) > 0 {
		d.put(at, slices.Clone(b))
	}
	return api.OK
}

// put is a Write of at least one byte that are known to lie on the disk, and that are the disk's from now on.
func (d *Disk) put(at int, b []byte) {
	w := write{at: at, bytes: b}
	w.onto(d.now)
	d.waiting = append(d.waiting, w)
}

// Read is so many bytes, as they were written last.
func (d *Disk) Read(at, n int) ([]byte, api.Errno) {
	if !d.has(at, n) {
		return nil, api.ErrDiskPlace
	}
	return slices.Clone(d.now[at : at+n]), api.OK
}

// view is all bytes as they were written last, to be looked at and not kept.
func (d *Disk) view() []byte { return d.now }

// Sync makes all writes safe.
func (d *Disk) Sync() {
	d.save(d.waiting)
	d.waiting = nil
}

func (d *Disk) save(writes []write) {
	for _, w := range writes {
		w.onto(d.safe)
	}
}

// Pending is how many writes are not safe.
func (d *Disk) Pending() int { return len(d.waiting) }

// Crash loses the cache: a beginning of the writes that were not safe stays, and a beginning of the next one.
func (d *Disk) Crash(keep, torn int) {
	keep = within(keep, len(d.waiting))
	d.save(d.waiting[:keep])
	if keep < len(d.waiting) {
		d.waiting[keep].torn(torn).onto(d.safe)
	}
	d.forget()
	d.lives++
}

// forget drops the writes that are not safe: where they were written, the cache is as what is safe.
func (d *Disk) forget() {
	for _, w := range d.waiting {
		end := w.at + len(w.bytes)
		copy(d.now[w.at:end], d.safe[w.at:end])
	}
	d.waiting = nil
}

// life tells one stretch between crashes and Opens from another.
func (d *Disk) life() int { return d.lives }

// Image is the bytes that are safe.
func (d *Disk) Image() []byte { return slices.Clone(d.safe) }
