package emu

// item is a thing in a heap, with the time and the number by which it stands there.
type item[T any] struct {
	at   uint64
	num  uint64
	what T
}

// ahead tells whether a leaves a heap sooner than b.
func ahead[T any](a, b item[T]) bool {
	return a.at < b.at || a.at == b.at && a.num < b.num
}

// heap holds things of any type, the one with the least time first, of one time the one with the least number.
type heap[T any] struct {
	items []item[T] // none is ahead of the one at above of its place
}

// above is the place that stands over another one, which is not the first.
func above(place int) int { return (place - 1) / 2 }

// push puts a thing in.
func (h *heap[T]) push(x item[T]) {
	h.items = append(h.items, x)
	l := h.items
	for k := len(l) - 1; k > 0 && ahead(l[k], l[above(k)]); k = above(k) {
		l[k], l[above(k)] = l[above(k)], l[k]
	}
}

// pop takes the first thing out of a heap that is not empty.
func (h *heap[T]) pop() item[T] {
	first, last := h.items[0], len(h.items)-1
	h.items[0] = h.items[last]
	h.items[last] = item[T]{} // else the heap would keep what has left it
	h.items = h.items[:last]
	h.sink()
	return first
}

// sink brings the thing that stands first down to where it belongs.
func (h *heap[T]) sink() {
	for k := 0; ; {
		least := k
		for below := 2*k + 1; below <= 2*k+2 && below < len(h.items); below++ {
			if ahead(h.items[below], h.items[least]) {
				least = below
			}
		}
		if least == k {
			return
		}
		h.items[k], h.items[least] = h.items[least], h.items[k]
		k = least
	}
}

// due takes the first thing out, if its time has come by now.
func due[T any](h *heap[T], now uint64) (item[T], bool) {
	if len(h.items) == 0 || h.items[0].at > now {
		return item[T]{}, false
	}
	return h.pop(), true
}
