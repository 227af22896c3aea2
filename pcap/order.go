package pcap

import (
	"math/bits"
	"slices"
)

// order is how the bytes of a number stand: at most eight of them.
type order interface {
	// number is the one that the bytes are.
	number(b []byte) uint64
	// lay is b with the lowest size bytes of n behind it.
	lay(b []byte, n uint64, size int) []byte
}

// highFirst is numbers whose highest byte stands first.
type highFirst struct{}

func (highFirst) number(b []byte) uint64 {
	n := uint64(0)
	for _, x := range b {
		n = n<<8 | uint64(x)
	}
	return n
}

func (highFirst) lay(b []byte, n uint64, size int) []byte {
	for i := size - 1; i >= 0; i-- {
		b = append(b, byte(n>>(8*i)))
	}
	return b
}

// lowFirst is the same turned round.
type lowFirst struct{ highFirst }

func (o lowFirst) number(b []byte) uint64 {
	return bits.ReverseBytes64(o.highFirst.number(b)) >> (64 - 8*len(b))
}

func (o lowFirst) lay(b []byte, n uint64, size int) []byte {
	b = o.highFirst.lay(b, n, size)
	slices.Reverse(b[len(b)-size:])
	return b
}

func orderOf(little bool) order {
	if little {
		return lowFirst{}
	}
	return highFirst{}
}
