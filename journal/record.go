package journal

import (
	"bytes"
	"slices"

	"braid/api"
	"braid/sums"
)

// How a record lies on the disk: its length, number and kind, its body, its sum and its last byte.
const (
	lengthSize = 4
	numberSize = 8
	sumSize    = 4
	kindAt     = lengthSize + numberSize
	bodyAt     = kindAt + 1
	// bare is how many bytes a record without a body has.
	bare = bodyAt + sumSize + 1
	// lastByte is not 0, as what is torn off leaves zeros.
	lastByte = 0xa5
)

// laid is a record's bytes.
func laid(r api.Record) []byte {
	b := make([]byte, 0, bare+len(r.Body))
	b = numbered(b, uint64(len(r.Body))+1, lengthSize)
	b = numbered(b, r.Number, numberSize)
	b = append(b, r.Kind)
	b = append(b, r.Body...)
	b = numbered(b, uint64(sums.Crc(b)), sumSize)
	return append(b, lastByte)
}

// numbered is b with the last size bytes of n behind it, the highest one first.
func numbered(b []byte, n uint64, size int) []byte {
	for i := size - 1; i >= 0; i-- {
		b = append(b, byte(n>>(8*i)))
	}
	return b
}

// right is the right record of this number with which b begins, if there is one.
func right(b []byte, number uint64) (api.Record, bool) {
	n, ok := reach(b)
	if !ok {
		return api.Record{}, false
	}
	whole := b[:n:n]
	r := api.Record{Number: number, Kind: whole[kindAt], Body: slices.Clone(whole[bodyAt : n-sumSize-1])}
	if r.Kind == 0 || !bytes.Equal(laid(r), whole) {
		return api.Record{}, false
	}
	return r, true
}

// reach is how many bytes the record with which b begins has by its length, if that may be and all of them are there.
func reach(b []byte) (int, bool) {
	if len(b) < bare {
		return 0, false
	}
	length := 0
	for _, x := range b[:lengthSize] {
		length = length<<8 | int(x)
	}
	body := length - 1
	if body < 0 || body > api.MaxRecord || bare+body > len(b) {
		return 0, false
	}
	return bare + body, true
}
