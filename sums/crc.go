package sums

// crcSteps has, for each four bits, what four steps of the register make of them: so a byte takes two steps in the place of eight.
var crcSteps = [16]uint32{
	0x00000000, 0x1db71064, 0x3b6e20c8, 0x26d930ac,
	0x76dc4190, 0x6b6b51f4, 0x4db26158, 0x5005713c,
	0xedb88320, 0xf00f9344, 0xd6d6a3e8, 0xcb61b38c,
	0x9b64c2b0, 0x86d3d2d4, 0xa00ae278, 0xbdbdf21c,
}

// Crc is the short sum of the parts, one behind the other.
func Crc(parts ...[]byte) uint32 {
	c := uint32(0)
	for _, p := range parts {
		c = More(c, p)
	}
	return c
}

// More is the short sum of a text with the short sum c and b behind it.
func More(c uint32, b []byte) uint32 {
	r := ^c
	for _, x := range b {
		r ^= uint32(x)
		r = r>>4 ^ crcSteps[r&15]
		r = r>>4 ^ crcSteps[r&15]
	}
	return ^r
}
