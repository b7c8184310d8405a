package frame

const (
	allSet   = 1<<32 - 1
	halfByte = 4
)

// shifted is what the register's lowest four bits change it with, when they are shifted out of it.
// Four bits at a time, as a table for each of them is short, and bit by bit is slow.
var shifted = [1 << halfByte]uint32{
	0x00000000, 0x105ec76f, 0x20bd8ede, 0x30e349b1,
	0x417b1dbc, 0x5125dad3, 0x61c69362, 0x7198540d,
	0x82f63b78, 0x92a8fc17, 0xa24bb5a6, 0xb21572c9,
	0xc38d26c4, 0xd3d3e1ab, 0xe330a81a, 0xf36e6f75,
}

// Sum answers the sum of the bytes of the parts, one behind the other.
func Sum(parts ...[]byte) uint32 {
	register := uint32(allSet)
	for _, part := range parts {
		for _, b := range part {
			register ^= uint32(b)
			register = shift(shift(register))
		}
	}
	return ^register
}

func shift(register uint32) uint32 {
	return register>>halfByte ^ shifted[register%uint32(len(shifted))]
}
