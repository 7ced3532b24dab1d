package snapshot

import (
	"bytes"

	"cachette/api"
	"cachette/disk"
)

const mark = 0x5E

// shifts tells by how many bits each byte of a number stands above the lowest, the highest byte first.
var shifts = [4]uint{24, 16, 8, 0}

// place answers which head's sector, and which half, number n has: each is written over only while the other one counts.
func place(n uint32) int {
	return 1 - int(n%2)
}

// head answers the sector of n's head, in new memory.
func head(n uint32) []byte {
	var b [api.Sector]byte
	b[0] = mark
	for i, bits := range shifts {
		b[1+i] = byte(n >> bits)
	}
	return b[:]
}

// numbered answers the number that a head's sector has.
func numbered(b []byte) uint32 {
	n := uint32(0)
	for i, bits := range shifts {
		n |= uint32(b[1+i]) << bits
	}
	return n
}

// headAt answers the number of the head that is read at sector i; 0: none is there.
func headAt(i int, read func(i int) ([]byte, api.Kind)) uint32 {
	b, k := read(i)
	if k != api.OK {
		return 0
	}
	n := numbered(b)
	if place(n) != i || !bytes.Equal(b, head(n)) {
		return 0
	}
	return n
}

// latest answers the greater number of d's heads; 0: it has none.
func latest(d *disk.Disk) uint32 {
	return max(headAt(0, d.Read), headAt(1, d.Read))
}
