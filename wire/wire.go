// Package wire is layer 1: bytes of numbers, texts and lists, each in one form. See shared/doc/01-wire.md.
package wire

const (
	bits    = 7         // of a number in one byte of its form
	more    = 1 << bits // set in each byte of a form but the last
	longest = 10        // bytes of a form: 64 bits, seven a byte
)

// Num answers b, and the form of n behind it.
func Num(b []byte, n uint64) []byte {
	return putNum(apart(b, longest), n)
}

// Int answers b, and the form of n behind it.
func Int(b []byte, n int64) []byte {
	if n < 0 {
		// ^n is less n, less 1: unlike less n it is in range for the least number too.
		return Num(b, uint64(^n)<<1|1)
	}
	return Num(b, uint64(n)<<1)
}

// Bytes answers b, and the form of x behind it.
func Bytes(b, x []byte) []byte {
	out := putNum(apart(b, longest+len(x)), uint64(len(x)))
	return append(out, x...)
}

// Text answers b, and the form of s behind it.
func Text(b []byte, s string) []byte {
	out := putNum(apart(b, longest+len(s)), uint64(len(s)))
	return append(out, s...)
}

// Bool answers b, and the form of is behind it.
func Bool(b []byte, is bool) []byte {
	if is {
		return Num(b, 1)
	}
	return Num(b, 0)
}

// apart answers a copy of b with room for more behind it, since b's own spare room is the caller's.
func apart(b []byte, room int) []byte {
	out := make([]byte, len(b), len(b)+room)
	copy(out, b)
	return out
}

// putNum appends to b itself: it is for bytes that are apart already.
func putNum(b []byte, n uint64) []byte {
	for n >= more {
		b = append(b, byte(n)|more)
		n >>= bits
	}
	return append(b, byte(n))
}
