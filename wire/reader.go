package wire

import "cachette/api"

// Reader takes forms from bytes, one behind the other, till something is wrong.
type Reader struct {
	left  []byte   // what was not taken; nothing once something is wrong
	wrong api.Kind // the first thing that was wrong
}

// Read answers a reader of b, from its begin on.
func Read(b []byte) *Reader {
	return &Reader{left: apart(b, 0)}
}

// Num takes a number.
func (r *Reader) Num() uint64 {
	n, size := number(r.rest())
	if size == 0 {
		r.fail(api.Malformed)
		return 0
	}
	r.left = r.left[size:]
	return n
}

// Int takes a number that may be below 0.
func (r *Reader) Int() int64 {
	n := r.Num()
	half := int64(n >> 1)
	if n&1 == 1 {
		return ^half
	}
	return half
}

// Count takes a number of at most most.
func (r *Reader) Count(most int) int {
	n := r.Num()
	if above(n, most) {
		r.fail(api.TooLarge)
		return 0
	}
	return int(n)
}

// Bytes takes at most most bytes, and how many they are.
func (r *Reader) Bytes(most int) []byte {
	n := r.Num()
	// That no form stands is asked first: of kinds that both apply the chapter names Malformed ahead of TooLarge.
	if n > uint64(r.Left()) {
		r.fail(api.Malformed)
		return nil
	}
	if above(n, most) {
		r.fail(api.TooLarge)
		return nil
	}
	return r.take(int(n))
}

// Text takes a text of at most most bytes, and how many they are.
func (r *Reader) Text(most int) string {
	return string(r.Bytes(most))
}

// Bool takes a byte 0 or 1.
func (r *Reader) Bool() bool {
	// These bytes are the forms of the numbers 0 and 1, and no other form begins with one of them.
	n := r.Num()
	if n > 1 {
		r.fail(api.Malformed)
		return false
	}
	return n == 1
}

// Left answers how many bytes were not taken; 0, if something is wrong.
func (r *Reader) Left() int {
	return len(r.rest())
}

// Done answers what is wrong; that bytes are left is Malformed too.
func (r *Reader) Done() api.Kind {
	if r == nil {
		return api.Malformed
	}
	if r.wrong == api.OK && len(r.left) > 0 {
		return api.Malformed
	}
	return r.wrong
}

// rest answers what was not taken: nothing of a nil reader, so that no form stands there.
func (r *Reader) rest() []byte {
	if r == nil {
		return nil
	}
	return r.left
}

// take answers the next n bytes, which must be there, in memory of their own.
func (r *Reader) take(n int) []byte {
	if n == 0 {
		return nil // a nil reader comes here too
	}
	out := apart(r.left[:n], 0)
	r.left = r.left[n:]
	return out
}

// fail keeps what is wrong, unless something was wrong ahead, and leaves nothing to be taken.
func (r *Reader) fail(k api.Kind) {
	if r == nil || r.wrong != api.OK {
		return
	}
	r.left, r.wrong = nil, k
}

// above tells whether n is above most, or most below 0.
func above(n uint64, most int) bool {
	return most < 0 || n > uint64(most)
}

// number answers the number whose form b begins with, and how many bytes the form has: 0 where none stands.
func number(b []byte) (uint64, int) {
	var n uint64
	for i := range min(len(b), longest) {
		n |= uint64(b[i]&^more) << (bits * i)
		if b[i] < more {
			if !ends(b[i], i) {
				break
			}
			return n, i + 1
		}
	}
	return 0, 0
}

// ends tells whether the i-th byte of a form may be its last one: a 0 behind others would be a second form of a number, and the tenth byte has room for one bit alone.
func ends(last byte, i int) bool {
	if i == longest-1 {
		return last == 1
	}
	return last != 0 || i == 0
}
