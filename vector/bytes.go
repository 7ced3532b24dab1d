package vector

import (
	"cachette/api"
	"cachette/wire"
)

// Bytes answers the form of v: how many heads, and the numbers of each.
func Bytes(v Vector) ([]byte, api.Kind) {
	if !Right(v) {
		return nil, api.BadArg
	}
	b := wire.Num(nil, uint64(len(v)))
	for _, h := range v {
		for _, n := range numbers(h) {
			b = wire.Num(b, n)
		}
	}
	return b, api.OK
}

// Read answers the vector whose Bytes b is.
func Read(b []byte) (Vector, api.Kind) {
	r := wire.Read(b)
	var v Vector
	for range r.Count(api.MaxMembers) {
		v = append(v, take(r))
	}
	// Whether the heads are right is asked only once all are taken: the chapter names TooLarge, which the reader tells, first.
	if k := r.Done(); k != api.OK {
		return nil, k
	}
	if !Right(v) {
		return nil, api.Malformed
	}
	return v, api.OK
}

// numbers answers the numbers of a right head, in the order in which its form has them.
func numbers(h api.Head) [3]uint64 {
	return [3]uint64{uint64(h.Writer), uint64(h.Len), h.Sum}
}

// take takes the numbers of a head, which need not be right; r tells what is wrong.
func take(r *wire.Reader) api.Head {
	return api.Head{Writer: r.Count(lastWriter), Len: r.Count(api.MaxLog), Sum: r.Num()}
}
