package entry

import (
	"cachette/api"
	"cachette/stamp"
	"cachette/wire"
)

// Text answers what e's writer signs: all of e but the signature.
func Text(e api.Entry) ([]byte, api.Kind) {
	if !Right(e) {
		return nil, api.BadArg
	}
	var f fields
	f.text(e)
	return f.b, api.OK
}

// Bytes answers the form of e: its text, and its signature.
func Bytes(e api.Entry) ([]byte, api.Kind) {
	if !Right(e) {
		return nil, api.BadArg
	}
	var f fields
	f.text(e)
	f.nums(e.Sig)
	return f.b, api.OK
}

// Read answers the entry whose Bytes b is.
func Read(b []byte) (api.Entry, api.Kind) {
	r := wire.Read(b)
	e := take(r)
	if k := r.Done(); k != api.OK {
		return api.Entry{}, k
	}
	if !Right(e) {
		return api.Entry{}, api.Malformed
	}
	return e, api.OK
}

// take takes the fields of an entry, which need not be right; r tells what is wrong.
func take(r *wire.Reader) api.Entry {
	return api.Entry{
		Writer: r.Count(lastWriter),
		Index:  r.Count(lastIndex),
		Prev:   r.Num(),
		At:     stamp.Get(r),
		Epoch:  narrow(r.Int()),
		Body:   r.Bytes(longest),
		Sig:    r.Num(),
	}
}

// narrow answers n as an int, which may have fewer bits: what is no epoch stays something that is none.
func narrow(n int64) int {
	return int(max(noEpoch-1, min(n, lastEpoch+1)))
}
