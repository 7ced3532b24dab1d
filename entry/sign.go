package entry

import (
	"bytes"

	"cachette/api"
	"cachette/oracle"
)

// Bound answers what a sealed body is bound to, so that it is opened at no other place, and in no other epoch.
func Bound(writer, index, epoch int) []byte {
	var f fields
	f.bound(writer, index, epoch)
	return f.b
}

// Sum answers the hash of e's bytes, by which the next entry of its log names e.
func Sum(o *oracle.Oracle, e api.Entry) (uint64, api.Kind) {
	b, k := Bytes(e)
	if k != api.OK {
		return 0, k
	}
	if o == nil {
		return 0, api.Nil
	}
	return o.Hash(b), api.OK
}

// Sign answers e with secret's signature of its text.
func Sign(o *oracle.Oracle, secret uint64, e api.Entry) (api.Entry, api.Kind) {
	text, k := Text(e)
	if k != api.OK {
		return api.Entry{}, k
	}
	sig, k := o.Sign(secret, text)
	if k != api.OK {
		return api.Entry{}, k
	}
	e.Body, e.Sig = bytes.Clone(e.Body), sig
	return e, api.OK
}

// Holds tells whether e is right, and signed by the secret of public.
func Holds(o *oracle.Oracle, public uint64, e api.Entry) bool {
	text, k := Text(e)
	return k == api.OK && o.Verify(public, text, e.Sig)
}
