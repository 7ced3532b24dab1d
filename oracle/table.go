package oracle

import "bytes"

// handleBytes is how many bytes a handle is written in.
const handleBytes = 8

// use says what a handle was handed out for.
type use int

const (
	aName use = iota // of bytes that were hashed or signed: nothing stands behind it
	aKey
	aSecret
	aPublic
	aSeal
	aWrap
)

// thing is what stands behind a handle; a field that its use does not speak of is zero, so that things can be compared.
type thing struct {
	use    use
	secret uint64 // of a public one: the other of its pair; of a wrap: the one that unwraps it
	key    uint64 // of sealed bytes: the one that opens them; of a wrap: the one in it
	zeros  int    // of sealed bytes and wraps: how many bytes 0 follow the handle
	bound  string
	plain  string
}

// mark is the handle that a text got.
type mark struct {
	handle uint64
}

// ready makes the tables of an oracle that has none yet.
func (o *Oracle) ready() {
	if o.made == nil {
		o.made = make(map[uint64]thing)
		o.hashes = make(map[string]mark)
		o.signed = make(map[string]mark)
	}
}

// fresh hands out a handle that was never handed out, with nothing behind it.
func (o *Oracle) fresh() uint64 {
	h := o.next()
	for h == 0 || o.out(h) {
		h = o.next()
	}
	o.made[h] = thing{use: aName}
	return h
}

// next answers the next of the draws; behind their end, the numbers from 1 on.
func (o *Oracle) next() uint64 {
	if len(o.draws) == 0 {
		o.least++
		return o.least
	}
	h := o.draws[0]
	o.draws = o.draws[1:]
	return h
}

// out tells whether h was handed out.
func (o *Oracle) out(h uint64) bool {
	_, ok := o.made[h]
	return ok
}

// put hands out a fresh handle, behind which t stands.
func (o *Oracle) put(t thing) uint64 {
	o.ready()
	h := o.fresh()
	o.made[h] = t
	return h
}

// isKey tells whether h is the handle of a Key.
func (o *Oracle) isKey(h uint64) bool {
	return o.made[h] == thing{use: aKey}
}

// find answers what stands behind b, bytes that were handed out for that use; false, if they were not.
func (o *Oracle) find(u use, b []byte) (thing, bool) {
	h := handleAt(b)
	t := o.made[h]
	if t.use != u || !bytes.Equal(b, form(h, t.zeros)) {
		return thing{}, false
	}
	return t, true
}

// handleOf answers the handle that text has in marks; else the one that fresh tells, which it has from now on.
func handleOf(marks map[string]mark, text string, fresh func() uint64) uint64 {
	m, ok := marks[text]
	if !ok {
		m = mark{fresh()}
		marks[text] = m
	}
	return m.handle
}

// bySecret answers the text under which the signature of b stands: a secret has always as many bytes, so no two share one.
func bySecret(secret uint64, b []byte) string {
	return string(form(secret, 0)) + string(b)
}

// form answers a handle, the highest byte first, and as many bytes 0.
func form(h uint64, zeros int) []byte {
	out := make([]byte, handleBytes+zeros)
	for i := range handleBytes {
		out[handleBytes-1-i] = byte(h >> (8 * i))
	}
	return out
}

// handleAt answers the handle that b begins with; 0, which is none, if b is too short.
func handleAt(b []byte) uint64 {
	if len(b) < handleBytes {
		return 0
	}
	h := uint64(0)
	for _, x := range b[:handleBytes] {
		h = h<<8 | uint64(x)
	}
	return h
}
