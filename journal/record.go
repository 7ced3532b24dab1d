package journal

import (
	"bytes"
	"slices"

	"cachette/api"
)

// Where those fields of a part's sector begin that are read one by one; ahead of them all stands mark.
const (
	atGen   = 1
	atRound = 5
	atParts = 14
	atLen   = 15
	atBytes = 16
)

const (
	mark  = 0xC5
	share = api.Sector - atBytes // bytes of a part that is not the last one
)

// Parts answers how many parts a record of n bytes has.
func Parts(n int) int {
	if n < 0 || n > api.MaxFrame {
		return 0
	}
	return max(1, (n+share-1)/share)
}

// Frame answers the sectors of b's parts.
func Frame(gen, round, seq uint32, b []byte) ([][]byte, api.Kind) {
	if len(b) > api.MaxFrame {
		return nil, api.TooLarge
	}
	if gen == 0 || round == 0 {
		return nil, api.BadArg
	}
	out := make([][]byte, Parts(len(b)))
	for i := range out {
		n := min(share, len(b))
		out[i] = part{gen, round, seq, i, len(out), b[:n]}.sector()
		b = b[n:]
	}
	return out, api.OK
}

// Scan answers the records that stand in l, a stretch's sectors, the place behind them, and the greatest round in all of l.
func Scan(l [][]byte, gen uint32) (records [][]byte, tail int, round uint32) {
	for {
		b, n := standing(l[tail:], gen, uint32(len(records)))
		if n == 0 {
			return records, tail, latest(l, gen)
		}
		records = append(records, b)
		tail += n
	}
}

// standing answers the record that stands where l begins, and how many sectors it has; 0: none does.
func standing(l [][]byte, gen, seq uint32) ([]byte, int) {
	if len(l) == 0 || !readable(l[0]) {
		return nil, 0
	}
	n := int(l[0][atParts])
	if n > len(l) {
		return nil, 0
	}
	b := joined(l[:n])
	// Whatever the sectors claim of themselves, they are a record's just if framing it makes the same ones.
	want, k := Frame(gen, number(l[0][atRound:]), seq, b)
	if k != api.OK || !slices.EqualFunc(l[:n], want, bytes.Equal) {
		return nil, 0
	}
	return b, n
}

// joined answers, in new memory, the bytes that the sectors of l say they have.
func joined(l [][]byte) []byte {
	out := []byte{}
	for _, s := range l {
		if readable(s) {
			n := min(share, int(s[atLen]))
			out = append(out, s[atBytes:atBytes+n]...)
		}
	}
	return out
}

// latest answers the greatest round of the sectors of l that have that gen, be they a record's or not.
func latest(l [][]byte, gen uint32) uint32 {
	round := uint32(0)
	for _, s := range l {
		if readable(s) && s[0] == mark && number(s[atGen:]) == gen {
			round = max(round, number(s[atRound:]))
		}
	}
	return round
}

// readable tells whether s is a sector: a torn one comes as nil.
func readable(s []byte) bool {
	return len(s) == api.Sector
}

// number answers the number of the first four bytes of b.
func number(b []byte) uint32 {
	return uint32(b[0])<<24 | uint32(b[1])<<16 | uint32(b[2])<<8 | uint32(b[3])
}
