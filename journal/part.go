package journal

import "cachette/api"

// part is a record's i-th one of n.
type part struct {
	gen, round, seq uint32
	i, n            int
	b               []byte // at most share
}

// sector answers the part as it stands on a disk, in new memory.
func (p part) sector() []byte {
	var s sheet
	s.put(mark)
	p.numbers(s.number)
	s.put(byte(p.i), byte(p.n), byte(len(p.b)))
	s.put(p.b...)
	return s.b[:]
}

// numbers gives put those that tell whose record it is, as they stand in a sector.
func (p part) numbers(put func(n uint32)) {
	put(p.gen)
	put(p.round)
	put(p.seq)
}

// sheet is a sector that is filled from its begin on; what is not put stays 0.
type sheet struct {
	b    [api.Sector]byte
	next int
}

// put puts some bytes at once.
func (s *sheet) put(l ...byte) {
	s.next += copy(s.b[s.next:], l)
}

// number puts n in four bytes, the highest first.
func (s *sheet) number(n uint32) {
	s.put(byte(n>>24), byte(n>>16), byte(n>>8), byte(n))
}
