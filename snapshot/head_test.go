package snapshot

import (
	"bytes"
	"math"
	"testing"

	"cachette/api"
	"cachette/disk"
)

// numbers: of all lengths, odd and even, and the last ones.
func numbers() []uint32 {
	l := []uint32{1, 2, 3, 4, 0x01020304, 0x04030201, 0x0A0B0C0D, math.MaxUint32 - 2, math.MaxUint32 - 1, math.MaxUint32}
	for bit := range 32 {
		l = append(l, 1<<bit, 1<<bit|1)
	}
	return l
}

// twoStates: a disk on which both halves have a state, of the odd and the even number, without a head.
func twoStates(t *testing.T, odd, even uint32) *disk.Disk {
	t.Helper()
	d := newDisk(t, 10)
	lay(t, d, 2, laid(t, odd, 1, []byte("odd"))...)
	lay(t, d, 6, laid(t, even, 1, []byte("even"))...)
	return d
}

// The chapter's words: a head, byte by byte, for each number that Compact comes to.
func TestHeadBytes(t *testing.T) {
	for _, n := range numbers() {
		if n < 3 {
			continue
		}
		d := newDisk(t, 10)
		lay(t, d, int(n%2), headOf(n-1))
		lay(t, d, 2+4*int(n%2), laid(t, n-1, 1, nil)...)
		s := opened(t, d, nil)
		compacts(t, s, []byte("x"), api.OK)
		if b, k := d.Read(int(1 - n%2)); k != api.OK || !bytes.Equal(b, headOf(n)) {
			t.Errorf("the head of %d: % X", n, b)
		}
		counts(t, s, 0, 3, n)
		counts(t, opened(t, d, []byte("x")), 0, 3, n)
	}
}

// The chapter's words: of two heads the one with the greater number counts, wherever it stands.
func TestGreaterHead(t *testing.T) {
	for _, odd := range numbers() {
		for _, even := range numbers() {
			if odd%2 == 0 || even%2 == 1 {
				continue
			}
			d := twoStates(t, odd, even)
			lay(t, d, 0, headOf(odd), headOf(even))
			if odd > even {
				counts(t, opened(t, d, []byte("odd")), 0, 3, odd)
			} else {
				counts(t, opened(t, d, []byte("even")), 0, 3, even)
			}
		}
	}
}

// The chapter's words: one head alone counts, though the other half has a state.
func TestOneHead(t *testing.T) {
	d := twoStates(t, 7, 8)
	lay(t, d, 0, headOf(7))
	counts(t, opened(t, d, []byte("odd")), 0, 3, 7)
	d = twoStates(t, 9, 8)
	lay(t, d, 1, headOf(8))
	counts(t, opened(t, d, []byte("even")), 0, 3, 8)
}

// The chapter's words: a sector with one byte changed is no head of that number: with a wrong mark, or a byte behind the number that is not 0, it is none at all.
func TestNoHead(t *testing.T) {
	for i := range api.Sector {
		for _, by := range []byte{0x01, 0x80, 0xFF, 0x5E} {
			d := twoStates(t, 7, 8)
			bad := headOf(8)
			bad[i] ^= by
			lay(t, d, 0, headOf(7), bad)
			if i == 0 || i > 4 {
				counts(t, opened(t, d, []byte("odd")), 0, 3, 7)
				continue
			}
			s, snap, l, k := Open(d) // a head of another number, whose half has no record of that gen, or none at all
			if k == api.OK && (s.Number() == 8 || string(snap) != "odd" || len(l) != 0) {
				t.Errorf("byte %d: number %d, %q", i, s.Number(), snap)
			}
		}
	}
}

// The chapter's words: odd in sector 0, even in sector 1, not 0; torn sectors are no heads. With none, a store is begun.
func TestNoHeadAtAll(t *testing.T) {
	bad := map[string]func(d *disk.Disk){
		"nothing":        func(d *disk.Disk) {},
		"0 in both":      func(d *disk.Disk) { lay(t, d, 0, headOf(0), headOf(0)) },
		"even, odd":      func(d *disk.Disk) { lay(t, d, 0, headOf(8), headOf(7)) },
		"last, turned":   func(d *disk.Disk) { lay(t, d, 0, headOf(math.MaxUint32-1), headOf(math.MaxUint32)) },
		"torn":           func(d *disk.Disk) { lay(t, d, 0, headOf(7), headOf(8)); tear(t, d, 0); tear(t, d, 1) },
		"torn and zero":  func(d *disk.Disk) { lay(t, d, 0, headOf(7)); tear(t, d, 0) },
		"parts of files": func(d *disk.Disk) { lay(t, d, 0, laid(t, 7, 1, nil, nil)...) },
		"all FF":         func(d *disk.Disk) { b := bytes.Repeat([]byte{0xFF}, 64); lay(t, d, 0, b, b) },
	}
	for what, do := range bad {
		d := twoStates(t, 7, 8)
		do(d)
		counts(t, opened(t, d, nil), 0, 3, 1)
		if b, k := d.Read(0); k != api.OK || !bytes.Equal(b, headOf(1)) {
			t.Errorf("%s: sector 0: % X, %d", what, b, k)
		}
		if b, k := d.Read(2); k != api.OK || !bytes.Equal(b, framed(t, 1, 1, 0, nil)[0]) {
			t.Errorf("%s: half 0: % X, %d", what, b, k)
		}
		counts(t, opened(t, d, nil), 0, 3, 1)
	}
}

// The chapter's words: a torn head leaves the other one, whether it is greater or less.
func TestTornHead(t *testing.T) {
	for _, odd := range []uint32{7, 9} {
		d := twoStates(t, odd, 8)
		lay(t, d, 0, headOf(odd), headOf(8))
		tear(t, d, 0)
		counts(t, opened(t, d, []byte("even")), 0, 3, 8)
		d = twoStates(t, odd, 8)
		lay(t, d, 0, headOf(odd), headOf(8))
		tear(t, d, 1)
		counts(t, opened(t, d, []byte("odd")), 0, 3, odd)
	}
}

// The chapter's words: halves of disks with a sector over: it is in neither.
func TestSectorOver(t *testing.T) {
	d := newDisk(t, 11)
	s := opened(t, d, nil)
	for i := range 9 {
		compacts(t, s, text(48*4, i), api.OK)
		counts(t, s, 0, 0, uint32(i+2))
		opened(t, d, text(48*4, i))
	}
	compacts(t, s, text(48*4+1, 1), api.Full)
	if b, k := d.Read(10); k != api.OK || !bytes.Equal(b, make([]byte, 64)) {
		t.Errorf("the sector over: % X, %d", b, k)
	}
}
