package snapshot

import (
	"math"
	"testing"

	"cachette/api"
	"cachette/disk"
	"cachette/journal"
)

// lastOf: a disk whose state is laid by hand: number n, snapshot "x", record "a".
func lastOf(t *testing.T, sectors int, n uint32) *disk.Disk {
	t.Helper()
	d := newDisk(t, sectors)
	lay(t, d, int(1-n%2), headOf(n))
	lay(t, d, 2+int(1-n%2)*((sectors-2)/2), laid(t, n, 1, []byte("x"), []byte("a"))...)
	return d
}

// P1103: number by number, half by half, byte by byte; what was there ahead stays where nothing is written.
func TestCompact(t *testing.T) {
	const size = 9
	d := newDisk(t, 20)
	s := opened(t, d, nil)
	want := all(t, d)
	for i := range 8 {
		snap, n := text(50*i, i), uint32(i+2)
		writes := d.Writes()
		compacts(t, s, snap, api.OK)
		counts(t, s, 0, size-journal.Parts(len(snap)), n)
		if d.Pending() != 0 || d.Writes() != writes+journal.Parts(len(snap))+1 {
			t.Errorf("Compact to %d: %d pending, %d writes", n, d.Pending(), d.Writes()-writes)
		}
		base := 2 + size*int(1-n%2)
		want[1-n%2] = headOf(n)
		copy(want[base:], framed(t, n, 1, 0, snap))
		if !same(all(t, d), want) {
			t.Fatalf("Compact to %d: % X", n, all(t, d))
		}
		opened(t, d, snap)
		appends(t, s, []byte("r"), api.OK)
		copy(want[base+journal.Parts(len(snap)):], framed(t, n, 1, 1, []byte("r")))
		if !same(all(t, d), want) {
			t.Fatalf("Append at %d: % X", n, all(t, d))
		}
		opened(t, d, snap, []byte("r"))
	}
}

// P1103: records of the same half, of two numbers ago, are not told behind a shorter snapshot.
func TestCompactLeavesNothingOld(t *testing.T) {
	d := newDisk(t, 22)
	s := opened(t, d, nil)
	for i := range 9 {
		appends(t, s, []byte("old"), api.OK)
		counts(t, s, i+1, 8-i, 1)
	}
	compacts(t, s, text(60, 1), api.OK)
	for range 8 {
		appends(t, s, []byte("older"), api.OK)
	}
	compacts(t, s, nil, api.OK)
	counts(t, opened(t, d, nil), 0, 9, 3)
	compacts(t, s, text(90, 2), api.OK)
	counts(t, opened(t, d, text(90, 2)), 0, 8, 4)
	appends(t, s, []byte("new"), api.OK)
	counts(t, opened(t, d, text(90, 2), []byte("new")), 1, 7, 4)
}

// P1103: Full just if the parts are more than a half has, whatever records there are; it is as it was then.
func TestCompactFull(t *testing.T) {
	for sectors := 6; sectors <= 13; sectors++ {
		size := (sectors - 2) / 2
		for n := range 300 {
			d := newDisk(t, sectors)
			s := opened(t, d, nil)
			appends(t, s, []byte("a"), api.OK)
			before, writes := all(t, d), d.Writes()
			if journal.Parts(n) <= size {
				compacts(t, s, text(n, 1), api.OK)
				counts(t, s, 0, size-journal.Parts(n), 2)
				opened(t, d, text(n, 1))
				continue
			}
			compacts(t, s, text(n, 1), api.Full)
			counts(t, s, 1, size-2, 1)
			if d.Writes() != writes || !same(all(t, d), before) {
				t.Errorf("Full wrote")
			}
			compacts(t, s, text(48*size, 1), api.OK)
			counts(t, s, 0, 0, 2)
		}
	}
}

// P1103: TooLarge just above MaxFrame bytes, ahead of Full; the longest snapshot on the smallest disk that has room for it.
func TestCompactTooLarge(t *testing.T) {
	for sectors, want := range map[int]api.Kind{6: api.Full, 169: api.Full, 170: api.OK, 171: api.OK, api.MaxSectors: api.OK} {
		d := newDisk(t, sectors)
		s := opened(t, d, nil)
		writes := d.Writes()
		for _, n := range []int{4001, 4002, 4032, 4033, 100000} {
			compacts(t, s, make([]byte, n), api.TooLarge)
		}
		counts(t, s, 0, (sectors-2)/2-1, 1)
		if d.Writes() != writes {
			t.Errorf("TooLarge wrote")
		}
		compacts(t, s, text(4000, 1), want)
		if want == api.OK {
			counts(t, s, 0, (sectors-2)/2-84, 2)
			opened(t, d, text(4000, 1))
		} else {
			opened(t, d, nil)
		}
	}
}

// P1103: Range: the number is 2^32 - 1, which is come to, and gone on with; nothing has changed.
func TestCompactRange(t *testing.T) {
	d := lastOf(t, 10, math.MaxUint32-1)
	s := opened(t, d, []byte("x"), []byte("a"))
	compacts(t, s, []byte("y"), api.OK)
	counts(t, s, 0, 3, math.MaxUint32)
	before, writes := all(t, d), d.Writes()
	for range 2 {
		compacts(t, s, nil, api.Range)
		compacts(t, s, []byte("z"), api.Range)
		counts(t, s, 0, 3, math.MaxUint32)
	}
	if d.Writes() != writes || !same(all(t, d), before) {
		t.Errorf("Range wrote")
	}
	appends(t, s, []byte("b"), api.OK)
	s = opened(t, d, []byte("y"), []byte("b"))
	compacts(t, s, nil, api.Range)
	appends(t, s, []byte("c"), api.OK)
	opened(t, d, []byte("y"), []byte("b"), []byte("c"))
}

// P1103: where Create says that no round is left, that is told, and all is as it was: it is no error of the disk.
func TestCompactRoundRange(t *testing.T) {
	d := newDisk(t, 10)
	s := opened(t, d, nil)
	appends(t, s, []byte("a"), api.OK)
	lay(t, d, 9, framed(t, 2, math.MaxUint32, 5, nil)...)
	before, writes := all(t, d), d.Writes()
	for range 2 {
		compacts(t, s, []byte("x"), api.Range)
		compacts(t, s, text(193, 1), api.Full)
		counts(t, s, 1, 2, 1)
	}
	if d.Writes() != writes || !same(all(t, d), before) {
		t.Errorf("Range wrote")
	}
	appends(t, s, []byte("b"), api.OK)
	opened(t, d, nil, []byte("a"), []byte("b"))
	lay(t, d, 9, framed(t, 2, math.MaxUint32-1, 5, nil)...)
	compacts(t, s, []byte("x"), api.OK)
	if l := all(t, d); !same(l[6:7], framed(t, 2, math.MaxUint32, 0, []byte("x"))) {
		t.Errorf("the snapshot: % X", l[6])
	}
}

// P1103: of several kinds the first: TooLarge, Crashed, Range, Full, those of the disk.
func TestCompactOrder(t *testing.T) {
	fails := func(d *disk.Disk) *Store {
		s := opened(t, d, []byte("x"), []byte("a"))
		is(t, "Arm", d.Arm(0), api.OK)
		appends(t, s, []byte("b"), api.Crashed)
		return s
	}
	for _, up := range []bool{false, true} {
		for _, n := range []uint32{3, 4, math.MaxUint32} {
			d := lastOf(t, 10, n)
			s := fails(d)
			if up {
				is(t, "Restart", d.Restart(nil), api.OK)
			}
			compacts(t, s, make([]byte, 4001), api.TooLarge)
			compacts(t, s, make([]byte, 4000), api.Crashed)
			compacts(t, s, make([]byte, 193), api.Crashed)
			compacts(t, s, nil, api.Crashed)
			counts(t, s, 1, 2, n)
		}
	}
	d := lastOf(t, 10, math.MaxUint32)
	s := opened(t, d, []byte("x"), []byte("a"))
	goDown(t, d)
	compacts(t, s, make([]byte, 4001), api.TooLarge)
	compacts(t, s, make([]byte, 193), api.Range)
	compacts(t, s, nil, api.Range)

	d = lastOf(t, 10, 4)
	s = opened(t, d, []byte("x"), []byte("a"))
	goDown(t, d)
	compacts(t, s, make([]byte, 4001), api.TooLarge)
	compacts(t, s, make([]byte, 193), api.Full)
	compacts(t, s, make([]byte, 192), api.Crashed)
	compacts(t, s, make([]byte, 193), api.Crashed)
}

// P1103: the snapshot is written and synced, then the head is written: what a crash leaves tells.
func TestCompactSteps(t *testing.T) {
	snap := text(140, 1)
	for at := range 4 {
		d := newDisk(t, 12)
		s := opened(t, d, nil)
		appends(t, s, []byte("a"), api.OK)
		want := all(t, d)
		is(t, "Arm", d.Arm(at), api.OK)
		compacts(t, s, snap, api.Crashed)
		pending := at + 1
		if at == 3 {
			pending = 1 // the parts are there for good
		}
		if d.Pending() != pending || !d.Down() {
			t.Errorf("crash at %d: %d pending, down: %v", at, d.Pending(), d.Down())
		}
		is(t, "Restart", d.Restart([]bool{true, true, true, true}), api.OK)
		copy(want[7:], framed(t, 2, 1, 0, snap)[:min(at, 3)])
		if at < 3 {
			want[7+at] = nil
		} else {
			want[1] = nil
		}
		if !same(all(t, d), want) {
			t.Errorf("crash at %d: % X", at, all(t, d))
		}
		counts(t, s, 1, 3, 1)
		opened(t, d, nil, []byte("a"))
	}
}

// P1103: behind an error of the disk in a Compact each further one is answered Crashed, though the disk is up again; the state is as it was, and Append is as journal's: none of its own failed.
func TestCompactFailed(t *testing.T) {
	for at := range 3 {
		for _, keep := range [][]bool{nil, {true, true, true}, {false, true}} {
			d := newDisk(t, 10)
			s := opened(t, d, nil)
			appends(t, s, []byte("a"), api.OK)
			is(t, "Arm", d.Arm(at), api.OK)
			compacts(t, s, text(90, 1), api.Crashed)
			compacts(t, s, nil, api.Crashed)
			compacts(t, s, make([]byte, 4001), api.TooLarge)
			counts(t, s, 1, 2, 1)
			is(t, "Restart", d.Restart(keep), api.OK)
			writes := d.Writes()
			compacts(t, s, nil, api.Crashed)
			compacts(t, s, make([]byte, 4000), api.Crashed)
			compacts(t, s, make([]byte, 4001), api.TooLarge)
			if d.Writes() != writes {
				t.Errorf("a failed store wrote")
			}
			appends(t, s, []byte("b"), api.OK)
			counts(t, s, 2, 1, 1)
			s = opened(t, d, nil, []byte("a"), []byte("b"))
			compacts(t, s, []byte("x"), api.OK)
			opened(t, d, []byte("x"))
		}
	}
}

// P1103: a Compact of a disk that went down elsewhere: its kind, and no further Compact.
func TestCompactOnADiskThatIsDown(t *testing.T) {
	d := newDisk(t, 10)
	s := opened(t, d, nil)
	goDown(t, d)
	compacts(t, s, []byte("x"), api.Crashed)
	is(t, "Restart", d.Restart(nil), api.OK)
	compacts(t, s, []byte("x"), api.Crashed)
	compacts(t, opened(t, d, nil), []byte("x"), api.OK)
	opened(t, d, []byte("x"))
}

// P1103: what an earlier Compact, which went down, left of that gen has no part in what the next one makes.
func TestCompactAgain(t *testing.T) {
	d := newDisk(t, 12)
	s := opened(t, d, nil)
	for i, n := range []int{240, 140, 190, 50} {
		is(t, "Arm", d.Arm(journal.Parts(n)), api.OK)
		compacts(t, s, text(n, i), api.Crashed)
		is(t, "Restart", d.Restart([]bool{i%2 == 0}), api.OK)
		s = opened(t, d, nil)
	}
	compacts(t, s, []byte("x"), api.OK)
	counts(t, opened(t, d, []byte("x")), 0, 4, 2)
	if l := all(t, d); !same(l[7:8], framed(t, 2, 5, 0, []byte("x"))) {
		t.Errorf("the snapshot: % X", l[7])
	}
	appends(t, s, []byte("a"), api.OK)
	counts(t, opened(t, d, []byte("x"), []byte("a")), 1, 3, 2)
}
