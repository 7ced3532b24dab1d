package disk

import (
	"bytes"
	"math"
	"testing"

	"cachette/api"
)

// torn: what tells has for a torn sector.
const torn = -1

// full: a sector whose bytes tell by, from the first to the last one.
func full(by int) []byte {
	b := bytes.Repeat([]byte{byte(by)}, api.Sector)
	b[0], b[api.Sector-1] = byte(by>>8), byte(by>>16)
	return b
}

// newDisk: a disk of so many sectors.
func newDisk(t *testing.T, sectors int) *Disk {
	t.Helper()
	d, k := New(sectors)
	if k != api.OK || d == nil {
		t.Fatalf("New of %d: %v, %d", sectors, d, k)
	}
	return d
}

// is: what a call answers.
func is(t *testing.T, what string, got, want api.Kind) {
	t.Helper()
	if got != want {
		t.Errorf("%s: %d, not %d", what, got, want)
	}
}

// writes: Write's answer.
func writes(t *testing.T, d *Disk, i, by int, want api.Kind) {
	t.Helper()
	if k := d.Write(i, full(by)); k != want {
		t.Errorf("Write of %d at %d: %d, not %d", by, i, k, want)
	}
}

// syncs, arms, restarts: what those answer.
func syncs(t *testing.T, d *Disk, want api.Kind) {
	t.Helper()
	is(t, "Sync", d.Sync(), want)
}

func arms(t *testing.T, d *Disk, writes int, want api.Kind) {
	t.Helper()
	is(t, "Arm", d.Arm(writes), want)
}

func restarts(t *testing.T, d *Disk, keep ...bool) {
	t.Helper()
	is(t, "Restart", d.Restart(keep), api.OK)
}

// reads: Read's answer, whose bytes are nil beside an error.
func reads(t *testing.T, d *Disk, i int, b []byte, want api.Kind) {
	t.Helper()
	if got, k := d.Read(i); k != want || !bytes.Equal(got, b) {
		t.Errorf("Read of %d: % X, %d, not % X, %d", i, got, k, b, want)
	}
}

// tells: each sector of d, which is up, has what was written as that number, or is torn.
func tells(t *testing.T, d *Disk, want ...int) {
	t.Helper()
	if d.Sectors() != len(want) {
		t.Errorf("Sectors: %d, not %d", d.Sectors(), len(want))
	}
	for i, by := range want {
		if by == torn {
			reads(t, d, i, nil, api.BadSum)
		} else {
			reads(t, d, i, full(by), api.OK)
		}
	}
}

// counts: Down, Pending and Writes.
func counts(t *testing.T, d *Disk, down bool, pending, writes int) {
	t.Helper()
	if d.Down() != down || d.Pending() != pending || d.Writes() != writes {
		t.Errorf("Down, Pending, Writes: %t, %d, %d, not %t, %d, %d", d.Down(), d.Pending(), d.Writes(), down, pending, writes)
	}
}

// noSectors: numbers that are no sector of a disk of n.
func noSectors(n int) []int {
	return []int{math.MinInt, math.MinInt32, -n, -1, n, n + 1, api.MaxSectors, 1 << 32, math.MaxInt - 1, math.MaxInt}
}

// wrongBytes: those that are not a sector's.
func wrongBytes() [][]byte {
	return [][]byte{nil, {}, make([]byte, 1), make([]byte, api.Sector-1), make([]byte, api.Sector-1, api.Sector), make([]byte, api.Sector+1), make([]byte, 2*api.Sector)}
}

// P901: New: of each number of sectors that there can be, all 0, up, nothing pending.
func TestNew(t *testing.T) {
	for n := 1; n <= api.MaxSectors; n++ {
		d := newDisk(t, n)
		tells(t, d, make([]int, n)...)
		counts(t, d, false, 0, 0)
	}
}

// P901: New: BadArg below 1 and above MaxSectors.
func TestNewBadArg(t *testing.T) {
	for _, n := range []int{math.MinInt, math.MinInt32, -1, 0, api.MaxSectors + 1, 1 << 32, 1<<32 + 1, math.MaxInt} {
		if d, k := New(n); d != nil || k != api.BadArg {
			t.Errorf("New of %d: %v, %d", n, d, k)
		}
	}
}

// P901: Read tells what was last written at that place, pending or synced; all others stay.
func TestReadWrite(t *testing.T) {
	d := newDisk(t, 3)
	writes(t, d, 1, 7, api.OK)
	tells(t, d, 0, 7, 0)
	writes(t, d, 1, 8, api.OK)
	writes(t, d, 2, 9, api.OK)
	tells(t, d, 0, 8, 9)
	syncs(t, d, api.OK)
	tells(t, d, 0, 8, 9)
	writes(t, d, 0, 0x10203, api.OK)
	writes(t, d, 1, 0, api.OK)
	tells(t, d, 0x10203, 0, 9)
	tells(t, d, 0x10203, 0, 9)
}

// P901: every byte of a sector comes back, on the first and on the last sector.
func TestEveryByte(t *testing.T) {
	d := newDisk(t, api.MaxSectors)
	for _, i := range []int{0, 1, api.MaxSectors - 1} {
		for at := range api.Sector {
			b := make([]byte, api.Sector)
			b[at] = 0xFF
			is(t, "Write", d.Write(i, b), api.OK)
			reads(t, d, i, b, api.OK)
		}
	}
}

// P901: every sector is a place of its own.
func TestEverySector(t *testing.T) {
	d := newDisk(t, api.MaxSectors)
	var want []int
	for i := range api.MaxSectors {
		writes(t, d, i, i+1, api.OK)
		want = append(want, i+1)
	}
	tells(t, d, want...)
	counts(t, d, false, api.MaxSectors, api.MaxSectors)
	syncs(t, d, api.OK)
	tells(t, d, want...)
	restarts(t, d)
	tells(t, d, want...)
}

// P901: Range: no such sector; nothing changes.
func TestRange(t *testing.T) {
	for _, n := range []int{1, 2, 10} {
		d := newDisk(t, n)
		for _, i := range noSectors(n) {
			reads(t, d, i, nil, api.Range)
			writes(t, d, i, 1, api.Range)
		}
		tells(t, d, make([]int, n)...)
		counts(t, d, false, 0, 0)
	}
	last := newDisk(t, api.MaxSectors)
	reads(t, last, api.MaxSectors, nil, api.Range)
	writes(t, last, api.MaxSectors, 1, api.Range)
}

// P901: BadArg: not Sector bytes; nothing changes. Range comes first.
func TestWriteBadArg(t *testing.T) {
	d := newDisk(t, 2)
	writes(t, d, 1, 5, api.OK)
	for _, b := range wrongBytes() {
		is(t, "Write of wrong bytes", d.Write(1, b), api.BadArg)
		is(t, "Write of wrong bytes nowhere", d.Write(2, b), api.Range)
		is(t, "Write of wrong bytes below 0", d.Write(-1, b), api.Range)
	}
	tells(t, d, 0, 5)
	counts(t, d, false, 1, 1)
}

// P901: Sync: nothing is pending, and all is there for good.
func TestSync(t *testing.T) {
	d := newDisk(t, 2)
	syncs(t, d, api.OK)
	writes(t, d, 0, 1, api.OK)
	writes(t, d, 0, 2, api.OK)
	writes(t, d, 1, 3, api.OK)
	counts(t, d, false, 3, 3)
	for range 3 {
		syncs(t, d, api.OK)
		counts(t, d, false, 0, 3)
		tells(t, d, 2, 3)
	}
	restarts(t, d, false, false, false)
	tells(t, d, 2, 3)
}

// P901: on a disk that is down, Crashed comes ahead of all else, and nothing changes.
func TestCrashedFirst(t *testing.T) {
	d := newDisk(t, 2)
	writes(t, d, 0, 1, api.OK)
	arms(t, d, 0, api.OK)
	writes(t, d, 1, 2, api.Crashed)
	for _, i := range append(noSectors(2), 0, 1) {
		reads(t, d, i, nil, api.Crashed)
		writes(t, d, i, 3, api.Crashed)
		for _, b := range wrongBytes() {
			is(t, "Write of wrong bytes", d.Write(i, b), api.Crashed)
		}
	}
	for _, n := range []int{math.MinInt, -1, 0, 1, math.MaxInt} {
		arms(t, d, n, api.Crashed)
	}
	syncs(t, d, api.Crashed)
	counts(t, d, true, 2, 1)
	if d.Sectors() != 2 {
		t.Errorf("Sectors: %d", d.Sectors())
	}
	restarts(t, d, true, false)
	tells(t, d, 1, 0)
	writes(t, d, 1, 4, api.OK)
	counts(t, d, false, 1, 2)
}

// P901: a torn sector is BadSum till it is written again, which a Sync keeps; a pending one that is not kept leaves it torn.
func TestTornTillWritten(t *testing.T) {
	d := newDisk(t, 2)
	arms(t, d, 0, api.OK)
	writes(t, d, 0, 1, api.Crashed)
	restarts(t, d, true)
	tells(t, d, torn, 0)
	syncs(t, d, api.OK)
	writes(t, d, 1, 2, api.OK)
	is(t, "Write of no bytes", d.Write(0, nil), api.BadArg)
	tells(t, d, torn, 2)
	writes(t, d, 0, 3, api.OK)
	tells(t, d, 3, 2)
	restarts(t, d, true, false)
	tells(t, d, torn, 2)
	writes(t, d, 0, 4, api.OK)
	syncs(t, d, api.OK)
	restarts(t, d)
	tells(t, d, 4, 2)
}

// P901 to P904: of nil: 0, nothing, false, Nil, whatever else is wrong.
func TestNil(t *testing.T) {
	var d *Disk
	for _, i := range append(noSectors(1), 0) {
		reads(t, d, i, nil, api.Nil)
		writes(t, d, i, 1, api.Nil)
		is(t, "Write of no bytes", d.Write(i, nil), api.Nil)
		arms(t, d, i, api.Nil)
	}
	syncs(t, d, api.Nil)
	is(t, "Restart", d.Restart(nil), api.Nil)
	is(t, "Restart", d.Restart([]bool{true}), api.Nil)
	counts(t, d, false, 0, 0)
	if n, c := d.Sectors(), d.Copy(); n != 0 || c != nil {
		t.Errorf("Sectors, Copy: %d, %v", n, c)
	}
}

// Rule 1: a disk that New did not make has no sector, and panics nowhere.
func TestZero(t *testing.T) {
	var d Disk
	tells(t, &d)
	for _, i := range append(noSectors(1), 0) {
		reads(t, &d, i, nil, api.Range)
		writes(t, &d, i, 1, api.Range)
	}
	arms(t, &d, 0, api.OK)
	writes(t, &d, 0, 1, api.Range)
	syncs(t, &d, api.OK)
	restarts(t, &d, true)
	counts(t, &d, false, 0, 0)
	tells(t, d.Copy())
}
