package journal

import (
	"bytes"
	"math"
	"slices"
	"testing"

	"cachette/api"
	"cachette/disk"
)

// newDisk: a disk of so many sectors.
func newDisk(t *testing.T, sectors int) *disk.Disk {
	t.Helper()
	d, k := disk.New(sectors)
	if k != api.OK {
		t.Fatalf("New of %d: %d", sectors, k)
	}
	return d
}

// lay: l stands on d from base on, for good.
func lay(t *testing.T, d *disk.Disk, base int, l ...[]byte) {
	t.Helper()
	for i, s := range l {
		is(t, "Write", d.Write(base+i, s), api.OK)
	}
	is(t, "Sync", d.Sync(), api.OK)
}

// tear: sector i of d is torn.
func tear(t *testing.T, d *disk.Disk, i int) {
	t.Helper()
	is(t, "Sync", d.Sync(), api.OK)
	is(t, "Arm", d.Arm(0), api.OK)
	is(t, "Write", d.Write(i, make([]byte, api.Sector)), api.Crashed)
	is(t, "Restart", d.Restart([]bool{true}), api.OK)
}

// is: what a call answers.
func is(t *testing.T, what string, got, want api.Kind) {
	t.Helper()
	if got != want {
		t.Errorf("%s: %d, not %d", what, got, want)
	}
}

// opened: Open, which must be OK, with these records.
func opened(t *testing.T, d *disk.Disk, base, size int, gen uint32, want ...[]byte) *Journal {
	t.Helper()
	j, l, k := Open(d, base, size, gen)
	if k != api.OK || j == nil {
		t.Fatalf("Open of %d, %d, %d: %v, %d", base, size, gen, j, k)
	}
	if !same(l, want) {
		t.Errorf("Open: % X, not % X", l, want)
	}
	return j
}

// created: Create, which must be OK.
func created(t *testing.T, d *disk.Disk, base, size int, gen uint32) *Journal {
	t.Helper()
	j, k := Create(d, base, size, gen)
	if k != api.OK || j == nil {
		t.Fatalf("Create of %d, %d, %d: %v, %d", base, size, gen, j, k)
	}
	return j
}

// appends: what Append answers.
func appends(t *testing.T, j *Journal, b []byte, want api.Kind) {
	t.Helper()
	if k := j.Append(b); k != want {
		t.Errorf("Append of %d bytes: %d, not %d", len(b), k, want)
	}
}

// counts: Count, Room and Round.
func counts(t *testing.T, j *Journal, count, room int, round uint32) {
	t.Helper()
	if j.Count() != count || j.Room() != room || j.Round() != round {
		t.Errorf("Count, Room, Round: %d, %d, %d, not %d, %d, %d", j.Count(), j.Room(), j.Round(), count, room, round)
	}
}

// stretchOf: the sectors of d from base on, nil where one can't be read.
func stretchOf(t *testing.T, d *disk.Disk, base, size int) [][]byte {
	t.Helper()
	var l [][]byte
	for i := range size {
		s, k := d.Read(base + i)
		if k != api.OK && k != api.BadSum {
			t.Fatalf("Read of %d: %d", base+i, k)
		}
		l = append(l, s)
	}
	return l
}

// refused: both Open and Create answer that kind, and nothing else.
func refused(t *testing.T, d *disk.Disk, base, size int, gen uint32, want api.Kind) {
	t.Helper()
	if j, l, k := Open(d, base, size, gen); j != nil || len(l) != 0 || k != want {
		t.Errorf("Open of %d, %d, %d: %v, %d records, %d, not %d", base, size, gen, j, len(l), k, want)
	}
	if j, k := Create(d, base, size, gen); j != nil || k != want {
		t.Errorf("Create of %d, %d, %d: %v, %d, not %d", base, size, gen, j, k, want)
	}
}

// The sentence ahead of the promises: what a nil journal answers; Nil comes ahead of TooLarge.
func TestNilJournal(t *testing.T) {
	var j *Journal
	for _, n := range []int{0, 1, 4000, 4001} {
		appends(t, j, make([]byte, n), api.Nil)
	}
	counts(t, j, 0, 0, 0)
}

// Rule 1: a journal that nobody opened does not panic: it has no room.
func TestZeroJournal(t *testing.T) {
	var j Journal
	appends(t, &j, nil, api.Full)
	appends(t, &j, make([]byte, 4001), api.TooLarge)
	counts(t, &j, 0, 0, 0)
}

// P1003: every stretch that is on a disk, and none that is not.
func TestStretches(t *testing.T) {
	d := newDisk(t, 5)
	for base := -2; base <= 7; base++ {
		for size := -2; size <= 7; size++ {
			if base < 0 || size < 1 || base+size > 5 {
				refused(t, d, base, size, 1, api.BadArg)
				continue
			}
			counts(t, opened(t, d, base, size, 1), 0, size, 1)
			counts(t, created(t, d, base, size, 1), 0, size, 1)
		}
	}
	most := newDisk(t, api.MaxSectors)
	counts(t, opened(t, most, 0, api.MaxSectors, 1), 0, api.MaxSectors, 1)
	counts(t, opened(t, most, api.MaxSectors-1, 1, 1), 0, 1, 1)
	refused(t, most, 0, api.MaxSectors+1, 1, api.BadArg)
}

// P1003, rule 6: numbers of the whole range.
func TestStretchesFar(t *testing.T) {
	d := newDisk(t, 5)
	far := []int{math.MinInt, math.MinInt + 1, math.MinInt32, -1, 5, 6, 1 << 32, 1<<32 + 1, math.MaxInt - 1, math.MaxInt}
	for _, n := range far {
		refused(t, d, n, 1, 1, api.BadArg)
		refused(t, d, n, 5, 1, api.BadArg)
		refused(t, d, 1, n, 1, api.BadArg)
		for _, size := range far {
			refused(t, d, n, size, 1, api.BadArg)
		}
	}
}

// P1003: gen is not 0; each other one is good.
func TestGen(t *testing.T) {
	d := newDisk(t, 2)
	refused(t, d, 0, 2, 0, api.BadArg)
	for _, gen := range []uint32{1, 2, 1 << 31, math.MaxUint32} {
		counts(t, opened(t, d, 0, 2, gen), 0, 2, 1)
		counts(t, created(t, d, 0, 2, gen), 0, 2, 1)
	}
}

// P1003: of several kinds the first: BadArg, Nil, Crashed, Range.
func TestOpenOrder(t *testing.T) {
	d := newDisk(t, 2)
	lay(t, d, 0, framed(t, 1, math.MaxUint32, 0, nil)...)
	down := d.Copy()
	is(t, "Arm", down.Arm(0), api.OK)
	is(t, "Write", down.Write(1, make([]byte, api.Sector)), api.Crashed)
	for _, on := range []*disk.Disk{d, down, nil} {
		refused(t, on, 0, 2, 0, api.BadArg)
		refused(t, on, -1, 2, 1, api.BadArg)
		refused(t, on, 0, 0, 1, api.BadArg)
	}
	for _, on := range []*disk.Disk{d, down} {
		refused(t, on, 0, 3, 1, api.BadArg)
		refused(t, on, 2, 1, 1, api.BadArg)
	}
	refused(t, nil, 0, 2, 1, api.Nil)
	refused(t, nil, 0, 1, math.MaxUint32, api.Nil)
	refused(t, down, 0, 2, 1, api.Crashed)
	refused(t, down, 0, 2, 2, api.Crashed)
	refused(t, d, 0, 2, 1, api.Range)
	counts(t, opened(t, d, 0, 2, 2), 0, 2, 1)
}

// P1003: Range just where the greatest round of that gen in that stretch is 2^32 - 1, wherever in it it stands.
func TestRoundRange(t *testing.T) {
	d := newDisk(t, 6)
	last := sectorOf(1, math.MaxUint32, 9, 9, 9, 9, nil)
	lay(t, d, 3, last)
	refused(t, d, 0, 6, 1, api.Range)
	refused(t, d, 3, 1, 1, api.Range)
	refused(t, d, 0, 4, 1, api.Range)
	counts(t, opened(t, d, 0, 3, 1), 0, 3, 1)
	counts(t, created(t, d, 4, 2, 1), 0, 2, 1)
	counts(t, created(t, d, 0, 6, 2), 0, 6, 1)

	lay(t, d, 3, sectorOf(1, math.MaxUint32-1, 9, 9, 9, 9, nil))
	counts(t, created(t, d, 0, 6, 1), 0, 6, math.MaxUint32)
	j := opened(t, d, 0, 6, 1)
	counts(t, j, 0, 6, math.MaxUint32)
	appends(t, j, []byte("a"), api.OK)
	appends(t, j, []byte("b"), api.OK)
	refused(t, d, 0, 6, 1, api.Range)
}

// P1003: Open tells the records, and goes on behind them, round by round; a round of which nothing is written comes again.
func TestOpenGoesOn(t *testing.T) {
	d := newDisk(t, 12)
	j := opened(t, d, 1, 10, 7)
	counts(t, j, 0, 10, 1)
	a, b, c, e := []byte("ab"), text(100, 1), []byte{}, text(96, 2)
	appends(t, j, a, api.OK)
	appends(t, j, b, api.OK)
	counts(t, j, 2, 6, 1)
	for range 3 {
		counts(t, opened(t, d, 1, 10, 7, a, b), 2, 6, 2)
	}
	j = opened(t, d, 1, 10, 7, a, b)
	appends(t, j, c, api.OK)
	counts(t, j, 3, 5, 2)
	j = opened(t, d, 1, 10, 7, a, b, c)
	counts(t, j, 3, 5, 3)
	appends(t, j, e, api.OK)
	appends(t, j, text(100, 3), api.OK)
	counts(t, opened(t, d, 1, 10, 7, a, b, c, e, text(100, 3)), 5, 0, 4)
	want := append(framed(t, 7, 1, 0, a), framed(t, 7, 1, 1, b)...)
	want = append(want, framed(t, 7, 2, 2, c)...)
	want = append(want, framed(t, 7, 3, 3, e)...)
	want = append(want, framed(t, 7, 3, 4, text(100, 3))...)
	want = append([][]byte{make([]byte, 64)}, append(want, make([]byte, 64))...)
	if !same(stretchOf(t, d, 0, 12), want) {
		t.Errorf("on the disk: % X", stretchOf(t, d, 0, 12))
	}
}

// P1003: Open tells what Scan tells of the stretch alone, a torn sector as one that can't be read.
func TestOpenScans(t *testing.T) {
	d := newDisk(t, 10)
	records := [][]byte{[]byte("a"), text(60, 1), []byte("c")}
	lay(t, d, 2, laid(t, 1, 3, records...)...)
	lay(t, d, 9, sectorOf(1, 50, 0, 0, 0, 0, nil))
	counts(t, opened(t, d, 2, 7, 1, records...), 3, 3, 4)
	counts(t, opened(t, d, 2, 8, 1, records...), 3, 4, 51)
	counts(t, opened(t, d, 2, 4, 1, records...), 3, 0, 4)
	counts(t, opened(t, d, 2, 3, 1, records[:2]...), 2, 0, 4)
	counts(t, opened(t, d, 2, 2, 1, records[:1]...), 1, 1, 4)
	counts(t, opened(t, d, 1, 7, 1), 0, 7, 4)
	counts(t, opened(t, d, 3, 6, 1), 0, 6, 4)

	tear(t, d, 4)
	j := opened(t, d, 2, 7, 1, records[0])
	counts(t, j, 1, 6, 4)
	appends(t, j, text(60, 2), api.OK)
	counts(t, opened(t, d, 2, 7, 1, records[0], text(60, 2), records[2]), 3, 3, 5)
	tear(t, d, 2)
	counts(t, opened(t, d, 2, 7, 1), 0, 7, 5)
}

// P1003: what is pending is told too: Open reads as the disk does.
func TestOpenPending(t *testing.T) {
	d := newDisk(t, 2)
	is(t, "Write", d.Write(0, framed(t, 1, 1, 0, []byte("a"))[0]), api.OK)
	counts(t, opened(t, d, 0, 2, 1, []byte("a")), 1, 1, 2)
}

// P1003: Create begins anew, whatever stands there, with a round 1 more than any there.
func TestCreate(t *testing.T) {
	d := newDisk(t, 6)
	lay(t, d, 0, laid(t, 1, 8, text(60, 1), text(60, 2))...)
	lay(t, d, 4, sectorOf(1, 20, 0, 0, 0, 0, nil))
	before := stretchOf(t, d, 0, 6)
	j := created(t, d, 0, 6, 1)
	counts(t, j, 0, 6, 21)
	if !same(stretchOf(t, d, 0, 6), before) {
		t.Errorf("Create wrote")
	}
	appends(t, j, text(70, 3), api.OK)
	counts(t, j, 1, 4, 21)
	if l := stretchOf(t, d, 0, 6); !same(l[:2], framed(t, 1, 21, 0, text(70, 3))) || !same(l[2:], before[2:]) {
		t.Errorf("on the disk: % X", l)
	}

	j = created(t, d, 0, 6, 2)
	counts(t, j, 0, 6, 1)
	appends(t, j, []byte("x"), api.OK)
	counts(t, opened(t, d, 0, 6, 2, []byte("x")), 1, 5, 2)
	counts(t, opened(t, d, 0, 6, 1), 0, 6, 22)

	tear(t, d, 0)
	counts(t, created(t, d, 0, 6, 2), 0, 6, 1)
}

// P1003, rule 5: Open and Create write nothing, and sync nothing.
func TestOpenWritesNothing(t *testing.T) {
	d := newDisk(t, 4)
	appends(t, opened(t, d, 0, 4, 1), []byte("a"), api.OK)
	is(t, "Write", d.Write(3, text(64, 1)), api.OK)
	opened(t, d, 0, 4, 1, []byte("a"))
	created(t, d, 0, 4, 1)
	created(t, d, 0, 4, 9)
	if d.Writes() != 2 || d.Pending() != 1 {
		t.Errorf("%d writes, %d pending", d.Writes(), d.Pending())
	}
}

// P1004: records of each number of parts, up to the longest; all is synced.
func TestAppend(t *testing.T) {
	for _, n := range []int{0, 1, 47, 48, 49, 95, 96, 97, 400, 3984, 3985, 3999, 4000} {
		d := newDisk(t, 100)
		j := opened(t, d, 3, 90, 2)
		appends(t, j, text(n, n), api.OK)
		counts(t, j, 1, 90-Parts(n), 1)
		if d.Pending() != 0 || d.Writes() != Parts(n) {
			t.Errorf("%d bytes: %d pending, %d writes", n, d.Pending(), d.Writes())
		}
		is(t, "Restart", d.Restart(nil), api.OK)
		opened(t, d, 3, 90, 2, text(n, n))
		if l := stretchOf(t, d, 3, Parts(n)); !same(l, framed(t, 2, 1, 0, text(n, n))) {
			t.Errorf("%d bytes on the disk: % X", n, l)
		}
	}
}

// P1004: a record has seq, from 0 on, as many as are ahead of it, up to a disk of records.
func TestAppendMany(t *testing.T) {
	d := newDisk(t, api.MaxSectors)
	j := opened(t, d, 0, api.MaxSectors, 1)
	var all [][]byte
	for i := range api.MaxSectors {
		counts(t, j, i, api.MaxSectors-i, 1)
		appends(t, j, text(i%49, i), api.OK)
		all = append(all, text(i%49, i))
	}
	counts(t, j, api.MaxSectors, 0, 1)
	appends(t, j, nil, api.Full)
	opened(t, d, 0, api.MaxSectors, 1, all...)
	if !same(stretchOf(t, d, 0, api.MaxSectors), laid(t, 1, 1, all...)) {
		t.Errorf("on the disk is something else")
	}
}

// P1004: TooLarge above MaxFrame, whatever room there is; nothing has changed.
func TestAppendTooLarge(t *testing.T) {
	d := newDisk(t, 100)
	for _, size := range []int{1, 84, 85, 100} {
		j := opened(t, d, 0, size, 1)
		for _, n := range []int{4001, 4032, 100000} {
			appends(t, j, make([]byte, n), api.TooLarge)
		}
		counts(t, j, 0, size, 1)
	}
	if d.Writes() != 0 {
		t.Errorf("%d writes", d.Writes())
	}
}

// P1004: Full just if the parts are more than the sectors up to the stretch's end; nothing has changed then, and what fits is taken.
func TestAppendFull(t *testing.T) {
	for size := 1; size <= 5; size++ {
		for n := range 300 {
			d := newDisk(t, 8)
			j := opened(t, d, 1, size, 1)
			b := text(n, 1)
			if Parts(n) <= size {
				appends(t, j, b, api.OK)
				counts(t, j, 1, size-Parts(n), 1)
				continue
			}
			appends(t, j, b, api.Full)
			counts(t, j, 0, size, 1)
			if d.Writes() != 0 {
				t.Errorf("Full wrote %d sectors", d.Writes())
			}
			appends(t, j, b[:48*size], api.OK)
			counts(t, j, 1, 0, 1)
			appends(t, j, nil, api.Full)
			opened(t, d, 1, size, 1, b[:48*size])
			if l := stretchOf(t, d, 1+size, 7-size); slices.ContainsFunc(l, func(s []byte) bool { return !bytes.Equal(s, make([]byte, 64)) }) {
				t.Errorf("behind the stretch: % X", l)
			}
		}
	}
}

// P1004: a full journal on a disk that is down says Full: the disk is not asked, and the journal goes on.
func TestAppendFullAheadOfTheDisk(t *testing.T) {
	d := newDisk(t, 4)
	j := opened(t, d, 0, 2, 1)
	appends(t, j, []byte("a"), api.OK)
	is(t, "Arm", d.Arm(0), api.OK)
	is(t, "Write", d.Write(3, make([]byte, 64)), api.Crashed)
	appends(t, j, text(49, 1), api.Full)
	appends(t, j, text(4001, 1), api.TooLarge)
	is(t, "Restart", d.Restart(nil), api.OK)
	appends(t, j, []byte("b"), api.OK)
	opened(t, d, 0, 2, 1, []byte("a"), []byte("b"))
}

// P1004: the sectors are written rising, and synced once, behind them all: what a crash leaves tells.
func TestAppendRising(t *testing.T) {
	for at := range 4 {
		d := newDisk(t, 8)
		j := opened(t, d, 1, 6, 1)
		appends(t, j, []byte("a"), api.OK)
		is(t, "Arm", d.Arm(at), api.OK)
		appends(t, j, text(190, 1), api.Crashed)
		if d.Pending() != at+1 || d.Writes() != at+1 {
			t.Errorf("%d pending, %d writes", d.Pending(), d.Writes())
		}
		is(t, "Restart", d.Restart([]bool{true, true, true, true}), api.OK)
		want := append(laid(t, 1, 1, []byte("a")), framed(t, 1, 1, 1, text(190, 1))[:at]...)
		want = append(want, nil)
		for len(want) < 7 {
			want = append(want, make([]byte, 64))
		}
		if l := stretchOf(t, d, 1, 7); !same(l, want) {
			t.Errorf("crash at %d: % X", at, l)
		}
	}
}

// P1004: behind an error of the disk each Append is answered Crashed, TooLarge ahead of it, Full behind it, though the disk is up again; Count and Room are as they were.
func TestAppendFailed(t *testing.T) {
	d := newDisk(t, 8)
	j := opened(t, d, 0, 4, 1)
	appends(t, j, []byte("a"), api.OK)
	is(t, "Arm", d.Arm(1), api.OK)
	appends(t, j, text(100, 1), api.Crashed)
	counts(t, j, 1, 3, 1)
	failed := func() {
		t.Helper()
		appends(t, j, nil, api.Crashed)
		appends(t, j, []byte("b"), api.Crashed)
		appends(t, j, text(4000, 1), api.Crashed)
		appends(t, j, text(4001, 1), api.TooLarge)
		counts(t, j, 1, 3, 1)
	}
	failed()
	is(t, "Restart", d.Restart(nil), api.OK)
	failed()
	if d.Writes() != 2 || d.Pending() != 0 {
		t.Errorf("%d writes, %d pending", d.Writes(), d.Pending())
	}
	j = opened(t, d, 0, 4, 1, []byte("a"))
	appends(t, j, []byte("b"), api.OK)
	opened(t, d, 0, 4, 1, []byte("a"), []byte("b"))
}

// P1004: a disk that went down elsewhere: its kind, and the journal is over.
func TestAppendOnADiskThatIsDown(t *testing.T) {
	d := newDisk(t, 4)
	j, other := opened(t, d, 0, 2, 1), opened(t, d, 2, 2, 1)
	is(t, "Arm", d.Arm(0), api.OK)
	appends(t, other, []byte("a"), api.Crashed)
	appends(t, j, []byte("b"), api.Crashed)
	is(t, "Restart", d.Restart([]bool{true}), api.OK)
	appends(t, j, []byte("b"), api.Crashed)
	appends(t, opened(t, d, 0, 2, 1), []byte("b"), api.OK)
}

// P1004: the disk's kind is told, whichever it is: here of a disk that has become another one.
func TestAppendTellsTheDisksKind(t *testing.T) {
	d := newDisk(t, 4)
	j := opened(t, d, 1, 3, 1)
	*d = *newDisk(t, 2)
	appends(t, j, text(60, 1), api.Range)
	appends(t, j, []byte("b"), api.Crashed)
	counts(t, j, 0, 3, 1)
}

// Rule 4: what is handed in is not changed, its spare room neither, and not kept; the records that Open hands out are new memory.
func TestApart(t *testing.T) {
	d := newDisk(t, 8)
	j := opened(t, d, 0, 8, 1)
	b := append(text(60, 1), 0xEE, 0xEE)[:60]
	appends(t, j, b, api.OK)
	appends(t, j, b[:10], api.OK)
	if !bytes.Equal(b[:62], append(text(60, 1), 0xEE, 0xEE)) {
		t.Errorf("the record became % X", b[:62])
	}
	clear(b[:cap(b)])
	_, l, _ := Open(d, 0, 8, 1)
	overwrite(t, l)
	opened(t, d, 0, 8, 1, text(60, 1), text(60, 1)[:10])
}

// Rule 5: journals of other stretches, and of other disks, share nothing.
func TestSideBySide(t *testing.T) {
	d, e := newDisk(t, 6), newDisk(t, 6)
	a, b, c := opened(t, d, 0, 3, 1), opened(t, d, 3, 3, 1), opened(t, e, 0, 3, 1)
	for i := range 3 {
		appends(t, a, text(5, i), api.OK)
		appends(t, b, text(6, i), api.OK)
		counts(t, a, i+1, 2-i, 1)
		counts(t, b, i+1, 2-i, 1)
		counts(t, c, 0, 3, 1)
	}
	opened(t, d, 0, 3, 1, text(5, 0), text(5, 1), text(5, 2))
	opened(t, d, 3, 3, 1, text(6, 0), text(6, 1), text(6, 2))
	opened(t, e, 0, 3, 1)
}
