package snapshot

import (
	"bytes"
	"math"
	"slices"
	"testing"

	"cachette/api"
	"cachette/disk"
	"cachette/journal"
)

// text: n bytes that tell by, none of them 0.
func text(n, by int) []byte {
	b := make([]byte, n)
	for i := range b {
		b[i] = byte(1 + (i*7+by*31)%255)
	}
	return b
}

// same: lists of bytes, one by one; nil is as good as empty, but not in the place of a sector.
func same(a, b [][]byte) bool {
	return slices.EqualFunc(a, b, bytes.Equal)
}

// is: what a call answers.
func is(t *testing.T, what string, got, want api.Kind) {
	t.Helper()
	if got != want {
		t.Errorf("%s: %d, not %d", what, got, want)
	}
}

// newDisk: a disk of so many sectors.
func newDisk(t *testing.T, sectors int) *disk.Disk {
	t.Helper()
	d, k := disk.New(sectors)
	if k != api.OK {
		t.Fatalf("New of %d: %d", sectors, k)
	}
	return d
}

// lay: l stands on d from base on, for good.
func lay(t *testing.T, d *disk.Disk, base int, l ...[]byte) {
	t.Helper()
	for i, s := range l {
		is(t, "Write", d.Write(base+i, s), api.OK)
	}
	is(t, "Sync", d.Sync(), api.OK)
}

// tear: sector i of d is torn.
func tear(t *testing.T, d *disk.Disk, i int) {
	t.Helper()
	is(t, "Sync", d.Sync(), api.OK)
	is(t, "Arm", d.Arm(0), api.OK)
	is(t, "Write", d.Write(i, make([]byte, api.Sector)), api.Crashed)
	is(t, "Restart", d.Restart([]bool{true}), api.OK)
}

// goDown: d goes down, and keeps what it has.
func goDown(t *testing.T, d *disk.Disk) {
	t.Helper()
	is(t, "Arm", d.Arm(0), api.OK)
	is(t, "Write", d.Write(0, make([]byte, api.Sector)), api.Crashed)
}

// all: the sectors of d, nil where one is torn.
func all(t *testing.T, d *disk.Disk) [][]byte {
	t.Helper()
	var l [][]byte
	for i := range d.Sectors() {
		s, k := d.Read(i)
		if k != api.OK && k != api.BadSum {
			t.Fatalf("Read of %d: %d", i, k)
		}
		l = append(l, s)
	}
	return l
}

// headOf: a head's sector, byte by byte as the chapter lays it out.
func headOf(n uint32) []byte {
	s := make([]byte, 64)
	s[0], s[1], s[2], s[3], s[4] = 0x5E, byte(n/(1<<24)), byte(n/(1<<16)), byte(n/(1<<8)), byte(n)
	return s
}

// framed: the sectors of a record.
func framed(t *testing.T, gen, round, seq uint32, b []byte) [][]byte {
	t.Helper()
	l, k := journal.Frame(gen, round, seq, b)
	if k != api.OK {
		t.Fatalf("Frame of %d bytes: %d", len(b), k)
	}
	return l
}

// laid: the sectors of records, all of one gen and round, from seq 0 on.
func laid(t *testing.T, gen, round uint32, records ...[]byte) [][]byte {
	t.Helper()
	var l [][]byte
	for i, b := range records {
		l = append(l, framed(t, gen, round, uint32(i), b)...)
	}
	return l
}

// filled: so many sectors: l at base, all others 0.
func filled(sectors, base int, l ...[]byte) [][]byte {
	out := make([][]byte, sectors)
	for i := range out {
		out[i] = make([]byte, 64)
	}
	copy(out[base:], l)
	return out
}

// opened: Open, which must be OK, with this snapshot and these records.
func opened(t *testing.T, d *disk.Disk, snap []byte, records ...[]byte) *Store {
	t.Helper()
	s, b, l, k := Open(d)
	if k != api.OK || s == nil {
		t.Fatalf("Open: %v, %d", s, k)
	}
	if !bytes.Equal(b, snap) || !same(l, records) {
		t.Errorf("Open: % X, % X, not % X, % X", b, l, snap, records)
	}
	if s.Count() != len(records) {
		t.Errorf("Count behind Open: %d, not %d", s.Count(), len(records))
	}
	return s
}

// refused: Open answers that kind, and nothing else, and writes nothing.
func refused(t *testing.T, what string, d *disk.Disk, want api.Kind) {
	t.Helper()
	writes, pending := d.Writes(), d.Pending()
	s, b, l, k := Open(d)
	if s != nil || len(b) != 0 || len(l) != 0 || k != want {
		t.Errorf("%s: Open: %v, %d bytes, %d records, %d, not %d", what, s, len(b), len(l), k, want)
	}
	if d.Writes() != writes || d.Pending() != pending {
		t.Errorf("%s: a refused Open wrote", what)
	}
}

// appends: what Append answers.
func appends(t *testing.T, s *Store, b []byte, want api.Kind) {
	t.Helper()
	if k := s.Append(b); k != want {
		t.Errorf("Append of %d bytes: %d, not %d", len(b), k, want)
	}
}

// compacts: what Compact answers.
func compacts(t *testing.T, s *Store, snap []byte, want api.Kind) {
	t.Helper()
	if k := s.Compact(snap); k != want {
		t.Errorf("Compact of %d bytes: %d, not %d", len(snap), k, want)
	}
}

// counts: Count, Room and Number.
func counts(t *testing.T, s *Store, count, room int, number uint32) {
	t.Helper()
	if s.Count() != count || s.Room() != room || s.Number() != number {
		t.Errorf("Count, Room, Number: %d, %d, %d, not %d, %d, %d", s.Count(), s.Room(), s.Number(), count, room, number)
	}
}

// The sentence ahead of the promises: what a nil store answers; Nil comes ahead of TooLarge.
func TestNilStore(t *testing.T) {
	var s *Store
	for _, n := range []int{0, 1, 4000, 4001} {
		appends(t, s, make([]byte, n), api.Nil)
		compacts(t, s, make([]byte, n), api.Nil)
	}
	counts(t, s, 0, 0, 0)
}

// Rule 1: a store that nobody opened does not panic, and keeps nothing.
func TestZeroStore(t *testing.T) {
	var s Store
	for _, n := range []int{0, 1, 4000, 4001} {
		if s.Append(make([]byte, n)) == api.OK || s.Compact(make([]byte, n)) == api.OK {
			t.Errorf("%d bytes were kept nowhere", n)
		}
	}
	counts(t, &s, 0, 0, 0)
}

// The chapter's example: Append "a", Compact "x", Append "b", Open.
func TestExample(t *testing.T) {
	d := newDisk(t, 20)
	s := opened(t, d, nil)
	appends(t, s, []byte("a"), api.OK)
	compacts(t, s, []byte("x"), api.OK)
	appends(t, s, []byte("b"), api.OK)
	counts(t, opened(t, d, []byte("x"), []byte("b")), 1, 7, 2)
}

// P1101: every size of a disk: Nil, BadArg below 6, else two halves behind the heads.
func TestSizes(t *testing.T) {
	refused(t, "no disk", nil, api.Nil)
	refused(t, "the zero disk", &disk.Disk{}, api.BadArg)
	for n := 1; n <= 5; n++ {
		refused(t, "small", newDisk(t, n), api.BadArg)
	}
	for n := 6; n <= api.MaxSectors; n++ {
		d := newDisk(t, n)
		s := opened(t, d, nil)
		counts(t, s, 0, (n-2)/2-1, 1)
		compacts(t, s, []byte("x"), api.OK)
		counts(t, s, 0, (n-2)/2-1, 2)
	}
}

// P1101: of several kinds the first: BadArg, Crashed, Malformed.
func TestOpenOrder(t *testing.T) {
	small := newDisk(t, 5)
	goDown(t, small)
	refused(t, "small and down", small, api.BadArg)

	d := newDisk(t, 6)
	lay(t, d, 0, headOf(1))
	refused(t, "a head alone", d, api.Malformed)
	goDown(t, d)
	refused(t, "a head alone, down", d, api.Crashed)

	fresh := newDisk(t, 6)
	goDown(t, fresh)
	refused(t, "down", fresh, api.Crashed)
	is(t, "Restart", fresh.Restart(nil), api.OK)
	counts(t, opened(t, fresh, nil), 0, 1, 1)
}

// P1101, P1103: with no head a Compact of the empty snapshot is done: number 1, half 0, the head in sector 0, all of it synced.
func TestOpenFresh(t *testing.T) {
	for _, n := range []int{6, 7, 8, 9, 20, 21} {
		d := newDisk(t, n)
		counts(t, opened(t, d, nil), 0, (n-2)/2-1, 1)
		want := filled(n, 2, framed(t, 1, 1, 0, nil)...)
		want[0] = headOf(1)
		if !same(all(t, d), want) {
			t.Errorf("on the disk: % X", all(t, d))
		}
		if d.Writes() != 2 || d.Pending() != 0 {
			t.Errorf("%d writes, %d pending", d.Writes(), d.Pending())
		}
	}
}

// P1101: with a head Open writes nothing, and syncs nothing, however often.
func TestOpenWritesNothing(t *testing.T) {
	d := newDisk(t, 10)
	s := opened(t, d, nil)
	appends(t, s, []byte("a"), api.OK)
	is(t, "Write", d.Write(9, text(64, 1)), api.OK)
	writes, before := d.Writes(), all(t, d)
	for range 3 {
		counts(t, opened(t, d, nil, []byte("a")), 1, 2, 1)
	}
	if d.Writes() != writes || d.Pending() != 1 || !same(all(t, d), before) {
		t.Errorf("%d writes, %d pending, not %d and 1", d.Writes(), d.Pending(), writes)
	}
}

// P1101: a state that is laid by hand, of a number of each kind, is told, and gone on with.
func TestOpenLaid(t *testing.T) {
	snap, a, b := text(100, 1), text(50, 2), []byte{}
	for _, n := range []uint32{1, 2, 3, 4, 0xFF, 0x100, 0x01020304, 0x80000000, math.MaxUint32 - 1, math.MaxUint32} {
		for _, sectors := range []int{22, 23} {
			d, base := newDisk(t, sectors), 2
			if n%2 == 0 {
				base = 12
			}
			lay(t, d, int(1-n%2), headOf(n))
			lay(t, d, base, laid(t, n, 9, snap, a, b)...)
			counts(t, opened(t, d, snap, a, b), 2, 4, n)
			appends(t, opened(t, d, snap, a, b), []byte("c"), api.OK)
			counts(t, opened(t, d, snap, a, b, []byte("c")), 3, 3, n)
			if l := all(t, d); !same(l[base+6:base+7], framed(t, n, 10, 3, []byte("c"))) {
				t.Errorf("%d: appended: % X", n, l[base+6])
			}
		}
	}
}

// P1101: the snapshot alone is no record; an empty one is one.
func TestOpenSnapshotAlone(t *testing.T) {
	for _, snap := range [][]byte{nil, []byte("x"), text(48, 1), text(49, 1), text(192, 1)} {
		d := newDisk(t, 10)
		lay(t, d, 1, headOf(2))
		lay(t, d, 6, laid(t, 2, 1, snap)...)
		counts(t, opened(t, d, snap), 0, 4-journal.Parts(len(snap)), 2)
	}
}

// P1101: Malformed: the half of the head has no record of that gen, whatever else stands there, or in the other half.
func TestOpenMalformed(t *testing.T) {
	const size = 4
	record := func(gen, round, seq uint32) []byte { return framed(t, gen, round, seq, []byte("x"))[0] }
	wrong := map[string]func(d *disk.Disk, base int, n uint32){
		"nothing":              func(d *disk.Disk, base int, n uint32) {},
		"another gen":          func(d *disk.Disk, base int, n uint32) { lay(t, d, base, record(n+2, 1, 0)) },
		"an older gen":         func(d *disk.Disk, base int, n uint32) { lay(t, d, base, record(n-2, 1, 0)) },
		"from 1 on":            func(d *disk.Disk, base int, n uint32) { lay(t, d, base, record(n, 1, 1)) },
		"further behind":       func(d *disk.Disk, base int, n uint32) { lay(t, d, base+1, record(n, 1, 0)) },
		"round 0":              func(d *disk.Disk, base int, n uint32) { s := record(n, 1, 0); s[8] = 0; lay(t, d, base, s) },
		"a part of two":        func(d *disk.Disk, base int, n uint32) { lay(t, d, base, framed(t, n, 1, 0, text(60, 1))[0]) },
		"the other half alone": func(d *disk.Disk, base int, n uint32) { lay(t, d, 2+size-(base-2), record(n, 1, 0)) },
		"torn": func(d *disk.Disk, base int, n uint32) {
			lay(t, d, base, record(n, 1, 0))
			tear(t, d, base)
		},
		"half's end": func(d *disk.Disk, base int, n uint32) {
			l := framed(t, n, 1, 0, text(48*size+1, 1))
			lay(t, d, base, l[:min(len(l), 10-base)]...)
		},
		"the last round": func(d *disk.Disk, base int, n uint32) { lay(t, d, base+1, record(n, math.MaxUint32, 0)) },
	}
	for what, do := range wrong {
		for n, base := range map[uint32]int{3: 2, 4: 2 + size} {
			d := newDisk(t, 10)
			lay(t, d, int(1-n%2), headOf(n))
			do(d, base, n)
			refused(t, what, d, api.Malformed)
		}
	}
}

// P1101: of the greater head's half alone it is asked: that the other head's half is whole does not help.
func TestOpenMalformedGreater(t *testing.T) {
	d := newDisk(t, 10)
	lay(t, d, 0, headOf(3), headOf(4))
	lay(t, d, 2, laid(t, 3, 1, []byte("x"))...)
	refused(t, "the greater one is broken", d, api.Malformed)
	lay(t, d, 6, laid(t, 4, 1, []byte("y"))...)
	opened(t, d, []byte("y"))
	lay(t, d, 2, make([]byte, 64))
	opened(t, d, []byte("y"))
}

// P1101: Range, as journal's Open: the half's greatest round of that gen is 2^32 - 1; one less is good.
func TestOpenRange(t *testing.T) {
	for n, base := range map[uint32]int{3: 2, 4: 6} {
		d := newDisk(t, 10)
		lay(t, d, int(1-n%2), headOf(n))
		lay(t, d, base, laid(t, n, math.MaxUint32, []byte("x"))...)
		refused(t, "the last round", d, api.Range)

		lay(t, d, base, laid(t, n, 1, []byte("x"))...)
		lay(t, d, base+3, framed(t, n, math.MaxUint32, 7, []byte("x"))...)
		refused(t, "the last round, behind", d, api.Range)

		lay(t, d, base+3, framed(t, n+1, math.MaxUint32, 7, []byte("x"))...)
		lay(t, d, 2+6-base+3, framed(t, n, math.MaxUint32, 7, []byte("x"))...)
		opened(t, d, []byte("x"))

		lay(t, d, base+3, framed(t, n, math.MaxUint32-1, 7, []byte("x"))...)
		s := opened(t, d, []byte("x"))
		appends(t, s, []byte("y"), api.OK)
		refused(t, "the last round is used", d, api.Range)
	}
}

// P1101: with no head Open answers the kind of its Compact: Range of a half 0 without a round for gen 1.
func TestOpenFreshRange(t *testing.T) {
	d := newDisk(t, 10)
	lay(t, d, 5, framed(t, 1, math.MaxUint32, 3, nil)...)
	refused(t, "no round is left", d, api.Range)
	lay(t, d, 6, framed(t, 1, math.MaxUint32, 3, nil)...)
	lay(t, d, 5, framed(t, 1, 6, 3, nil)...)
	counts(t, opened(t, d, nil), 0, 3, 1)
	if l := all(t, d); !same(l[2:3], framed(t, 1, 7, 0, nil)) {
		t.Errorf("the snapshot: % X", l[2])
	}
}

// P1101: with no head Open answers Crashed where its Compact does; then it is done anew.
func TestOpenFreshCrashed(t *testing.T) {
	for at := range 2 {
		for set := range 4 {
			d := newDisk(t, 8)
			is(t, "Arm", d.Arm(at), api.OK)
			s, b, l, k := Open(d)
			if s != nil || len(b) != 0 || len(l) != 0 || k != api.Crashed {
				t.Errorf("Open: %v, %d, %d, %d", s, len(b), len(l), k)
			}
			is(t, "Restart", d.Restart([]bool{set&1 == 1, set&2 == 2}), api.OK)
			counts(t, opened(t, d, nil), 0, 2, 1)
			counts(t, opened(t, d, nil), 0, 2, 1)
		}
	}
}

// P1102: Append, Count, Room as journal's: each number of parts, in the half of the state.
func TestAppend(t *testing.T) {
	for _, n := range []int{0, 1, 47, 48, 49, 96, 97, 400, 3984, 3985, 4000} {
		for number := range uint32(3) {
			d := newDisk(t, 202)
			s := opened(t, d, nil)
			for range number {
				compacts(t, s, []byte("x"), api.OK)
			}
			before, writes := all(t, d), d.Writes()
			appends(t, s, text(n, n), api.OK)
			counts(t, s, 1, 99-journal.Parts(n), number+1)
			if d.Pending() != 0 || d.Writes() != writes+journal.Parts(n) {
				t.Errorf("%d bytes: %d pending, %d writes", n, d.Pending(), d.Writes()-writes)
			}
			copy(before[2+100*int(number%2)+1:], framed(t, number+1, 1, 1, text(n, n)))
			if !same(all(t, d), before) {
				t.Errorf("%d bytes: something else is on the disk", n)
			}
			is(t, "Restart", d.Restart(nil), api.OK)
			s, _, l, _ := Open(d)
			if !same(l, [][]byte{text(n, n)}) || s.Count() != 1 {
				t.Errorf("%d bytes: Open tells %d records", n, len(l))
			}
		}
	}
}

// P1102: TooLarge, and Full, as journal's: nothing has changed then, and what fits is taken.
func TestAppendRefused(t *testing.T) {
	d := newDisk(t, 10)
	s := opened(t, d, nil)
	before, writes := all(t, d), d.Writes()
	for _, n := range []int{145, 200, 4000} {
		appends(t, s, text(n, 1), api.Full)
	}
	for _, n := range []int{4001, 4002, 100000} {
		appends(t, s, text(n, 1), api.TooLarge)
	}
	counts(t, s, 0, 3, 1)
	if !same(all(t, d), before) || d.Writes() != writes {
		t.Errorf("a refused Append wrote")
	}
	appends(t, s, text(96, 1), api.OK)
	appends(t, s, text(49, 2), api.Full)
	appends(t, s, text(48, 2), api.OK)
	appends(t, s, nil, api.Full)
	counts(t, s, 2, 0, 1)
	opened(t, d, nil, text(96, 1), text(48, 2))
}

// P1102: behind an error of the disk each Append is answered Crashed, TooLarge ahead of it, Full behind it; the store is as it was.
func TestAppendFailed(t *testing.T) {
	d := newDisk(t, 10)
	s := opened(t, d, nil)
	appends(t, s, []byte("a"), api.OK)
	is(t, "Arm", d.Arm(1), api.OK)
	appends(t, s, text(60, 1), api.Crashed)
	for _, restart := range []bool{false, true} {
		if restart {
			is(t, "Restart", d.Restart([]bool{true, true}), api.OK)
		}
		appends(t, s, nil, api.Crashed)
		appends(t, s, text(4000, 1), api.Crashed)
		appends(t, s, text(4001, 1), api.TooLarge)
		counts(t, s, 1, 2, 1)
	}
	s = opened(t, d, nil, []byte("a"))
	appends(t, s, []byte("b"), api.OK)
	opened(t, d, nil, []byte("a"), []byte("b"))
}

// P1102: a full store on a disk that is down says Full: the disk is not asked.
func TestFullAheadOfTheDisk(t *testing.T) {
	d := newDisk(t, 6)
	s := opened(t, d, nil)
	goDown(t, d)
	appends(t, s, text(49, 1), api.Full)
	compacts(t, s, text(97, 1), api.Full)
	is(t, "Restart", d.Restart(nil), api.OK)
	appends(t, s, []byte("a"), api.OK)
	compacts(t, s, []byte("x"), api.OK)
	opened(t, d, []byte("x"))
}

// Rule 4: what is handed in is not changed, its spare room neither, and not kept.
func TestHandedIn(t *testing.T) {
	d := newDisk(t, 20)
	s := opened(t, d, nil)
	for _, call := range []func([]byte) api.Kind{s.Append, s.Compact, s.Append} {
		b := append(text(60, 1), 0xEE, 0xEE)[:60]
		is(t, "call", call(b), api.OK)
		if !bytes.Equal(b[:62], append(text(60, 1), 0xEE, 0xEE)) {
			t.Errorf("what was handed in became % X", b[:62])
		}
		clear(b[:cap(b)])
	}
	opened(t, d, text(60, 1), text(60, 1))
}

// Rule 4: what is handed out is new memory, spare room too: writing into it changes neither the store, nor the rest of it.
func TestHandedOut(t *testing.T) {
	d := newDisk(t, 40)
	s := opened(t, d, nil)
	compacts(t, s, text(60, 1), api.OK)
	for i := range 3 {
		appends(t, s, text(50, i), api.OK)
	}
	_, snap, l, _ := Open(d)
	for i := range l {
		over := l[i][:cap(l[i])]
		for j := range over {
			over[j] = 0xEE
		}
		for j := i + 1; j < len(l); j++ {
			if !bytes.Equal(l[j], text(50, j)) {
				t.Errorf("record %d shares memory with %d", i, j)
			}
		}
	}
	if !bytes.Equal(snap, text(60, 1)) {
		t.Errorf("a record shares memory with the snapshot")
	}
	spare := l[:cap(l)]
	for i := range spare {
		spare[i] = nil
	}
	over := snap[:cap(snap)]
	for j := range over {
		over[j] = 0xEE
	}
	opened(t, d, text(60, 1), text(50, 0), text(50, 1), text(50, 2))
}

// Rule 5: stores of two disks share nothing, and the same calls answer the same.
func TestSideBySide(t *testing.T) {
	d, e, f := newDisk(t, 12), newDisk(t, 12), newDisk(t, 12)
	a, b, c := opened(t, d, nil), opened(t, e, nil), opened(t, f, nil)
	for i := range 12 {
		if i%4 == 3 {
			compacts(t, a, text(i, 1), api.OK)
			compacts(t, b, text(i, 1), api.OK)
		} else {
			appends(t, a, text(i, 2), api.OK)
			appends(t, b, text(i, 2), api.OK)
		}
		if !same(all(t, d), all(t, e)) {
			t.Errorf("two disks alike differ at %d", i)
		}
		counts(t, c, 0, 4, 1)
	}
}
