package disk

import (
	"math"
	"testing"

	"cachette/api"
)

// P902: behind so many Writes that are OK the next one is answered Crashed, and the disk is down; it is the last pending one.
func TestArm(t *testing.T) {
	for n := range 6 {
		d := newDisk(t, 2)
		writes(t, d, 0, 100, api.OK)
		arms(t, d, n, api.OK)
		for i := range n {
			writes(t, d, i%2, i, api.OK)
			counts(t, d, false, i+2, i+2)
		}
		writes(t, d, 0, 200, api.Crashed)
		counts(t, d, true, n+2, n+1)
		for range 3 {
			writes(t, d, 0, 200, api.Crashed)
		}
		counts(t, d, true, n+2, n+1)
	}
}

// P902: BadArg below 0: what was armed stays as it was.
func TestArmBadArg(t *testing.T) {
	for _, n := range []int{math.MinInt, math.MinInt32, -2, -1} {
		d := newDisk(t, 1)
		arms(t, d, n, api.BadArg)
		writes(t, d, 0, 1, api.OK)
		arms(t, d, 1, api.OK)
		arms(t, d, n, api.BadArg)
		writes(t, d, 0, 2, api.OK)
		arms(t, d, n, api.BadArg)
		writes(t, d, 0, 3, api.Crashed)
	}
}

// P902: Writes that are refused are not counted, nor do they go down; Reads and Syncs neither.
func TestArmCountsWritesThatWouldBeOK(t *testing.T) {
	d := newDisk(t, 2)
	arms(t, d, 1, api.OK)
	refused := func() {
		for _, i := range noSectors(2) {
			writes(t, d, i, 9, api.Range)
			reads(t, d, i, nil, api.Range)
		}
		for _, b := range wrongBytes() {
			is(t, "Write of wrong bytes", d.Write(1, b), api.BadArg)
		}
		reads(t, d, 0, full(d.Writes()), api.OK)
	}
	refused()
	syncs(t, d, api.OK)
	writes(t, d, 0, 1, api.OK)
	refused()
	syncs(t, d, api.OK)
	refused()
	counts(t, d, false, 0, 1)
	writes(t, d, 1, 2, api.Crashed)
	counts(t, d, true, 1, 1)
}

// P902: armed again, the last Arm counts, from there on, be it more or fewer.
func TestArmedAgain(t *testing.T) {
	d := newDisk(t, 1)
	arms(t, d, 0, api.OK)
	arms(t, d, 2, api.OK)
	writes(t, d, 0, 1, api.OK)
	arms(t, d, 2, api.OK)
	writes(t, d, 0, 2, api.OK)
	writes(t, d, 0, 3, api.OK)
	arms(t, d, 5, api.OK)
	arms(t, d, 1, api.OK)
	writes(t, d, 0, 4, api.OK)
	writes(t, d, 0, 5, api.Crashed)
	counts(t, d, true, 5, 4)
}

// P902, rule 6: armed for the greatest number, a disk does not go down.
func TestArmMost(t *testing.T) {
	d := newDisk(t, 1)
	for i := range 3 {
		writes(t, d, 0, i, api.OK)
		arms(t, d, math.MaxInt, api.OK)
	}
	for i := range 1000 {
		writes(t, d, 0, i, api.OK)
	}
	counts(t, d, false, 1003, 1003)
}

// P902: a disk that is not armed goes on, however much is pending.
func TestPendingGrows(t *testing.T) {
	d := newDisk(t, 2)
	for i := range 5000 {
		writes(t, d, i%2, i, api.OK)
	}
	counts(t, d, false, 5000, 5000)
	tells(t, d, 4998, 4999)
	syncs(t, d, api.OK)
	counts(t, d, false, 0, 5000)
}

// P902: Writes counts on behind Syncs and restarts; a Write that was not OK is not counted, even if it is kept.
func TestWritesEver(t *testing.T) {
	d := newDisk(t, 1)
	for round := range 4 {
		writes(t, d, 0, 1, api.OK)
		syncs(t, d, api.OK)
		writes(t, d, 0, 2, api.OK)
		arms(t, d, 0, api.OK)
		writes(t, d, 0, 3, api.Crashed)
		counts(t, d, true, 2, 2*round+2)
		restarts(t, d, true, true)
		counts(t, d, false, 0, 2*round+2)
	}
}

// P903: the chapter's example.
func TestExample(t *testing.T) {
	d := newDisk(t, 1)
	writes(t, d, 0, 1, api.OK)
	syncs(t, d, api.OK)
	writes(t, d, 0, 2, api.OK)
	restarts(t, d, false)
	tells(t, d, 1)
}

// P903: of a disk that is up, just those are done that are kept, the last one as well as the others; nothing is torn.
func TestRestartUp(t *testing.T) {
	for _, c := range []struct {
		keep []bool
		want []int
	}{
		{nil, []int{9, 9, 0}},
		{[]bool{}, []int{9, 9, 0}},
		{[]bool{false, false, false, false}, []int{9, 9, 0}},
		{[]bool{true}, []int{1, 9, 0}},
		{[]bool{true, false, false}, []int{1, 9, 0}},
		{[]bool{false, true}, []int{9, 2, 0}},
		{[]bool{false, false, true}, []int{3, 9, 0}},
		{[]bool{true, false, true}, []int{3, 9, 0}},
		{[]bool{false, false, false, true}, []int{9, 9, 4}},
		{[]bool{true, true, false, true}, []int{1, 2, 4}},
		{[]bool{true, true, true, true}, []int{3, 2, 4}},
		{[]bool{false, true, false, false, true, true, true}, []int{9, 2, 0}},
		{[]bool{true, true, true, true, true, true, true}, []int{3, 2, 4}},
	} {
		d := newDisk(t, 3)
		writes(t, d, 0, 9, api.OK)
		writes(t, d, 1, 9, api.OK)
		syncs(t, d, api.OK)
		for i, at := range []int{0, 1, 0, 2} {
			writes(t, d, at, i+1, api.OK)
		}
		restarts(t, d, c.keep...)
		counts(t, d, false, 0, 6)
		tells(t, d, c.want...)
		restarts(t, d, true, true, true, true)
		tells(t, d, c.want...)
	}
}

// P903: the one in whose midst the disk went down, if it is kept, leaves its sector torn, whatever is there; the others are done as ever.
func TestRestartDown(t *testing.T) {
	for _, c := range []struct {
		keep []bool
		want []int
	}{
		{nil, []int{9, 0}},
		{[]bool{true}, []int{1, 0}},
		{[]bool{false, true}, []int{9, 2}},
		{[]bool{true, true}, []int{1, 2}},
		{[]bool{true, true, false}, []int{1, 2}},
		{[]bool{false, false, true}, []int{torn, 0}},
		{[]bool{true, false, true}, []int{torn, 0}},
		{[]bool{true, true, true}, []int{torn, 2}},
		{[]bool{false, true, true, true, true}, []int{torn, 2}},
		{[]bool{false, true, false, true, true}, []int{9, 2}},
	} {
		d := newDisk(t, 2)
		writes(t, d, 0, 9, api.OK)
		syncs(t, d, api.OK)
		arms(t, d, 2, api.OK)
		writes(t, d, 0, 1, api.OK)
		writes(t, d, 1, 2, api.OK)
		writes(t, d, 0, 3, api.Crashed)
		restarts(t, d, c.keep...)
		counts(t, d, false, 0, 3)
		tells(t, d, c.want...)
	}
}

// P903: what was there is gone: a torn sector stays torn behind further restarts and Syncs.
func TestTornStays(t *testing.T) {
	d := newDisk(t, 1)
	writes(t, d, 0, 1, api.OK)
	syncs(t, d, api.OK)
	arms(t, d, 0, api.OK)
	writes(t, d, 0, 2, api.Crashed)
	restarts(t, d, true)
	for range 3 {
		tells(t, d, torn)
		restarts(t, d, true, true)
		tells(t, d, torn)
		syncs(t, d, api.OK)
	}
}

// P903: the one in its midst may bear the bytes that are there: it is torn all the same.
func TestTornOfTheSameBytes(t *testing.T) {
	d := newDisk(t, 1)
	arms(t, d, 0, api.OK)
	is(t, "Write", d.Write(0, make([]byte, api.Sector)), api.Crashed)
	restarts(t, d, true)
	tells(t, d, torn)
}

// P903: behind a Restart nothing is armed, be the disk up or down ahead of it.
func TestRestartDisarms(t *testing.T) {
	d := newDisk(t, 1)
	arms(t, d, 0, api.OK)
	restarts(t, d)
	writes(t, d, 0, 1, api.OK)
	arms(t, d, 1, api.OK)
	writes(t, d, 0, 2, api.OK)
	restarts(t, d)
	writes(t, d, 0, 3, api.OK)
	arms(t, d, 0, api.OK)
	writes(t, d, 0, 4, api.Crashed)
	restarts(t, d)
	for i := range 10 {
		writes(t, d, 0, i, api.OK)
	}
	counts(t, d, false, 10, 13)
}

// P903: a torn sector is mended by a pending write that is kept, on a disk that goes down elsewhere.
func TestRestartMends(t *testing.T) {
	d := newDisk(t, 2)
	arms(t, d, 0, api.OK)
	writes(t, d, 0, 1, api.Crashed)
	restarts(t, d, true)
	arms(t, d, 1, api.OK)
	writes(t, d, 0, 2, api.OK)
	writes(t, d, 1, 3, api.Crashed)
	c := d.Copy()
	restarts(t, d, true, true)
	tells(t, d, 2, torn)
	restarts(t, c, false, true)
	tells(t, c, torn, torn)
}

// P904: a copy is as the disk, and neither sees what is done to the other.
func TestCopy(t *testing.T) {
	d := newDisk(t, 3)
	arms(t, d, 0, api.OK)
	writes(t, d, 2, 8, api.Crashed)
	restarts(t, d, true)
	writes(t, d, 0, 1, api.OK)
	syncs(t, d, api.OK)
	writes(t, d, 1, 2, api.OK)
	arms(t, d, 1, api.OK)
	c := d.Copy()
	tells(t, c, 1, 2, torn)
	counts(t, c, false, 1, 2)

	writes(t, d, 0, 3, api.OK)
	writes(t, d, 0, 4, api.Crashed)
	tells(t, c, 1, 2, torn)
	counts(t, c, false, 1, 2)
	writes(t, c, 2, 5, api.OK)
	writes(t, c, 1, 6, api.Crashed)
	counts(t, d, true, 3, 3)
	counts(t, c, true, 3, 3)

	restarts(t, c, false, true, false)
	tells(t, c, 1, 0, 5)
	counts(t, d, true, 3, 3)
	restarts(t, d, true, true, true)
	tells(t, d, torn, 2, torn)
	tells(t, c, 1, 0, 5)
}

// P904: a copy of a disk that is down is down, with the write in its midst.
func TestCopyDown(t *testing.T) {
	d := newDisk(t, 2)
	arms(t, d, 1, api.OK)
	writes(t, d, 0, 1, api.OK)
	writes(t, d, 1, 2, api.Crashed)
	c := d.Copy()
	e := c.Copy()
	for _, x := range []*Disk{c, d, e} {
		counts(t, x, true, 2, 1)
		reads(t, x, 0, nil, api.Crashed)
		restarts(t, x, true, true)
		tells(t, x, 1, torn)
		counts(t, x, false, 0, 1)
	}
}

// P904, rule 4: pending writes of a disk and of its copy stand apart, in whatever room was left behind them.
func TestCopySharesNoRoom(t *testing.T) {
	for n := range 20 {
		d := newDisk(t, 2)
		for i := range n {
			writes(t, d, 0, i, api.OK)
		}
		c := d.Copy()
		writes(t, d, 0, 101, api.OK)
		writes(t, c, 1, 102, api.OK)
		keep := make([]bool, n+1)
		keep[n] = true
		restarts(t, d, keep...)
		restarts(t, c, keep...)
		tells(t, d, 101, 0)
		tells(t, c, 0, 102)
	}
}
