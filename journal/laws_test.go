package journal

import (
	"math/rand"
	"slices"
	"testing"

	"cachette/api"
	"cachette/disk"
)

// choices calls do with each choice of n.
func choices(n int, do func(keep []bool)) {
	for set := range 1 << n {
		keep := make([]bool, n)
		for i := range keep {
			keep[i] = set>>i&1 == 1
		}
		do(keep)
	}
}

// keptWhole: the records of d's stretch are all, or all and then also b; which they are.
func keptWhole(t *testing.T, d *disk.Disk, size int, all [][]byte, b []byte) (*Journal, [][]byte) {
	t.Helper()
	j, l, k := Open(d, 0, size, 1)
	if k != api.OK {
		t.Fatalf("Open: %d", k)
	}
	if with := append(slices.Clone(all), b); same(l, with) {
		return j, with
	}
	if !same(l, all) {
		t.Fatalf("Open: % X, not % X, nor with % X", l, all, b)
	}
	return j, all
}

// crashes: from d on, whose records are all, each way in which an Append of each of some records can go down, and so on, deep times.
func crashes(t *testing.T, d *disk.Disk, all [][]byte, deep int) int {
	const size = 7
	lengths := []int{0, 50, 100}
	if deep == 0 {
		j, _ := keptWhole(t, d, size, all, nil)
		for i := range lengths {
			b := text(lengths[i], 90+i)
			appends(t, j, b, api.OK)
			all = append(slices.Clone(all), b)
			opened(t, d, 0, size, 1, all...)
		}
		return 1
	}
	n := 0
	for i, length := range lengths {
		b := text(length, 10*deep+i)
		for at := range Parts(length) {
			choices(at+1, func(keep []bool) {
				c := d.Copy()
				j := opened(t, c, 0, size, 1, all...)
				is(t, "Arm", c.Arm(at), api.OK)
				appends(t, j, b, api.Crashed)
				is(t, "Restart", c.Restart(keep), api.OK)
				_, now := keptWhole(t, c, size, all, b)
				n += crashes(t, c, now, deep-1)
			})
		}
	}
	return n
}

// P1005: behind each crash within an Append, each restart, and each crash behind that, three deep, Open tells all that was appended, and that one, or not; then appends are as ever.
func TestAllCrashes(t *testing.T) {
	d := newDisk(t, 7)
	appends(t, opened(t, d, 0, 7, 1), []byte("a"), api.OK)
	if n := crashes(t, d, [][]byte{[]byte("a")}, 3); n != 22*22*22 {
		t.Errorf("%d ways of three crashes", n)
	}
}

// P1005: a crash that leaves some parts does not make a record of them with the parts of an earlier one, though it is the same record but for its bytes.
func TestPartsOfTwoRounds(t *testing.T) {
	old, young := text(140, 1), text(140, 2)
	for first := range 8 {
		choices(2, func(keep []bool) {
			d := newDisk(t, 4)
			for i, s := range framed(t, 1, 1, 0, old) {
				if first>>i&1 == 1 {
					lay(t, d, i, s)
				}
			}
			var all [][]byte
			if first == 7 {
				all = [][]byte{old}
			}
			j, _ := keptWhole(t, d, 4, all, nil)
			if first == 7 {
				j = created(t, d, 0, 4, 1)
			}
			is(t, "Arm", d.Arm(1), api.OK)
			appends(t, j, young, api.Crashed)
			is(t, "Restart", d.Restart(keep), api.OK)
			_, l, k := Open(d, 0, 4, 1)
			is(t, "Open", k, api.OK)
			if first == 7 && !keep[0] && !keep[1] {
				if !same(l, [][]byte{old}) {
					t.Errorf("the old one is not there: % X", l)
				}
			} else if len(l) != 0 {
				t.Errorf("parts of %b and %v made % X", first, keep, l)
			}
		})
	}
}

// P1005: an Append that was OK is there behind any restart: nothing of it is pending.
func TestOKStays(t *testing.T) {
	d := newDisk(t, 20)
	j := opened(t, d, 0, 20, 1)
	var all [][]byte
	for i := range 6 {
		appends(t, j, text(30*i, i), api.OK)
		all = append(all, text(30*i, i))
		for _, keep := range [][]bool{nil, {false}, {true, true, true}} {
			c := d.Copy()
			is(t, "Restart", c.Restart(keep), api.OK)
			opened(t, c, 0, 20, 1, all...)
		}
	}
}

// run: a journal on a disk, and what must be on it.
type run struct {
	r          *rand.Rand
	d          *disk.Disk
	base, size int
	j          *Journal
	all        [][]byte
	room       int
	crashed    int
	kept       int
}

// step: an Append, of a disk that is armed at times; behind a crash a restart, and an Open.
func (x *run) step(t *testing.T) {
	t.Helper()
	b := text([]int{0, 1, 47, 48, 49, 96, 97, 150, 200}[x.r.Intn(9)], x.r.Intn(1000))
	if x.r.Intn(3) == 0 {
		is(t, "Arm", x.d.Arm(x.r.Intn(6)), api.OK)
	}
	switch k := x.j.Append(b); {
	case Parts(len(b)) > x.room:
		is(t, "Append without room", k, api.Full)
	case k == api.OK:
		x.all, x.room = append(x.all, b), x.room-Parts(len(b))
	default:
		is(t, "Append", k, api.Crashed)
		x.restart(t, b)
	}
	if x.j.Count() != len(x.all) || x.j.Room() != x.room {
		t.Errorf("Count, Room: %d, %d, not %d, %d", x.j.Count(), x.j.Room(), len(x.all), x.room)
	}
}

// restart: some of what is pending is kept; b is there, or not; the round is none that is left there.
func (x *run) restart(t *testing.T, b []byte) {
	t.Helper()
	keep := make([]bool, x.d.Pending())
	for i := range keep {
		keep[i] = x.r.Intn(4) > 0
	}
	is(t, "Restart", x.d.Restart(keep), api.OK)
	x.crashed++
	if keep[0] {
		x.kept++
	}
	j, l, k := Open(x.d, x.base, x.size, 1)
	is(t, "Open", k, api.OK)
	if with := append(slices.Clone(x.all), b); same(l, with) {
		x.all, x.room = with, x.room-Parts(len(b))
	} else if !same(l, x.all) {
		t.Fatalf("Open: %d records, not the %d of before, nor one more", len(l), len(x.all))
	}
	if _, _, last := plainScan(stretchOf(t, x.d, x.base, x.size), 1); j.Round() != last+1 {
		t.Errorf("Round: %d, not 1 more than %d", j.Round(), last)
	}
	x.j = j
}

// P1003 to P1005: long runs of appends and crashes, on stretches here and there, till they are full.
func TestLongRuns(t *testing.T) {
	crashed, kept, full := 0, 0, 0
	for seed := range int64(400) {
		r := rand.New(rand.NewSource(seed))
		x := &run{r: r, d: newDisk(t, 40), base: r.Intn(10), size: 1 + r.Intn(30)}
		x.room = x.size
		x.j = opened(t, x.d, x.base, x.size, 1)
		for range 60 {
			x.step(t)
		}
		if t.Failed() {
			t.Fatalf("seed %d", seed)
		}
		crashed, kept = crashed+x.crashed, kept+x.kept
		if x.room == 0 {
			full++
		}
	}
	if crashed < 500 || kept < 200 || full < 100 {
		t.Errorf("only %d crashes, %d with parts kept, %d full", crashed, kept, full)
	}
}

// Rule 5: the same calls answer the same.
func TestSameAgain(t *testing.T) {
	a, b := newDisk(t, 10), newDisk(t, 10)
	for i := range 5 {
		j, l, _ := Open(a, 2, 7, 3)
		m, n, _ := Open(b, 2, 7, 3)
		if !same(l, n) || j.Append(text(40*i, i)) != m.Append(text(40*i, i)) || j.Round() != m.Round() || j.Room() != m.Room() {
			t.Errorf("two disks alike are told apart at %d", i)
		}
		if !same(stretchOf(t, a, 0, 10), stretchOf(t, b, 0, 10)) {
			t.Errorf("two disks alike differ at %d", i)
		}
	}
}
