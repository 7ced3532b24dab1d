package disk

import (
	"bytes"
	"math/rand"
	"slices"
	"testing"

	"cachette/api"
)

// model: a disk as the chapter tells it: numbers on sectors, asked by plain rules.
type model struct {
	synced  []int
	at, by  []int // of the pending writes, in order
	down    bool
	till    int // how many Writes are OK till it goes down; below 0: not armed
	writes  int
	touched []int // of each sector: how many writes came behind the last Sync or Restart
}

// last: what was last written at i, also pending.
func (m *model) last(i int) int {
	out := m.synced[i]
	for n, at := range m.at {
		if at == i {
			out = m.by[n]
		}
	}
	return out
}

// write: P901 and P902, word by word.
func (m *model) write(i, by, n int) api.Kind {
	if m.down {
		return api.Crashed
	}
	if i < 0 || i >= len(m.synced) {
		return api.Range
	}
	if n != api.Sector {
		return api.BadArg
	}
	m.at, m.by = append(m.at, i), append(m.by, by)
	m.touched[i]++
	if m.till == 0 {
		m.down = true
		return api.Crashed
	}
	m.till--
	m.writes++
	return api.OK
}

// sync: P901.
func (m *model) sync() api.Kind {
	if m.down {
		return api.Crashed
	}
	for i := range m.synced {
		m.synced[i] = m.last(i)
	}
	m.settled()
	return api.OK
}

// arm: P902.
func (m *model) arm(n int) api.Kind {
	if m.down {
		return api.Crashed
	}
	if n < 0 {
		return api.BadArg
	}
	m.till = n
	return api.OK
}

// restart: P903.
func (m *model) restart(keep []bool) {
	for n, at := range m.at {
		if n >= len(keep) || !keep[n] {
			continue
		}
		m.synced[at] = m.by[n]
		if m.down && n == len(m.at)-1 {
			m.synced[at] = torn
		}
	}
	m.down, m.till = false, -1
	m.settled()
}

// settled: nothing is pending.
func (m *model) settled() {
	m.at, m.by, m.touched = nil, nil, make([]int, len(m.synced))
}

// copied: P904.
func (m *model) copied() *model {
	c := *m
	c.synced, c.at, c.by, c.touched = slices.Clone(m.synced), slices.Clone(m.at), slices.Clone(m.by), slices.Clone(m.touched)
	return &c
}

// newModel: of so many sectors.
func newModel(sectors int) *model {
	m := &model{synced: make([]int, sectors), till: -1}
	m.settled()
	return m
}

// alike: d is as m, by all that can be asked.
func alike(t *testing.T, d *Disk, m *model) {
	t.Helper()
	counts(t, d, m.down, len(m.at), m.writes)
	if m.down {
		reads(t, d, 0, nil, api.Crashed)
		return
	}
	var want []int
	for i := range m.synced {
		want = append(want, m.last(i))
	}
	tells(t, d, want...)
}

// drawnKeep: some choice of n writes, at times too short, at times too long.
func drawnKeep(r *rand.Rand, n int) []bool {
	keep := make([]bool, max(0, n+r.Intn(5)-2))
	for i := range keep {
		keep[i] = r.Intn(2) == 0
	}
	return keep
}

// P901 to P904: a disk and its model, whatever is done, are alike all along.
func TestAgainstModel(t *testing.T) {
	crashes, tears := 0, 0
	for seed := range int64(300) {
		r := rand.New(rand.NewSource(seed))
		n := 1 + r.Intn(4)
		d, m := newDisk(t, n), newModel(n)
		for by := range 150 {
			switch r.Intn(16) {
			case 0, 1:
				is(t, "Sync", d.Sync(), m.sync())
			case 2:
				left := r.Intn(8) - 2
				is(t, "Arm", d.Arm(left), m.arm(left))
			case 3, 4:
				keep := drawnKeep(r, len(m.at))
				if m.down {
					crashes++
				}
				m.restart(keep)
				restarts(t, d, keep...)
				if slices.Contains(m.synced, torn) {
					tears++
				}
			case 5:
				c := d.Copy()
				alike(t, d, m)
				d = c
			case 6:
				d.Copy().Restart([]bool{true, true})
				d.Copy().Sync()
			default:
				i, size := r.Intn(n+2)-1, api.Sector
				if r.Intn(8) == 0 {
					size = r.Intn(api.Sector)
				}
				is(t, "Write", d.Write(i, full(by)[:size]), m.write(i, by, size))
			}
			alike(t, d, m)
		}
		if t.Failed() {
			t.Fatalf("seed %d", seed)
		}
	}
	if crashes < 300 || tears < 200 {
		t.Errorf("only %d crashes, %d restarts with a torn sector", crashes, tears)
	}
}

// choices calls do with each choice of n.
func choices(n int, do func(keep []bool)) {
	for set := range 1 << n {
		keep := make([]bool, n)
		for i := range keep {
			keep[i] = set>>i&1 == 1
		}
		do(keep)
	}
}

// P903: all ways of writing up to five times on two sectors, up and down, and all choices of what is kept.
func TestAllRestarts(t *testing.T) {
	for n := range 6 {
		for places := range 1 << n {
			for _, till := range []int{-1, n - 1} {
				d, m := newDisk(t, 2), newModel(2)
				writes(t, d, 1, 50, m.write(1, 50, api.Sector))
				syncs(t, d, m.sync())
				if till >= 0 {
					arms(t, d, till, m.arm(till))
				}
				for i := range n {
					at := places >> i & 1
					writes(t, d, at, i+1, m.write(at, i+1, api.Sector))
				}
				choices(n, func(keep []bool) {
					c, mc := d.Copy(), m.copied()
					mc.restart(keep)
					restarts(t, c, keep...)
					alike(t, c, mc)
				})
				alike(t, d, m)
			}
		}
	}
}

// P905: what was synced is there behind any restart, but where something was written behind it: there is that, one of what was pending, or a torn sector where the disk went down.
func TestSyncedStays(t *testing.T) {
	for seed := range int64(400) {
		r := rand.New(rand.NewSource(seed))
		n := 1 + r.Intn(6)
		d, m := newDisk(t, n), newModel(n)
		for range 10 {
			for by := range r.Intn(8) {
				i := r.Intn(n)
				writes(t, d, i, by+1, m.write(i, by+1, api.Sector))
			}
			syncs(t, d, m.sync())
			if r.Intn(2) == 0 {
				till := r.Intn(6)
				arms(t, d, till, m.arm(till))
			}
			for by := range r.Intn(8) {
				i := r.Intn(n)
				writes(t, d, i, by+100, m.write(i, by+100, api.Sector))
			}
			keep := drawnKeep(r, d.Pending())
			restarts(t, d, keep...)
			stays(t, d, m)
			m.restart(keep)
		}
		if t.Failed() {
			t.Fatalf("seed %d", seed)
		}
	}
}

// stays: each sector of d has what m, ahead of the restart, had synced, or something that was written there behind it.
func stays(t *testing.T, d *Disk, m *model) {
	t.Helper()
	for i, was := range m.synced {
		b, k := d.Read(i)
		if m.touched[i] == 0 {
			if was == torn {
				is(t, "Read of a torn sector", k, api.BadSum)
			} else if k != api.OK || !bytes.Equal(b, full(was)) {
				t.Errorf("sector %d was synced as %d: % X, %d", i, was, b, k)
			}
			continue
		}
		if k == api.BadSum && (was == torn || m.down && m.at[len(m.at)-1] == i) {
			continue
		}
		of := was != torn && bytes.Equal(b, full(was))
		for n, at := range m.at {
			of = of || at == i && bytes.Equal(b, full(m.by[n]))
		}
		if k != api.OK || !of {
			t.Errorf("sector %d has what was never written there: % X, %d", i, b, k)
		}
	}
}

// Rule 4: what is handed in is not changed, its spare room neither, and not kept.
func TestKeepsNothingOfTheCaller(t *testing.T) {
	d := newDisk(t, 1)
	b := append(full(7), 0xEE, 0xEE)[:api.Sector]
	is(t, "Write", d.Write(0, b), api.OK)
	if !bytes.Equal(b[:api.Sector+2], append(full(7), 0xEE, 0xEE)) {
		t.Errorf("the bytes became % X", b[:api.Sector+2])
	}
	clear(b[:cap(b)])
	tells(t, d, 7)
	restarts(t, d, true)
	tells(t, d, 7)

	writes(t, d, 0, 8, api.OK)
	writes(t, d, 0, 9, api.OK)
	keep := []bool{true, false, true, true}[:2]
	is(t, "Restart", d.Restart(keep), api.OK)
	if !slices.Equal(keep[:4], []bool{true, false, true, true}) {
		t.Errorf("keep became %v", keep[:4])
	}
	keep[0], keep[1] = false, true
	tells(t, d, 8)
}

// Rule 4: keep ends where it ends: what stands in its spare room keeps nothing.
func TestSpareRoomKeepsNothing(t *testing.T) {
	d := newDisk(t, 1)
	writes(t, d, 0, 1, api.OK)
	restarts(t, d, []bool{true, true}[:0]...)
	tells(t, d, 0)
}

// Rule 4: what Read hands out is new memory: writing into it changes nothing, pending or synced, nor another answer.
func TestHandsOutNewMemory(t *testing.T) {
	d := newDisk(t, 2)
	writes(t, d, 0, 1, api.OK)
	for range 2 {
		a, _ := d.Read(0)
		b, _ := d.Read(0)
		zero, _ := d.Read(1)
		for _, x := range [][]byte{a, zero} {
			x = x[:cap(x)]
			for i := range x {
				x[i] = 0x55
			}
		}
		if !bytes.Equal(b, full(1)) {
			t.Errorf("another answer became % X", b)
		}
		tells(t, d, 1, 0)
		syncs(t, d, api.OK)
		tells(t, d, 1, 0)
		restarts(t, d)
		tells(t, d, 1, 0)
	}
	b, _ := d.Read(0)
	writes(t, d, 0, 2, api.OK)
	if !bytes.Equal(b, full(1)) {
		t.Errorf("what was read became % X", b)
	}
}

// Rule 5: two disks share nothing.
func TestApart(t *testing.T) {
	a, b := newDisk(t, 1), newDisk(t, 1)
	arms(t, a, 0, api.OK)
	writes(t, b, 0, 1, api.OK)
	writes(t, a, 0, 2, api.Crashed)
	counts(t, b, false, 1, 1)
	tells(t, b, 1)
	restarts(t, a, true)
	tells(t, a, torn)
	tells(t, b, 1)
}

// Rule 8 of the language: nothing that is no longer pending is kept.
func TestForgets(t *testing.T) {
	d := newDisk(t, 1)
	writes(t, d, 0, 1, api.OK)
	syncs(t, d, api.OK)
	if cap(d.pending) != 0 {
		t.Errorf("%v is still there", d.pending[:cap(d.pending)])
	}
	writes(t, d, 0, 2, api.OK)
	restarts(t, d)
	if cap(d.pending) != 0 {
		t.Errorf("%v is still there", d.pending[:cap(d.pending)])
	}
}
