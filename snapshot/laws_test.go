package snapshot

import (
	"bytes"
	"math/rand"
	"slices"
	"testing"

	"cachette/api"
	"cachette/disk"
	"cachette/journal"
)

// state: what Open must tell.
type state struct {
	number  uint32
	snap    []byte
	records [][]byte
}

// appended: the state behind an Append.
func (x state) appended(b []byte) state {
	return state{x.number, x.snap, append(slices.Clone(x.records), b)}
}

// compacted: the state behind a Compact.
func (x state) compacted(b []byte) state {
	return state{x.number + 1, b, nil}
}

// used: how many sectors it takes of its half.
func (x state) used() int {
	n := journal.Parts(len(x.snap))
	for _, b := range x.records {
		n += journal.Parts(len(b))
	}
	return n
}

// equal: as told.
func (x state) equal(y state) bool {
	return x.number == y.number && bytes.Equal(x.snap, y.snap) && same(x.records, y.records)
}

// told: the store of d, and its state, where the state must be one of those; of number 0 Open makes 1.
func told(t *testing.T, d *disk.Disk, may ...state) (*Store, state) {
	t.Helper()
	s, snap, l, k := Open(d)
	if k != api.OK {
		t.Fatalf("Open: %d", k)
	}
	now := state{s.Number(), snap, l}
	if !slices.ContainsFunc(may, now.equal) {
		t.Fatalf("Open tells number %d, snapshot % X, %d records, which is none of %v", now.number, snap, len(l), may)
	}
	if size := (d.Sectors() - 2) / 2; s.Count() != len(l) || s.Room() != size-now.used() {
		t.Fatalf("Count, Room: %d, %d, not %d, %d", s.Count(), s.Room(), len(l), size-now.used())
	}
	return s, now
}

// choices calls do with each choice of n.
func choices(n int, do func(keep []bool)) {
	for set := range 1 << n {
		keep := make([]bool, n)
		for i := range keep {
			keep[i] = set>>i&1 == 1
		}
		do(keep)
	}
}

// call: one that writes, and the state behind it.
type call struct {
	do     func(s *Store) api.Kind
	writes int
	after  state
}

// calls: an Append, and a Compact, of each of some lengths, from x on, where there is room.
func calls(x state, size, by int) []call {
	var l []call
	for i, n := range []int{0, 50} {
		b := text(n, by+i)
		if x.used()+journal.Parts(n) <= size {
			l = append(l, call{func(s *Store) api.Kind { return s.Append(b) }, journal.Parts(n), x.appended(b)})
		}
		l = append(l, call{func(s *Store) api.Kind { return s.Compact(b) }, journal.Parts(n) + 1, x.compacted(b)})
	}
	return l
}

// crashes: from d on, whose state is x, each way in which each call goes down, and so on, deep times; how many ways there were.
func crashes(t *testing.T, d *disk.Disk, x state, deep int) int {
	t.Helper()
	size := (d.Sectors() - 2) / 2
	if deep == 0 {
		for _, c := range calls(x, size, 90) {
			e := d.Copy()
			s, _ := told(t, e, x)
			is(t, "call", c.do(s), api.OK)
			told(t, e, c.after)
		}
		return 1
	}
	ways := 0
	for _, c := range calls(x, size, 10*deep) {
		for at := range c.writes {
			pending := at + 1
			if at == c.writes-1 && c.after.number > x.number {
				pending = 1 // the head alone: the snapshot is synced
			}
			choices(pending, func(keep []bool) {
				e := d.Copy()
				s, _ := told(t, e, x)
				is(t, "Arm", e.Arm(at), api.OK)
				is(t, "call", c.do(s), api.Crashed)
				if e.Pending() != pending {
					t.Fatalf("%d pending, not %d", e.Pending(), pending)
				}
				is(t, "Restart", e.Restart(keep), api.OK)
				_, now := told(t, e, x, c.after)
				ways += crashes(t, e, now, deep-1)
			})
		}
	}
	return ways
}

// P1104: behind each crash within an Append or a Compact, each restart, and each crash behind that, three deep, Open tells the state ahead of the call, or behind it; then calls are as ever.
func TestAllCrashes(t *testing.T) {
	d := newDisk(t, 10)
	s := opened(t, d, nil)
	compacts(t, s, []byte("x"), api.OK)
	appends(t, s, []byte("a"), api.OK)
	if n := crashes(t, d, state{2, []byte("x"), [][]byte{[]byte("a")}}, 3); n < 1000 {
		t.Errorf("only %d ways of three crashes", n)
	}
}

// P1104: the same from a store on whose disk both heads are, with records in both halves.
func TestAllCrashesLater(t *testing.T) {
	d := newDisk(t, 8)
	s := opened(t, d, nil)
	for i := range 4 {
		appends(t, s, text(5, i), api.OK)
		compacts(t, s, text(6, i), api.OK)
	}
	if n := crashes(t, d, state{5, text(6, 3), nil}, 3); n < 1000 {
		t.Errorf("only %d ways of three crashes", n)
	}
}

// fresh: from d on, which has no head, each way in which Open goes down, and so on, deep times.
func fresh(t *testing.T, d *disk.Disk, deep int) {
	t.Helper()
	done := d.Copy()
	_, now := told(t, done, state{1, nil, nil})
	crashes(t, done, now, 1)
	if deep == 0 {
		return
	}
	for at := range 2 {
		choices(1, func(keep []bool) {
			e := d.Copy()
			is(t, "Arm", e.Arm(at), api.OK)
			if s, _, _, k := Open(e); s != nil || k != api.Crashed {
				t.Fatalf("Open: %v, %d", s, k)
			}
			is(t, "Restart", e.Restart(keep), api.OK)
			fresh(t, e, deep-1)
		})
	}
}

// P1104: a crash within the Open that begins a store, and any restart, however often: the store is empty.
func TestFreshCrashes(t *testing.T) {
	for _, sectors := range []int{6, 7, 10} {
		fresh(t, newDisk(t, sectors), 4)
	}
}

// P1104: what was answered OK is there behind any restart: nothing of it is pending.
func TestOKStays(t *testing.T) {
	d := newDisk(t, 20)
	s, x := told(t, d, state{1, nil, nil})
	for i := range 9 {
		b := text(25*(i%5), i)
		if i%3 == 2 {
			compacts(t, s, b, api.OK)
			x = x.compacted(b)
		} else {
			appends(t, s, b, api.OK)
			x = x.appended(b)
		}
		for _, keep := range [][]bool{nil, {false}, {true, true, true}} {
			c := d.Copy()
			is(t, "Restart", c.Restart(keep), api.OK)
			told(t, c, x)
		}
	}
}

// P1104: a store that is full has no error but Full, and is as it was, on disks of each small size, whatever comes.
func TestFullStays(t *testing.T) {
	for sectors := 6; sectors <= 20; sectors++ {
		size := (sectors - 2) / 2
		for number := range 3 {
			d := newDisk(t, sectors)
			s, x := told(t, d, state{1, nil, nil})
			for range number {
				compacts(t, s, []byte("x"), api.OK)
				x = x.compacted([]byte("x"))
			}
			for s.Room() > 0 {
				appends(t, s, []byte("a"), api.OK)
				x = x.appended([]byte("a"))
			}
			before, writes := all(t, d), d.Writes()
			is(t, "Arm", d.Arm(0), api.OK)
			for _, n := range []int{0, 1, 48, 49, 4000} {
				appends(t, s, text(n, 1), api.Full)
			}
			compacts(t, s, text(48*size+1, 1), api.Full)
			compacts(t, s, text(4000, 1), api.Full)
			if d.Down() || d.Writes() != writes || d.Pending() != 0 || !same(all(t, d), before) {
				t.Errorf("%d sectors: a full store wrote", sectors)
			}
			counts(t, s, size-1, 0, x.number)
			told(t, d, x)
			is(t, "Restart", d.Restart(nil), api.OK)
			compacts(t, s, text(48*size, 1), api.OK)
			told(t, d, x.compacted(text(48*size, 1)))
		}
	}
}

// run: a store on a disk, and what must be on it.
type run struct {
	r       *rand.Rand
	d       *disk.Disk
	s       *Store
	x       state
	size    int
	crashed int
	full    int
}

// step: a call, of a disk that is armed at times; behind a crash a restart, and an Open.
func (u *run) step(t *testing.T) {
	t.Helper()
	b := text([]int{0, 1, 47, 48, 49, 96, 97, 150, 200}[u.r.Intn(9)], u.r.Intn(1000))
	if u.r.Intn(3) == 0 {
		is(t, "Arm", u.d.Arm(u.r.Intn(6)), api.OK)
	}
	do, after, fits := u.s.Append, u.x.appended(b), u.x.used()+journal.Parts(len(b)) <= u.size
	if u.r.Intn(4) == 0 {
		do, after, fits = u.s.Compact, u.x.compacted(b), journal.Parts(len(b)) <= u.size
	}
	switch k := do(b); {
	case !fits:
		is(t, "without room", k, api.Full)
		u.full++
	case k == api.OK:
		u.x = after
	default:
		is(t, "call", k, api.Crashed)
		u.restart(t, after)
	}
	counts(t, u.s, len(u.x.records), u.size-u.x.used(), u.x.number)
}

// restart: some of what is pending is kept; the store is as it was ahead of the call, or behind it.
func (u *run) restart(t *testing.T, after state) {
	t.Helper()
	keep := make([]bool, u.d.Pending())
	for i := range keep {
		keep[i] = u.r.Intn(4) > 0
	}
	is(t, "Restart", u.d.Restart(keep), api.OK)
	u.crashed++
	u.s, u.x = told(t, u.d, u.x, after)
}

// P1101 to P1104: long runs of appends, compactions and crashes, on disks of all small sizes.
func TestLongRuns(t *testing.T) {
	crashed, full, compacted := 0, 0, 0
	for seed := range int64(400) {
		r := rand.New(rand.NewSource(seed))
		sectors := 6 + r.Intn(35)
		u := &run{r: r, d: newDisk(t, sectors), size: (sectors - 2) / 2}
		u.s, u.x = told(t, u.d, state{1, nil, nil})
		for range 100 {
			u.step(t)
		}
		if t.Failed() {
			t.Fatalf("seed %d", seed)
		}
		told(t, u.d, u.x)
		crashed, full, compacted = crashed+u.crashed, full+u.full, compacted+int(u.x.number)
	}
	if crashed < 2000 || full < 2000 || compacted < 2000 {
		t.Errorf("only %d crashes, %d full, %d compactions", crashed, full, compacted)
	}
}
