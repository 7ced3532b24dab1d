package disk

import (
	"slices"

	"cachette/api"
)

// choice tells which pending writes are kept: those at whose place it has true.
type choice []bool

// keeps tells whether the i-th one is.
func (c choice) keeps(i int) bool {
	return i < len(c) && c[i]
}

// each keeps every write.
func each(int) bool {
	return true
}

// Arm lets the disk go down in the midst of the Write behind so many further ones that are OK.
func (d *Disk) Arm(writes int) api.Kind {
	if k := d.ready(); k != api.OK {
		return k
	}
	if writes < 0 {
		return api.BadArg
	}
	d.armed, d.left = true, writes
	return api.OK
}

// Down tells whether the disk is down.
func (d *Disk) Down() bool {
	return d != nil && d.state == down
}

// Pending answers how many writes are pending, the one that was not ended too.
func (d *Disk) Pending() int {
	if d == nil {
		return 0
	}
	return len(d.pending)
}

// Writes answers how many Writes were OK, ever.
func (d *Disk) Writes() int {
	if d == nil {
		return 0
	}
	return d.writes
}

// Restart does those pending writes for good that keep has true for, and the disk is up.
func (d *Disk) Restart(keep []bool) api.Kind {
	if d == nil {
		return api.Nil
	}
	d.settle(choice(keep).keeps)
	copy(d.now, d.good)
	d.state, d.armed, d.left = up, false, 0
	return api.OK
}

// Copy answers another disk that is as this one.
func (d *Disk) Copy() *Disk {
	if d == nil {
		return nil
	}
	c := *d
	c.good = slices.Clone(d.good)
	c.now = slices.Clone(d.now)
	c.pending = slices.Clone(d.pending)
	return &c
}

// goDown ends in the midst of a write at i: all that it can leave there is a torn sector.
func (d *Disk) goDown(i int) {
	d.pending = append(d.pending, write{i, sector{torn: true}})
	d.state = down
}

// settle does those pending writes for good that are kept; nothing is pending then.
func (d *Disk) settle(kept func(i int) bool) {
	for i, w := range d.pending {
		if kept(i) {
			d.good[w.at] = w.what
		}
	}
	d.pending = nil
}
