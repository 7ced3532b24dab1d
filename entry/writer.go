package entry

import (
	"cachette/api"
	"cachette/stamp"
	"cachette/wire"
)

// fields is a writer: it puts fields of entries, one behind the other.
type fields struct {
	b []byte // what was put
}

// text puts what a writer signs of its entry.
func (f *fields) text(e api.Entry) {
	put := f.nums
	put(count(e.Writer), count(e.Index), e.Prev)
	f.b = stamp.Put(f.b, e.At)
	f.epoch(e.Epoch)
	f.b = wire.Bytes(f.b, e.Body)
}

// bound puts what a sealed body is bound to.
func (f *fields) bound(writer, index, epoch int) {
	put := f.nums
	put(count(writer), count(index))
	f.epoch(epoch)
}

// nums puts some numbers at once.
func (f *fields) nums(l ...uint64) {
	for _, n := range l {
		f.b = wire.Num(f.b, n)
	}
}

// epoch puts a number that may be below 0.
func (f *fields) epoch(n int) {
	f.b = wire.Int(f.b, int64(n))
}

// count answers n, or 0 for what is below 0, as no writer or index is.
func count(n int) uint64 {
	return uint64(max(n, 0))
}
