package snapshot

import (
	"math"

	"cachette/api"
	"cachette/journal"
)

// Compact puts snap in the place of the snapshot and all records.
func (s *Store) Compact(snap []byte) api.Kind {
	if s == nil {
		return api.Nil
	}
	if k := s.refusal(snap); k != api.OK {
		return k
	}
	next := s.number + 1
	j, k := s.begin(next, snap)
	s.note(k)
	if k == api.OK {
		s.journal, s.number = j, next
	}
	return k
}

// refusal answers what keeps snap from being the next snapshot, ahead of all writes.
func (s *Store) refusal(snap []byte) api.Kind {
	n := journal.Parts(len(snap))
	if n == 0 {
		return api.TooLarge
	}
	if s.failed {
		return api.Crashed
	}
	if s.number == math.MaxUint32 {
		return api.Range
	}
	if _, size := half(s.disk, s.number); n > size {
		return api.Full
	}
	return api.OK
}

// begin answers a journal of number n that begins with snap. It counts from the last step on: up to there the head that counts, and its half, are as they were.
func (s *Store) begin(n uint32, snap []byte) (*journal.Journal, api.Kind) {
	var j *journal.Journal
	base, size := half(s.disk, n)
	steps := []func() api.Kind{
		func() (k api.Kind) {
			j, k = journal.Create(s.disk, base, size, n)
			return k
		},
		func() api.Kind { return j.Append(snap) },
		func() api.Kind { return s.disk.Write(place(n), head(n)) },
		func() api.Kind { return s.disk.Sync() },
	}
	for _, step := range steps {
		if k := step(); k != api.OK {
			return nil, k
		}
	}
	return j, api.OK
}
