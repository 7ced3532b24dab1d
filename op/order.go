package op

import (
	"bytes"
	"slices"

	"cachette/api"
	"cachette/stamp"
)

// Same tells whether a and b are alike in all that they have.
func Same(a, b api.Op) bool {
	return a.Kind == b.Kind && a.At == b.At && a.Node == b.Node && a.Parent == b.Parent &&
		a.Dir == b.Dir && a.Name == b.Name && bytes.Equal(a.Data, b.Data)
}

// Less tells whether a is ahead of b.
func Less(a, b api.Op) bool {
	return stamp.Less(a.At, b.At)
}

// Sort answers the operations of l in order, of each At the first one.
func Sort(l []api.Op) []api.Op {
	out := slices.Clone(l)
	// Of one At the order of the list stays, so that the first one is the one that is kept.
	slices.SortStableFunc(out, byAt)
	out = slices.CompactFunc(out, together)
	for i := range out {
		out[i].Data = bytes.Clone(out[i].Data)
	}
	return out
}

// byAt: the order of a and b, -1, 0 or 1.
func byAt(a, b api.Op) int {
	return stamp.Compare(a.At, b.At)
}

// together: are both of one At?
func together(a, b api.Op) bool {
	return a.At == b.At
}
