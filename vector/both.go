package vector

import "cachette/api"

// What Compare answers.
const (
	alike    = 0
	below    = -1
	above    = 1
	apart    = 2
	notRight = 3 // one of them is not right
)

// Compare answers how a is to b by the Lens of all writers: 0, alike; -1, below; 1, above; 2, some are above, some below; 3, one of them is not right.
func Compare(a, b Vector) int {
	if !Right(a) || !Right(b) {
		return notRight
	}
	more, less := false, false
	both(a, b, func(x, y api.Head) {
		more = more || x.Len > y.Len
		less = less || x.Len < y.Len
	})
	switch {
	case more && less:
		return apart
	case more:
		return above
	case less:
		return below
	}
	return alike
}

// Missing answers the heads of want that go further than have's; nothing, if one of them is not right.
func Missing(have, want Vector) []api.Head {
	if !Right(have) || !Right(want) {
		return nil
	}
	var out []api.Head
	both(have, want, func(x, y api.Head) {
		if y.Len > x.Len {
			out = append(out, y)
		}
	})
	return out
}

// Conflict answers the least writer whose logs are as long in both, but end with another hash; false, if there is none, or one of them is not right.
func Conflict(a, b Vector) (int, bool) {
	if !Right(a) || !Right(b) {
		return 0, false
	}
	writer, is := 0, false
	both(a, b, func(x, y api.Head) {
		if !is && x.Len == y.Len && x.Sum != y.Sum {
			writer, is = x.Writer, true
		}
	})
	return writer, is
}

// Merge answers of each writer the head that goes further.
func Merge(a, b Vector) (Vector, api.Kind) {
	if !Right(a) || !Right(b) {
		return nil, api.BadArg
	}
	if _, is := Conflict(a, b); is {
		return nil, api.Fork
	}
	var out Vector
	both(a, b, func(x, y api.Head) {
		if y.Len > x.Len {
			x = y
		}
		out = append(out, x)
	})
	return out, api.OK
}

// both does something with both heads of each writer that one of two right vectors names, by their numbers.
func both(a, b Vector, do func(x, y api.Head)) {
	for w := range api.MaxMembers {
		x, y := head(a, w), head(b, w)
		if x.Len > 0 || y.Len > 0 {
			do(x, y)
		}
	}
}
