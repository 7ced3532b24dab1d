package tree

import (
	"cachette/api"
	"cachette/op"
)

// mostSteps is how many parents are gone up at most: in a ring, which Set may make, it would never end.
const mostSteps = api.MaxNodes + 1

// Within tells whether m is within n.
func (t *Tree) Within(n, m api.Stamp) bool {
	if t == nil {
		return false
	}
	if m == n {
		return true
	}
	// The root has all within it, also what no chain of parents joins to it: operations leave no such item, but Set may.
	if n == op.Root() {
		return t.has(m)
	}
	return t.has(n) && t.leads(m, n, func(Item) bool { return true })
}

// Hangs tells whether n is the root, or there and, with all that it is within, not removed.
func (t *Tree) Hangs(n api.Stamp) bool {
	if t == nil {
		return false
	}
	return n == op.Root() || t.leads(n, op.Root(), func(it Item) bool { return !it.Gone })
}

// leads: does the chain of parents go up from one stamp to another one, over items that will do?
func (t *Tree) leads(from, to api.Stamp, will func(Item) bool) bool {
	for range mostSteps {
		it, there := t.look(from)
		if !there || !will(it) {
			return false
		}
		from = it.Parent
		if from == to {
			return true
		}
	}
	return false
}
