package undo

import (
	"bytes"
	"slices"

	"cachette/api"
	"cachette/tree"
)

// step is an operation that was done, with what it takes to undo it: its node's item as it was, and whether it was there.
type step struct {
	op    api.Op
	was   tree.Item
	there bool
}

// change undoes the steps from place i on, lets how change them, and does those again that are from i on then.
func (l *Log) change(i int, how func([]step) []step) {
	t := l.Tree()
	for _, s := range slices.Backward(l.steps[i:]) {
		s.undo(t)
	}
	l.steps = how(l.steps)
	for j := i; j < len(l.steps); j++ {
		l.steps[j].do(t)
	}
}

// do does the step's operation, and keeps what it takes to undo it. What the tree refuses stays a step: it may be done when others have come or gone.
func (s *step) do(t *tree.Tree) {
	s.was, s.there, _ = t.Do(s.op)
	// Set asks whose item it is also of one that was not there.
	s.was.Node = s.op.Node
}

// undo: the step's node is as it was ahead of it.
func (s step) undo(t *tree.Tree) {
	t.Set(s.was, s.there)
}

// copied answers it in new memory.
func (s step) copied() step {
	s.op.Data = bytes.Clone(s.op.Data)
	s.was.Data = bytes.Clone(s.was.Data)
	return s
}
