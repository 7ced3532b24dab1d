package undo

import (
	"math"
	"slices"
	"strconv"
	"strings"
	"testing"

	"cachette/api"
	"cachette/op"
	"cachette/sample"
	"cachette/tree"
)

var root = api.Stamp{}

// Stamps, and right operations of the four kinds.
var at, mk, mv, rm, wr = sample.At, sample.Make, sample.Move, sample.Remove, sample.Write

// tell: operations as a text.
func tell(l []api.Op) string {
	var out strings.Builder
	for _, o := range l {
		out.WriteString(stamped(o.At) + ": " + strconv.Itoa(o.Kind) + " of " + stamped(o.Node) + " in " + stamped(o.Parent) +
			" " + strconv.FormatBool(o.Dir) + " " + strconv.Quote(o.Name) + " " + strconv.Quote(string(o.Data)) + "\n")
	}
	return out.String()
}

// grown: a tree as a text.
func grown(t *tree.Tree) string {
	var out strings.Builder
	for _, it := range t.All() {
		out.WriteString(stamped(it.Node) + " in " + stamped(it.Parent) + ": " + strconv.Quote(it.Name) + " dir " + strconv.FormatBool(it.Dir) +
			", gone " + strconv.FormatBool(it.Gone) + ", " + strconv.Quote(string(it.Data)) + " by " + stamped(it.By) + "\n")
	}
	return out.String()
}

// stamped: a stamp as a text.
func stamped(s api.Stamp) string {
	return strconv.FormatInt(s.T, 10) + "." + strconv.Itoa(s.W)
}

// holds: l has just these operations, told in their order, and the tree that they make.
func holds(t *testing.T, l *Log, want ...api.Op) {
	t.Helper()
	if got := tell(l.Ops()); got != tell(want) {
		t.Errorf("Ops:\n%snot:\n%s", got, tell(want))
	}
	if l.Len() != len(want) {
		t.Errorf("Len: %d, not %d", l.Len(), len(want))
	}
	for _, o := range want {
		if !l.Has(o.At) {
			t.Errorf("Has of %s: false", stamped(o.At))
		}
	}
	if got, built := grown(l.Tree()), grown(tree.Build(want)); got != built {
		t.Errorf("Tree:\n%snot:\n%s", got, built)
	}
}

// inserts: Insert's answer is that count, and OK.
func inserts(t *testing.T, l *Log, o api.Op, behind int) {
	t.Helper()
	if n, k := l.Insert(o); n != behind || k != api.OK {
		t.Errorf("Insert of %s: %d, %d, not %d", stamped(o.At), n, k, behind)
	}
}

// removes: Remove's answer is that count, and OK.
func removes(t *testing.T, l *Log, s api.Stamp, behind int) {
	t.Helper()
	if n, k := l.Remove(s); n != behind || k != api.OK {
		t.Errorf("Remove of %s: %d, %d, not %d", stamped(s), n, k, behind)
	}
}

// refuses: Insert's answer is that kind, and nothing else; nothing has changed.
func refuses(t *testing.T, l *Log, o api.Op, want api.Kind) {
	t.Helper()
	before := l.Ops()
	if n, k := l.Insert(o); n != 0 || k != want {
		t.Errorf("Insert of %v: %d, %d, not %d", o, n, k, want)
	}
	holds(t, l, before...)
}

// findsNone: Remove's answer is NotFound, and nothing else; nothing has changed.
func findsNone(t *testing.T, l *Log, s api.Stamp) {
	t.Helper()
	before := l.Ops()
	if n, k := l.Remove(s); n != 0 || k != api.NotFound {
		t.Errorf("Remove of %v: %d, %d", s, n, k)
	}
	if l.Has(s) {
		t.Errorf("Has of %v", s)
	}
	holds(t, l, before...)
}

// filled: a log of these, which came in this order.
func filled(ops ...api.Op) *Log {
	l := New()
	for _, o := range ops {
		l.Insert(o)
	}
	return l
}

// some: operations of all kinds, in order: b is made in a, c in b, and each of the others changes what is ahead of it.
func some() []api.Op {
	a, b, c := at(1, 0), at(1, 1), at(2, 0)
	return []api.Op{
		mk(a, root, true, "a"), mk(b, a, true, "b"), mk(c, b, false, "c"),
		wr(at(3, 0), c, "x"), mv(at(3, 1), b, root, "bb"), mv(at(4, 0), a, b, "in"), rm(at(5, 0), c), wr(at(6, 0), c, "y"), mv(at(6, 1), c, a, "back"),
	}
}

// P1701: New has no operation, and a tree of nothing.
func TestNew(t *testing.T) {
	l := New()
	holds(t, l)
	if l.Tree() == nil || l.Tree().Len() != 0 {
		t.Errorf("Tree of New: %v", l.Tree())
	}
	if New() == New() || New().Tree() == New().Tree() {
		t.Error("two of New are one")
	}
}

// P1701: operations that come in order have none behind them.
func TestInsertInOrder(t *testing.T) {
	l, ops := New(), some()
	for i, o := range ops {
		inserts(t, l, o, 0)
		holds(t, l, ops[:i+1]...)
	}
}

// P1701: operations that come the other way round have all behind them.
func TestInsertFromBehind(t *testing.T) {
	l, ops := New(), some()
	for i, o := range slices.Backward(ops) {
		inserts(t, l, o, len(ops)-1-i)
		holds(t, l, ops[i:]...)
	}
}

// P1701: each operation may come last, wherever it stands; behind it are those of a later At.
func TestInsertLast(t *testing.T) {
	ops := some()
	for i := range ops {
		l := filled(slices.Delete(slices.Clone(ops), i, i+1)...)
		inserts(t, l, ops[i], len(ops)-1-i)
		holds(t, l, ops...)
	}
}

// P1701: behind is told by T, then by W.
func TestInsertByWriter(t *testing.T) {
	l := New()
	inserts(t, l, mk(at(5, 3), root, true, "d"), 0)
	inserts(t, l, mk(at(5, 7), root, true, "h"), 0)
	inserts(t, l, mk(at(5, 0), root, true, "a"), 2)
	inserts(t, l, mk(at(5, 5), root, true, "f"), 1)
	inserts(t, l, mk(at(4, 7), root, true, "z"), 4)
	inserts(t, l, mk(at(6, 0), root, true, "y"), 0)
	inserts(t, l, mk(at(api.MaxTime, 7), root, true, "last"), 0)
	inserts(t, l, mk(at(1, 0), root, true, "first"), 7)
	if l.Len() != 8 || l.Tree().Len() != 8 {
		t.Errorf("%d operations, %d items", l.Len(), l.Tree().Len())
	}
}

// P1701: what does nothing counts, too: it is among them, and behind others.
func TestInsertOfWhatDoesNothing(t *testing.T) {
	nobody := at(9, 1)
	l := New()
	ops := []api.Op{mv(at(2, 0), nobody, root, "n"), rm(at(3, 0), nobody), wr(at(4, 0), nobody, "n")}
	for _, o := range ops {
		inserts(t, l, o, 0)
	}
	holds(t, l, ops...)
	if l.Tree().Len() != 0 {
		t.Errorf("items:\n%s", grown(l.Tree()))
	}
	inserts(t, l, mk(at(1, 0), nobody, true, "a"), 3)
	if l.Tree().Len() != 0 || l.Len() != 4 {
		t.Errorf("items:\n%s", grown(l.Tree()))
	}
}

// P1701: BadArg, if it is not right.
func TestInsertOfWhatIsNotRight(t *testing.T) {
	good := mk(at(1, 0), root, true, "a")
	wrong := map[string]func(o *api.Op){
		"no kind":        func(o *api.Op) { o.Kind = 0 },
		"kind 5":         func(o *api.Op) { o.Kind = 5 },
		"kind -1":        func(o *api.Op) { o.Kind = -1 },
		"kind max":       func(o *api.Op) { o.Kind = math.MaxInt },
		"time 0":         func(o *api.Op) { o.At.T, o.Node.T = 0, 0 },
		"beyond MaxTime": func(o *api.Op) { o.At.T, o.Node.T = api.MaxTime+1, api.MaxTime+1 },
		"no member":      func(o *api.Op) { o.At.W, o.Node.W = api.MaxMembers, api.MaxMembers },
		"member -1":      func(o *api.Op) { o.At.W, o.Node.W = -1, -1 },
		"another node":   func(o *api.Op) { o.Node = at(2, 0) },
		"no parent":      func(o *api.Op) { o.Parent = at(0, 1) },
		"no name":        func(o *api.Op) { o.Name = "" },
		"name of path":   func(o *api.Op) { o.Name = "a/b" },
		"long name":      func(o *api.Op) { o.Name = strings.Repeat("a", api.MaxName+1) },
		"data":           func(o *api.Op) { o.Data = []byte("x") },
		"write of dir":   func(o *api.Op) { *o = wr(o.At, o.Node, ""); o.Dir = true },
		"long content":   func(o *api.Op) { *o = wr(o.At, o.Node, strings.Repeat("a", api.MaxContent+1)) },
		"named removal":  func(o *api.Op) { *o = rm(o.At, o.Node); o.Name = "a" },
		"moved root":     func(o *api.Op) { *o = mv(o.At, root, root, "a") },
	}
	for what, how := range wrong {
		o := good
		how(&o)
		if op.Right(o) {
			t.Errorf("%s: right", what)
		}
		refuses(t, New(), o, api.BadArg)
		refuses(t, filled(some()...), o, api.BadArg)
	}
	refuses(t, New(), api.Op{}, api.BadArg)
}

// P1701: Replay, if there is one of that At, whatever else it says; BadArg is ahead of it.
func TestInsertReplay(t *testing.T) {
	ops := some()
	l := filled(ops...)
	for _, o := range ops {
		refuses(t, l, o, api.Replay)
		refuses(t, l, mk(o.At, root, true, "other"), api.Replay)
		refuses(t, l, rm(o.At, at(1, 0)), api.Replay)
		o.Kind = 9
		refuses(t, l, o, api.BadArg)
	}
	// What does nothing is there, too.
	l = filled(rm(at(3, 3), at(9, 0)))
	refuses(t, l, rm(at(3, 3), at(9, 0)), api.Replay)
}

// P1702: each may go, wherever it stands; those of a later At are behind it.
func TestRemove(t *testing.T) {
	ops := some()
	for i, o := range ops {
		l := filled(ops...)
		removes(t, l, o.At, len(ops)-1-i)
		left := slices.Delete(slices.Clone(ops), i, i+1)
		holds(t, l, left...)
		findsNone(t, l, o.At)
		inserts(t, l, o, len(ops)-1-i)
		holds(t, l, ops...)
	}
}

// P1702: all may go, from ahead, or from behind; then there is nothing.
func TestRemoveAll(t *testing.T) {
	ops := some()
	ahead, behind := filled(ops...), filled(ops...)
	for i, o := range ops {
		removes(t, ahead, o.At, len(ops)-1-i)
		holds(t, ahead, ops[i+1:]...)
	}
	for i, o := range slices.Backward(ops) {
		removes(t, behind, o.At, 0)
		holds(t, behind, ops[:i]...)
	}
	if ahead.Tree().Len() != 0 || behind.Tree().Len() != 0 {
		t.Error("items, but no operation")
	}
}

// P1702: in the place of one that went, another of its At may come.
func TestRemoveAndAnother(t *testing.T) {
	ops := some()
	l := filled(ops...)
	removes(t, l, ops[1].At, 7)
	ops[1] = mk(at(1, 1), root, false, "file")
	inserts(t, l, ops[1], 7)
	holds(t, l, ops...)
}

// P1702: NotFound: of no operation, beside those that are there, of stamps that no operation has.
func TestRemoveNotFound(t *testing.T) {
	none := []api.Stamp{
		root, at(2, 1), at(1, 2), at(7, 0), at(4, 1), at(api.MaxTime, 7), at(0, 1), at(-1, 0), at(1, -1), at(1, 8),
		at(math.MinInt64, math.MinInt), at(math.MaxInt64, math.MaxInt),
	}
	for _, s := range none {
		findsNone(t, New(), s)
		findsNone(t, filled(some()...), s)
	}
}

// P1702: a node that is moved, written or removed alone is no operation: its At is asked.
func TestRemoveAsksAt(t *testing.T) {
	o := rm(at(3, 0), at(1, 0))
	l := filled(o)
	findsNone(t, l, at(1, 0))
	removes(t, l, at(3, 0), 0)
}

// P1703: Has tells of each At whether it is there, as they come and go.
func TestHas(t *testing.T) {
	l, ops := New(), some()
	for i, o := range ops {
		if l.Has(o.At) {
			t.Errorf("Has of %s, ahead of its coming", stamped(o.At))
		}
		l.Insert(o)
		if !l.Has(o.At) || l.Len() != i+1 {
			t.Errorf("Has of %s: false, of %d", stamped(o.At), l.Len())
		}
	}
	for _, s := range []api.Stamp{root, at(2, 1), at(9, 9), at(-1, 0)} {
		if l.Has(s) {
			t.Errorf("Has of %s", stamped(s))
		}
	}
	l.Remove(ops[4].At)
	if l.Has(ops[4].At) || !l.Has(ops[3].At) || !l.Has(ops[5].At) {
		t.Error("Has, behind a Remove")
	}
}

// P1703: Ops are in order, whatever the order in which they came, with all that each one has.
func TestOps(t *testing.T) {
	ops := some()
	l := filled(ops[5], ops[2], ops[8], ops[0], ops[7], ops[1], ops[3], ops[6], ops[4])
	got := l.Ops()
	if len(got) != len(ops) {
		t.Fatalf("%d operations", len(got))
	}
	for i, o := range got {
		if !op.Same(o, ops[i]) {
			t.Errorf("%d: %v, not %v", i, o, ops[i])
		}
	}
}

// P1703: Tree is the tree itself: it is asked once, and has what comes and goes; who changes it changes the log's.
func TestTree(t *testing.T) {
	l := New()
	u := l.Tree()
	l.Insert(mk(at(1, 0), root, true, "a"))
	if it, there := u.Get(at(1, 0)); !there || it.Name != "a" {
		t.Errorf("Get: %v, %t", it, there)
	}
	l.Insert(mv(at(2, 0), at(1, 0), root, "b"))
	l.Remove(at(1, 0))
	if u.Len() != 0 || u != l.Tree() {
		t.Errorf("%d items", u.Len())
	}
	u.Set(tree.Item{Node: at(7, 7), Parent: root, Name: "own"}, true)
	if it, there := l.Tree().Get(at(7, 7)); !there || it.Name != "own" {
		t.Errorf("Get: %v, %t", it, there)
	}
	if l.Len() != 1 || l.Has(at(7, 7)) {
		t.Error("what was set is an operation")
	}
}

// P1703: Copy has the same, and goes its own way, as the log does.
func TestCopy(t *testing.T) {
	ops := some()
	l := filled(ops...)
	c := l.Copy()
	holds(t, c, ops...)
	if c == l || c.Tree() == l.Tree() {
		t.Error("the copy is the log")
	}
	removes(t, c, ops[0].At, 8)
	inserts(t, c, mk(at(1, 2), root, true, "new"), 7)
	holds(t, l, ops...)
	changed := append([]api.Op{ops[1], mk(at(1, 2), root, true, "new")}, ops[2:]...)
	holds(t, c, changed...)
	removes(t, l, ops[8].At, 0)
	removes(t, l, ops[1].At, 6)
	holds(t, c, changed...)
	holds(t, l, append([]api.Op{ops[0]}, ops[2:8]...)...)
}

// P1703: a copy undoes as the log does, each of its steps.
func TestCopyUndoes(t *testing.T) {
	ops := some()
	for i := range ops {
		c := filled(ops...).Copy().Copy()
		for j := len(ops) - 1; j >= i; j-- {
			removes(t, c, ops[j].At, 0)
			holds(t, c, ops[:j]...)
		}
	}
	c := New().Copy()
	holds(t, c)
	inserts(t, c, ops[0], 0)
	holds(t, c, ops[0])
}

// P1703: the tree of a copy is that of the log, as it is.
func TestCopyOfTree(t *testing.T) {
	l := filled(some()...)
	l.Tree().Set(tree.Item{Node: at(7, 7), Parent: root, Name: "own", Data: []byte("x")}, true)
	c := l.Copy()
	if !tree.Same(c.Tree(), l.Tree()) {
		t.Errorf("Tree:\n%snot:\n%s", grown(c.Tree()), grown(l.Tree()))
	}
	c.Tree().Set(tree.Item{Node: at(7, 7)}, false)
	if _, there := l.Tree().Get(at(7, 7)); !there {
		t.Error("the copy's tree is the log's")
	}
}

// P1701 to P1703, of nil: Nil, 0, false, nothing; also ahead of what else would be wrong.
func TestNil(t *testing.T) {
	var l *Log
	for _, o := range []api.Op{mk(at(1, 0), root, true, "a"), {}} {
		if n, k := l.Insert(o); n != 0 || k != api.Nil {
			t.Errorf("Insert: %d, %d", n, k)
		}
	}
	for _, s := range []api.Stamp{at(1, 0), root} {
		if n, k := l.Remove(s); n != 0 || k != api.Nil {
			t.Errorf("Remove: %d, %d", n, k)
		}
		if l.Has(s) {
			t.Error("Has")
		}
	}
	if l.Len() != 0 || len(l.Ops()) != 0 || l.Tree() != nil || l.Copy() != nil {
		t.Errorf("%d, %v, %v, %v", l.Len(), l.Ops(), l.Tree(), l.Copy())
	}
}

// Rule 1: a log that New did not make is as one of New, whatever it is asked first.
func TestZero(t *testing.T) {
	first := mk(at(1, 0), root, true, "a")
	for _, ask := range []func(l *Log){
		func(l *Log) {}, func(l *Log) { l.Remove(at(1, 0)) }, func(l *Log) { l.Has(at(1, 0)) }, func(l *Log) { l.Ops() },
		func(l *Log) { l.Tree() }, func(l *Log) { holds(t, l.Copy()) }, func(l *Log) { l.Insert(api.Op{}) },
	} {
		l := &Log{}
		ask(l)
		holds(t, l)
		inserts(t, l, first, 0)
		holds(t, l, first)
		holds(t, l.Copy(), first)
	}
}

// P1701, example 1: a move that comes ahead of what makes its node does nothing, till that comes.
func TestMoveAheadOfMake(t *testing.T) {
	a, d := mk(at(1, 1), root, false, "a"), mk(at(2, 1), root, true, "d")
	moved := mv(at(3, 1), a.At, d.At, "x")
	l := filled(d)
	inserts(t, l, moved, 0)
	if _, there := l.Tree().Get(a.At); there || l.Tree().Len() != 1 {
		t.Errorf("moved:\n%s", grown(l.Tree()))
	}
	inserts(t, l, a, 2)
	if it, there := l.Tree().Get(a.At); !there || it.Parent != d.At || it.Name != "x" {
		t.Errorf("not moved:\n%s", grown(l.Tree()))
	}
	holds(t, l, a, d, moved)
}

// P1701, P1702: of two moves that would make a ring the first one by At is done, whichever came first; once it goes, the other one is.
func TestMovesIntoEachOther(t *testing.T) {
	a, b := mk(at(1, 0), root, true, "a"), mk(at(1, 1), root, true, "b")
	first, second := mv(at(2, 0), a.At, b.At, "in"), mv(at(3, 0), b.At, a.At, "in")
	l := filled(a, b, second)
	if it, _ := l.Tree().Get(b.At); it.Parent != a.At {
		t.Errorf("alone:\n%s", grown(l.Tree()))
	}
	inserts(t, l, first, 1)
	if it, _ := l.Tree().Get(b.At); it.Parent != root {
		t.Errorf("behind the other:\n%s", grown(l.Tree()))
	}
	removes(t, l, first.At, 1)
	if it, _ := l.Tree().Get(b.At); it.Parent != a.At {
		t.Errorf("alone again:\n%s", grown(l.Tree()))
	}
	holds(t, l, a, b, second)
}

// P1702: what an operation did is undone in all that an item has.
func TestRemoveUndoes(t *testing.T) {
	d, f := mk(at(1, 0), root, true, "d"), mk(at(2, 0), root, false, "f")
	first := wr(at(3, 0), f.At, "one")
	for _, o := range []api.Op{
		wr(at(4, 0), f.At, "two"), wr(at(4, 0), f.At, ""), rm(at(4, 0), f.At), mv(at(4, 0), f.At, d.At, "g"),
		mk(at(4, 0), d.At, false, "h"), rm(at(4, 0), d.At), mv(at(4, 0), d.At, d.At, "ring"), wr(at(4, 0), d.At, "dir"),
	} {
		l := filled(d, f, first)
		before := grown(l.Tree())
		inserts(t, l, o, 0)
		holds(t, l, d, f, first, o)
		removes(t, l, o.At, 0)
		if after := grown(l.Tree()); after != before {
			t.Errorf("behind %s\n%snot:\n%s", tell([]api.Op{o}), after, before)
		}
	}
}
