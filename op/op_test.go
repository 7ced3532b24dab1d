package op

import (
	"math"
	"strings"
	"testing"

	"cachette/api"
	"cachette/sample"
)

// Stamps, and right operations of the four kinds.
var at, mk, mv, rm, wr = sample.At, sample.Make, sample.Move, sample.Remove, sample.Write

// four: a right operation of each kind.
func four() []api.Op {
	s, n, p := at(9, 1), at(4, 2), at(3, 7)
	return []api.Op{mk(s, p, true, "ab"), mv(s, n, p, "ab"), rm(s, n), wr(s, n, "ab")}
}

// with: o, changed by do.
func with(o api.Op, do func(o *api.Op)) api.Op {
	do(&o)
	return o
}

// rightStamps: with the edges of both numbers.
func rightStamps() []api.Stamp {
	return []api.Stamp{at(1, 0), at(1, 7), at(63, 1), at(64, 2), at(300, 3), at(api.MaxTime-1, 0), at(api.MaxTime, 7)}
}

// wrongStamps: neither right nor the root.
func wrongStamps() []api.Stamp {
	return []api.Stamp{
		at(0, 1), at(0, 7), at(0, -1), at(-1, 0), at(math.MinInt64, 0), at(api.MaxTime+1, 0), at(math.MaxInt64, 7),
		at(1, -1), at(1, 8), at(5, math.MinInt), at(5, math.MaxInt), at(1, 1<<32), at(0, 8), at(-1, -1),
	}
}

// someNames: names, with their edges.
func someNames() []string {
	return []string{
		"a", "ab", "A", "0", "...", "....", ".a", "a.", "..a", "a..", ". ", " ", "  ", " .", "!", "}", "|", "\\", ":", "*", "a b", "-",
		"\x80", "\x81", "\xff", "\xc0\xaf", "\xed\xa0\x80", "\xf5\x80", "é", "…", "世界", "\u0085", "\u00a0", "\u2028", "\u202e", "\u200b", "\ufeff", "\ufffd", "\U0001f5c4",
		strings.Repeat("x", 23), strings.Repeat("x", 24), strings.Repeat(".", 24), strings.Repeat("\xff", 24), strings.Repeat("é", 12), strings.Repeat("世", 8), strings.Repeat("\U0010ffff", 6),
	}
}

// noNames: texts that are none.
func noNames() []string {
	l := []string{
		"", ".", "..", strings.Repeat("x", 25), strings.Repeat("é", 12) + "x", strings.Repeat("é", 13), strings.Repeat("世", 9), strings.Repeat("\xff", 25), strings.Repeat("x", 1<<20),
		"a~1", "a~1.0", "~", "~~", "/", "//", "/a", "a/", "a/b", "./", "../", "../a", "\n", "a\n", "\x00", "\x00a", "a\x00", "\t", "\r\n", "\x1f", "\x7f", "a\x7f", "\xff/", "\xe4\x7f", "\xe4~", "世/", "世\x00",
		strings.Repeat("x", 23) + "/", strings.Repeat("x", 23) + "~", strings.Repeat("x", 23) + "\x1f", strings.Repeat("x", 23) + "\x7f", "~" + strings.Repeat("x", 23),
	}
	for c := range 32 {
		l = append(l, string([]byte{byte(c)}), string([]byte{'a', byte(c), 'b'}))
	}
	return l
}

// P1501: which texts are names.
func TestName(t *testing.T) {
	for _, s := range someNames() {
		if !Name(s) {
			t.Errorf("%q is no name", s)
		}
	}
	for _, s := range noNames() {
		if Name(s) {
			t.Errorf("%.40q is a name", s)
		}
	}
}

// P1501: each byte, alone and among others, whatever rune they make.
func TestNameBytes(t *testing.T) {
	for c := range 256 {
		want := c >= 32 && c != 127 && c != '/' && c != '~'
		b := string([]byte{byte(c)})
		for _, s := range []string{"a" + b, b + "a", "a" + b + "a", "\xe4" + b, b + "\x80", strings.Repeat("x", 23) + b} {
			if got := Name(s); got != want {
				t.Errorf("%q: %t", s, got)
			}
		}
		if got := Name(b); got != (want && c != '.') {
			t.Errorf("%q alone: %t", b, got)
		}
	}
}

// P1501: all texts of two bytes.
func TestNameTwoBytes(t *testing.T) {
	may := func(c int) bool { return c >= 32 && c != 127 && c != '/' && c != '~' }
	for n := range 1 << 16 {
		s := string([]byte{byte(n >> 8), byte(n)})
		if got := Name(s); got != (may(n>>8) && may(n&255) && s != "..") {
			t.Errorf("%q: %t", s, got)
		}
	}
}

// P1501: from 1 to MaxName bytes, not runes.
func TestNameLengths(t *testing.T) {
	for n := range 60 {
		if got := Name(strings.Repeat("x", n)); got != (n >= 1 && n <= 24) {
			t.Errorf("%d letters: %t", n, got)
		}
		if got := Name(strings.Repeat("é", n)); got != (n >= 1 && n <= 12) {
			t.Errorf("%d letters of two bytes: %t", n, got)
		}
	}
}

// P1501: the root is the zero stamp.
func TestRoot(t *testing.T) {
	if got := Root(); got != (api.Stamp{}) {
		t.Errorf("%v", got)
	}
}

// rightOps: of each kind, with the edges of each field.
func rightOps() []api.Op {
	l := four()
	for _, s := range rightStamps() {
		l = append(l, mk(s, Root(), false, "a"), mk(s, Root(), true, "a"), mk(s, s, true, "a"), mv(s, s, s, "a"), mv(s, s, Root(), "a"), rm(s, s), wr(s, s, "x"))
		for _, n := range rightStamps() {
			l = append(l, mk(s, n, false, "a"), mk(s, n, true, "b"), mv(s, n, Root(), "a"), rm(s, n), wr(s, n, ""), wr(s, n, "x"))
			for _, p := range rightStamps() {
				l = append(l, mv(s, n, p, "a"))
			}
		}
	}
	for _, s := range someNames() {
		l = append(l, mk(at(9, 1), at(3, 2), false, s), mk(at(9, 1), Root(), true, s), mv(at(9, 1), at(4, 2), at(3, 2), s))
	}
	for _, n := range []int{0, 1, 24, 25, 127, 128, 255, 256, 399, 400} {
		l = append(l, wr(at(9, 1), at(4, 2), strings.Repeat("x", n)), wr(at(9, 1), at(4, 2), strings.Repeat("\x00", n)), wr(at(9, 1), at(4, 2), strings.Repeat("\xff", n)))
	}
	for _, o := range four()[:3] {
		l = append(l, with(o, func(o *api.Op) { o.Data = []byte{} }))
	}
	return append(l, with(wr(at(9, 1), at(4, 2), ""), func(o *api.Op) { o.Data = nil }))
}

// wrongOps: each kind with one thing that it must not have.
func wrongOps() map[string][]api.Op {
	l := map[string][]api.Op{"none": {{}}}
	add := func(what string, o api.Op, do func(o *api.Op)) { l[what] = append(l[what], with(o, do)) }
	f := four()
	for _, o := range f {
		for _, n := range []int{math.MinInt, -1, 0, 5, 6, 255, 256, 1 << 32, 1<<32 + 1, math.MaxInt} {
			add("a Kind that is none", o, func(o *api.Op) { o.Kind = n })
		}
		for _, s := range append(wrongStamps(), Root()) {
			add("a wrong At", o, func(o *api.Op) { o.At = s })
			add("a wrong Node", o, func(o *api.Op) { o.Node = s })
			add("a wrong At, and the same as Node", o, func(o *api.Op) { o.At, o.Node = s, s })
		}
	}
	for _, s := range []api.Stamp{at(9, 2), at(9, 0), at(8, 1), at(10, 1), at(1, 0)} {
		add("make: a Node that is not At", f[0], func(o *api.Op) { o.Node = s })
	}
	for _, o := range f[:2] {
		for _, s := range wrongStamps() {
			add("make, move: a wrong Parent", o, func(o *api.Op) { o.Parent = s })
		}
		for _, s := range noNames() {
			add("make, move: no name", o, func(o *api.Op) { o.Name = s })
		}
		add("make, move: Data", o, func(o *api.Op) { o.Data = []byte("x") })
		add("make, move: a byte 0", o, func(o *api.Op) { o.Data = []byte{0} })
	}
	for _, o := range f[2:] {
		for _, s := range append(wrongStamps(), rightStamps()...) {
			add("remove, write: a Parent", o, func(o *api.Op) { o.Parent = s })
		}
		add("remove, write: Node as Parent", o, func(o *api.Op) { o.Parent = o.Node })
		for _, s := range append(someNames(), noNames()[1:]...) {
			add("remove, write: a Name", o, func(o *api.Op) { o.Name = s })
		}
	}
	for _, o := range f[1:] {
		add("move, remove, write: Dir", o, func(o *api.Op) { o.Dir = true })
	}
	add("remove: Data", f[2], func(o *api.Op) { o.Data = []byte("x") })
	add("remove: a byte 0", f[2], func(o *api.Op) { o.Data = []byte{0} })
	for _, n := range []int{401, 402, 512, 4000, 1 << 20} {
		add("write: too much Data", f[3], func(o *api.Op) { o.Data = make([]byte, n) })
	}
	return l
}

// P1501: which operations are right.
func TestRight(t *testing.T) {
	for _, o := range rightOps() {
		if !Right(o) {
			t.Errorf("%v is not right", o)
		}
	}
	for what, l := range wrongOps() {
		for _, o := range l {
			if Right(o) {
				t.Errorf("%s: %v is right", what, o)
			}
		}
	}
}

// P1501: what one kind has is not right of another one; but a removal has all that a write of nothing has.
func TestRightOtherKind(t *testing.T) {
	for i, o := range four() {
		for kind := range 7 {
			want := kind == i+1 || i+1 == 3 && kind == 4
			if got := Right(with(o, func(o *api.Op) { o.Kind = kind })); got != want {
				t.Errorf("what kind %d has, as kind %d: %t", i+1, kind, got)
			}
		}
	}
	if o := wr(at(9, 1), at(4, 2), ""); !Right(with(o, func(o *api.Op) { o.Kind = 3 })) {
		t.Error("a write of nothing is not right as a removal")
	}
}

// P1501: a node may be put into itself, and may be of a later time than what is done to it: the tree asks that, not this layer.
func TestRightWhateverTheTreeSays(t *testing.T) {
	for _, o := range []api.Op{
		mk(at(9, 1), at(9, 1), true, "a"), mk(at(9, 1), at(10, 0), true, "a"),
		mv(at(9, 1), at(4, 2), at(4, 2), "a"), mv(at(9, 1), at(9, 1), at(9, 1), "a"), mv(at(9, 1), at(40, 2), at(50, 2), "a"),
		rm(at(9, 1), at(9, 1)), rm(at(9, 1), at(40, 2)), wr(at(9, 1), at(40, 2), "x"),
	} {
		if !Right(o) {
			t.Errorf("%v is not right", o)
		}
	}
}
