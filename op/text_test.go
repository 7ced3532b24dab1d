package op

import (
	"bytes"
	"math"
	"strings"
	"testing"

	"cachette/api"
	"cachette/stamp"
	"cachette/wire"
)

// bit: puts the form of something behind b.
type bit func(b []byte) []byte

// num, st, is, body and raw: a number, a stamp, a bool, bytes with how many they are, bytes as they are.
func num(n uint64) bit     { return func(b []byte) []byte { return wire.Num(b, n) } }
func st(s api.Stamp) bit   { return func(b []byte) []byte { return stamp.Put(b, s) } }
func is(yes bool) bit      { return func(b []byte) []byte { return wire.Bool(b, yes) } }
func body(s string) bit    { return func(b []byte) []byte { return wire.Text(b, s) } }
func raw(x ...byte) bit    { return func(b []byte) []byte { return append(b, x...) } }
func many(n int) string    { return strings.Repeat("x", n) }
func ten(last byte) []byte { return append(bytes.Repeat([]byte{0xff}, 9), last) }

// forms: the bits, one behind the other.
func forms(l ...bit) []byte {
	var b []byte
	for _, put := range l {
		b = put(b)
	}
	return b
}

// P1502: the chapter's example.
func TestExample(t *testing.T) {
	o := mk(at(3, 1), Root(), true, "a")
	want := []byte{1, 0, 0, 1, 1, 0x61}
	if got, k := Text(o); k != api.OK || !bytes.Equal(got, want) {
		t.Errorf("% x, %d", got, k)
	}
	if got, k := Read(want, at(3, 1)); k != api.OK || !Same(got, o) {
		t.Errorf("%v, %d", got, k)
	}
}

// P1502: of each kind what it has, in order, and no At.
func TestText(t *testing.T) {
	n, p := at(4, 2), at(3, 7)
	for _, s := range rightStamps() {
		for _, c := range []struct {
			o    api.Op
			want []byte
		}{
			{mk(s, p, true, "ab"), []byte{1, 6, 7, 1, 2, 'a', 'b'}},
			{mk(s, p, false, "ab"), []byte{1, 6, 7, 0, 2, 'a', 'b'}},
			{mk(s, Root(), false, many(24)), forms(raw(1, 0, 0, 0, 24), raw([]byte(many(24))...))},
			{mk(s, at(api.MaxTime, 3), false, "\xff"), []byte{1, 0x80, 0x80, 0x80, 0x80, 0x80, 0x40, 3, 0, 1, 0xff}},
			{mv(s, n, p, "ab"), []byte{2, 8, 2, 6, 7, 2, 'a', 'b'}},
			{mv(s, n, Root(), "c"), []byte{2, 8, 2, 0, 0, 1, 'c'}},
			{mv(s, s, s, "c"), forms(raw(2), st(s), st(s), body("c"))},
			{rm(s, n), []byte{3, 8, 2}},
			{rm(s, at(300, 1)), []byte{3, 0xd8, 4, 1}},
			{wr(s, n, ""), []byte{4, 8, 2, 0}},
			{wr(s, n, "ab"), []byte{4, 8, 2, 2, 'a', 'b'}},
			{wr(s, n, many(400)), forms(raw(4, 8, 2, 0x90, 3), raw([]byte(many(400))...))},
		} {
			if got, k := Text(c.o); k != api.OK || !bytes.Equal(got, c.want) {
				t.Errorf("Text of %v: % x, %d, not % x", c.o, got, k, c.want)
			}
		}
	}
}

// P1502: BadArg, and nothing, of an operation that is not right.
func TestTextWrong(t *testing.T) {
	for what, l := range wrongOps() {
		for _, o := range l {
			if got, k := Text(o); k != api.BadArg || len(got) != 0 {
				t.Errorf("%s: Text of %v: % x, %d", what, o, got, k)
			}
		}
	}
}

// P1502: every right operation comes back, of the At that is told.
func TestReadText(t *testing.T) {
	for _, o := range rightOps() {
		b, _ := Text(o)
		if got, k := Read(b, o.At); k != api.OK || !Same(got, o) {
			t.Errorf("Read of % x: %v, %d, not %v", b, got, k, o)
		}
		// Of another At it is the same, but for At, and for the node that is made.
		want := with(o, func(o *api.Op) { o.At = at(77, 5) })
		if o.Kind == 1 {
			want.Node = want.At
		}
		if got, k := Read(b, want.At); k != api.OK || !Same(got, want) {
			t.Errorf("Read of % x at another stamp: %v, %d, not %v", b, got, k, want)
		}
	}
}

// isRefused: b is the text of no operation of that At, and that kind, with nothing else, tells it.
func isRefused(t *testing.T, what string, b []byte, s api.Stamp, want api.Kind) {
	t.Helper()
	got, k := Read(b, s)
	if k != want || !Same(got, api.Op{}) || got.Data != nil {
		t.Errorf("%s: % x at %v: %v, %d, not %d", what, b, s, got, k, want)
	}
}

// P1502: Malformed, whatever right text it is, where its At is not right.
func TestReadWrongAt(t *testing.T) {
	for _, o := range four() {
		b, _ := Text(o)
		for _, s := range append(wrongStamps(), Root()) {
			isRefused(t, "a wrong At", b, s, api.Malformed)
		}
	}
	isRefused(t, "what is too large at a wrong At", []byte{5}, Root(), api.TooLarge)
}

// P1502: TooLarge: a number, or bytes, above their most, also where something behind them, or what is not right, is wrong too.
func TestReadTooLarge(t *testing.T) {
	n, p := at(4, 2), at(3, 7)
	for what, b := range map[string][]byte{
		"Kind 5":                            {5},
		"Kind 5, and what a removal has":    forms(num(5), st(n)),
		"Kind 127":                          {127},
		"the greatest Kind":                 forms(num(math.MaxUint64)),
		"a Kind beyond 32 bits":             forms(num(1<<32+3), st(n)),
		"make: Parent of member 8":          forms(num(1), st(at(3, 8)), is(true), body("a")),
		"make: Parent of member 8, no more": forms(num(1), st(at(3, 8))),
		"make: the root of member 8":        forms(num(1), st(at(0, 8)), is(true), body("a")),
		"make: Parent of the greatest one":  forms(num(1), num(6), num(math.MaxUint64), is(true), body("a")),
		"make: a name of 25 bytes":          forms(num(1), st(p), is(true), body(many(25))),
		"make: a name of 25 bytes, none":    forms(num(1), st(p), is(true), body("/"+many(24))),
		"make: 25 bytes in a wrong Parent":  forms(num(1), st(at(0, 1)), is(true), body(many(25))),
		"make: 25 bytes, and a byte more":   forms(num(1), st(p), is(true), body(many(25)), raw(0)),
		"move: Node of member 8":            forms(num(2), st(at(4, 8)), st(p), body("a")),
		"move: Parent of member 8":          forms(num(2), st(n), st(at(3, 8)), body("a")),
		"move: the root, and member 8":      forms(num(2), st(Root()), st(at(3, 8)), body("a")),
		"move: a name of 25 bytes":          forms(num(2), st(n), st(p), body(many(25))),
		"move: a name of 200 bytes":         forms(num(2), st(n), st(p), body(many(200))),
		"remove: Node of member 8":          forms(num(3), st(at(4, 8))),
		"remove: member 8, and a byte more": forms(num(3), st(at(4, 8)), raw(0)),
		"remove: a member beyond 32 bits":   forms(num(3), num(8), num(1<<32)),
		"write: Node of member 8":           forms(num(4), st(at(4, 8)), body("a")),
		"write: 401 bytes":                  forms(num(4), st(n), body(many(401))),
		"write: 401 bytes to the root":      forms(num(4), st(Root()), body(many(401))),
		"write: 401 bytes, and a byte more": forms(num(4), st(n), body(many(401)), raw(0)),
		"write: 4000 bytes":                 forms(num(4), st(n), body(many(4000))),
	} {
		isRefused(t, what, b, at(9, 1), api.TooLarge)
	}
}

// P1502: Malformed: no form, or forms that no right operation has.
func TestReadMalformed(t *testing.T) {
	n, p := at(4, 2), at(3, 7)
	for what, b := range map[string][]byte{
		"nothing":                             nil,
		"an empty list":                       {},
		"Kind 0":                              {0},
		"Kind 0, and what a removal has":      forms(num(0), st(n)),
		"a Kind that does not end":            {0x83},
		"a Kind in a second form":             {0x83, 0, 8, 2},
		"a second form of 0":                  {0x80, 0},
		"a Kind beyond 64 bits":               ten(2),
		"make: no more":                       {1},
		"make: no Dir":                        {1, 6, 7},
		"make: no Name":                       {1, 6, 7, 1},
		"make: a Name of no byte":             {1, 6, 7, 1, 0},
		"make: a Dir of 2":                    {1, 6, 7, 2, 1, 'a'},
		"make: a Dir of 255":                  {1, 6, 7, 255, 1, 'a'},
		"make: Dir in a second form":          {1, 6, 7, 0x81, 0, 1, 'a'},
		"make: a Name that ends too early":    {1, 6, 7, 1, 2, 'a'},
		"make: 25 bytes that end too early":   {1, 6, 7, 1, 25, 'a'},
		"make: a Name's length, second form":  {1, 6, 7, 1, 0x81, 0, 'a'},
		"make: a byte more":                   {1, 6, 7, 1, 1, 'a', 0},
		"make: Parent (0, 7)":                 {1, 0, 7, 1, 1, 'a'},
		"make: Parent of a time below 0":      forms(num(1), st(at(-1, 0)), is(true), body("a")),
		"make: Parent behind all time":        forms(num(1), st(at(api.MaxTime+1, 0)), is(true), body("a")),
		"make: Parent in a second form":       {1, 0x86, 0, 7, 1, 1, 'a'},
		"make: Parent's member, second form":  {1, 6, 0x87, 0, 1, 1, 'a'},
		"make: Parent beyond 64 bits":         append(append([]byte{1}, ten(2)...), 7, 1, 1, 'a'),
		"make: its Node, too":                 forms(num(1), st(at(9, 1)), st(p), is(true), body("a")),
		"move: no more":                       {2},
		"move: no Parent":                     {2, 8, 2},
		"move: no Name":                       {2, 8, 2, 6, 7},
		"move: the root":                      {2, 0, 0, 6, 7, 1, 'a'},
		"move: Node (0, 2)":                   {2, 0, 2, 6, 7, 1, 'a'},
		"move: Node of a time below 0":        {2, 1, 2, 6, 7, 1, 'a'},
		"move: Node behind all time":          forms(num(2), st(at(api.MaxTime+1, 2)), st(p), body("a")),
		"move: Parent (0, 7)":                 {2, 8, 2, 0, 7, 1, 'a'},
		"move: Parent behind all time":        forms(num(2), st(n), st(at(math.MaxInt64, 7)), body("a")),
		"move: a byte more":                   {2, 8, 2, 6, 7, 1, 'a', 0},
		"move: a Dir of 0":                    {2, 8, 2, 6, 7, 0, 1, 'a'},
		"remove: no more":                     {3},
		"remove: no member":                   {3, 8},
		"remove: the root":                    {3, 0, 0},
		"remove: Node (0, 2)":                 {3, 0, 2},
		"remove: Node of a time below 0":      {3, 1, 2},
		"remove: Node of the least time":      forms(num(3), st(at(math.MinInt64, 2))),
		"remove: a byte more":                 {3, 8, 2, 0},
		"remove: an empty text more":          {3, 8, 2, 0x80},
		"write: no more":                      {4},
		"write: no Data":                      {4, 8, 2},
		"write: the root":                     {4, 0, 0, 1, 'x'},
		"write: Node (0, 2)":                  {4, 0, 2, 1, 'x'},
		"write: Data that ends too early":     {4, 8, 2, 2, 'x'},
		"write: 401 bytes that end too early": {4, 8, 2, 0x91, 3, 'x'},
		"write: Data's length, second form":   {4, 8, 2, 0x81, 0, 'x'},
		"write: a byte more":                  {4, 8, 2, 1, 'x', 0},
	} {
		isRefused(t, what, b, at(9, 1), api.Malformed)
	}
	for _, s := range noNames() {
		if len(s) <= api.MaxName {
			isRefused(t, "make: no name", forms(num(1), st(p), is(false), body(s)), at(9, 1), api.Malformed)
			isRefused(t, "move: no name", forms(num(2), st(n), st(p), body(s)), at(9, 1), api.Malformed)
		}
	}
	for _, s := range wrongStamps() {
		if s.W >= 0 && s.W < api.MaxMembers {
			isRefused(t, "make: a wrong Parent", forms(num(1), st(s), is(false), body("a")), at(9, 1), api.Malformed)
			isRefused(t, "move: a wrong Node", forms(num(2), st(s), st(p), body("a")), at(9, 1), api.Malformed)
			isRefused(t, "move: a wrong Parent", forms(num(2), st(n), st(s), body("a")), at(9, 1), api.Malformed)
			isRefused(t, "remove: a wrong Node", forms(num(3), st(s)), at(9, 1), api.Malformed)
			isRefused(t, "write: a wrong Node", forms(num(4), st(s), body("a")), at(9, 1), api.Malformed)
		}
	}
}

// P1502: no begin of a text, but it, is one, nor is it with a byte behind it.
func TestReadCutOrLonger(t *testing.T) {
	for _, o := range rightOps() {
		b, _ := Text(o)
		for n := range b {
			isRefused(t, "a begin", b[:n], o.At, api.Malformed)
		}
		for _, c := range []byte{0, 1, 0x80, 0xff} {
			isRefused(t, "a byte more", append(bytes.Clone(b), c), o.At, api.Malformed)
		}
	}
}
