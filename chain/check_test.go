package chain

import (
	"bytes"
	"math"
	"testing"

	"cachette/api"
	"cachette/entry"
	"cachette/oracle"
)

// scene: a log of member 1 with two entries, stamped 10 and 20; and others' secrets.
type scene struct {
	o              *oracle.Oracle
	secret, public uint64
	other          uint64 // another pair's secret
	l              *Log
	all            []api.Entry
}

// newScene: one.
func newScene(t *testing.T) scene {
	t.Helper()
	o := oracle.New(nil)
	s := scene{o: o}
	s.secret, s.public = o.Pair()
	s.other, _ = o.Pair()
	s.l, s.all = filled(t, o, 1, s.secret, s.public, 2)
	return s
}

// next: what may come next, but for its signature.
func (s scene) next() api.Entry {
	return api.Entry{Writer: 1, Index: 2, Prev: s.l.Head().Sum, At: at(21, 1), Epoch: 3, Body: []byte("next")}
}

// signed: what may come next, changed by do, and signed then.
func (s scene) signed(t *testing.T, do func(e *api.Entry)) api.Entry {
	t.Helper()
	return signed(t, s.o, s.secret, with(s.next(), do))
}

// refuses: Check and Accept tell that kind of e, and change nothing; Odds finds two just if it is Fork.
func (s scene) refuses(t *testing.T, what string, e api.Entry, want api.Kind) {
	t.Helper()
	used := s.o.Used()
	if k := s.l.Check(e); k != want {
		t.Errorf("Check of %s: %d, not %d", what, k, want)
	}
	if k := s.l.Accept(e); k != want {
		t.Errorf("Accept of %s: %d, not %d", what, k, want)
	}
	a, b, odd := s.l.Odds(e)
	if odd != (want == api.Fork) {
		t.Errorf("Odds of %s: %t", what, odd)
	}
	if odd && (!entry.Same(a, s.all[e.Index]) || !entry.Same(b, e)) || !odd && (!isZero(a) || !isZero(b)) {
		t.Errorf("Odds of %s: %v, %v", what, a, b)
	}
	if s.o.Used() != used {
		t.Errorf("%s took %d handles", what, s.o.Used()-used)
	}
	has(t, s.o, s.l, 1, s.all)
}

// P702: Check says OK of the next one, and changes nothing; Accept makes it the last one, whose sum is made then.
func TestAccept(t *testing.T) {
	for _, do := range []func(e *api.Entry){
		func(e *api.Entry) {},
		func(e *api.Entry) { e.At.T = api.MaxTime },
		func(e *api.Entry) { e.Epoch = -1 },
		func(e *api.Entry) { e.Epoch = 19 },
		func(e *api.Entry) { e.Body = nil },
		func(e *api.Entry) { e.Body = make([]byte, 1100) },
		func(e *api.Entry) { e.Body = bytes.Clone(e.Body) },
	} {
		s := newScene(t)
		e := s.signed(t, do)
		used := s.o.Used()
		for range 2 {
			if k := s.l.Check(e); k != api.OK {
				t.Errorf("Check of %v: %d", e, k)
			}
		}
		if s.o.Used() != used {
			t.Errorf("Check took %d handles", s.o.Used()-used)
		}
		has(t, s.o, s.l, 1, s.all)
		if k := s.l.Accept(e); k != api.OK {
			t.Errorf("Accept of %v: %d", e, k)
		}
		if s.o.Used() != used+1 {
			t.Errorf("Accept took %d handles", s.o.Used()-used)
		}
		s.all = append(s.all, e)
		has(t, s.o, s.l, 1, s.all)
		s.refuses(t, "what was accepted", e, api.Replay)
	}
}

// P702: what one log issues another one of the same writer accepts, in order, and only so.
func TestAcceptWhatWasIssued(t *testing.T) {
	s := newScene(t)
	m := newLog(t, s.o, 1, s.public)
	for i, want := range []struct {
		e api.Entry
		k api.Kind
	}{
		{s.all[1], api.Gap}, {s.all[0], api.OK}, {s.all[0], api.Replay}, {s.all[1], api.OK}, {s.all[1], api.Replay}, {s.all[0], api.Replay},
	} {
		if k := m.Accept(want.e); k != want.k {
			t.Errorf("Accept %d: %d, not %d", i, k, want.k)
		}
	}
	has(t, s.o, m, 1, s.all)
	if s.l.Head() != m.Head() {
		t.Errorf("Heads: %v, %v", s.l.Head(), m.Head())
	}
}

// P702: BadArg: not right, whatever else is wrong.
func TestCheckNotRight(t *testing.T) {
	s := newScene(t)
	good := s.signed(t, func(e *api.Entry) {})
	for what, do := range map[string]func(e *api.Entry){
		"a Writer below 0":      func(e *api.Entry) { e.Writer, e.At.W = -1, -1 },
		"Writer 8":              func(e *api.Entry) { e.Writer, e.At.W = 8, 8 },
		"an Index below 0":      func(e *api.Entry) { e.Index = -1 },
		"the least Index":       func(e *api.Entry) { e.Index = math.MinInt },
		"Index 200":             func(e *api.Entry) { e.Index = 200 },
		"the greatest Index":    func(e *api.Entry) { e.Index = math.MaxInt },
		"Prev 0":                func(e *api.Entry) { e.Prev = 0 },
		"Index 0 with a Prev":   func(e *api.Entry) { e.Index = 0 },
		"T 0":                   func(e *api.Entry) { e.At.T = 0 },
		"T above its most":      func(e *api.Entry) { e.At.T = api.MaxTime + 1 },
		"another one's stamp":   func(e *api.Entry) { e.At.W = 2 },
		"another Writer alone":  func(e *api.Entry) { e.Writer = 2 },
		"Epoch -2":              func(e *api.Entry) { e.Epoch = -2 },
		"Epoch 20":              func(e *api.Entry) { e.Epoch = 20 },
		"a body of 1101 bytes":  func(e *api.Entry) { e.Body = make([]byte, 1101) },
		"nothing in it":         func(e *api.Entry) { *e = api.Entry{} },
		"no signature, Epoch 9": func(e *api.Entry) { e.Sig, e.Epoch = 0, 99 },
	} {
		s.refuses(t, what, with(good, do), api.BadArg)
	}
}

// P702: Unknown, BadSig, Gap, BadSum and Range, each by itself.
func TestCheckWrong(t *testing.T) {
	s := newScene(t)
	good := s.signed(t, func(e *api.Entry) {})
	s.refuses(t, "writer 2's", s.signed(t, func(e *api.Entry) { e.Writer, e.At.W = 2, 2 }), api.Unknown)
	s.refuses(t, "writer 0's", s.signed(t, func(e *api.Entry) { e.Writer, e.At.W = 0, 0 }), api.Unknown)

	s.refuses(t, "another one's signature", signed(t, s.o, s.other, s.next()), api.BadSig)
	s.refuses(t, "no signature", s.next(), api.BadSig)
	s.refuses(t, "another signature", with(good, func(e *api.Entry) { e.Sig++ }), api.BadSig)
	s.refuses(t, "another entry's one", with(good, func(e *api.Entry) { e.Sig = s.all[0].Sig }), api.BadSig)
	s.refuses(t, "another body", with(good, func(e *api.Entry) { e.Body = []byte("nexT") }), api.BadSig)
	s.refuses(t, "another epoch", with(good, func(e *api.Entry) { e.Epoch++ }), api.BadSig)
	s.refuses(t, "what is there, with another signature", with(s.all[0], func(e *api.Entry) { e.Sig++ }), api.BadSig)
	s.refuses(t, "what is there, with another body", with(s.all[0], func(e *api.Entry) { e.Body = nil }), api.BadSig)

	for _, i := range []int{3, 4, 199} {
		s.refuses(t, "a later place", s.signed(t, func(e *api.Entry) { e.Index = i }), api.Gap)
	}
	for _, p := range []uint64{1, s.all[1].Prev, s.l.Head().Sum + 1, math.MaxUint64} {
		s.refuses(t, "another Prev", s.signed(t, func(e *api.Entry) { e.Prev = p }), api.BadSum)
	}
	for _, n := range []int64{20, 19, 10, 1} {
		s.refuses(t, "no later time", s.signed(t, func(e *api.Entry) { e.At.T = n }), api.Range)
	}
}

// P702: of a place that is there Replay, if it is that entry, with a body that is alike; else Fork, whatever it differs by.
func TestCheckThere(t *testing.T) {
	s := newScene(t)
	for _, e := range s.all {
		s.refuses(t, "what is there", with(e, func(e *api.Entry) { e.Body = bytes.Clone(e.Body) }), api.Replay)
	}
	for _, do := range []func(e *api.Entry){
		func(e *api.Entry) { e.Body = []byte("body 2") },
		func(e *api.Entry) { e.Body = nil },
		func(e *api.Entry) { e.Epoch = -1 },
		func(e *api.Entry) { e.At.T++ },
		func(e *api.Entry) { e.At.T = 1 },
		func(e *api.Entry) { e.At.T = api.MaxTime },
	} {
		for _, e := range s.all {
			s.refuses(t, "a twin", signed(t, s.o, s.secret, with(e, do)), api.Fork)
		}
	}
	s.refuses(t, "one with another Prev", signed(t, s.o, s.secret, with(s.all[1], func(e *api.Entry) { e.Prev++ })), api.Fork)
}

// P702: an empty log takes the first one whatever its time, and no later one.
func TestCheckFirst(t *testing.T) {
	o := oracle.New(nil)
	secret, public := o.Pair()
	for _, n := range []int64{1, 2, api.MaxTime} {
		l := newLog(t, o, 0, public)
		e := signed(t, o, secret, api.Entry{At: at(n, 0)})
		if k := l.Check(signed(t, o, secret, api.Entry{Index: 1, Prev: 9, At: at(n, 0)})); k != api.Gap {
			t.Errorf("Check of the second: %d", k)
		}
		if k := l.Accept(e); k != api.OK {
			t.Errorf("Accept of the first, at %d: %d", n, k)
		}
		has(t, o, l, 0, []api.Entry{e})
	}
}

// P702: behind MaxTime nothing is behind; a full log has places that are there, and others that are not right.
func TestCheckAtTheEnds(t *testing.T) {
	o := oracle.New(nil)
	secret, public := o.Pair()
	l := newLog(t, o, 0, public)
	issued(t, l, secret, api.MaxTime, "last")
	e := signed(t, o, secret, api.Entry{Index: 1, Prev: l.Head().Sum, At: at(api.MaxTime, 0)})
	if k := l.Accept(e); k != api.Range {
		t.Errorf("Accept behind MaxTime: %d", k)
	}
	full, all := filled(t, o, 0, secret, public, api.MaxLog)
	copied := newLog(t, o, 0, public)
	for i, e := range all {
		if k := copied.Accept(e); k != api.OK {
			t.Fatalf("Accept of %d: %d", i, k)
		}
	}
	has(t, o, copied, 0, all)
	beyond := api.Entry{Index: 200, Prev: full.Head().Sum, At: at(9000, 0)}
	if k := full.Accept(beyond); k != api.BadArg {
		t.Errorf("Accept at Index 200: %d", k)
	}
	if k := full.Accept(all[199]); k != api.Replay {
		t.Errorf("Accept of the last one: %d", k)
	}
}

// faults: what may be wrong with the next entry of a scene, in the order of P702; an entry with some has the first one's kind.
func faults() []struct {
	do   func(e *api.Entry)
	kind api.Kind
} {
	return []struct {
		do   func(e *api.Entry)
		kind api.Kind
	}{
		{func(e *api.Entry) { e.Epoch = 20 }, api.BadArg},
		{func(e *api.Entry) { e.Writer, e.At.W = 2, 2 }, api.Unknown},
		{nil, api.BadSig}, // another one signs
		{func(e *api.Entry) { e.Index = 1 }, api.Fork},
		{func(e *api.Entry) { e.Index = 7 }, api.Gap},
		{func(e *api.Entry) { e.Prev += 1000 }, api.BadSum},
		{func(e *api.Entry) { e.At.T = 20 }, api.Range},
	}
}

// P702: where several kinds apply, the first one is told: all sets of faults (of Fork and Gap at most one).
func TestCheckOrder(t *testing.T) {
	s := newScene(t)
	for set := 1; set < 1<<len(faults()); set++ {
		if set>>3&3 == 3 {
			continue
		}
		e, secret, want := s.next(), s.secret, api.OK
		for i, f := range faults() {
			if set>>i&1 == 0 {
				continue
			}
			if want == api.OK {
				want = f.kind
			}
			if f.do == nil {
				secret = s.other
			} else {
				f.do(&e)
			}
		}
		if entry.Right(e) {
			e = signed(t, s.o, secret, e)
		}
		s.refuses(t, "an entry with faults", e, want)
	}
}

// P704: the entry that is there, and the other one, at each place; of what is no fork nothing.
func TestOdds(t *testing.T) {
	s := newScene(t)
	for _, e := range s.all {
		twin := signed(t, s.o, s.secret, with(e, func(e *api.Entry) { e.Body = []byte("twin") }))
		a, b, odd := s.l.Odds(twin)
		if !odd || !entry.Same(a, e) || !entry.Same(b, twin) {
			t.Errorf("Odds: %v, %v, %t", a, b, odd)
		}
		if !entry.Holds(s.o, s.public, a) || !entry.Holds(s.o, s.public, b) {
			t.Error("one of Odds does not hold")
		}
	}
	for _, e := range []api.Entry{s.all[0], s.signed(t, func(e *api.Entry) {}), s.signed(t, func(e *api.Entry) { e.Index = 3 }), {}} {
		if a, b, odd := s.l.Odds(e); odd || !isZero(a) || !isZero(b) {
			t.Errorf("Odds of %v: %v, %v, %t", e, a, b, odd)
		}
	}
	has(t, s.o, s.l, 1, s.all)
}
