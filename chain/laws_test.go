package chain

import (
	"math/rand"
	"slices"
	"testing"

	"cachette/api"
	"cachette/entry"
	"cachette/oracle"
)

// model: a log as the chapter tells it, asked by plain rules.
type model struct {
	o      *oracle.Oracle
	w      int
	public uint64
	l      []api.Entry
}

// check: P702, word by word.
func (m *model) check(t *testing.T, e api.Entry) api.Kind {
	switch n := len(m.l); {
	case !entry.Right(e):
		return api.BadArg
	case e.Writer != m.w:
		return api.Unknown
	case !entry.Holds(m.o, m.public, e):
		return api.BadSig
	case e.Index < n && entry.Same(m.l[e.Index], e):
		return api.Replay
	case e.Index < n:
		return api.Fork
	case e.Index > n:
		return api.Gap
	case e.Prev != sumOf(t, m.o, m.l):
		return api.BadSum
	case n > 0 && e.At.T <= m.l[n-1].At.T:
		return api.Range
	}
	return api.OK
}

// drawn: an entry that is met somewhere, at times with a field changed, and signed anew.
func drawn(t *testing.T, o *oracle.Oracle, r *rand.Rand, secret uint64, met []api.Entry) api.Entry {
	e := met[r.Intn(len(met))]
	switch r.Intn(8) {
	case 0:
		e.Index = r.Intn(12) - 1
	case 1:
		e.At.T = int64(r.Intn(60))
	case 2:
		e.Prev = met[r.Intn(len(met))].Prev
	case 3:
		e.Body = []byte{byte(r.Intn(3))}
	}
	if entry.Right(e) && r.Intn(3) > 0 {
		e = signed(t, o, secret, e)
	}
	return e
}

// P701 to P706: two logs and their models, by whatever is issued, accepted and cut, are alike all along.
func TestAgainstModel(t *testing.T) {
	for seed := range int64(60) {
		r := rand.New(rand.NewSource(seed))
		o := oracle.New(nil)
		secret, public := o.Pair()
		var logs [2]*Log
		var models [2]*model
		for i := range logs {
			logs[i], models[i] = newLog(t, o, 1, public), &model{o: o, w: 1, public: public}
		}
		met := []api.Entry{signed(t, o, secret, api.Entry{Writer: 1, At: at(3, 1)})}
		for range 150 {
			i := r.Intn(2)
			l, m := logs[i], models[i]
			switch r.Intn(10) {
			case 0:
				n := r.Intn(12) - 2
				keep := min(max(n, 0), len(m.l))
				if got := l.Cut(n); !slices.EqualFunc(got, m.l[keep:], entry.Same) {
					t.Fatalf("Cut(%d): %v, not %v", n, got, m.l[keep:])
				}
				m.l = m.l[:keep:keep]
			case 1, 2, 3:
				met = append(met, issueBoth(t, r, l, m, secret)...)
			default:
				e := drawn(t, o, r, secret, met)
				k := m.check(t, e)
				acceptBoth(t, l, m, e, k)
			}
			has(t, o, l, 1, m.l)
		}
	}
}

// acceptBoth: Check, Odds and Accept answer as the model says.
func acceptBoth(t *testing.T, l *Log, m *model, e api.Entry, k api.Kind) {
	t.Helper()
	if got := l.Check(e); got != k {
		t.Fatalf("Check of %v: %d, not %d", e, got, k)
	}
	a, b, odd := l.Odds(e)
	if odd != (k == api.Fork) || odd && (!entry.Same(a, m.l[e.Index]) || !entry.Same(b, e)) {
		t.Fatalf("Odds of %v: %v, %v, %t", e, a, b, odd)
	}
	if got := l.Accept(e); got != k {
		t.Fatalf("Accept of %v: %d, not %d", e, got, k)
	}
	if k == api.OK {
		m.l = append(m.l, e)
	}
}

// issueBoth: what is issued, if its time is behind the last one's.
func issueBoth(t *testing.T, r *rand.Rand, l *Log, m *model, secret uint64) []api.Entry {
	t.Helper()
	n, last := int64(1+r.Intn(60)), int64(0)
	if len(m.l) > 0 {
		last = m.l[len(m.l)-1].At.T
	}
	e, k := l.Issue(secret, at(n, 1), r.Intn(3), []byte{byte(n)})
	if (k == api.OK) != (n > last) || k != api.OK && k != api.Range {
		t.Fatalf("Issue at %d behind %d: %d", n, last, k)
	}
	if k != api.OK {
		return nil
	}
	if k := m.check(t, e); k != api.OK {
		t.Fatalf("the model says %d of what was issued: %v", k, e)
	}
	m.l = append(m.l, e)
	return []api.Entry{e}
}

// P707: what is accepted stays, whatever is offered then.
func TestAcceptedStays(t *testing.T) {
	o := oracle.New(nil)
	r := rand.New(rand.NewSource(7))
	secret, public := o.Pair()
	_, all := filled(t, o, 1, secret, public, 8)
	l := newLog(t, o, 1, public)
	var kept []api.Entry
	for range 3000 {
		e := drawn(t, o, r, secret, all)
		if l.Accept(e) == api.OK {
			kept = append(kept, e)
		}
		if got := l.All(); !slices.EqualFunc(got, kept, entry.Same) {
			t.Fatalf("All: %v, not %v", got, kept)
		}
	}
	if len(kept) < 3 {
		t.Errorf("only %d were accepted", len(kept))
	}
	if n, k := Whole(o, public, kept); n != len(kept) || k != api.OK {
		t.Errorf("Whole: %d, %d", n, k)
	}
}

// P707: two logs of one public one with one Head have the same entries; those that part anywhere have two Heads from there on.
func TestOneHeadOneLog(t *testing.T) {
	o := oracle.New(nil)
	secret, public := o.Pair()
	type state struct {
		head api.Head
		all  []api.Entry
	}
	var met []state
	for part := range 7 {
		l := newLog(t, o, 1, public)
		for i := range 6 {
			body := "as all"
			if i == part {
				body = "another one"
			}
			issued(t, l, secret, int64(i+1), body)
			met = append(met, state{l.Head(), l.All()})
		}
	}
	twice := 0
	for i, a := range met {
		for _, b := range met[:i] {
			same := slices.EqualFunc(a.all, b.all, entry.Same)
			if (a.head == b.head) != same {
				t.Errorf("Heads %v and %v, of %v and %v", a.head, b.head, a.all, b.all)
			}
			if same {
				twice++
			}
		}
	}
	if twice == 0 {
		t.Error("no two logs were alike")
	}
}
