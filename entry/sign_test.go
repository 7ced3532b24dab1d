package entry

import (
	"testing"

	"cachette/api"
	"cachette/oracle"
)

// signed: e with the signature of secret.
func signed(t *testing.T, o *oracle.Oracle, secret uint64, e api.Entry) api.Entry {
	t.Helper()
	got, k := Sign(o, secret, e)
	if k != api.OK {
		t.Fatalf("Sign of %v: %d", e, k)
	}
	return got
}

// sum: the Sum of e.
func sum(t *testing.T, o *oracle.Oracle, e api.Entry) uint64 {
	t.Helper()
	n, k := Sum(o, e)
	if k != api.OK {
		t.Fatalf("Sum of %v: %d", e, k)
	}
	return n
}

// P603: Sum is the oracle's Hash of the bytes, whichever of the two is asked first.
func TestSum(t *testing.T) {
	for _, e := range rightEntries() {
		o, p := oracle.New([]uint64{41, 42}), oracle.New([]uint64{41, 42})
		b, _ := Bytes(e)
		if n := sum(t, o, e); n != 41 || o.Hash(b) != n || sum(t, o, e) != n {
			t.Errorf("Sum of %v: %d, Hash %d", e, n, o.Hash(b))
		}
		if n := p.Hash(b); sum(t, p, e) != n {
			t.Errorf("Sum of %v is not the Hash that its bytes have", e)
		}
	}
}

// P603: Sum: BadArg, also without an oracle; Nil; nothing was hashed.
func TestSumWrong(t *testing.T) {
	o := oracle.New(nil)
	for _, e := range wrongEntries() {
		for _, with := range []*oracle.Oracle{o, nil} {
			if n, k := Sum(with, e); n != 0 || k != api.BadArg {
				t.Errorf("Sum of %v: %d, %d", e, n, k)
			}
		}
	}
	for _, e := range rightEntries() {
		if n, k := Sum(nil, e); n != 0 || k != api.Nil {
			t.Errorf("Sum of %v without an oracle: %d, %d", e, n, k)
		}
	}
	if o.Used() != 0 {
		t.Errorf("%d handles were handed out", o.Used())
	}
}

// P603: Sign answers the entry, but with the oracle's signature of its text, whatever Sig it had.
func TestSign(t *testing.T) {
	o := oracle.New(nil)
	secret, public := o.Pair()
	for _, e := range rightEntries() {
		got := signed(t, o, secret, e)
		text, _ := Text(e)
		want, _ := o.Sign(secret, text)
		if got.Sig != want || !Holds(o, public, got) {
			t.Errorf("Sign of %v: Sig %d, not %d", e, got.Sig, want)
		}
		e.Sig = got.Sig
		if !Same(got, e) {
			t.Errorf("Sign of %v: %v", e, got)
		}
	}
}

// P603: Sign: BadArg, whatever the secret or the oracle; Nil; NoKey; with each of them the zero entry, and nothing signed.
func TestSignWrong(t *testing.T) {
	o := oracle.New(nil)
	secret, public := o.Pair()
	key := o.Key()
	used := o.Used()
	for _, e := range wrongEntries() {
		for _, s := range []uint64{secret, public, 0} {
			signsNothing(t, o, s, e, api.BadArg)
			signsNothing(t, nil, s, e, api.BadArg)
		}
	}
	for _, e := range rightEntries() {
		for _, s := range []uint64{public, key, 0, 99} {
			signsNothing(t, o, s, e, api.NoKey)
		}
		signsNothing(t, nil, secret, e, api.Nil)
	}
	if o.Used() != used {
		t.Errorf("%d handles were handed out", o.Used()-used)
	}
}

// signsNothing: Sign answers that kind and the zero entry.
func signsNothing(t *testing.T, o *oracle.Oracle, secret uint64, e api.Entry, want api.Kind) {
	t.Helper()
	if got, k := Sign(o, secret, e); k != want || !Same(got, api.Entry{}) {
		t.Errorf("Sign of %v: %v, %d, not %d", e, got, k, want)
	}
}

// P603: Holds asks for the signature of just that text, by just that pair, at just that oracle.
func TestHolds(t *testing.T) {
	o := oracle.New(nil)
	secret, public := o.Pair()
	otherSecret, other := o.Pair()
	for _, e := range rightEntries() {
		e = signed(t, o, secret, e)
		if !Holds(o, public, e) {
			t.Errorf("%v does not hold", e)
		}
		by := signed(t, o, otherSecret, e)
		for _, wrong := range []bool{
			Holds(o, other, e), Holds(o, secret, e), Holds(o, 0, e), Holds(nil, public, e), Holds(oracle.New(nil), public, e),
			Holds(o, public, by), Holds(o, public, with(e, func(e *api.Entry) { e.Sig = 0 })), Holds(o, public, with(e, func(e *api.Entry) { e.Sig++ })),
		} {
			if wrong {
				t.Errorf("%v holds where it was not signed", e)
			}
		}
	}
}

// P603: an entry that is not right does not hold, whatever its Sig.
func TestHoldsWrong(t *testing.T) {
	o := oracle.New(nil)
	secret, public := o.Pair()
	good := signed(t, o, secret, of(1, 1))
	for _, e := range wrongEntries() {
		e.Sig = good.Sig
		if Holds(o, public, e) || Holds(nil, public, e) {
			t.Errorf("%v holds", e)
		}
	}
	// Its text was signed by itself, since Sign of this package refuses it.
	var f fields
	bad := with(of(1, 1), func(e *api.Entry) { e.Epoch = 20 })
	f.text(bad)
	bad.Sig, _ = o.Sign(secret, f.b)
	if Holds(o, public, bad) {
		t.Errorf("%v holds, though it is not right", bad)
	}
}

// P603: a signature is no part of what is signed, but of what is hashed.
func TestSignatureIsHashed(t *testing.T) {
	o := oracle.New(nil)
	secret, _ := o.Pair()
	e := signed(t, o, secret, later())
	if again := signed(t, o, secret, e); !Same(again, e) {
		t.Errorf("signed again: %v, not %v", again, e)
	}
	if sum(t, o, e) == sum(t, o, later()) {
		t.Error("two signatures have one Sum")
	}
}
