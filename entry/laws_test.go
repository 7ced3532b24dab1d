package entry

import (
	"bytes"
	"testing"

	"cachette/api"
	"cachette/oracle"
)

// manyEntries: right entries, no two alike: edges, and all that differ from one by a field.
func manyEntries() []api.Entry {
	var l []api.Entry
	add := func(e api.Entry) {
		for _, f := range l {
			if Same(e, f) {
				return
			}
		}
		if Right(e) {
			l = append(l, e)
		}
	}
	for _, e := range rightEntries() {
		add(e)
		for _, f := range unlike(e) {
			add(f)
			f.At.W = f.Writer
			add(f)
		}
	}
	return l
}

// P605: what is put is read as it was.
func TestComesBack(t *testing.T) {
	for _, e := range manyEntries() {
		b, _ := Bytes(e)
		isRead(t, b, e)
	}
}

// P605: unlike entries have unlike bytes and sums; like ones have one.
func TestUnlikeSums(t *testing.T) {
	o := oracle.New([]uint64{9, 9, 4})
	l := manyEntries()
	met := map[uint64]api.Entry{}
	for _, e := range l {
		n := sum(t, o, e)
		if f, is := met[n]; is || n == 0 {
			t.Errorf("%d is the Sum of %v and of %v", n, e, f)
		}
		met[n] = e
	}
	for n, e := range met {
		if again := sum(t, o, with(e, func(e *api.Entry) { e.Body = bytes.Clone(e.Body) })); again != n {
			t.Errorf("Sum of %v: %d, then %d", e, n, again)
		}
	}
	if len(l) < 60 {
		t.Errorf("only %d entries", len(l))
	}
}

// P605: a signature holds for one text: for no entry that is unlike in more than its Sig.
func TestOneTextHolds(t *testing.T) {
	o := oracle.New(nil)
	secret, public := o.Pair()
	l := manyEntries()
	for _, e := range l {
		e = signed(t, o, secret, e)
		for _, f := range l {
			f.Sig = e.Sig
			if Holds(o, public, f) != Same(e, f) {
				t.Errorf("the signature of %v holds for %v: %t", e, f, !Same(e, f))
			}
		}
	}
}

// isOneForm: Read either answers a right entry whose Bytes are b, or a kind and nothing.
func isOneForm(t *testing.T, b []byte) {
	t.Helper()
	e, k := Read(b)
	if k == api.OK {
		if again, j := Bytes(e); j != api.OK || !bytes.Equal(again, b) {
			t.Errorf("% X is read as %v, whose Bytes are % X, %d", b, e, again, j)
		}
		return
	}
	if k != api.TooLarge && k != api.Malformed || !Same(e, api.Entry{}) {
		t.Errorf("% X: %v, %d", b, e, k)
	}
}

// P601: what was read has no other form, whichever byte of one is another.
func TestReadOneForm(t *testing.T) {
	for _, e := range rightEntries() {
		b, _ := Bytes(e)
		for i := range min(len(b), 40) {
			for c := range 256 {
				other := bytes.Clone(b)
				other[i] = byte(c)
				isOneForm(t, other)
			}
		}
	}
}

// P601, P605: whatever the bytes are.
func FuzzRead(f *testing.F) {
	for _, e := range rightEntries() {
		b, _ := Bytes(e)
		f.Add(b)
	}
	f.Fuzz(isOneForm)
}

// spare: a copy of b whose spare room has something in it.
func spare(b []byte) []byte {
	return append(bytes.Clone(b), 0xEE, 0xEE, 0xEE)[:len(b)]
}

// scribble writes over b and its spare room.
func scribble(b []byte) {
	b = b[:cap(b)]
	for i := range b {
		b[i] = 0x55
	}
}

// Rule 4: what is handed in is not changed, its spare room neither.
func TestLeavesWhatIsHandedIn(t *testing.T) {
	o := oracle.New(nil)
	secret, public := o.Pair()
	e := later()
	e.Body = spare(e.Body)
	in := spare(forms(laterParts()...))
	Text(e)
	Bytes(e)
	Sum(o, e)
	Sign(o, secret, e)
	Holds(o, public, e)
	Same(e, e)
	Read(in)
	if !bytes.Equal(e.Body[:7], []byte("body\xEE\xEE\xEE")) {
		t.Errorf("the body became %q", e.Body[:7])
	}
	if !bytes.Equal(in[:len(in)+3], append(forms(laterParts()...), 0xEE, 0xEE, 0xEE)) {
		t.Errorf("the bytes became % X", in[:len(in)+3])
	}
}

// Rule 4: what is handed out is new memory, its spare room too: writing into it changes nothing.
func TestHandsOutNewMemory(t *testing.T) {
	o := oracle.New(nil)
	secret, public := o.Pair()
	e := later()
	e.Body = spare(e.Body)
	got := signed(t, o, secret, e)
	kept := with(got, func(e *api.Entry) { e.Body = bytes.Clone(e.Body) })
	scribble(got.Body)
	if !bytes.Equal(e.Body[:7], []byte("body\xEE\xEE\xEE")) {
		t.Errorf("Sign hands out the body that it was given: %q", e.Body[:7])
	}
	if !Holds(o, public, kept) {
		t.Error("what was signed is the caller's memory")
	}
	in := forms(laterParts()...)
	read, _ := Read(in)
	scribble(read.Body)
	if !bytes.Equal(in, forms(laterParts()...)) {
		t.Error("Read hands out the bytes that it was given")
	}
	text, _ := Text(later())
	all, _ := Bytes(later())
	n := sum(t, o, later())
	scribble(text)
	scribble(all)
	scribble(Bound(1, 2, 3))
	if again, _ := Bytes(later()); !bytes.Equal(again, in) || sum(t, o, later()) != n || !bytes.Equal(Bound(1, 2, 3), []byte{1, 2, 6}) {
		t.Error("what was handed out is kept")
	}
}

// Rule 4: what is handed in is not kept.
func TestKeepsNothing(t *testing.T) {
	o := oracle.New(nil)
	secret, public := o.Pair()
	in := forms(laterParts()...)
	read, _ := Read(in)
	scribble(in)
	if !Same(read, later()) {
		t.Errorf("what was read became %v", read)
	}
	e := later()
	n := sum(t, o, e)
	got := signed(t, o, secret, e)
	scribble(e.Body)
	if sum(t, o, later()) != n || !Holds(o, public, got) || string(got.Body) != "body" {
		t.Error("what was hashed or signed is the caller's memory")
	}
}
