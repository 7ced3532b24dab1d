package wire_test

import (
	"bytes"
	"math"
	"strings"
	"testing"

	"cachette/wire"
)

// P101: each form, at the edges of its length.
func TestNumForms(t *testing.T) {
	for _, c := range []struct {
		n    uint64
		want []byte
	}{
		{0, []byte{0}},
		{1, []byte{1}},
		{127, []byte{0x7F}},
		{128, []byte{0x80, 1}},
		{255, []byte{0xFF, 1}},
		{300, []byte{0xAC, 2}},
		{1<<14 - 1, []byte{0xFF, 0x7F}},
		{1 << 14, []byte{0x80, 0x80, 1}},
		{1<<63 - 1, []byte{0xFF, 0xFF, 0xFF, 0xFF, 0xFF, 0xFF, 0xFF, 0xFF, 0x7F}},
		{1 << 63, []byte{0x80, 0x80, 0x80, 0x80, 0x80, 0x80, 0x80, 0x80, 0x80, 1}},
		{math.MaxUint64, []byte{0xFF, 0xFF, 0xFF, 0xFF, 0xFF, 0xFF, 0xFF, 0xFF, 0xFF, 1}},
	} {
		if got := wire.Num(nil, c.n); !bytes.Equal(got, c.want) {
			t.Errorf("Num of %d: % X, not % X", c.n, got, c.want)
		}
	}
}

// P101: an Int is the Num of twice it, or of less twice it, less 1.
func TestIntForms(t *testing.T) {
	for _, c := range []struct {
		n    int64
		want uint64
	}{
		{0, 0}, {-1, 1}, {1, 2}, {-2, 3}, {2, 4}, {-64, 127}, {64, 128},
		{math.MaxInt64, math.MaxUint64 - 1},
		{math.MinInt64, math.MaxUint64},
		{math.MinInt64 + 1, math.MaxUint64 - 2},
	} {
		if got, want := wire.Int(nil, c.n), wire.Num(nil, c.want); !bytes.Equal(got, want) {
			t.Errorf("Int of %d: % X, not % X", c.n, got, want)
		}
	}
}

// P101: bytes and texts behind how many they are; a Bool in one byte.
func TestBytesTextBoolForms(t *testing.T) {
	long := strings.Repeat("x", 200)
	for _, c := range []struct {
		what string
		got  []byte
		want string
	}{
		{"Bytes of none", wire.Bytes(nil, nil), "\x00"},
		{"Bytes of an empty list", wire.Bytes(nil, []byte{}), "\x00"},
		{"Bytes", wire.Bytes(nil, []byte{0, 255}), "\x02\x00\xFF"},
		{"long Bytes", wire.Bytes(nil, []byte(long)), "\xC8\x01" + long},
		{"Text of none", wire.Text(nil, ""), "\x00"},
		{"Text", wire.Text(nil, "ab"), "\x02ab"},
		{"Text that is no UTF-8", wire.Text(nil, "\xFF\x00"), "\x02\xFF\x00"},
		{"Text of a rune of two bytes", wire.Text(nil, "é"), "\x02é"},
		{"long Text", wire.Text(nil, long), "\xC8\x01" + long},
		{"Bool false", wire.Bool(nil, false), "\x00"},
		{"Bool true", wire.Bool(nil, true), "\x01"},
	} {
		if string(c.got) != c.want {
			t.Errorf("%s: % X, not % X", c.what, c.got, c.want)
		}
	}
}

// puts are the five calls, each with something that has a form.
func puts() map[string]func(b []byte) []byte {
	return map[string]func(b []byte) []byte{
		"Num":   func(b []byte) []byte { return wire.Num(b, 300) },
		"Int":   func(b []byte) []byte { return wire.Int(b, -200) },
		"Bytes": func(b []byte) []byte { return wire.Bytes(b, []byte("xyz")) },
		"Text":  func(b []byte) []byte { return wire.Text(b, "xyz") },
		"Bool":  func(b []byte) []byte { return wire.Bool(b, true) },
	}
}

// P101: what stood ahead stays ahead of the form.
func TestPutBehind(t *testing.T) {
	for what, put := range puts() {
		form := put(nil)
		for _, ahead := range []string{"", "q", "\x80\x80", strings.Repeat("z", 300)} {
			if got := put([]byte(ahead)); string(got) != ahead+string(form) {
				t.Errorf("%s behind %q: %q", what, ahead, got)
			}
		}
	}
}

// Rule 4: what is handed in is not changed, nor is its spare room, and the answer shares none of it.
func TestPutSharesNothing(t *testing.T) {
	for what, put := range puts() {
		room := bytes.Repeat([]byte{7}, 64)
		first := put(room[:3])
		second := put(room[:3])
		whole := first[:cap(first)]
		for i := range whole {
			whole[i] = 9
		}
		if !bytes.Equal(room, bytes.Repeat([]byte{7}, 64)) {
			t.Errorf("%s: what was handed in, or its spare room, has changed", what)
		}
		if want := append([]byte{7, 7, 7}, put(nil)...); !bytes.Equal(second, want) {
			t.Errorf("%s: two answers share memory: % X, not % X", what, second, want)
		}
	}
}

// Rule 4: the list that Bytes puts is not kept.
func TestBytesKeepsItsListApart(t *testing.T) {
	x := []byte("abc")
	got := wire.Bytes(nil, x)
	x[0] = 'z'
	if string(got) != "\x03abc" {
		t.Errorf("the answer has changed with the list: %q", got)
	}
	got[1] = 'q'
	if string(x) != "zbc" {
		t.Errorf("the list has changed with the answer: %q", x)
	}
	both := []byte("ab")
	if got := wire.Bytes(both, both); string(got) != "ab\x02ab" {
		t.Errorf("Bytes of one list as both: %q", got)
	}
}
