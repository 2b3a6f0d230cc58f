package wide_test

import (
	"encoding/binary"
	"math"
	"slices"
	"strings"
	"testing"
	"unicode/utf16"

	"inkhorn/api"
	"inkhorn/wide"
)

// kinds is all of them.
var kinds = []int{wide.LE16, wide.BE16, wide.LE32, wide.BE32}

// noKinds is numbers that are none; so they are of policies, but for 1 to 3.
var noKinds = []int{0, -1, 5, 16, 32, math.MinInt, math.MaxInt}

// edges are the bytes at which units turn from characters to high ones, to low ones, and to what is none, and at which halves of units look like others.
const edges = "\x00\x01\x10\x11\x41\x80\xd7\xd8\xdb\xdc\xdf\xe0\xff"

// samples calls f with all texts of up to n of some bytes.
func samples(from string, n int, f func(s string)) {
	var more func(s string)
	more = func(s string) {
		f(s)
		if len(s) < n {
			for i := range len(from) {
				more(s + from[i:i+1])
			}
		}
	}
	more("")
}

// sampled calls f with texts of each kind: with all of up to four of the edges, and with longer ones of fewer bytes, so that whole units have others behind them.
func sampled(f func(kind int, s string)) {
	for _, kind := range kinds {
		samples(edges, 4, func(s string) { f(kind, s) })
	}
	for _, kind := range []int{wide.LE16, wide.BE16} {
		samples("\x00\xd7\xd8\xdb\xdc\xdf\xe0", 6, func(s string) { f(kind, s) })
	}
	for _, kind := range []int{wide.LE32, wide.BE32} {
		samples("\x00\x10\x11\xd8\xdf\xff", 6, func(s string) { f(kind, s) })
	}
}

// size is how many bytes a unit has.
func size(kind int) int {
	if kind == wide.LE32 || kind == wide.BE32 {
		return 4
	}
	return 2
}

// number is a unit's, by the library.
func number(kind int, s string) uint32 {
	b := []byte(s)
	switch kind {
	case wide.LE16:
		return uint32(binary.LittleEndian.Uint16(b))
	case wide.BE16:
		return uint32(binary.BigEndian.Uint16(b))
	case wide.LE32:
		return binary.LittleEndian.Uint32(b)
	}
	return binary.BigEndian.Uint32(b)
}

// encoded is characters as bytes, by the library.
func encoded(kind int, l ...rune) string {
	var out []byte
	switch kind {
	case wide.LE16:
		for _, u := range utf16.Encode(l) {
			out = binary.LittleEndian.AppendUint16(out, u)
		}
	case wide.BE16:
		for _, u := range utf16.Encode(l) {
			out = binary.BigEndian.AppendUint16(out, u)
		}
	case wide.LE32:
		for _, r := range l {
			out = binary.LittleEndian.AppendUint32(out, uint32(r))
		}
	case wide.BE32:
		for _, r := range l {
			out = binary.BigEndian.AppendUint32(out, uint32(r))
		}
	}
	return string(out)
}

// isHigh tells whether bytes begin with a high one.
func isHigh(kind int, s string) bool {
	return size(kind) == 2 && len(s) >= 2 && number(kind, s) >= 0xd800 && number(kind, s) <= 0xdbff
}

// isBeginning is the document's words on a beginning that is not whole.
func isBeginning(kind int, s string) bool {
	return len(s) < size(kind) || isHigh(kind, s) && len(s)-2 < 2
}

// word is the document's words on Next, taken literally.
func word(kind int, s string) (rune, int, api.Errno) {
	if isBeginning(kind, s) {
		return 0, len(s), api.ErrMore
	}
	u := number(kind, s)
	if isHigh(kind, s) {
		if r := utf16.DecodeRune(rune(u), rune(number(kind, s[2:]))); r != 0xfffd {
			return r, 4, api.OK
		}
		return 0, 2, api.ErrBad
	}
	if u > 0x10ffff || u >= 0xd800 && u <= 0xdfff {
		return 0, size(kind), api.ErrBad
	}
	return rune(u), size(kind), api.OK
}

// unit is a character, or a malformed unit, and where it is.
type unit struct {
	r   rune
	at  int
	n   int
	bad bool
}

// units is bytes, one unit behind the other, by the document's words alone.
func units(kind int, s string) []unit {
	var l []unit
	for at := 0; at < len(s); {
		r, n, e := word(kind, s[at:])
		l = append(l, unit{r, at, n, e != api.OK})
		at += n
	}
	return l
}

// decoded is what the document says of Decode, of units.
func decoded(policy int, l []unit) (out []rune, faults []api.Fault, e api.Errno) {
	for _, u := range l {
		if !u.bad {
			out = append(out, u.r)
			continue
		}
		faults = append(faults, api.Fault{At: u.at, Len: u.n})
		switch policy {
		case api.Strict:
			return out, faults, api.ErrBad
		case api.Replace:
			out = append(out, 0xfffd)
		}
	}
	return out, faults, api.OK
}

// characters is all of them.
func characters() []rune {
	var l []rune
	for r := rune(0); r <= 0x10ffff; r++ {
		if r < 0xd800 || r > 0xdfff {
			l = append(l, r)
		}
	}
	return l
}

// P2.1: the kinds' numbers are those of the document.
func TestKinds(t *testing.T) {
	if !slices.Equal(kinds, []int{1, 2, 3, 4}) {
		t.Error(kinds)
	}
}

// P2.1: the first and the last of what the document parts, as bytes of the 16-bit kinds with the highest byte first, and with the lowest first.
func TestNextOf16(t *testing.T) {
	for _, c := range []struct {
		s string // of BE16
		r rune
		n int
		e api.Errno
	}{
		{"", 0, 0, api.ErrMore},
		{"\x00\x00", 0, 2, api.OK},
		{"\x00\x41\x00\x42", 'A', 2, api.OK},
		{"\x41\x00", 0x4100, 2, api.OK},
		{"\xd7\xff", 0xd7ff, 2, api.OK},
		{"\xd7\xff\xdc\x00", 0xd7ff, 2, api.OK},
		{"\xe0\x00", 0xe000, 2, api.OK},
		{"\xff\xfd", 0xfffd, 2, api.OK},
		{"\xfe\xff", 0xfeff, 2, api.OK},
		{"\xff\xff", 0xffff, 2, api.OK},
		{"\xd8\x00\xdc\x00", 0x10000, 4, api.OK},
		{"\xd8\x00\xdf\xff", 0x103ff, 4, api.OK},
		{"\xd8\x01\xdc\x00", 0x10400, 4, api.OK},
		{"\xd8\x3d\xde\x00", 0x1f600, 4, api.OK},
		{"\xdb\xff\xdc\x00", 0x10fc00, 4, api.OK},
		{"\xdb\xff\xdf\xff\x00\x41", 0x10ffff, 4, api.OK},
		{"\xd8\x00", 0, 2, api.ErrMore},
		{"\xdb\xff", 0, 2, api.ErrMore},
		{"\xdc\x00", 0, 2, api.ErrBad},         // a low one
		{"\xdf\xff", 0, 2, api.ErrBad},         // the last low one
		{"\xdc\x00\xd8\x00", 0, 2, api.ErrBad}, // a pair the other way round
		{"\xdc\x00\xdc\x00", 0, 2, api.ErrBad},
		{"\xd8\x00\xdb\xff", 0, 2, api.ErrBad}, // a high one behind a high one
		{"\xdb\xff\xd8\x00\xdc\x00", 0, 2, api.ErrBad},
		{"\xd8\x00\xe0\x00", 0, 2, api.ErrBad},
		{"\xd8\x00\x00\x41", 0, 2, api.ErrBad},
	} {
		if r, n, e := wide.Next(wide.BE16, c.s); r != c.r || n != c.n || e != c.e {
			t.Errorf("Next(BE16, %x): %x %d %d, not %x %d %d", c.s, r, n, int(e), c.r, c.n, int(c.e))
		}
		s := turned(c.s, 2)
		if r, n, e := wide.Next(wide.LE16, s); r != c.r || n != c.n || e != c.e {
			t.Errorf("Next(LE16, %x): %x %d %d, not %x %d %d", s, r, n, int(e), c.r, c.n, int(c.e))
		}
	}
}

// turned is bytes with those of each unit the other way round.
func turned(s string, size int) string {
	b := []byte(s)
	for at := 0; at+size <= len(b); at += size {
		slices.Reverse(b[at : at+size])
	}
	return string(b)
}

// P2.1: the same of the 32-bit kinds. A unit that is part of a pair of the 16-bit kinds is none here.
func TestNextOf32(t *testing.T) {
	for _, c := range []struct {
		s string // of BE32
		r rune
		n int
		e api.Errno
	}{
		{"", 0, 0, api.ErrMore},
		{"\x00\x00\x00\x00", 0, 4, api.OK},
		{"\x00\x00\x00\x41\xff", 'A', 4, api.OK},
		{"\x00\x00\xd7\xff", 0xd7ff, 4, api.OK},
		{"\x00\x00\xe0\x00", 0xe000, 4, api.OK},
		{"\x00\x00\xff\xff", 0xffff, 4, api.OK},
		{"\x00\x01\x00\x00", 0x10000, 4, api.OK},
		{"\x00\x10\xff\xff", 0x10ffff, 4, api.OK},
		{"\x00\x00\xd8\x00", 0, 4, api.ErrBad},
		{"\x00\x00\xd8\x00\x00\x00\xdc\x00", 0, 4, api.ErrBad},
		{"\x00\x00\xdc\x00", 0, 4, api.ErrBad},
		{"\x00\x00\xdf\xff", 0, 4, api.ErrBad},
		{"\x00\x11\x00\x00", 0, 4, api.ErrBad},
		{"\x01\x00\x00\x41", 0, 4, api.ErrBad},
		{"\x7f\xff\xff\xff", 0, 4, api.ErrBad},
		{"\x80\x00\x00\x00", 0, 4, api.ErrBad},
		{"\x80\x00\x00\x41", 0, 4, api.ErrBad},
		{"\xff\xff\xff\xff\x00", 0, 4, api.ErrBad},
	} {
		if r, n, e := wide.Next(wide.BE32, c.s); r != c.r || n != c.n || e != c.e {
			t.Errorf("Next(BE32, %x): %x %d %d, not %x %d %d", c.s, r, n, int(e), c.r, c.n, int(c.e))
		}
		s := turned(c.s, 4)
		if r, n, e := wide.Next(wide.LE32, s); r != c.r || n != c.n || e != c.e {
			t.Errorf("Next(LE32, %x): %x %d %d, not %x %d %d", s, r, n, int(e), c.r, c.n, int(c.e))
		}
	}
}

// notWhole is a beginning at the end of each length and kind; also those that no byte behind them could make whole, or that a byte already tells to be none.
var notWhole = []struct {
	kind int
	s    string
}{
	{wide.LE16, "\x41"}, {wide.LE16, "\xd8"}, {wide.LE16, "\xdc"}, {wide.LE16, "\x00\xd8"}, {wide.LE16, "\xff\xdb"}, {wide.LE16, "\x00\xd8\x00"}, {wide.LE16, "\xff\xdb\xff"},
	{wide.BE16, "\x41"}, {wide.BE16, "\xd8"}, {wide.BE16, "\xdc"}, {wide.BE16, "\xd8\x00"}, {wide.BE16, "\xdb\xff"}, {wide.BE16, "\xd8\x00\xdc"}, {wide.BE16, "\xdb\xff\x00"}, {wide.BE16, "\xd8\x3d\xd8"},
	{wide.LE32, "\x41"}, {wide.LE32, "\x00\xd8"}, {wide.LE32, "\x00\xdc"}, {wide.LE32, "\xff\xff\xff"}, {wide.LE32, "\x00\x00\x11"},
	{wide.BE32, "\xff"}, {wide.BE32, "\xd8\x00"}, {wide.BE32, "\x00\x11"}, {wide.BE32, "\xff\xff\xff"}, {wide.BE32, "\x00\x00\xd8"},
}

// P2.1 and P2.2: what is not whole asks for more, is one malformed unit at the end, and is cut off, behind characters and behind malformed units.
func TestNotWhole(t *testing.T) {
	for _, c := range notWhole {
		if r, n, e := wide.Next(c.kind, c.s); r != 0 || n != len(c.s) || e != api.ErrMore {
			t.Errorf("Next(%d, %x): %x %d %d", c.kind, c.s, r, n, int(e))
		}
		for _, ahead := range []string{"", encoded(c.kind, 'A'), encoded(c.kind, 0x10000), encoded(c.kind, 0x10ffff, 0xffff)} {
			s := ahead + c.s
			if n, e := wide.Cut(c.kind, s); n != len(ahead) || e != api.OK {
				t.Errorf("Cut(%d, %x): %d %d", c.kind, s, n, int(e))
			}
			_, faults, e := wide.Decode(c.kind, api.Strict, s)
			if !slices.Equal(faults, []api.Fault{{At: len(ahead), Len: len(c.s)}}) || e != api.ErrBad {
				t.Errorf("Decode(%d, Strict, %x): %v %d", c.kind, s, faults, int(e))
			}
		}
	}
}

// P2.1 and P2.2: the document's words on Next, Decode and Cut, at all that the samples are.
func TestAsTold(t *testing.T) {
	sampled(func(kind int, s string) {
		r, n, e := wide.Next(kind, s)
		if wr, wn, we := word(kind, s); r != wr || n != wn || e != we {
			t.Fatalf("Next(%d, %x): %x %d %d, not %x %d %d", kind, s, r, n, int(e), wr, wn, int(we))
		}
		l := units(kind, s)
		for policy := api.Strict; policy <= api.Skip; policy++ {
			wl, wf, we := decoded(policy, l)
			if l, f, e := wide.Decode(kind, policy, s); !slices.Equal(l, wl) || !slices.Equal(f, wf) || e != we {
				t.Fatalf("Decode(%d, %d, %x): %x %v %d, not %x %v %d", kind, policy, s, l, f, int(e), wl, wf, int(we))
			}
		}
		cut := len(s)
		if k := len(l); k > 0 && isBeginning(kind, s[l[k-1].at:]) {
			cut = l[k-1].at
		}
		if got, e := wide.Cut(kind, s); got != cut || e != api.OK {
			t.Fatalf("Cut(%d, %x): %d %d, not %d", kind, s, got, int(e), cut)
		}
	})
}

// P2.1: all units of two bytes, with each kind of unit behind them.
func TestNextOfAllUnits(t *testing.T) {
	for _, kind := range []int{wide.LE16, wide.BE16} {
		for u := range 1 << 16 {
			for _, behind := range []rune{0, 0xd7ff, 0xd800, 0xdbff, 0xdc00, 0xdfff, 0xe000, 0xffff} {
				s := string([]byte{byte(u >> 8), byte(u), byte(behind >> 8), byte(behind)})
				if kind == wide.LE16 {
					s = turned(s, 2)
				}
				r, n, e := wide.Next(kind, s)
				if wr, wn, we := word(kind, s); r != wr || n != wn || e != we {
					t.Fatalf("Next(%d, %x): %x %d %d, not %x %d %d", kind, s, r, n, int(e), wr, wn, int(we))
				}
			}
		}
	}
}

// P2.1: Encode of one, at all numbers that are near to characters, and at the ends of what a rune may be.
func TestEncodeOfNumbers(t *testing.T) {
	check := func(kind int, r rune) {
		want, e := "", api.ErrRange
		if r >= 0 && r < 0xd800 || r > 0xdfff && r <= 0x10ffff {
			want, e = encoded(kind, r), api.OK
		}
		if got, f := wide.Encode(kind, r); got != want || f != e {
			t.Fatalf("Encode(%d, %x): %x %d", kind, r, got, int(f))
		}
	}
	for _, kind := range kinds {
		for r := rune(-0x1000); r <= 0x110fff; r++ {
			check(kind, r)
		}
		for _, r := range []rune{math.MinInt32, math.MaxInt32, 1 << 24, 1 << 21, 0x200041, -0x7fffffbf} {
			check(kind, r)
		}
	}
}

// P2.1: Encode of several, of none, and of one that is no character among others.
func TestEncodeOfSeveral(t *testing.T) {
	for kind, want := range map[int]string{
		wide.LE16: "\xe9\x00\xff\xd7\x00\xe0\xff\xff\x00\xd8\x00\xdc\xff\xdb\xff\xdf",
		wide.BE16: "\x00\xe9\xd7\xff\xe0\x00\xff\xff\xd8\x00\xdc\x00\xdb\xff\xdf\xff",
		wide.LE32: "\xe9\x00\x00\x00\xff\xd7\x00\x00\x00\xe0\x00\x00\xff\xff\x00\x00\x00\x00\x01\x00\xff\xff\x10\x00",
		wide.BE32: "\x00\x00\x00\xe9\x00\x00\xd7\xff\x00\x00\xe0\x00\x00\x00\xff\xff\x00\x01\x00\x00\x00\x10\xff\xff",
	} {
		if s, e := wide.Encode(kind, 0xe9, 0xd7ff, 0xe000, 0xffff, 0x10000, 0x10ffff); s != want || e != api.OK {
			t.Errorf("Encode(%d): %x %d", kind, s, int(e))
		}
		if s, e := wide.Encode(kind); s != "" || e != api.OK {
			t.Errorf("Encode(%d) of none: %x %d", kind, s, int(e))
		}
		for _, l := range [][]rune{{0xd800}, {0xdfff, 'a'}, {'a', 0x110000}, {'a', -1, 'b'}, {0xd800, 0xdc00}} {
			if s, e := wide.Encode(kind, l...); s != "" || e != api.ErrRange {
				t.Errorf("Encode(%d, %x): %x %d", kind, l, s, int(e))
			}
		}
	}
	if s, e := wide.Encode(wide.BE16, 0x1f600); s != "\xd8\x3d\xde\x00" || e != api.OK {
		t.Errorf("%x %d", s, int(e))
	}
}

// P2.1 to P2.3: of a kind that is none, ErrKind ahead of others, 0, and no bytes.
func TestNoKind(t *testing.T) {
	for _, kind := range noKinds {
		for _, s := range []string{"", "a", "\x00\xdc", "\xff\xff\xff\xff", "ab"} {
			if r, n, e := wide.Next(kind, s); r != 0 || n != 0 || e != api.ErrKind {
				t.Errorf("Next(%d, %x): %x %d %d", kind, s, r, n, int(e))
			}
			if n, e := wide.Cut(kind, s); n != 0 || e != api.ErrKind {
				t.Errorf("Cut(%d, %x): %d %d", kind, s, n, int(e))
			}
			for _, policy := range append([]int{api.Strict, api.Replace, api.Skip}, noKinds...) {
				if l, f, e := wide.Decode(kind, policy, s); len(l) != 0 || len(f) != 0 || e != api.ErrKind {
					t.Errorf("Decode(%d, %d, %x): %x %v %d", kind, policy, s, l, f, int(e))
				}
			}
		}
		for _, l := range [][]rune{nil, {'a'}, {0xd800}, {'a', -1}} {
			if s, e := wide.Encode(kind, l...); s != "" || e != api.ErrKind {
				t.Errorf("Encode(%d, %x): %x %d", kind, l, s, int(e))
			}
		}
		if s := wide.Mark(kind); s != "" {
			t.Errorf("Mark(%d): %x", kind, s)
		}
	}
}

// P2.2: of a policy that is none, ErrKind, also where there is nothing to decode, or nothing that could be.
func TestNoPolicy(t *testing.T) {
	for _, kind := range kinds {
		for _, policy := range append([]int{4}, noKinds...) {
			for _, parts := range [][]string{nil, {""}, {encoded(kind, 'A')}, {encoded(kind, 'A'), "\xff"}} {
				if l, f, e := wide.Decode(kind, policy, parts...); len(l) != 0 || len(f) != 0 || e != api.ErrKind {
					t.Errorf("Decode(%d, %d, %q): %x %v %d", kind, policy, parts, l, f, int(e))
				}
			}
		}
	}
}

// P2.2: policies, at malformed units in all places, and without any.
func TestDecodeByPolicies(t *testing.T) {
	for _, c := range []struct {
		kind, policy int
		parts        []string
		l            []rune
		faults       []api.Fault
		e            api.Errno
	}{
		{wide.LE16, api.Strict, nil, nil, nil, api.OK},
		{wide.BE32, api.Replace, []string{"", ""}, nil, nil, api.OK},
		{wide.LE32, api.Skip, nil, nil, nil, api.OK},
		{wide.BE16, api.Strict, []string{"\xd8", "\x3d\xde", "", "\x00\x00A"}, []rune{0x1f600, 'A'}, nil, api.OK},
		{wide.BE16, api.Strict, []string{"\x00A\xdc\x00\x00B\xd8"}, []rune{'A'}, []api.Fault{{At: 2, Len: 2}}, api.ErrBad},
		{wide.BE16, api.Replace, []string{"\x00A\xdc\x00\x00B\xd8"}, []rune{'A', 0xfffd, 'B', 0xfffd}, []api.Fault{{At: 2, Len: 2}, {At: 6, Len: 1}}, api.OK},
		{wide.BE16, api.Skip, []string{"\x00A\xdc\x00\x00B\xd8"}, []rune{'A', 'B'}, []api.Fault{{At: 2, Len: 2}, {At: 6, Len: 1}}, api.OK},
		{wide.LE16, api.Replace, []string{"\x00\xd8", "A\x00"}, []rune{0xfffd, 'A'}, []api.Fault{{At: 0, Len: 2}}, api.OK},
		{wide.LE16, api.Skip, []string{"A\x00\x3d\xd8", "\x00"}, []rune{'A'}, []api.Fault{{At: 2, Len: 3}}, api.OK},
		{wide.LE16, api.Replace, []string{"\x00\xd8\x00\xd8\x00\xdc\x00\xdc"}, []rune{0xfffd, 0x10000, 0xfffd}, []api.Fault{{At: 0, Len: 2}, {At: 6, Len: 2}}, api.OK},
		{wide.LE16, api.Strict, []string{"\xfd\xff"}, []rune{0xfffd}, nil, api.OK},
		{wide.LE32, api.Strict, []string{"A\x00", "\x00\x00", "\x00\xd8\x00\x00"}, []rune{'A'}, []api.Fault{{At: 4, Len: 4}}, api.ErrBad},
		{wide.BE32, api.Replace, []string{"\xff\xff\xff", "\xff\x00\x10\xff\xff\x00\x00\x00"}, []rune{0xfffd, 0x10ffff, 0xfffd}, []api.Fault{{At: 0, Len: 4}, {At: 8, Len: 3}}, api.OK},
		{wide.BE32, api.Skip, []string{"\x00\x00\xdb\xff\x00\x00\xdf\xff"}, nil, []api.Fault{{At: 0, Len: 4}, {At: 4, Len: 4}}, api.OK},
		{wide.BE16, api.Strict, []string{"\xfe\xff\x00A"}, []rune{0xfeff, 'A'}, nil, api.OK}, // a mark is a character
	} {
		l, faults, e := wide.Decode(c.kind, c.policy, c.parts...)
		if !slices.Equal(l, c.l) || !slices.Equal(faults, c.faults) || e != c.e {
			t.Errorf("Decode(%d, %d, %q): %x %v %d", c.kind, c.policy, c.parts, l, faults, int(e))
		}
	}
}

// P2.2: Cut where nothing is cut off: no bytes, whole characters, and malformed units that are whole.
func TestCutOfWhole(t *testing.T) {
	for _, kind := range kinds {
		for _, s := range []string{"", encoded(kind, 'A'), encoded(kind, 0x10000), encoded(kind, 0x10ffff, 0), encoded(kind, 0xd7ff), encoded(kind, 0xe000)} {
			if n, e := wide.Cut(kind, s); n != len(s) || e != api.OK {
				t.Errorf("Cut(%d, %x): %d %d", kind, s, n, int(e))
			}
		}
	}
	for _, c := range []struct {
		kind int
		s    string
	}{
		{wide.BE16, "\xdc\x00"}, {wide.BE16, "\xd8\x00\x00\x41"}, {wide.LE16, "\x00\xdc\x00\xdc"}, {wide.LE16, "\x00\xd8\x00\xe0"},
		{wide.BE32, "\x00\x00\xd8\x00"}, {wide.BE32, "\x00\x41\xd8\x00"}, {wide.LE32, "\x00\xd8\x00\x00"}, {wide.LE32, "\x00\x00\x00\xd8"}, {wide.LE32, "\xff\xff\xff\xff"},
	} {
		if n, e := wide.Cut(c.kind, c.s); n != len(c.s) || e != api.OK {
			t.Errorf("Cut(%d, %x): %d %d", c.kind, c.s, n, int(e))
		}
	}
}

// P2.3: marks, and what is guessed of bytes that begin with one, with more than one, and with none.
func TestMarkAndGuess(t *testing.T) {
	for kind, want := range map[int]string{wide.LE16: "\xff\xfe", wide.BE16: "\xfe\xff", wide.LE32: "\xff\xfe\x00\x00", wide.BE32: "\x00\x00\xfe\xff"} {
		if got := wide.Mark(kind); got != want {
			t.Errorf("Mark(%d): %x", kind, got)
		}
	}
	for _, c := range []struct {
		s       string
		kind, n int
	}{
		{"\xff\xfe", wide.LE16, 2},
		{"\xff\xfeA\x00", wide.LE16, 2},
		{"\xff\xfe\x00", wide.LE16, 2},
		{"\xff\xfe\x00A", wide.LE16, 2},
		{"\xff\xfe\x01\x00", wide.LE16, 2},
		{"\xff\xfe\xff\xfe\x00\x00", wide.LE16, 2}, // a mark behind a mark
		{"\xff\xfe\xfe\xff", wide.LE16, 2},
		{"\xfe\xff", wide.BE16, 2},
		{"\xfe\xff\x00\x00", wide.BE16, 2},
		{"\xfe\xff\x00A", wide.BE16, 2},
		{"\xff\xfe\x00\x00", wide.LE32, 4}, // it begins with LE16's mark too
		{"\xff\xfe\x00\x00\xff\xfe\x00\x00", wide.LE32, 4},
		{"\xff\xfe\x00\x00A", wide.LE32, 4},
		{"\x00\x00\xfe\xff", wide.BE32, 4},
		{"\x00\x00\xfe\xff\x00\x00\x00A", wide.BE32, 4},
		{"", 0, 0},
		{"\xff", 0, 0},
		{"\xfe", 0, 0},
		{"\x00", 0, 0},
		{"\x00\x00", 0, 0},
		{"\x00\x00\xfe", 0, 0},
		{"\x00\x00\xff\xfe", 0, 0},
		{"\x00\xfe\xff", 0, 0},
		{"A\xff\xfe", 0, 0},
		{"\xef\xbb\xbf", 0, 0},
		{"ab", 0, 0},
	} {
		if kind, n := wide.Guess(c.s); kind != c.kind || n != c.n {
			t.Errorf("Guess(%x): %d %d, not %d %d", c.s, kind, n, c.kind, c.n)
		}
	}
}

// P2.3: Guess at all texts of up to five of the bytes that marks are made of, by the document's words.
func TestGuessAsTold(t *testing.T) {
	samples("\x00A\xfe\xff", 5, func(s string) {
		kind, n := 0, 0
		for _, k := range []int{wide.BE16, wide.LE16, wide.BE32, wide.LE32} {
			if mark := encoded(k, 0xfeff); strings.HasPrefix(s, mark) {
				kind, n = k, len(mark)
			}
		}
		if k, m := wide.Guess(s); k != kind || m != n {
			t.Fatalf("Guess(%x): %d %d, not %d %d", s, k, m, kind, n)
		}
	})
}

// P2.4: there and back, of all characters at once; and the kinds tell them by the same bytes, in another order.
func TestThereAndBack(t *testing.T) {
	all := characters()
	made := map[int]string{}
	for _, kind := range kinds {
		s, e := wide.Encode(kind, all...)
		if e != api.OK || s != encoded(kind, all...) {
			t.Fatal("Encode of all characters", kind, len(s), int(e))
		}
		if n, e := wide.Cut(kind, s); n != len(s) || e != api.OK {
			t.Error("Cut of all characters", kind, n, int(e))
		}
		for policy := api.Strict; policy <= api.Skip; policy++ {
			if l, faults, e := wide.Decode(kind, policy, s); !slices.Equal(l, all) || len(faults) != 0 || e != api.OK {
				t.Error("Decode of all characters", kind, policy, len(l), len(faults), int(e))
			}
		}
		made[kind] = s
	}
	if turned(made[wide.LE16], 2) != made[wide.BE16] || turned(made[wide.LE32], 4) != made[wide.BE32] {
		t.Error("the bytes are not the same in another order")
	}
}

// P2.4: Encode of what was decoded is the bytes without the malformed units: together they are all bytes, each once.
func TestAllBytesOnce(t *testing.T) {
	sampled(func(kind int, s string) {
		l, faults, _ := wide.Decode(kind, api.Skip, s)
		whole, e := wide.Encode(kind, l...)
		if e != api.OK || whole != without(t, s, faults) {
			t.Fatalf("%d %x: %x %v %d", kind, s, l, faults, int(e))
		}
	})
}

// without is bytes without those of faults, which must rise and not meet.
func without(t *testing.T, s string, faults []api.Fault) string {
	var out strings.Builder
	at := 0
	for _, f := range faults {
		if f.At < at || f.Len < 1 || f.At+f.Len > len(s) {
			t.Fatalf("%x: %v", s, faults)
		}
		out.WriteString(s[at:f.At])
		at = f.At + f.Len
	}
	return out.String() + s[at:]
}

// P2.4: it does not count how bytes are parted.
func TestPartsDoNotCount(t *testing.T) {
	for _, kind := range kinds {
		for _, s := range []string{encoded(kind, 'A', 0x10ffff), "\x00\xd8\x00\xdc\x00\xd8\x00\x00\x00\xd8\x00", "\xd8\x00\xdc\x00\xdc\x00\xd8\x00\xd8\x01\xdc", "\x00\x00\x00A\x00\x11\x00\x00\x00\x00\xd8"} {
			for policy := api.Strict; policy <= api.Skip; policy++ {
				wl, wf, we := wide.Decode(kind, policy, s)
				for cuts := range 1 << (len(s) - 1) {
					parts := parted(s, cuts)
					if l, f, e := wide.Decode(kind, policy, parts...); !slices.Equal(l, wl) || !slices.Equal(f, wf) || e != we {
						t.Fatalf("Decode(%d, %d, %q): %x %v %d, not %x %v %d", kind, policy, parts, l, f, int(e), wl, wf, int(we))
					}
				}
			}
		}
	}
}

// parted is bytes, cut behind the byte i if bit i of cuts is set, with a part of no bytes there.
func parted(s string, cuts int) []string {
	var l []string
	from := 0
	for i := range len(s) - 1 {
		if cuts>>i&1 == 1 {
			l = append(l, s[from:i+1], "")
			from = i + 1
		}
	}
	return append(l, s[from:])
}

// P2.4: what is cut off, and put ahead of the bytes that come behind, is decoded as if nothing had been cut.
func TestCutLosesNothing(t *testing.T) {
	sampled(func(kind int, s string) {
		wl, wf, _ := wide.Decode(kind, api.Replace, s)
		half := len(s) / 2
		n, _ := wide.Cut(kind, s[:half])
		l, f, _ := wide.Decode(kind, api.Replace, s[:n])
		l2, f2, _ := wide.Decode(kind, api.Replace, s[n:])
		for _, x := range f2 {
			f = append(f, api.Fault{At: x.At + n, Len: x.Len})
		}
		if l = append(l, l2...); !slices.Equal(l, wl) || !slices.Equal(f, wf) {
			t.Fatalf("%d %x cut at %d: %x %v, not %x %v", kind, s, n, l, f, wl, wf)
		}
	})
}

// R2: what is handed in is not written into, nor what stands behind its length, and answers share no memory.
func TestArgumentsAreLeft(t *testing.T) {
	runes := []rune{'a', 0x1f600, 'b', 'c'}
	wide.Encode(wide.LE16, runes[:2]...)
	if !slices.Equal(runes, []rune{'a', 0x1f600, 'b', 'c'}) {
		t.Error(runes)
	}
	parts := []string{"a\x00\x00\xdc", "b", "c"}
	l, faults, _ := wide.Decode(wide.LE16, api.Replace, parts[:2]...)
	l[0], faults[0] = 'x', api.Fault{}
	if !slices.Equal(parts, []string{"a\x00\x00\xdc", "b", "c"}) {
		t.Error(parts)
	}
	if l, faults, _ := wide.Decode(wide.LE16, api.Replace, parts[:2]...); l[0] != 'a' || faults[0] != (api.Fault{At: 2, Len: 2}) {
		t.Error(l, faults)
	}
}
