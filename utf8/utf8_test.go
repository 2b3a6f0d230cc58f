package utf8_test

import (
	"slices"
	"strings"
	"testing"
	library "unicode/utf8"

	"inkhorn/api"
	"inkhorn/utf8"
)

// edges are the bytes at which the document's table, and the limits of characters, turn.
const edges = "\x00A\x7f\x80\x8f\x90\x9f\xa0\xbf\xc0\xc1\xc2\xdf\xe0\xe1\xec\xed\xee\xef\xf0\xf1\xf3\xf4\xf5\xf7\xf8\xfe\xff"

// samples calls f with all texts of up to n bytes of edges.
func samples(n int, f func(s string)) {
	var more func(s string)
	more = func(s string) {
		f(s)
		if len(s) < n {
			for i := range len(edges) {
				more(s + edges[i:i+1])
			}
		}
	}
	more("")
}

// characters is all of them.
func characters() []rune {
	var l []rune
	for r := rune(0); r <= api.MaxRune; r++ {
		if api.Scalar(r) {
			l = append(l, r)
		}
	}
	return l
}

// beginnings is all beginnings of characters' bytes that are not whole; made by the library, not by the package.
func beginnings() map[string]bool {
	m := map[string]bool{"": true}
	for _, r := range characters() {
		s := string(r)
		for n := 1; n < len(s); n++ {
			m[s[:n]] = true
		}
	}
	return m
}

// word is the document's words on Next, taken literally.
func word(begin map[string]bool, s string) (rune, int, api.Errno) {
	if r, n := library.DecodeRuneInString(s); n > 1 || r != library.RuneError {
		return r, n, api.OK
	}
	if begin[s] {
		return 0, len(s), api.ErrMore
	}
	n := min(len(s), 3)
	for n > 1 && !begin[s[:n]] {
		n--
	}
	return 0, n, api.ErrBad
}

// unit is a character, or a malformed unit, and where it is.
type unit struct {
	r   rune
	at  int
	n   int
	bad bool
}

// units is bytes, one unit behind the other, by the document's words alone.
func units(begin map[string]bool, s string) []unit {
	var l []unit
	for at := 0; at < len(s); {
		r, n, e := word(begin, s[at:])
		l = append(l, unit{r, at, n, e != api.OK})
		at += n
	}
	return l
}

// decoded is what the document says of Decode, of units.
func decoded(policy int, l []unit) (out []rune, faults []api.Fault, e api.Errno) {
	for _, u := range l {
		if !u.bad {
			out = append(out, u.r)
			continue
		}
		faults = append(faults, api.Fault{At: u.at, Len: u.n})
		switch policy {
		case api.Strict:
			return out, faults, api.ErrBad
		case api.Replace:
			out = append(out, 0xfffd)
		}
	}
	return out, faults, api.OK
}

// P1.1: what the document gives as examples, and each kind of malformed unit.
func TestNextOfKinds(t *testing.T) {
	for _, c := range []struct {
		s string
		r rune
		n int
		e api.Errno
	}{
		{"", 0, 0, api.ErrMore},
		{"\x00", 0, 1, api.OK},
		{"Ax", 'A', 1, api.OK},
		{"\x7f", 0x7f, 1, api.OK},
		{"\xc2\x80", 0x80, 2, api.OK},
		{"\xdf\xbf\xbf", 0x7ff, 2, api.OK},
		{"\xe0\xa0\x80", 0x800, 3, api.OK},
		{"\xed\x9f\xbf", 0xd7ff, 3, api.OK},
		{"\xee\x80\x80", 0xe000, 3, api.OK},
		{"\xef\xbf\xbd", 0xfffd, 3, api.OK},
		{"\xef\xbf\xbf", 0xffff, 3, api.OK},
		{"\xf0\x90\x80\x80", 0x10000, 4, api.OK},
		{"\xf4\x8f\xbf\xbfA", 0x10ffff, 4, api.OK},
		{"\xc2", 0, 1, api.ErrMore},
		{"\xe2\x82", 0, 2, api.ErrMore},
		{"\xed\x9f", 0, 2, api.ErrMore},
		{"\xf4\x8f\xbf", 0, 3, api.ErrMore},
		{"\x80", 0, 1, api.ErrBad},             // a later byte
		{"\xbf\xbf", 0, 1, api.ErrBad},         // later bytes
		{"\xc0\x80", 0, 1, api.ErrBad},         // 0, too long
		{"\xc1\xbf", 0, 1, api.ErrBad},         // 0x7f, too long
		{"\xe0\x9f\xbf", 0, 1, api.ErrBad},     // 0x7ff, too long
		{"\xf0\x8f\xbf\xbf", 0, 1, api.ErrBad}, // 0xffff, too long
		{"\xed\xa0\x80", 0, 1, api.ErrBad},     // 0xd800
		{"\xed\xbf\xbf", 0, 1, api.ErrBad},     // 0xdfff
		{"\xf4\x90\x80\x80", 0, 1, api.ErrBad}, // 0x110000
		{"\xf5", 0, 1, api.ErrBad},
		{"\xf7\xbf\xbf\xbf", 0, 1, api.ErrBad},
		{"\xf8\x88\x80\x80\x80", 0, 1, api.ErrBad}, // five bytes
		{"\xff", 0, 1, api.ErrBad},
		{"\xc3A", 0, 1, api.ErrBad},
		{"\xc3\xc3\xa9", 0, 1, api.ErrBad},
		{"\xe2\x28", 0, 1, api.ErrBad},
		{"\xe2\x82\x28", 0, 2, api.ErrBad},
		{"\xf0\x9f\x98A", 0, 3, api.ErrBad},
		{"\xf0\x9f\x98\xff", 0, 3, api.ErrBad},
	} {
		if r, n, e := utf8.Next(c.s); r != c.r || n != c.n || e != c.e {
			t.Errorf("Next(%x): %x %d %d, not %x %d %d", c.s, r, n, int(e), c.r, c.n, int(c.e))
		}
	}
}

// P1.1: the document's words, at all texts of up to two bytes, and of up to four of the edges.
func TestNextAsTold(t *testing.T) {
	begin := beginnings()
	check := func(s string) {
		r, n, e := utf8.Next(s)
		if wr, wn, we := word(begin, s); r != wr || n != wn || e != we {
			t.Fatalf("Next(%x): %x %d %d, not %x %d %d", s, r, n, int(e), wr, wn, int(we))
		}
	}
	for i := range 1 << 16 {
		check(string([]byte{byte(i >> 8)}))
		check(string([]byte{byte(i >> 8), byte(i)}))
	}
	samples(4, check)
}

// P1.1: all characters, whole, with more behind them, and not whole.
func TestNextOfAllCharacters(t *testing.T) {
	for _, r := range characters() {
		s := string(r)
		if got, n, e := utf8.Next(s + "\x80"); got != r || n != len(s) || e != api.OK {
			t.Fatalf("Next of %x: %x %d %d", r, got, n, int(e))
		}
		if got, n, e := utf8.Next(s[:len(s)-1]); got != 0 || n != len(s)-1 || e != api.ErrMore {
			t.Fatalf("Next of a beginning of %x: %x %d %d", r, got, n, int(e))
		}
	}
}

// P1.1: Len and Encode, at all numbers that are near to characters, and at the ends of what a rune may be.
func TestLenAndEncodeOfNumbers(t *testing.T) {
	check := func(r rune) {
		want, e := "", api.ErrRange
		if api.Scalar(r) {
			want, e = string(r), api.OK
		}
		if got := utf8.Len(r); got != len(want) {
			t.Fatalf("Len(%x): %d", r, got)
		}
		if got, f := utf8.Encode(r); got != want || f != e {
			t.Fatalf("Encode(%x): %x %d", r, got, int(f))
		}
	}
	for r := rune(-0x1000); r <= api.MaxRune+0x1000; r++ {
		check(r)
	}
	for _, r := range []rune{-1 << 31, 1<<31 - 1, 1 << 24, 1 << 21, 0x200041, -0x7fffffbf} {
		check(r)
	}
	for r, want := range map[rune]int{0x7f: 1, 0x80: 2, 0x7ff: 2, 0x800: 3, 0xd7ff: 3, 0xd800: 0, 0xdfff: 0, 0xe000: 3, 0xffff: 3, 0x10000: 4, 0x10ffff: 4, 0x110000: 0, -1: 0} {
		if got := utf8.Len(r); got != want {
			t.Errorf("Len(%x): %d, not %d", r, got, want)
		}
	}
}

// P1.1: Encode of several, of none, and of one that is no character among others.
func TestEncodeOfSeveral(t *testing.T) {
	if s, e := utf8.Encode(0xe9, 0x20ac); s != "\xc3\xa9\xe2\x82\xac" || e != api.OK {
		t.Errorf("%x %d", s, int(e))
	}
	if s, e := utf8.Encode(); s != "" || e != api.OK {
		t.Errorf("of none: %x %d", s, int(e))
	}
	for _, l := range [][]rune{{0xd800}, {0xdfff, 'a'}, {'a', 0x110000}, {'a', -1, 'b'}} {
		if s, e := utf8.Encode(l...); s != "" || e != api.ErrRange {
			t.Errorf("of %x: %x %d", l, s, int(e))
		}
	}
}

// P1.2: policies, at malformed units in all places, and without any.
func TestDecodeByPolicies(t *testing.T) {
	for _, c := range []struct {
		policy int
		parts  []string
		l      []rune
		faults []api.Fault
		e      api.Errno
	}{
		{api.Strict, nil, nil, nil, api.OK},
		{api.Replace, []string{"", ""}, nil, nil, api.OK},
		{api.Skip, nil, nil, nil, api.OK},
		{api.Strict, []string{"A\xc3", "\xa9"}, []rune{'A', 0xe9}, nil, api.OK},
		{api.Replace, []string{"A\xff\xe2\x82"}, []rune{'A', 0xfffd, 0xfffd}, []api.Fault{{At: 1, Len: 1}, {At: 2, Len: 2}}, api.OK},
		{api.Skip, []string{"A\xff\xe2\x82"}, []rune{'A'}, []api.Fault{{At: 1, Len: 1}, {At: 2, Len: 2}}, api.OK},
		{api.Strict, []string{"A\xff\xe2\x82"}, []rune{'A'}, []api.Fault{{At: 1, Len: 1}}, api.ErrBad},
		{api.Strict, []string{"AB\xe2", "\x82"}, []rune{'A', 'B'}, []api.Fault{{At: 2, Len: 2}}, api.ErrBad},
		{api.Strict, []string{"\xffA"}, nil, []api.Fault{{At: 0, Len: 1}}, api.ErrBad},
		{api.Replace, []string{"\xf0\x9f\x98"}, []rune{0xfffd}, []api.Fault{{At: 0, Len: 3}}, api.OK},
		{api.Replace, []string{"\xf0", "\x9f", "", "\x98", "A"}, []rune{0xfffd, 'A'}, []api.Fault{{At: 0, Len: 3}}, api.OK},
		{api.Skip, []string{"\xed\xa0\x80", "A"}, []rune{'A'}, []api.Fault{{At: 0, Len: 1}, {At: 1, Len: 1}, {At: 2, Len: 1}}, api.OK},
		{api.Strict, []string{"\xef\xbf\xbd"}, []rune{0xfffd}, nil, api.OK},
		{0, []string{"A"}, nil, nil, api.ErrKind},
		{4, nil, nil, nil, api.ErrKind},
		{-1, []string{"\xff"}, nil, nil, api.ErrKind},
	} {
		l, faults, e := utf8.Decode(c.policy, c.parts...)
		if !slices.Equal(l, c.l) || !slices.Equal(faults, c.faults) || e != c.e {
			t.Errorf("Decode(%d, %q): %x %v %d", c.policy, c.parts, l, faults, int(e))
		}
	}
}

// P1.2: Decode, Valid and Cut by the document's words, at all texts of up to three of the edges, alone, behind others and ahead of them.
func TestDecodeValidAndCutAsTold(t *testing.T) {
	begin := beginnings()
	check := func(s string) {
		l := units(begin, s)
		valid, cut := true, len(s)
		for _, u := range l {
			valid = valid && !u.bad
		}
		if k := len(l); k > 0 && begin[s[l[k-1].at:]] {
			cut = l[k-1].at
		}
		if utf8.Valid(s) != valid || utf8.Cut(s) != cut {
			t.Fatalf("%x: Valid %t, Cut %d, not %d", s, !valid, utf8.Cut(s), cut)
		}
		for policy := api.Strict; policy <= api.Skip; policy++ {
			wl, wf, we := decoded(policy, l)
			if l, f, e := utf8.Decode(policy, s); !slices.Equal(l, wl) || !slices.Equal(f, wf) || e != we {
				t.Fatalf("Decode(%d, %x): %x %v %d, not %x %v %d", policy, s, l, f, int(e), wl, wf, int(we))
			}
		}
	}
	samples(3, func(s string) {
		check(s)
		check("\xf0\x90\x80" + s)
		check("a\xe2" + s)
		check(s + "\xf4\x8f\xbf")
	})
}

// P1.2: Valid and Cut at what the document names.
func TestValidAndCut(t *testing.T) {
	for _, c := range []struct {
		s     string
		valid bool
		cut   int
	}{
		{"", true, 0},
		{"A\u00e9\u20ac\U0001f600", true, 10},
		{"\u00e9\xc3", false, 2},
		{"A\xe2\x82", false, 1},
		{"A\xf0\x9f\x98", false, 1},
		{"\xf0\x9f\x98", false, 0},
		{"\xf0\x9f\x98\x98\x98", false, 5},
		{"\xe2\x28", false, 2},
		{"\xe2\xe2", false, 1},
		{"\x80\x80\x80", false, 3},
		{"\xed\xa0", false, 2},
		{"\xf4\x90\x80", false, 3},
		{"\xc0", false, 1},
		{"\xff\xed", false, 1},
	} {
		if valid, cut := utf8.Valid(c.s), utf8.Cut(c.s); valid != c.valid || cut != c.cut {
			t.Errorf("%x: %t %d", c.s, valid, cut)
		}
	}
}

// P1.3: there and back, of all characters at once.
func TestThereAndBack(t *testing.T) {
	all := characters()
	s, e := utf8.Encode(all...)
	if e != api.OK || !utf8.Valid(s) || utf8.Cut(s) != len(s) || s != string(all) {
		t.Fatal("Encode of all characters", len(s), int(e))
	}
	for policy := api.Strict; policy <= api.Skip; policy++ {
		if l, faults, e := utf8.Decode(policy, s); !slices.Equal(l, all) || len(faults) != 0 || e != api.OK {
			t.Error("Decode of all characters", policy, len(l), len(faults), int(e))
		}
	}
}

// P1.3: Encode of what was decoded is the bytes without the malformed units: together they are all bytes, each once.
func TestAllBytesOnce(t *testing.T) {
	samples(4, func(s string) {
		l, faults, _ := utf8.Decode(api.Skip, s)
		whole, e := utf8.Encode(l...)
		if e != api.OK || whole != without(t, s, faults) {
			t.Fatalf("%x: %x %v %d", s, l, faults, int(e))
		}
		if utf8.Valid(s) != (whole == s) {
			t.Fatalf("%x: Valid %t", s, utf8.Valid(s))
		}
	})
}

// without is bytes without those of faults, which must rise and not meet.
func without(t *testing.T, s string, faults []api.Fault) string {
	var out strings.Builder
	at := 0
	for _, f := range faults {
		if f.At < at || f.Len < 1 || f.At+f.Len > len(s) {
			t.Fatalf("%x: %v", s, faults)
		}
		out.WriteString(s[at:f.At])
		at = f.At + f.Len
	}
	return out.String() + s[at:]
}

// P1.3: it does not count how bytes are parted.
func TestPartsDoNotCount(t *testing.T) {
	for _, s := range []string{"A\u00e9\u20ac\U0001f600", "A\xff\u00e9\xe2\x82", "\xf0\x9f\x98\xf0\x9f\x98\x80\xf0\x9f", "\xed\xa0\x80\xf4\x90\x80\xc3"} {
		for policy := api.Strict; policy <= api.Skip; policy++ {
			wl, wf, we := utf8.Decode(policy, s)
			for cuts := range 1 << (len(s) - 1) {
				parts := parted(s, cuts)
				if l, f, e := utf8.Decode(policy, parts...); !slices.Equal(l, wl) || !slices.Equal(f, wf) || e != we {
					t.Fatalf("Decode(%d, %q): %x %v %d, not %x %v %d", policy, parts, l, f, int(e), wl, wf, int(we))
				}
			}
		}
	}
}

// parted is bytes, cut behind the byte i if bit i of cuts is set, with a part of no bytes there.
func parted(s string, cuts int) []string {
	var l []string
	from := 0
	for i := range len(s) - 1 {
		if cuts>>i&1 == 1 {
			l = append(l, s[from:i+1], "")
			from = i + 1
		}
	}
	return append(l, s[from:])
}

// R2: what is handed in is not written into, nor what stands behind its length, and answers share no memory.
func TestArgumentsAreLeft(t *testing.T) {
	runes := []rune{'a', 0xe9, 'b', 'c'}
	utf8.Encode(runes[:2]...)
	if !slices.Equal(runes, []rune{'a', 0xe9, 'b', 'c'}) {
		t.Error(runes)
	}
	parts := []string{"a\xff", "b", "c"}
	l, faults, _ := utf8.Decode(api.Replace, parts[:2]...)
	l[0], faults[0] = 'x', api.Fault{}
	if !slices.Equal(parts, []string{"a\xff", "b", "c"}) {
		t.Error(parts)
	}
	if l, faults, _ := utf8.Decode(api.Replace, parts[:2]...); l[0] != 'a' || faults[0] != (api.Fault{At: 1, Len: 1}) {
		t.Error(l, faults)
	}
}
