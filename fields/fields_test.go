package fields_test

import (
	"fmt"
	"math"
	"slices"
	"strings"
	"testing"

	"inkhorn/api"
	"inkhorn/fields"
)

// noBlanks is bytes and characters that other programs take for blanks, or for digits, and the document does not.
var noBlanks = []string{"\x00", "\v", "\f", "\x1f", "\x7f", "\x85", "\xa0", "\u00a0", "\u2003", "\u3000", "\ufeff", "\xff", "\ufffd"}

// notDigits is what stands beside the digits in the table of bytes, signs, and digits of other writings.
var notDigits = []string{"/", ":", "@", "G", "`", "g", "+", "-", "_", ".", "x", " ", "\t", "\n", "\x00", "\xff", "\u0661", "\uff11", "\uff21", "\ufffd"}

// samples calls f with all texts of up to n of some bytes.
func samples(from string, n int, f func(s string)) {
	var more func(s string)
	more = func(s string) {
		f(s)
		if len(s) < n {
			for i := range len(from) {
				more(s + from[i:i+1])
			}
		}
	}
	more("")
}

// characters is all of them.
func characters() []rune {
	var l []rune
	for r := rune(0); r <= 0x10ffff; r++ {
		if r < 0xd800 || r > 0xdfff {
			l = append(l, r)
		}
	}
	return l
}

func isBlank(b byte) bool { return b == 9 || b == 13 || b == 32 }

// bare is the document's word, taken literally.
func bare(s string) string {
	for s != "" && isBlank(s[0]) {
		s = s[1:]
	}
	for s != "" && isBlank(s[len(s)-1]) {
		s = s[:len(s)-1]
	}
	return s
}

// between is what stands between bytes for which at is true.
func between(s string, at func(b byte) bool) []string {
	l := []string{""}
	for i := range len(s) {
		if at(s[i]) {
			l = append(l, "")
		} else {
			l[len(l)-1] += s[i : i+1]
		}
	}
	return l
}

// lines is the document's words on Lines of texts without errors, taken literally.
func lines(text string) []fields.Line {
	var l []fields.Line
	for i, line := range between(text, func(b byte) bool { return b == 10 }) {
		ahead := between(line, func(b byte) bool { return b == '#' })[0]
		if bare(ahead) != "" {
			l = append(l, fields.Line{No: i + 1, Text: bare(ahead)})
		}
	}
	return l
}

func checkLines(t *testing.T, text string, want []fields.Line, we api.Errno) {
	t.Helper()
	if l, e := fields.Lines(text); !slices.Equal(l, want) || e != we {
		t.Errorf("Lines(%.80q): %.80s %d, not %.80s %d", text, fmt.Sprintf("%+v", l), int(e), fmt.Sprintf("%+v", want), int(we))
	}
}

// P4.1: lines, numbers, blanks and what stands behind a #.
func TestLines(t *testing.T) {
	for _, c := range []struct {
		text string
		want []fields.Line
	}{
		{"a # b\n \t\nc", []fields.Line{{No: 1, Text: "a"}, {No: 3, Text: "c"}}}, // the document's example
		{"", nil},
		{"\n", nil},
		{" \t\r\n\r\n\t", nil},
		{"#", nil},
		{"#a\n # a\n\t#\n##", nil},
		{"a", []fields.Line{{No: 1, Text: "a"}}},
		{"a\n", []fields.Line{{No: 1, Text: "a"}}},
		{"\na", []fields.Line{{No: 2, Text: "a"}}},
		{"\n\n\na\n\nb\n", []fields.Line{{No: 4, Text: "a"}, {No: 6, Text: "b"}}},
		{"a\r\nb\r\n", []fields.Line{{No: 1, Text: "a"}, {No: 2, Text: "b"}}},
		{"a\rb\r", []fields.Line{{No: 1, Text: "a\rb"}}}, // a 13 alone ends no line
		{" \t\ra \t b\r\t ", []fields.Line{{No: 1, Text: "a \t b"}}},
		{"a#b#c\n#d\ne # f # g", []fields.Line{{No: 1, Text: "a"}, {No: 3, Text: "e"}}},
		{"a\n#b\nb", []fields.Line{{No: 1, Text: "a"}, {No: 3, Text: "b"}}}, // a # counts to its line's end
		{"0041;LATIN; # x\n\n0042..0043 ; y", []fields.Line{{No: 1, Text: "0041;LATIN;"}, {No: 3, Text: "0042..0043 ; y"}}},
		{"\xff #\n\xe2\x82", []fields.Line{{No: 1, Text: "\xff"}, {No: 2, Text: "\xe2\x82"}}},
	} {
		checkLines(t, c.text, c.want, api.OK)
	}
	for _, s := range noBlanks {
		checkLines(t, " "+s+"a"+s+"\t#", []fields.Line{{No: 1, Text: s + "a" + s}}, api.OK)
		checkLines(t, "\n"+s, []fields.Line{{No: 2, Text: s}}, api.OK)
	}
}

// P4.1: a line's bytes count whether they tell something or not, but not the line feed.
func TestLongLines(t *testing.T) {
	x512 := strings.Repeat("x", 512)
	for _, c := range []struct {
		text string
		want []fields.Line
		e    api.Errno
	}{
		{x512, []fields.Line{{No: 1, Text: x512}}, api.OK},
		{x512 + "\n" + x512 + "\n", []fields.Line{{No: 1, Text: x512}, {No: 2, Text: x512}}, api.OK},
		{x512 + "x", nil, api.ErrForm},
		{"a\n" + x512 + "x\nb", nil, api.ErrForm},
		{"a\n\n" + x512 + "x", nil, api.ErrForm},
		{x512 + "\r\n", nil, api.ErrForm},
		{x512[1:] + "\r\n", []fields.Line{{No: 1, Text: x512[1:]}}, api.OK},
		{strings.Repeat(" ", 512), nil, api.OK},
		{strings.Repeat(" ", 513), nil, api.ErrForm},
		{"#" + x512[1:], nil, api.OK},
		{"#" + x512, nil, api.ErrForm},
		{"a#" + x512[2:], []fields.Line{{No: 1, Text: "a"}}, api.OK},
		{"a#" + x512[1:], nil, api.ErrForm},
		{strings.Repeat("\u00e9", 256), []fields.Line{{No: 1, Text: strings.Repeat("\u00e9", 256)}}, api.OK}, // bytes, not characters
		{strings.Repeat("\u00e9", 257), nil, api.ErrForm},
	} {
		checkLines(t, c.text, c.want, c.e)
	}
}

// P4.1: lines count whether they tell something or not; too many of them count ahead of one that is too long.
func TestManyLines(t *testing.T) {
	var all []fields.Line
	for no := 1; no <= 4096; no++ {
		all = append(all, fields.Line{No: no, Text: "a"})
	}
	long := strings.Repeat("x", 513)
	for _, c := range []struct {
		text string
		want []fields.Line
		e    api.Errno
	}{
		{strings.Repeat("\n", 4095), nil, api.OK},
		{strings.Repeat("\n", 4096), nil, api.ErrFull},
		{strings.Repeat("\n", 4095) + "a", []fields.Line{{No: 4096, Text: "a"}}, api.OK},
		{strings.Repeat("a\n", 4095) + "a", all, api.OK},
		{strings.Repeat("a\n", 4096), nil, api.ErrFull},
		{strings.Repeat("#\n", 4095) + "#", nil, api.OK},
		{strings.Repeat("#\n", 4096), nil, api.ErrFull},
		{strings.Repeat("a\n", 9000), nil, api.ErrFull},
		{strings.Repeat("\n", 4095) + long, nil, api.ErrForm},
		{long + strings.Repeat("\n", 4095), nil, api.ErrForm},
		{long + strings.Repeat("\n", 4096), nil, api.ErrFull},
		{strings.Repeat("\n", 4096) + long, nil, api.ErrFull},
		{"\n\n" + long + strings.Repeat("\n", 4094), nil, api.ErrFull},
	} {
		checkLines(t, c.text, c.want, c.e)
	}
}

// P4.1: the document's words on Lines, at all short texts of the bytes that count.
func TestLinesAsTold(t *testing.T) {
	samples("ab#\n\t\r ", 6, func(s string) {
		if l, e := fields.Lines(s); !slices.Equal(l, lines(s)) || e != api.OK {
			t.Fatalf("Lines(%q): %+v %d, not %+v", s, l, int(e), lines(s))
		}
	})
}

// P4.1: fields, each bare; of no bytes one.
func TestSplit(t *testing.T) {
	for _, c := range []struct {
		s    string
		sep  byte
		want []string
	}{
		{"", ';', []string{""}},
		{" \t\r", ';', []string{""}},
		{";", ';', []string{"", ""}},
		{";;", ';', []string{"", "", ""}},
		{" a ; b c;", ';', []string{"a", "b c", ""}},
		{"\ta\r;\r b\t;c", ';', []string{"a", "b", "c"}},
		{"a,b;c", ',', []string{"a", "b;c"}},
		{"a#b;c", ';', []string{"a#b", "c"}},
		{"a\n;b", ';', []string{"a\n", "b"}}, // 10 is no blank
		{" a  b ", ' ', []string{"", "a", "", "b", ""}},
		{"a \t b", '\t', []string{"a", "b"}},
		{"a\x00b", 0, []string{"a", "b"}},
		{"\u00e9", 0xc3, []string{"", "\xa9"}},
		{"a\xffb\u00ff", 0xff, []string{"a", "b\u00ff"}}, // the byte, not the character of that number
		{"a\u00e9b", 0xe9, []string{"a\u00e9b"}},
	} {
		if got := fields.Split(c.s, c.sep); !slices.Equal(got, c.want) {
			t.Errorf("Split(%q, %q): %q, not %q", c.s, c.sep, got, c.want)
		}
	}
	for _, s := range noBlanks {
		if got, want := fields.Split(" "+s+"a"+s+" ;"+s, ';'), []string{s + "a" + s, s}; !slices.Equal(got, want) {
			t.Errorf("Split of %q: %q", s, got)
		}
	}
}

// P4.1: the document's words on Split, at every byte, and at all short texts of some.
func TestSplitAsTold(t *testing.T) {
	check := func(s string, sep byte) {
		want := between(s, func(b byte) bool { return b == sep })
		for i := range want {
			want[i] = bare(want[i])
		}
		if got := fields.Split(s, sep); !slices.Equal(got, want) {
			t.Fatalf("Split(%q, %q): %q, not %q", s, sep, got, want)
		}
	}
	for sep := range 256 {
		s := string([]byte{'a', byte(sep), ' ', 'b', byte(sep) ^ 1, byte(sep), byte(sep)})
		check(s, byte(sep))
		check(string(rune(sep)), byte(sep))
	}
	samples("a;\t\r \n\xc3\xa9", 5, func(s string) {
		for _, sep := range []byte("a; \xc3\xa9") {
			check(s, sep)
		}
	})
}

func checkHex(t *testing.T, s string, want rune, we api.Errno) {
	t.Helper()
	if r, e := fields.Hex(s); r != want || e != we {
		t.Errorf("Hex(%q): %x %d, not %x %d", s, r, int(e), want, int(we))
	}
}

// P4.2: all numbers of six digits at most, with every count of digits, small and large.
func TestHexOfAllNumbers(t *testing.T) {
	for n := range 1 << 24 {
		if n > 0x111000 && n%0xfff != 0 {
			continue
		}
		want, we := rune(n), api.OK
		if n > 0x10ffff || n >= 0xd800 && n <= 0xdfff {
			want, we = 0, api.ErrRange
		}
		s := fmt.Sprintf("%x", n)
		checkHex(t, s, want, we)
		checkHex(t, strings.ToUpper(s), want, we)
		if len(s) < 6 {
			checkHex(t, fmt.Sprintf("%06X", n), want, we)
		}
	}
	checkHex(t, "ffffff", 0, api.ErrRange)
}

// P4.2: the edges of characters.
func TestHexEdges(t *testing.T) {
	for s, want := range map[string]rune{"0": 0, "000000": 0, "d7ff": 0xd7ff, "E000": 0xe000, "00D7fF": 0xd7ff, "fffd": 0xfffd, "FfFf": 0xffff, "10ffff": 0x10ffff, "aBcDe": 0xabcde} {
		checkHex(t, s, want, api.OK)
	}
	for _, s := range []string{"d800", "DFFF", "00dbff", "00DC00", "110000", "FFFFFF"} {
		checkHex(t, s, 0, api.ErrRange)
	}
}

// P4.2: what is not one to six digits.
func TestHexForm(t *testing.T) {
	for _, s := range []string{"", "0000000", "0000041", "0010FFFF", "1000000", "FFFFFFFF", "d800d800", "0x41", "U+0041", "41h", "4 1", "41 ", " 41", "41\n", "110000 ", strings.Repeat("0", 1<<16)} {
		checkHex(t, s, 0, api.ErrForm)
	}
	for _, s := range notDigits {
		for _, text := range []string{s, s + "1", "1" + s, "1" + s + "1", "d80" + s} {
			checkHex(t, text, 0, api.ErrForm)
		}
	}
}

// P4.2: every byte as a digit.
func TestHexOfBytes(t *testing.T) {
	const small, large = "0123456789abcdef", "0123456789ABCDEF"
	for b := range 256 {
		s := string([]byte{byte(b)})
		n := max(strings.Index(small, s), strings.Index(large, s))
		if n < 0 {
			checkHex(t, s, 0, api.ErrForm)
			checkHex(t, "1"+s+"2", 0, api.ErrForm)
			continue
		}
		checkHex(t, s, rune(n), api.OK)
		checkHex(t, "1"+s+"2", rune(0x102+n*16), api.OK)
	}
}

func checkRunes(t *testing.T, s string, want []rune, we api.Errno) {
	t.Helper()
	if l, e := fields.Runes(s); !slices.Equal(l, want) || e != we {
		t.Errorf("Runes(%q): %x %d, not %x %d", s, l, int(e), want, int(we))
	}
}

// P4.2: characters between rows of blanks, and the first error.
func TestRunes(t *testing.T) {
	for _, c := range []struct {
		s    string
		want []rune
		e    api.Errno
	}{
		{"", nil, api.OK},
		{" ", nil, api.OK},
		{" \t\r \r", nil, api.OK},
		{"0", []rune{0}, api.OK},
		{"0041 0301", []rune{0x41, 0x301}, api.OK},
		{"\r 41\t\t42", []rune{0x41, 0x42}, api.OK},
		{"\t 41 \t\r 10ffff\r0\t", []rune{0x41, 0x10ffff, 0}, api.OK},
		{"301 41 301", []rune{0x301, 0x41, 0x301}, api.OK}, // in order, and not once alone
		{"x", nil, api.ErrForm},
		{"41 x", nil, api.ErrForm},
		{"x 41", nil, api.ErrForm},
		{"41\n42", nil, api.ErrForm}, // 10 is no blank
		{"41\n", nil, api.ErrForm},
		{"0041,0042", nil, api.ErrForm},
		{"00410042", nil, api.ErrForm},
		{"41 D800 42", nil, api.ErrRange},
		{"110000", nil, api.ErrRange},
		{"DFFF x", nil, api.ErrRange},
		{"x DFFF", nil, api.ErrForm},
		{"41 42 0000041 D800", nil, api.ErrForm},
		{"<noBreak> 0020", nil, api.ErrForm},
		{"41 # 42", nil, api.ErrForm},
	} {
		checkRunes(t, c.s, c.want, c.e)
	}
	for _, s := range noBlanks {
		checkRunes(t, "41"+s+"42", nil, api.ErrForm)
		checkRunes(t, "41 "+s, nil, api.ErrForm)
	}
}

// P4.2: the document's words on Runes, at all short texts of some bytes.
func TestRunesAsTold(t *testing.T) {
	samples("1d80 \t\rx\n", 5, func(s string) {
		var want []rune
		we := api.OK
		for _, word := range between(s, isBlank) {
			if word == "" {
				continue
			}
			r, e := fields.Hex(word)
			if e != api.OK {
				want, we = nil, e
				break
			}
			want = append(want, r)
		}
		if l, e := fields.Runes(s); !slices.Equal(l, want) || e != we {
			t.Fatalf("Runes(%q): %x %d, not %x %d", s, l, int(e), want, int(we))
		}
	})
}

func checkRange(t *testing.T, s string, from, to rune, we api.Errno) {
	t.Helper()
	if f, l, e := fields.Range(s); f != from || l != to || e != we {
		t.Errorf("Range(%q): %x %x %d, not %x %x %d", s, f, l, int(e), from, to, int(we))
	}
}

// P4.2: one character, or two around the first .. that is there.
func TestRange(t *testing.T) {
	for _, c := range []struct {
		s        string
		from, to rune
		e        api.Errno
	}{
		{"0041..005A", 0x41, 0x5a, api.OK}, // the document's example
		{"41", 0x41, 0x41, api.OK},
		{"0", 0, 0, api.OK},
		{"10FFFF", 0x10ffff, 0x10ffff, api.OK},
		{"0..10ffff", 0, 0x10ffff, api.OK},
		{"d7ff..e000", 0xd7ff, 0xe000, api.OK},
		{"41..41", 0x41, 0x41, api.OK},
		{"41..042", 0x41, 0x42, api.OK},
		{"41 .. 42", 0x41, 0x42, api.OK},
		{" \t41\r..\t42\r ", 0x41, 0x42, api.OK},
		{"42..41", 0, 0, api.ErrRange},
		{"1..0", 0, 0, api.ErrRange},
		{"", 0, 0, api.ErrForm},
		{" 41", 0, 0, api.ErrForm}, // without .. it is not made bare
		{"41 ", 0, 0, api.ErrForm},
		{"..", 0, 0, api.ErrForm},
		{" .. ", 0, 0, api.ErrForm},
		{"41..", 0, 0, api.ErrForm},
		{"..41", 0, 0, api.ErrForm},
		{"41.42", 0, 0, api.ErrForm},
		{"41. .42", 0, 0, api.ErrForm},
		{"41...42", 0, 0, api.ErrForm},
		{"41....42", 0, 0, api.ErrForm},
		{"41..42..43", 0, 0, api.ErrForm},
		{"41-42", 0, 0, api.ErrForm},
		{"41..\n42", 0, 0, api.ErrForm},
		{"41..4 2", 0, 0, api.ErrForm},
		{"41..0000042", 0, 0, api.ErrForm},
		{"d800", 0, 0, api.ErrRange},
		{"41..D800", 0, 0, api.ErrRange},
		{"D800..41", 0, 0, api.ErrRange},
		{"41..110000", 0, 0, api.ErrRange},
		{"D800..x", 0, 0, api.ErrRange}, // the first error
		{"D800..", 0, 0, api.ErrRange},
		{"x..D800", 0, 0, api.ErrForm},
		{"..D800", 0, 0, api.ErrForm},
	} {
		checkRange(t, c.s, c.from, c.to, c.e)
	}
	for _, s := range noBlanks {
		checkRange(t, "41"+s+"..42", 0, 0, api.ErrForm)
		checkRange(t, "41.."+s+"42", 0, 0, api.ErrForm)
	}
}

// P4.2: the document's words on Range, at all short texts of some bytes.
func TestRangeAsTold(t *testing.T) {
	samples("12. \tx", 7, func(s string) {
		first, last := s, s
		for i := range len(s) - 1 {
			if s[i] == '.' && s[i+1] == '.' {
				first, last = bare(s[:i]), bare(s[i+2:])
				break
			}
		}
		from, we := fields.Hex(first)
		to, e := fields.Hex(last)
		if we == api.OK {
			we = e
		}
		if we == api.OK && to < from {
			we = api.ErrRange
		}
		if we != api.OK {
			from, to = 0, 0
		}
		if f, l, e := fields.Range(s); f != from || l != to || e != we {
			t.Fatalf("Range(%q): %x %x %d, not %x %x %d", s, f, l, int(e), from, to, int(we))
		}
	})
}

// P4.2: all numbers of five digits at most, with every count of digits, and what is none.
func TestNumber(t *testing.T) {
	check := func(s string, want int, we api.Errno) {
		t.Helper()
		if n, e := fields.Number(s); n != want || e != we {
			t.Errorf("Number(%q): %d %d, not %d %d", s, n, int(e), want, int(we))
		}
	}
	for n := range 100000 {
		for width := 1; width <= 5; width++ {
			check(fmt.Sprintf("%0*d", width, n), n, api.OK)
		}
	}
	for _, s := range []string{"", "100000", "000000", "000230", "99999999999999999999999", "2a", "f", "A", "1e3", "0x1", " 1", "1 ", "1\n", "1.0", "1,0", strings.Repeat("1", 1<<16)} {
		check(s, 0, api.ErrForm)
	}
	for _, s := range notDigits {
		for _, text := range []string{s, s + "1", "1" + s, "1" + s + "1"} {
			check(text, 0, api.ErrForm)
		}
	}
	for b := range 256 {
		if b < '0' || b > '9' {
			check(string([]byte{'2', byte(b)}), 0, api.ErrForm)
		}
	}
}

func checkBytes(t *testing.T, s, ahead, want string, we api.Errno) {
	t.Helper()
	if got, e := fields.Bytes(s, ahead); got != want || e != we {
		t.Errorf("Bytes(%q, %q): %x %d, not %x %d", s, ahead, got, int(e), want, int(we))
	}
}

// P4.3: bytes behind a text, and what is not made so.
func TestBytes(t *testing.T) {
	for _, c := range []struct {
		s, ahead, want string
		e              api.Errno
	}{
		{"0x8140", "0x", "", api.ErrForm}, // the document's examples
		{`\x81\x40`, `\x`, "\x81\x40", api.OK},
		{"0x81", "0x", "\x81", api.OK},
		{"0x810x40", "0x", "\x81\x40", api.OK},
		{"8140", "", "\x81\x40", api.OK},
		{"00", "", "\x00", api.OK},
		{"fF0aA0", "", "\xff\x0a\xa0", api.OK},
		{"4141", "41", "\x41", api.OK}, // ahead may be digits
		{"41424143", "41", "\x42\x43", api.OK},
		{" 41 42", " ", "\x41\x42", api.OK},
		{"\u00e941\u00e942", "\u00e9", "\x41\x42", api.OK},
		{"\xff41", "\xff", "\x41", api.OK},
		{"", "", "", api.ErrForm},
		{"", "0x", "", api.ErrForm},
		{"0x", "0x", "", api.ErrForm},
		{"8", "", "", api.ErrForm},
		{"814", "", "", api.ErrForm},
		{"0x8", "0x", "", api.ErrForm},
		{"0x814", "0x", "", api.ErrForm},
		{"0x810x4", "0x", "", api.ErrForm},
		{"0x810x", "0x", "", api.ErrForm},
		{"0x8140", "", "", api.ErrForm},
		{"8140", "0x", "", api.ErrForm},
		{"0X81", "0x", "", api.ErrForm}, // ahead counts as it is written
		{"0x810X40", "0x", "", api.ErrForm},
		{"0x81 0x40", "0x", "", api.ErrForm},
		{"0x810040", "0x", "", api.ErrForm},
		{" 0x81", "0x", "", api.ErrForm},
		{"0x81 ", "0x", "", api.ErrForm},
		{"81 40", "", "", api.ErrForm},
		{"8g", "", "", api.ErrForm},
		{"g8", "", "", api.ErrForm},
		{"81g0", "", "", api.ErrForm},
		{"-1", "", "", api.ErrForm},
		{"+1", "", "", api.ErrForm},
		{"\u00e9", "", "", api.ErrForm}, // two bytes, no digits
		{"\xff\xff", "", "", api.ErrForm},
		{"41", "a long text that stands ahead", "", api.ErrForm},
	} {
		checkBytes(t, c.s, c.ahead, c.want, c.e)
	}
	for _, s := range notDigits {
		checkBytes(t, "0x"+s+"1", "0x", "", api.ErrForm)
		checkBytes(t, "0x1"+s, "0x", "", api.ErrForm)
		checkBytes(t, "0x110x1"+s, "0x", "", api.ErrForm)
	}
}

// P4.3: every byte, and many of them.
func TestBytesOfAll(t *testing.T) {
	for _, ahead := range []string{"", "0x", `\x`, "=", "0"} {
		var s, want strings.Builder
		for n := range 1024 {
			format := "%s%02x"
			if n&1 == 1 {
				format = "%s%02X"
			}
			fmt.Fprintf(&s, format, ahead, byte(n/2))
			want.WriteByte(byte(n / 2))
			checkBytes(t, s.String(), ahead, want.String(), api.OK)
		}
	}
}

// P4.3: four digits at least, and no 0 ahead of more.
func TestText(t *testing.T) {
	for _, c := range []struct {
		l    []rune
		want string
	}{
		{nil, ""},
		{[]rune{}, ""},
		{[]rune{0}, "0000"},
		{[]rune{0xf}, "000F"},
		{[]rune{0x10}, "0010"},
		{[]rune{0xabc}, "0ABC"},
		{[]rune{0xfff}, "0FFF"},
		{[]rune{0x1000}, "1000"},
		{[]rune{0xffff}, "FFFF"},
		{[]rune{0x10000}, "10000"},
		{[]rune{0xfffff}, "FFFFF"},
		{[]rune{0x100000}, "100000"},
		{[]rune{0x10ffff}, "10FFFF"},
		{[]rune{'A', 0x20ac, 0x1f600, 0}, "0041 20AC 1F600 0000"},
		{[]rune{0x301, 0x301}, "0301 0301"},
		{[]rune{0xd800, 0xdfff, 0x110000}, "D800 DFFF 110000"}, // numbers that are no characters have digits, too
		{[]rune{math.MaxInt32}, "7FFFFFFF"},
		{[]rune{-1}, "0000"},
		{[]rune{math.MinInt32}, "0000"},
		{[]rune{1, -5, 2}, "0001 0000 0002"},
	} {
		if got := fields.Text(c.l...); got != c.want {
			t.Errorf("Text(%x): %q, not %q", c.l, got, c.want)
		}
	}
	for _, r := range characters() {
		if got, want := fields.Text(r), fmt.Sprintf("%04X", r); got != want {
			t.Fatalf("Text(%x): %q, not %q", r, got, want)
		}
	}
}

// P4.4: Runes of Text is the characters.
func TestRunesOfText(t *testing.T) {
	all := characters()
	for n := 0; n < len(all); n = n*3/2 + 1 {
		if l, e := fields.Runes(fields.Text(all[:n]...)); !slices.Equal(l, all[:n]) || e != api.OK {
			t.Errorf("of the first %d: %d %d", n, len(l), int(e))
		}
	}
	if l, e := fields.Runes(fields.Text(all...)); !slices.Equal(l, all) || e != api.OK {
		t.Errorf("of all: %d %d", len(l), int(e))
	}
	slices.Reverse(all)
	if l, e := fields.Runes(fields.Text(all...)); !slices.Equal(l, all) || e != api.OK {
		t.Errorf("of all, falling: %d %d", len(l), int(e))
	}
}

// P4.4: small digits are as large ones, in every call that takes digits.
func TestSmallAndLarge(t *testing.T) {
	for _, s := range []string{"abcdef", "00ff", "fFfF", "dfff", "e000 10FfFf", "0aBc..0DEf", "f..a", "x", "ABCDEFA"} {
		small, large := strings.ToLower(s), strings.ToUpper(s)
		r1, e1 := fields.Hex(small)
		if r2, e2 := fields.Hex(large); r1 != r2 || e1 != e2 {
			t.Errorf("Hex(%q): %x %d, %x %d", s, r1, int(e1), r2, int(e2))
		}
		l1, e1 := fields.Runes(small)
		if l2, e2 := fields.Runes(large); !slices.Equal(l1, l2) || e1 != e2 {
			t.Errorf("Runes(%q): %x %d, %x %d", s, l1, int(e1), l2, int(e2))
		}
		f1, t1, e1 := fields.Range(small)
		if f2, t2, e2 := fields.Range(large); f1 != f2 || t1 != t2 || e1 != e2 {
			t.Errorf("Range(%q): %x %x %d, %x %x %d", s, f1, t1, int(e1), f2, t2, int(e2))
		}
		b1, e1 := fields.Bytes(small, "")
		if b2, e2 := fields.Bytes(large, ""); b1 != b2 || e1 != e2 {
			t.Errorf("Bytes(%q): %x %d, %x %d", s, b1, int(e1), b2, int(e2))
		}
	}
}

// P4.4: how many blanks there are does not count, nor what stands behind a #.
func TestBlanksAndRemarks(t *testing.T) {
	plain := []string{"0041;a b;0301 0302", "", "0042..0043;c"}
	want, _ := fields.Lines(strings.Join(plain, "\n"))
	for _, remark := range []string{"", "#", "##", "#x", "# 0044;d #", "#\t\r "} {
		samples("\t\r ", 3, func(s string) {
			var text []string
			for _, line := range plain {
				text = append(text, s+line+s+remark)
			}
			if l, e := fields.Lines(strings.Join(text, "\n")); !slices.Equal(l, want) || e != api.OK {
				t.Fatalf("Lines of %q: %+v %d", text, l, int(e))
			}
		})
	}
	samples("\t\r ", 4, func(s string) {
		if l, e := fields.Runes(s + "41" + s + " " + s + "301" + s); !slices.Equal(l, []rune{0x41, 0x301}) || e != api.OK {
			t.Errorf("Runes of %q: %x %d", s, l, int(e))
		}
		if from, to, e := fields.Range(s + "41" + s + ".." + s + "42" + s); from != 0x41 || to != 0x42 || e != api.OK {
			t.Errorf("Range of %q: %x %x %d", s, from, to, int(e))
		}
		if l := fields.Split(s+"a"+s+";"+s, ';'); !slices.Equal(l, []string{"a", ""}) {
			t.Errorf("Split of %q: %q", s, l)
		}
	})
}

// R1: every call ends, and none panics, at all short texts of some bytes; with an error nothing else is answered.
func TestErrors(t *testing.T) {
	samples("0fG.# \n\xc3\x80", 5, func(s string) {
		if l, e := fields.Lines(s); e != api.OK {
			t.Fatalf("Lines(%q): %+v %d", s, l, int(e))
		}
		if r, e := fields.Hex(s); e != api.OK && (e != api.ErrForm || r != 0) {
			t.Fatalf("Hex(%q): %x %d", s, r, int(e))
		}
		if l, e := fields.Runes(s); e != api.OK && (e != api.ErrForm || len(l) != 0) {
			t.Fatalf("Runes(%q): %x %d", s, l, int(e))
		}
		if from, to, e := fields.Range(s); e != api.OK && (from != 0 || to != 0) {
			t.Fatalf("Range(%q): %x %x %d", s, from, to, int(e))
		}
		if n, e := fields.Number(s); e != api.OK && (e != api.ErrForm || n != 0) {
			t.Fatalf("Number(%q): %d %d", s, n, int(e))
		}
		for n := range len(s) + 1 {
			if got, e := fields.Bytes(s, s[:n]); e != api.OK && (e != api.ErrForm || got != "") {
				t.Fatalf("Bytes(%q, %q): %x %d", s, s[:n], got, int(e))
			}
		}
	})
}

// R2: what is handed in is left as it is, also behind its length, and what is answered is the caller's.
func TestMemory(t *testing.T) {
	l := []rune{-5, 0x41, 0x20ac, -7}
	if s := fields.Text(l[:2]...); s != "0000 0041" || !slices.Equal(l, []rune{-5, 0x41, 0x20ac, -7}) {
		t.Error(s, l)
	}
	const text, row, list = "a\nb", "a;b", "41 42"
	a, _ := fields.Lines(text)
	b := fields.Split(row, ';')
	c, _ := fields.Runes(list)
	clear(a)
	clear(b)
	clear(c)
	checkLines(t, text, []fields.Line{{No: 1, Text: "a"}, {No: 2, Text: "b"}}, api.OK)
	checkRunes(t, list, []rune{0x41, 0x42}, api.OK)
	if got := fields.Split(row, ';'); !slices.Equal(got, []string{"a", "b"}) {
		t.Errorf("%q", got)
	}
}
