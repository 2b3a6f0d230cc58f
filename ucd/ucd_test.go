package ucd_test

import (
	"fmt"
	"math"
	"slices"
	"strings"
	"testing"

	"inkhorn/api"
	"inkhorn/fields"
	"inkhorn/ucd"
)

// same tells whether two rows are one; an Into without elements may be nil or not.
func same(a, b ucd.Row) bool {
	return a.From == b.From && a.To == b.To && a.Name == b.Name && a.Cat == b.Cat &&
		a.Class == b.Class && a.Kind == b.Kind && slices.Equal(a.Into, b.Into)
}

// char is a row of one character, with a category.
func char(r rune, name string, into ...rune) ucd.Row {
	return ucd.Row{From: r, To: r, Name: name, Cat: "Lu", Into: into}
}

func checkRows(t *testing.T, text string, want []ucd.Row) {
	t.Helper()
	if l, no, e := ucd.Rows(text); !slices.EqualFunc(l, want, same) || no != 0 || e != api.OK {
		t.Errorf("Rows(%.200q): %.300s, line %d, %d, not %.300s", text, fmt.Sprintf("%+v", l), no, int(e), fmt.Sprintf("%+v", want))
	}
}

func checkWrong(t *testing.T, text string, wantNo int, we api.Errno) {
	t.Helper()
	if l, no, e := ucd.Rows(text); len(l) != 0 || no != wantNo || e != we {
		t.Errorf("Rows(%.200q): %.300s, line %d, %d, not line %d, %d", text, fmt.Sprintf("%+v", l), no, int(e), wantNo, int(we))
	}
}

// P5.1: rows of one character each.
func TestRows(t *testing.T) {
	for _, c := range []struct {
		text string
		want []ucd.Row
	}{
		{"", nil},
		{"\n # x\n\t\n", nil},
		{"00C9;E;Lu;0;L;0045 0301", []ucd.Row{char(0xc9, "E", 0x45, 0x301)}}, // the document's examples
		{"00A0;E;Lu;0;L;<noBreak> 0020", []ucd.Row{{From: 0xa0, To: 0xa0, Name: "E", Cat: "Lu", Kind: "noBreak", Into: []rune{0x20}}}},
		{"0041;A;Lu;0;L;;;;;N;;;;0061;", []ucd.Row{char(0x41, "A")}},
		{"0;;;0;;", []ucd.Row{{}}},
		{"10ffff;A;Lu;0;;", []ucd.Row{char(0x10ffff, "A")}},
		{"d7ff;A;Lu;0;;\nE000;B;Lu;0;;", []ucd.Row{char(0xd7ff, "A"), char(0xe000, "B")}},
		{" 41 ;\tA B\t; Lu ; 0 ; x ; \t42  43 \r\n", []ucd.Row{char(0x41, "A B", 0x42, 0x43)}},
		{"41;A;Lu;0;;42#;x\n#\n\n42;B;Lu;0;;# 41", []ucd.Row{char(0x41, "A", 0x42), char(0x42, "B")}},
		{"41;A;Lu;0;anything <x> D800 z;;D800;<;", []ucd.Row{char(0x41, "A")}}, // what counts for nothing
		{"41;A;;230;;", []ucd.Row{{From: 0x41, To: 0x41, Name: "A", Class: 230}}},
		{"41;A;;00007;;", []ucd.Row{{From: 0x41, To: 0x41, Name: "A", Class: 7}}},
		{"41;\xff\xc3;\x01;0;;", []ucd.Row{{From: 0x41, To: 0x41, Name: "\xff\xc3", Cat: "\x01"}}},
		{"41;" + strings.Repeat("n", 250) + ";" + strings.Repeat("c", 250) + ";0;;", []ucd.Row{{From: 0x41, To: 0x41, Name: strings.Repeat("n", 250), Cat: strings.Repeat("c", 250)}}},
		{"41;<control>;Lu;0;;", []ucd.Row{char(0x41, "<control>")}},
	} {
		checkRows(t, c.text, c.want)
	}
}

// P5.1: the errors of Lines, with no number.
func TestRowsOfLines(t *testing.T) {
	long := strings.Repeat("#", 513)
	checkWrong(t, long, 0, api.ErrForm)
	checkWrong(t, "x\n"+long, 0, api.ErrForm) // ahead of a line that is wrong
	checkWrong(t, strings.Repeat("\n", 4096), 0, api.ErrFull)
	checkWrong(t, "x"+strings.Repeat("\n", 4096), 0, api.ErrFull)
	checkRows(t, strings.Repeat("#\n", 4095)+"41;A;Lu;0;;", []ucd.Row{char(0x41, "A")})
	checkWrong(t, strings.Repeat("#\n", 4095)+"41", 4096, api.ErrForm)
	checkRows(t, "41;A;Lu;0;;#"+strings.Repeat("x", 500), []ucd.Row{char(0x41, "A")})
}

// P5.1: what is wrong with a line by itself, and which of several errors is told.
func TestWrongLines(t *testing.T) {
	for _, c := range []struct {
		line string
		e    api.Errno
	}{
		{"41", api.ErrForm},
		{";", api.ErrForm},
		{"41;A;Lu;0;", api.ErrForm},
		{"D800;A;Lu;255;", api.ErrForm}, // too few fields are told ahead of all else
		{"110000", api.ErrForm},
		{"41,A,Lu,0,,", api.ErrForm},
		{";A;Lu;0;;", api.ErrForm},
		{"x;A;Lu;0;;", api.ErrForm},
		{"41..42;A;Lu;0;;", api.ErrForm},
		{"41 42;A;Lu;0;;", api.ErrForm},
		{"0000041;A;Lu;0;;", api.ErrForm},
		{"d800;A;Lu;0;;", api.ErrRange},
		{"DFFF;A;Lu;0;;", api.ErrRange},
		{"110000;A;Lu;0;;", api.ErrRange},
		{"x;A;Lu;255;;", api.ErrForm},
		{"D800;A;Lu;z;;", api.ErrRange},
		{"41;A;Lu;;;", api.ErrForm},
		{"41;A;Lu;z;;", api.ErrForm},
		{"41;A;Lu;-1;;", api.ErrForm},
		{"41;A;Lu;+1;;", api.ErrForm},
		{"41;A;Lu;0x1;;", api.ErrForm},
		{"41;A;Lu;1.0;;", api.ErrForm},
		{"41;A;Lu;000000;;", api.ErrForm},
		{"41;A;Lu;255;;", api.ErrRange},
		{"41;A;Lu;256;;", api.ErrRange},
		{"41;A;Lu;99999;;", api.ErrRange},
		{"41;A;Lu;255;;<", api.ErrRange},
		{"41;A;Lu;z;;D800", api.ErrForm},
		{"41;A;Lu;0;;z", api.ErrForm},
		{"41;A;Lu;0;;42 z", api.ErrForm},
		{"41;A;Lu;0;;42,43", api.ErrForm},
		{"41;A;Lu;0;;42 <x> 43", api.ErrForm},
		{"41;A;Lu;0;;x> 42", api.ErrForm},
		{"41;A;Lu;0;;D800", api.ErrRange},
		{"41;A;Lu;0;;42 110000 z", api.ErrRange},
		{"41;A;Lu;0;;z 110000", api.ErrForm},
		{"41;A;Lu;0;;" + strings.Repeat("42 ", 19), api.ErrRange},
		{"41;A;Lu;0;;<x>" + strings.Repeat(" 42", 19), api.ErrRange},
		{"41;A;Lu;0;;" + strings.Repeat("42 ", 19) + "z", api.ErrForm},
		{"41;A;Lu;0;;" + strings.Repeat("42 ", 100), api.ErrRange},
	} {
		checkWrong(t, c.line, 1, c.e)
		checkWrong(t, "# x\n\n 1;x;Lu;0;;\n\n"+c.line+" # x\n\nz", 5, c.e)
	}
}

// P5.1: every class, and every count of characters.
func TestRowsNumbers(t *testing.T) {
	for n := range 1000 {
		text := fmt.Sprintf("41;A;Lu;%d;;", n)
		if n > 254 {
			checkWrong(t, text, 1, api.ErrRange)
			continue
		}
		checkRows(t, text, []ucd.Row{{From: 0x41, To: 0x41, Name: "A", Cat: "Lu", Class: n}})
	}
	for n := range 40 {
		text := "41;A;Lu;0;;" + strings.Repeat(" 42", n)
		if n > 18 {
			checkWrong(t, text, 1, api.ErrRange)
			continue
		}
		checkRows(t, text, []ucd.Row{char(0x41, "A", slices.Repeat([]rune{0x42}, n)...)})
	}
}

// P5.1: kinds, of letters alone, with characters behind them.
func TestRowsKinds(t *testing.T) {
	row := func(kind string, into ...rune) []ucd.Row {
		return []ucd.Row{{From: 0x41, To: 0x41, Name: "A", Cat: "Lu", Kind: kind, Into: into}}
	}
	for _, c := range []struct {
		into string
		want []ucd.Row
	}{
		{"<x> 42", row("x", 0x42)},
		{"<x>42", row("x", 0x42)},
		{" \t<noBreak>\t\r 0042   43 ", row("noBreak", 0x42, 0x43)},
		{"<AZaz> 42", row("AZaz", 0x42)},
		{"<" + strings.Repeat("k", 400) + "> 42", row(strings.Repeat("k", 400), 0x42)},
		{"<x>" + strings.Repeat(" 42", 18), row("x", slices.Repeat([]rune{0x42}, 18)...)},
	} {
		checkRows(t, "41;A;Lu;0;;"+c.into, c.want)
	}
	for _, c := range []struct {
		into string
		e    api.Errno
	}{
		{"<", api.ErrForm}, {"<>", api.ErrForm}, {"<> 42", api.ErrForm}, {"<x", api.ErrForm}, {"<x 42", api.ErrForm}, {"<42", api.ErrForm},
		{"<x>", api.ErrForm}, {"<x> \t", api.ErrForm}, {"<x1> 42", api.ErrForm}, {"<x y> 42", api.ErrForm}, {"< x> 42", api.ErrForm}, {"<x > 42", api.ErrForm},
		{"<<x> 42", api.ErrForm}, {"<x>> 42", api.ErrForm}, {"<x> <y> 42", api.ErrForm}, {"<\u00e9> 42", api.ErrForm}, {"<x> 42 z", api.ErrForm},
		{"<x> D800", api.ErrRange}, {"<x1> D800", api.ErrForm}, {"<> D800", api.ErrForm}, {"<x D800", api.ErrForm},
	} {
		checkWrong(t, "41;A;Lu;0;;"+c.into, 1, c.e)
	}
	for b := range 256 {
		if strings.ContainsRune("#;\n", rune(b)) && b < 128 {
			continue // these end the field, or the line
		}
		kind := string([]byte{'a', byte(b), 'Z'})
		if b >= 'a' && b <= 'z' || b >= 'A' && b <= 'Z' {
			checkRows(t, "41;A;Lu;0;;<"+kind+"> 42", row(kind, 0x42))
		} else {
			checkWrong(t, "41;A;Lu;0;;<"+kind+"> 42", 1, api.ErrForm)
		}
	}
}

// P5.1: two lines that are a range.
func TestRanges(t *testing.T) {
	row := func(from, to rune, name string) ucd.Row {
		return ucd.Row{From: from, To: to, Name: name, Cat: "Lo", Class: 7}
	}
	pair := func(from, to, name string) string {
		return from + ";<" + name + ", First>;Lo;7;L;\n" + to + ";<" + name + ", Last>;Lo;7;R;;x\n"
	}
	for _, c := range []struct {
		text string
		want []ucd.Row
	}{
		{pair("AC00", "D7A3", "Hangul Syllable"), []ucd.Row{row(0xac00, 0xd7a3, "Hangul Syllable")}},
		{pair("41", "41", "a"), []ucd.Row{row(0x41, 0x41, "a")}},
		{pair("0", "10FFFF", ""), []ucd.Row{row(0, 0x10ffff, "")}},
		{pair("D7FF", "E000", "x"), []ucd.Row{row(0xd7ff, 0xe000, "x")}},
		{pair("41", "42", "a") + pair("43", "44", "a"), []ucd.Row{row(0x41, 0x42, "a"), row(0x43, 0x44, "a")}},
		{pair("41", "42", "a, First>"), []ucd.Row{row(0x41, 0x42, "a, First>")}},
		{pair("41", "42", "<a, Last>"), []ucd.Row{row(0x41, 0x42, "<a, Last>")}},
		{pair("41", "42", " a\t"), []ucd.Row{row(0x41, 0x42, " a\t")}}, // the text is all that stands between
		{"40;x;Lu;0;;\n" + pair("41", "42", "a") + "43;y;Lu;0;;", []ucd.Row{char(0x40, "x"), row(0x41, 0x42, "a"), char(0x43, "y")}},
		{strings.Replace(pair("41", "42", "a"), "\n", "\n# x\n\n", 1), []ucd.Row{row(0x41, 0x42, "a")}}, // lines that tell nothing are none
		// Names that are not of a range.
		{"41;a, First>;Lu;0;;\n42;b, Last>;Lu;0;;", []ucd.Row{char(0x41, "a, First>"), char(0x42, "b, Last>")}},
		{"41;<a,First>;Lu;0;;", []ucd.Row{char(0x41, "<a,First>")}},
		{"41;<a First>;Lu;0;;", []ucd.Row{char(0x41, "<a First>")}},
		{"41;<a, first>;Lu;0;;", []ucd.Row{char(0x41, "<a, first>")}},
		{"41;<a, First> x;Lu;0;;", []ucd.Row{char(0x41, "<a, First> x")}},
		{"41;<a, Last;Lu;0;;", []ucd.Row{char(0x41, "<a, Last")}},
		{"41;, Last>;Lu;0;;", []ucd.Row{char(0x41, ", Last>")}},
	} {
		checkRows(t, c.text, c.want)
	}
}

// P5.1: ranges that are none, and orders that may not be.
func TestWrongRanges(t *testing.T) {
	const first, last = "41;<a, First>;Lo;7;;", "42;<a, Last>;Lo;7;;"
	for _, c := range []struct {
		no   int
		e    api.Errno
		text string
	}{
		{1, api.ErrForm, last},
		{1, api.ErrForm, "42;<, Last>;Lo;7;;"},
		{3, api.ErrForm, first + "\n" + last + "\n43;<a, Last>;Lo;7;;"},
		{2, api.ErrForm, "41;a;Lo;7;;\n" + last},
		{2, api.ErrForm, "41;x;Lo;7;;\n30;<a, Last>;Lo;7;;"}, // of a Last the order is not asked
		{1, api.ErrForm, first},
		{1, api.ErrForm, first + "\n\n# x\n"},
		{4, api.ErrForm, "1;x;Lo;7;;\n2;y;Lo;7;;\n\n" + first + "\n#"},
		{2, api.ErrForm, first + "\n42;b;Lo;7;;"},
		{2, api.ErrForm, first + "\n41;b;Lo;7;;"},
		{2, api.ErrForm, first + "\n42;<a, First>;Lo;7;;"},
		{2, api.ErrForm, first + "\n40;<b, First>;Lo;7;;\n" + last},
		{2, api.ErrForm, first + "\n42;<b, Last>;Lo;7;;"},
		{2, api.ErrForm, first + "\n42;<A, Last>;Lo;7;;"},
		{2, api.ErrForm, first + "\n42;< a, Last>;Lo;7;;"},
		{2, api.ErrForm, first + "\n42;a, Last>;Lo;7;;"},
		{2, api.ErrForm, first + "\n42;a;Lo;7;;"},
		{2, api.ErrForm, first + "\n42;<a, Last>;lo;7;;"},
		{2, api.ErrForm, first + "\n42;<a, Last>;;7;;"},
		{2, api.ErrForm, first + "\n42;<a, Last>;Lo;8;;"},
		{2, api.ErrForm, first + "\n42;<a, Last>;Lo;7;;43"},
		{2, api.ErrForm, first + "\n42;<a, Last>;Lo;7;;<x> 43"},
		{2, api.ErrForm, first + "43\n" + last}, // told with the Last
		{2, api.ErrForm, first + "<x> 43\n" + last},
		{1, api.ErrForm, first + "43"},
		{2, api.ErrForm, first + "\n40;<a, Last>;Lo;7;;"},
		{2, api.ErrForm, first + "\n40;<a, Last>;Lo;7;"},
		{2, api.ErrRange, first + "\nD800;<a, Last>;Lo;7;;"}, // what a line is by itself comes first
		{2, api.ErrRange, first + "\n40;<b, Last>;Lo;255;;"},
		{2, api.ErrRange, first + "\n40;b;Lo;7;;D800"},
		{2, api.ErrThere, "41;x;Lo;7;;\n41;y;Lo;7;;"},
		{2, api.ErrThere, "41;x;Lo;7;;\n40;y;Lo;7;;\nz"},
		{4, api.ErrThere, "# x\n41;x;Lo;7;;\n\n00;y;Lo;7;;"},
		{2, api.ErrThere, "41;x;Lo;7;;\n" + first + "\n" + last},
		{2, api.ErrThere, "41;x;Lo;7;;\n" + first}, // named ahead of the First at the end
		{3, api.ErrThere, first + "\n50;<a, Last>;Lo;7;;\n50;x;Lo;7;;"},
		{3, api.ErrThere, first + "\n50;<a, Last>;Lo;7;;\n49;x;Lo;7;;"},
		{3, api.ErrThere, first + "\n50;<a, Last>;Lo;7;;\n45;<b, First>;Lo;7;;\n60;<b, Last>;Lo;7;;"},
		{2, api.ErrRange, "41;x;Lo;7;;\n41;y;Lo;255;;"},
	} {
		checkWrong(t, c.text, c.no, c.e)
	}
}

// told is a line's fields as the document speaks of them, and what is wrong with it by itself.
type told struct {
	no          int
	char        rune
	name, cat   string
	class       int
	kind        string
	into        []rune
	first, last bool
	text        string // of a range, if it is a First or a Last
	wrong       api.Errno
}

func tell(line fields.Line) told {
	f := fields.Split(line.Text, ';')
	x := told{no: line.No}
	if len(f) < 6 {
		x.wrong = api.ErrForm
		return x
	}
	x.name, x.cat = f[1], f[2]
	var hexWrong, numberWrong, runesWrong api.Errno
	x.char, hexWrong = fields.Hex(f[0])
	x.class, numberWrong = fields.Number(f[3])
	rest, badKind := f[5], false
	if strings.HasPrefix(rest, "<") {
		n := strings.IndexByte(rest, '>')
		badKind = n < 2 || strings.Trim(rest[1:n], "abcdefghijklmnopqrstuvwxyzABCDEFGHIJKLMNOPQRSTUVWXYZ") != "" || strings.Trim(rest[n+1:], "\t\r ") == ""
		if !badKind {
			x.kind, rest = rest[1:n], rest[n+1:]
		}
	}
	x.into, runesWrong = fields.Runes(rest)
	x.first = strings.HasPrefix(x.name, "<") && strings.HasSuffix(x.name, ", First>")
	x.last = strings.HasPrefix(x.name, "<") && strings.HasSuffix(x.name, ", Last>")
	if x.first || x.last {
		x.text = x.name[1:strings.LastIndexByte(x.name, ',')]
	}
	switch {
	case hexWrong != api.OK:
		x.wrong = hexWrong
	case numberWrong != api.OK:
		x.wrong = numberWrong
	case x.class > 254:
		x.wrong = api.ErrRange
	case badKind:
		x.wrong = api.ErrForm
	case runesWrong != api.OK:
		x.wrong = runesWrong
	case len(x.into) > 18:
		x.wrong = api.ErrRange
	}
	return x
}

// rowsAsTold is the document's words on Rows, taken literally.
func rowsAsTold(text string) ([]ucd.Row, int, api.Errno) {
	lines, e := fields.Lines(text)
	if e != api.OK {
		return nil, 0, e
	}
	var l []ucd.Row
	var before told
	to := rune(-1)
	for _, line := range lines {
		x := tell(line)
		itsLast := before.first && x.last && before.text == x.text
		switch {
		case x.wrong != api.OK:
			return nil, x.no, x.wrong
		case x.last && !itsLast, before.first && !itsLast:
			return nil, x.no, api.ErrForm
		case x.last && (x.cat != before.cat || x.class != before.class || len(x.into) > 0 || len(before.into) > 0 || x.char < before.char):
			return nil, x.no, api.ErrForm
		case !x.last && x.char <= to:
			return nil, x.no, api.ErrThere
		case x.last:
			l = append(l, ucd.Row{From: before.char, To: x.char, Name: x.text, Cat: before.cat, Class: before.class})
		case !x.first:
			l = append(l, ucd.Row{From: x.char, To: x.char, Name: x.name, Cat: x.cat, Class: x.class, Kind: x.kind, Into: x.into})
		}
		before, to = x, x.char
	}
	if before.first {
		return nil, before.no, api.ErrForm
	}
	return l, 0, api.OK
}

func checkAsTold(t *testing.T, text string) {
	t.Helper()
	want, wn, we := rowsAsTold(text)
	if l, no, e := ucd.Rows(text); !slices.EqualFunc(l, want, same) || no != wn || e != we {
		t.Fatalf("Rows(%q): %+v, line %d, %d, not %+v, line %d, %d", text, l, no, int(e), want, wn, int(we))
	}
}

// P5.1: the document's words at all lines of some fields, right and wrong.
func TestLinesAsTold(t *testing.T) {
	chars := []string{"41", "", "x", "D800", "110000"}
	names := []string{"A", "", "<a, First>", "<a, Last>"}
	classes := []string{"0", "254", "255", "z", ""}
	parts := []string{"", "42", "42 301", "z", "D800", "<x> 42", "<x>", "<> 42", "<x1> 42", "<x> z", "<x> D800", "<x", strings.Repeat("42 ", 18), strings.Repeat("42 ", 19), "<k>" + strings.Repeat("42 ", 19), strings.Repeat("42 ", 19) + "z"}
	for _, c := range chars {
		for _, n := range names {
			for _, k := range classes {
				for _, p := range parts {
					line := c + ";" + n + ";Lu;" + k + ";;" + p
					checkAsTold(t, line)
					checkAsTold(t, line+";more;;")
					checkAsTold(t, "40;<a, First>;Lu;0;;\n"+line)
				}
				checkAsTold(t, c+";"+n+";Lu;"+k+";")
			}
		}
	}
}

// P5.1: the document's words at all texts of up to four of some lines.
func TestTextsAsTold(t *testing.T) {
	pool := []string{
		"", "41;x;b;0;;", "42;y;b;0;;43 44", "43;z;b;0;;<k> 44", "43;z;b;0;",
		"40;<a, First>;b;0;;", "41;<a, First>;b;0;;", "42;<b, First>;b;0;;", "41;<a, First>;b;0;;42",
		"41;<a, Last>;b;0;;", "42;<a, Last>;b;0;;", "43;<b, Last>;b;0;;", "42;<a, Last>;c;0;;", "42;<a, Last>;b;1;;", "42;<a, Last>;b;0;;43",
	}
	var more func(text string, n int)
	more = func(text string, n int) {
		checkAsTold(t, text)
		if n < 4 {
			for _, line := range pool {
				more(text+line+"\n", n+1)
			}
		}
	}
	more("", 0)
}

func checkSets(t *testing.T, text string, want []rune, wn int, we api.Errno) {
	t.Helper()
	if l, no, e := ucd.Sets(text); !slices.Equal(l, want) || no != wn || e != we {
		t.Errorf("Sets(%.200q): %.300s, line %d, %d, not %.300s, line %d, %d", text, fmt.Sprintf("%x", l), no, int(e), fmt.Sprintf("%x", want), wn, int(we))
	}
}

// numbers is characters from one to another.
func numbers(from, to rune) []rune {
	var l []rune
	for r := from; r <= to; r++ {
		if r < 0xd800 || r > 0xdfff {
			l = append(l, r)
		}
	}
	return l
}

// P5.2: all characters of all ranges, rising.
func TestSets(t *testing.T) {
	for _, c := range []struct {
		text string
		want []rune
	}{
		{"", nil},
		{"# 41\n\n", nil},
		{"0958..095A # x\n0340\n0341 ; y", []rune{0x340, 0x341, 0x958, 0x959, 0x95a}},
		{"0", []rune{0}},
		{"10FFFF\n0..1", []rune{0, 1, 0x10ffff}},
		{"41..41", []rune{0x41}},
		{" 41 .. 43 ; x;z", []rune{0x41, 0x42, 0x43}},
		{"5\n4\n3\n2\n1\n0", []rune{0, 1, 2, 3, 4, 5}},
		{"1\n3\n5\n2\n4\n0", []rune{0, 1, 2, 3, 4, 5}},
		{"41..43\n40\n44\n3e..3f\n45..46", numbers(0x3e, 0x46)},
		{"D7FE..E001", []rune{0xd7fe, 0xd7ff, 0xe000, 0xe001}},
		{"E000\nD7FF", []rune{0xd7ff, 0xe000}},
		{"41;D800\n42;41..40", []rune{0x41, 0x42}}, // only the first field counts
	} {
		checkSets(t, c.text, c.want, 0, api.OK)
	}
}

// P5.2: lines that are wrong; the first one alone is told.
func TestWrongSets(t *testing.T) {
	long := strings.Repeat("#", 513)
	for _, c := range []struct {
		no   int
		e    api.Errno
		text string
	}{
		{0, api.ErrForm, long},
		{0, api.ErrForm, "x\n" + long},
		{0, api.ErrFull, "x" + strings.Repeat("\n", 4096)},
		{1, api.ErrForm, "x"},
		{1, api.ErrForm, ";41"},
		{1, api.ErrForm, "41 42"},
		{1, api.ErrForm, "41.."},
		{1, api.ErrForm, "..41"},
		{1, api.ErrForm, "41...42"},
		{1, api.ErrForm, "41-42"},
		{1, api.ErrRange, "42..41"},
		{1, api.ErrRange, "D800"},
		{1, api.ErrRange, "D7FF..D800"},
		{1, api.ErrRange, "DFFF..E000"},
		{1, api.ErrRange, "0..110000"},
		{3, api.ErrForm, "41\n\nx\nD800"},
		{3, api.ErrRange, "41\n# x\nD800\nx"},
		{2, api.ErrThere, "41\n41\nx"},
		{2, api.ErrThere, "41..43\n42"},
		{2, api.ErrThere, "41..43\n41"},
		{2, api.ErrThere, "41..43\n43"},
		{2, api.ErrThere, "42\n41..43"},
		{2, api.ErrThere, "41\n41..43"},
		{2, api.ErrThere, "43\n41..43"},
		{2, api.ErrThere, "41..43\n43..45"},
		{2, api.ErrThere, "41..43\n3f..41"},
		{2, api.ErrThere, "41..43\n41..43"},
		{4, api.ErrThere, "50\n10\n30\n20..40"},
		{2, api.ErrThere, "D7FE..E001\nD7FF..E000"},
		{2, api.ErrThere, "10FFFF\n0..10FFFF"}, // named ahead of ErrFull
		{2, api.ErrThere, "0\n0..10FFFF"},
		{1, api.ErrFull, "0..10FFFF"},
		{1, api.ErrFull, "0..1000"},
		{1, api.ErrFull, "CFFF..E7FF\nx"},
		{2, api.ErrForm, "D000..E7FF\nx"}, // the numbers that are no characters are not counted
		{2, api.ErrFull, "10000..10FFF\n5"},
		{2, api.ErrFull, "5\n10000..10FFF"},
		{4, api.ErrFull, "1000..1FFE\n\n5\n0\nx"},
		{2, api.ErrThere, "1000..1FFF\n1FFF..2000"},
	} {
		checkSets(t, c.text, nil, c.no, c.e)
	}
}

// P5.2: 4096 characters, and no more; numbers that are none do not count.
func TestFullSets(t *testing.T) {
	checkSets(t, "1..1000", numbers(1, 0x1000), 0, api.OK)
	checkSets(t, "D000..E7FF", numbers(0xd000, 0xe7ff), 0, api.OK)
	checkSets(t, "CFFF..E7FF", nil, 1, api.ErrFull)
	checkSets(t, "2..1000\n1", numbers(1, 0x1000), 0, api.OK)
	checkSets(t, "5\n10000..10FFE", append([]rune{5}, numbers(0x10000, 0x10ffe)...), 0, api.OK)
	var falling []string
	for r := rune(0x10fff); r >= 0x10000; r-- {
		falling = append(falling, fmt.Sprintf("%X", r))
	}
	checkSets(t, strings.Join(falling, "\n"), numbers(0x10000, 0x10fff), 0, api.OK)
	checkSets(t, strings.Join(falling[:4095], "\n")+"\n5..6", nil, 4096, api.ErrFull)
}

// P5.2: the document's words at all texts of three ranges of few characters, and of two of many, some of them about those that are none.
func TestSetsAsTold(t *testing.T) {
	ranges := func(ends ...rune) [][2]rune {
		var l [][2]rune
		for _, from := range ends {
			for _, to := range ends {
				l = append(l, [2]rune{from, to})
			}
		}
		return l
	}
	asTold := func(l [][2]rune) ([]rune, int, api.Errno) {
		set := map[rune]int{}
		for i, x := range l {
			if x[1] < x[0] {
				return nil, i + 1, api.ErrRange
			}
			there := false
			for _, r := range numbers(x[0], x[1]) {
				there = there || set[r] > 0
				set[r]++
			}
			if there {
				return nil, i + 1, api.ErrThere
			}
			if len(set) > 4096 {
				return nil, i + 1, api.ErrFull
			}
		}
		var out []rune
		for r := range set {
			out = append(out, r)
		}
		slices.Sort(out)
		return out, 0, api.OK
	}
	check := func(l ...[2]rune) bool {
		text := ""
		for _, x := range l {
			text += fmt.Sprintf("%X..%X\n", x[0], x[1])
		}
		want, wn, we := asTold(l)
		if got, no, e := ucd.Sets(text); !slices.Equal(got, want) || no != wn || e != we {
			t.Fatalf("Sets(%q): %.300s, line %d, %d, not %.300s, line %d, %d", text, fmt.Sprintf("%x", got), no, int(e), fmt.Sprintf("%x", want), wn, int(we))
		}
		return we == api.OK
	}
	check()
	few := ranges(0, 1, 2, 3, 4)
	for _, a := range few {
		for _, b := range few {
			for _, c := range few {
				check(a, b, c)
			}
		}
	}
	many := ranges(0, 1, 0xfff, 0x1000, 0xd7ff, 0xe000, 0xf000)
	for _, a := range many {
		if !check(a) {
			continue // what stands behind a wrong line is told by TestWrongSets
		}
		for _, b := range many {
			check(a, b)
		}
	}
}

func checkCheck(t *testing.T, r ucd.Row, want api.Errno) {
	t.Helper()
	if e := ucd.Check(r); e != want {
		t.Errorf("Check(%.300s): %d, not %d", fmt.Sprintf("%+v", r), int(e), int(want))
	}
	s, e := ucd.Print(r)
	if e != want || want != api.OK && s != "" {
		t.Errorf("Print(%.300s): %.300q %d, not %d", fmt.Sprintf("%+v", r), s, int(e), int(want))
	}
}

// P5.3: rows that may be.
func TestCheck(t *testing.T) {
	n100 := strings.Repeat("n", 100)
	for _, r := range []ucd.Row{
		{},
		{From: 1, To: 1},
		{From: 0x10ffff, To: 0x10ffff},
		{To: 0x10ffff},
		{From: 0xd7ff, To: 0xe000},
		{Class: 254},
		{Into: make([]rune, 18)},
		{Kind: "aAzZ", Into: []rune{0x10ffff}},
		{Kind: strings.Repeat("k", 1000), Into: []rune{0xd7ff, 0xe000}},
		{Name: n100, Cat: n100},
		{Name: "a  b", Cat: "<x>"},
		{Name: "\x7f\xff\u00e9", Cat: "\u00a0"},
		{Name: "<control>"},
		{Name: "a, First>"},
		{Name: "a, Last>"},
		{Name: ", First>"},
		{Name: "<a, First"},
		{Name: "<a,First>"},
		{Name: "<a, First>."},
		{Cat: "<a, First>"},
		{To: 1, Name: "<a, First>"},
		{To: 1, Name: "<a, Last>"},
		{To: 1, Name: n100, Class: 254},
	} {
		checkCheck(t, r, api.OK)
	}
}

// P5.3: rows that may not be; ErrRange ahead of ErrForm.
func TestWrongRows(t *testing.T) {
	n101 := strings.Repeat("n", 101)
	one := []rune{1}
	for _, c := range []struct {
		r ucd.Row
		e api.Errno
	}{
		{ucd.Row{From: -1}, api.ErrRange},
		{ucd.Row{From: -1, To: -1}, api.ErrRange},
		{ucd.Row{From: math.MinInt32, To: math.MaxInt32}, api.ErrRange},
		{ucd.Row{To: 0x110000}, api.ErrRange},
		{ucd.Row{From: 0xd800, To: 0xe000}, api.ErrRange},
		{ucd.Row{From: 0xd7ff, To: 0xdfff}, api.ErrRange},
		{ucd.Row{From: 2, To: 1}, api.ErrRange},
		{ucd.Row{Class: -1}, api.ErrRange},
		{ucd.Row{Class: 255}, api.ErrRange},
		{ucd.Row{Class: math.MinInt}, api.ErrRange},
		{ucd.Row{Class: math.MaxInt}, api.ErrRange},
		{ucd.Row{Into: make([]rune, 19)}, api.ErrRange},
		{ucd.Row{Into: []rune{-1}}, api.ErrRange},
		{ucd.Row{Into: []rune{1, 0xd800}}, api.ErrRange},
		{ucd.Row{Into: []rune{1, 2, 0x110000}}, api.ErrRange},
		{ucd.Row{To: 1, Into: []rune{-1}}, api.ErrRange},
		{ucd.Row{Kind: "1", Into: []rune{0xdfff}}, api.ErrRange},
		{ucd.Row{Class: 255, Kind: "x"}, api.ErrRange},
		{ucd.Row{From: 2, To: 1, Name: ";"}, api.ErrRange},
		{ucd.Row{Name: n101, Into: make([]rune, 19)}, api.ErrRange},
		{ucd.Row{Kind: "x"}, api.ErrForm},
		{ucd.Row{Kind: "x", Into: []rune{}}, api.ErrForm},
		{ucd.Row{Kind: "1", Into: one}, api.ErrForm},
		{ucd.Row{Kind: "x y", Into: one}, api.ErrForm},
		{ucd.Row{Kind: "\u00e9", Into: one}, api.ErrForm},
		{ucd.Row{To: 5, Into: one}, api.ErrForm},
		{ucd.Row{To: 5, Kind: "x"}, api.ErrForm},
		{ucd.Row{To: 5, Kind: "x", Into: one}, api.ErrForm},
		{ucd.Row{Name: n101}, api.ErrForm},
		{ucd.Row{Cat: n101}, api.ErrForm},
		{ucd.Row{Name: strings.Repeat("\u00e9", 51)}, api.ErrForm}, // bytes count, not characters
		{ucd.Row{Name: " "}, api.ErrForm},
		{ucd.Row{Name: " a"}, api.ErrForm},
		{ucd.Row{Name: "a "}, api.ErrForm},
		{ucd.Row{Cat: " a"}, api.ErrForm},
		{ucd.Row{Cat: "a "}, api.ErrForm},
		{ucd.Row{To: 5, Name: "a "}, api.ErrForm},
		{ucd.Row{To: 5, Name: n101}, api.ErrForm},
		{ucd.Row{Name: "<a, First>"}, api.ErrForm},
		{ucd.Row{Name: "<a, Last>"}, api.ErrForm},
		{ucd.Row{Name: "<, First>"}, api.ErrForm},
		{ucd.Row{Name: "<, Last>"}, api.ErrForm},
	} {
		checkCheck(t, c.r, c.e)
	}
}

// P5.3: every byte of a name, a category and a kind; every number of an Into, and of a row, near those that are none.
func TestCheckOfAll(t *testing.T) {
	for b := range 256 {
		s := string([]byte{'a', byte(b), 'z'})
		want := api.OK
		if b < 32 || b == ';' || b == '#' {
			want = api.ErrForm
		}
		checkCheck(t, ucd.Row{Name: s}, want)
		checkCheck(t, ucd.Row{Cat: s}, want)
		checkCheck(t, ucd.Row{To: 1, Name: s}, want)
		want = api.ErrForm
		if b >= 'a' && b <= 'z' || b >= 'A' && b <= 'Z' {
			want = api.OK
		}
		checkCheck(t, ucd.Row{Kind: s, Into: []rune{1}}, want)
	}
	for _, edge := range []rune{0, 0xd800, 0xe000, 0x110000} {
		for r := edge - 3; r <= edge+3; r++ {
			want := api.OK
			if !api.Scalar(r) {
				want = api.ErrRange
			}
			checkCheck(t, ucd.Row{From: r, To: r}, want)
			checkCheck(t, ucd.Row{Into: []rune{0x41, r}}, want)
		}
	}
}

// P5.3: the lines of rows.
func TestPrint(t *testing.T) {
	for _, c := range []struct {
		l    []ucd.Row
		want string
	}{
		{nil, ""},
		{[]ucd.Row{{}}, "0000;;;0;;\n"},
		{[]ucd.Row{char(0xc9, "E", 0x45, 0x301)}, "00C9;E;Lu;0;;0045 0301\n"},
		{[]ucd.Row{{From: 0x1f600, To: 0x1f600, Name: "a b", Cat: "Mn", Class: 230, Kind: "noBreak", Into: []rune{0x20}}}, "1F600;a b;Mn;230;;<noBreak> 0020\n"},
		{[]ucd.Row{{From: 0xac00, To: 0xd7a3, Name: "Hangul Syllable", Cat: "Lo", Class: 7}}, "AC00;<Hangul Syllable, First>;Lo;7;;\nD7A3;<Hangul Syllable, Last>;Lo;7;;\n"},
		{[]ucd.Row{{To: 0x10ffff}}, "0000;<, First>;;0;;\n10FFFF;<, Last>;;0;;\n"},
		{[]ucd.Row{{To: 1, Name: "<a, Last>"}}, "0000;<<a, Last>, First>;;0;;\n0001;<<a, Last>, Last>;;0;;\n"},
		{[]ucd.Row{char(1, "a"), {From: 2, To: 3, Name: "b", Cat: "c"}, char(4, "d")}, "0001;a;Lu;0;;\n0002;<b, First>;c;0;;\n0003;<b, Last>;c;0;;\n0004;d;Lu;0;;\n"},
	} {
		if s, e := ucd.Print(c.l...); s != c.want || e != api.OK {
			t.Errorf("Print(%+v): %q %d, not %q", c.l, s, int(e), c.want)
		}
	}
}

// P5.3: orders that may not be, and Check's error of the first row with one ahead of that.
func TestPrintErrors(t *testing.T) {
	a, b, r := char(5, "a"), char(9, "b"), ucd.Row{From: 5, To: 9}
	form, ranges := ucd.Row{From: 20, To: 20, Name: ";"}, ucd.Row{From: 30, To: 30, Class: 255}
	for i, c := range []struct {
		l []ucd.Row
		e api.Errno
	}{
		{[]ucd.Row{a, b}, api.OK},
		{[]ucd.Row{a, a}, api.ErrThere},
		{[]ucd.Row{b, a}, api.ErrThere},
		{[]ucd.Row{r, b}, api.ErrThere},
		{[]ucd.Row{r, char(7, "")}, api.ErrThere},
		{[]ucd.Row{a, r}, api.ErrThere},
		{[]ucd.Row{r, char(10, "")}, api.OK},
		{[]ucd.Row{char(1, ""), a, b, b}, api.ErrThere},
		{[]ucd.Row{a, b, form}, api.ErrForm},
		{[]ucd.Row{a, b, ranges}, api.ErrRange},
		{[]ucd.Row{a, form, ranges}, api.ErrForm},
		{[]ucd.Row{a, ranges, form}, api.ErrRange},
		{[]ucd.Row{b, a, form}, api.ErrForm},
		{[]ucd.Row{a, a, b, ranges, form}, api.ErrRange},
	} {
		if s, e := ucd.Print(c.l...); e != c.e || (s != "") != (e == api.OK) {
			t.Errorf("%d: Print(%+v): %q %d, not %d", i, c.l, s, int(e), int(c.e))
		}
	}
}

func checkBack(t *testing.T, l []ucd.Row) {
	t.Helper()
	s, e := ucd.Print(l...)
	if e != api.OK {
		t.Fatalf("Print(%.300s): %d", fmt.Sprintf("%+v", l), int(e))
	}
	checkRows(t, s, l)
}

// P5.4: Rows of Print is the rows, each by itself and all at once.
func TestRowsOfPrint(t *testing.T) {
	names := []string{"", "a", "a b", "<control>", "a, First>", ", Last>", "<", ">", ",", "<a, First", strings.Repeat("n", 100), "\xff\x7f\u00e9", "0041", "-"}
	intos := [][]rune{nil, {0}, {0x45, 0x301}, {0x10ffff}, slices.Repeat([]rune{0x10ffff}, 18)}
	var l []ucd.Row
	next := rune(0)
	add := func(r ucd.Row) {
		r.From += next
		r.To += next
		next = r.To + 1
		checkBack(t, []ucd.Row{r})
		l = append(l, r)
	}
	for i, name := range names {
		for j, cat := range names {
			for _, into := range intos {
				add(ucd.Row{Name: name, Cat: cat, Class: (i*16 + j) % 255, Into: into})
			}
			add(ucd.Row{Name: name, Cat: cat, Kind: "noBreak", Into: intos[2]})
			add(ucd.Row{Name: name, Cat: cat, To: 1})
		}
		add(ucd.Row{Name: "<" + name[:min(len(name), 80)] + ", Last>", Class: 254, To: rune(i) + 1})
	}
	checkBack(t, l)
}

// P5.4: some 4000 lines, and lines of 512 bytes.
func TestGreatRows(t *testing.T) {
	var singles, ranges []ucd.Row
	for i := range rune(4000) {
		singles = append(singles, ucd.Row{From: i * 3, To: i * 3, Name: strings.Repeat("n", 100), Class: int(i) % 255, Into: []rune{i, 0x10ffff}})
	}
	for i := range rune(2000) {
		ranges = append(ranges, ucd.Row{From: i * 4, To: i*4 + 1 + i%3, Name: fmt.Sprint("range ", i), Cat: "Lo"})
	}
	checkBack(t, singles)
	checkBack(t, ranges)
	long := char(0x41, "A", 0x42)
	long.Kind = "k"
	s, _ := ucd.Print(long)
	long.Kind = strings.Repeat("k", 512-len(s)+2) // the line feed is not of the line
	checkBack(t, []ucd.Row{long})
	long.Kind += "k"
	s, e := ucd.Print(long)
	if e != api.OK {
		t.Error(int(e))
	}
	checkWrong(t, s, 0, api.ErrForm)
}

// R2: what is handed in is left as it is, also behind its length, and what is answered is the caller's.
func TestMemory(t *testing.T) {
	into := []rune{0x45, 0x301, 7, 8}
	rows := []ucd.Row{char(1, "a", into[:2]...), char(2, "b", into[:1]...), char(3, "c")}
	rows[0].Into = into[:2]
	if s, e := ucd.Print(rows[:2]...); s != "0001;a;Lu;0;;0045 0301\n0002;b;Lu;0;;0045\n" || e != api.OK {
		t.Errorf("%q %d", s, int(e))
	}
	ucd.Check(rows[0])
	if !slices.Equal(into, []rune{0x45, 0x301, 7, 8}) || rows[2].Name != "c" || rows[0].Name != "a" {
		t.Error(into, rows)
	}
	const text, sets = "1;a;Lu;0;;45 301\n2;b;Lu;0;;46", "41..43"
	l, _, _ := ucd.Rows(text)
	_ = append(l[0].Into, 9, 9, 9)
	clear(l[0].Into)
	if !slices.Equal(l[1].Into, []rune{0x46}) {
		t.Error(l)
	}
	clear(l)
	checkRows(t, text, []ucd.Row{char(1, "a", 0x45, 0x301), char(2, "b", 0x46)})
	m, _, _ := ucd.Sets(sets)
	clear(m)
	checkSets(t, sets, []rune{0x41, 0x42, 0x43}, 0, api.OK)
}

// R1: every call ends, and none panics; with an error nothing else is answered but a line's number.
func TestErrors(t *testing.T) {
	const from = "0;<>,.# \n\xff"
	var more func(s string)
	more = func(s string) {
		for _, text := range []string{s, "41;A;Lu;0;;" + s, "41;<" + s + ", First>;;0;;\n42;<" + s + ", Last>;;0;;", s + "41;<a, Last>;;0;;", "41;" + s} {
			if l, no, e := ucd.Rows(text); e != api.OK && len(l) != 0 || (e == api.OK) != (no == 0) {
				t.Fatalf("Rows(%q): %+v, line %d, %d", text, l, no, int(e))
			}
			checkAsTold(t, text)
			if l, no, e := ucd.Sets(text); e != api.OK && len(l) != 0 || (e == api.OK) != (no == 0) {
				t.Fatalf("Sets(%q): %x, line %d, %d", text, l, no, int(e))
			}
		}
		if len(s) < 4 {
			for i := range len(from) {
				more(s + from[i:i+1])
			}
		}
	}
	more("")
}
