package base_test

import (
	"fmt"
	"maps"
	"math"
	"slices"
	"strings"
	"testing"

	"inkhorn/api"
	"inkhorn/base"
	"inkhorn/hangul"
)

// row is what a test lets a row tell.
type row struct {
	from, to rune
	class    int
	kind     string
	into     []rune
}

// char is a row of one character of the class 0.
func char(r rune, into ...rune) row { return row{from: r, to: r, into: into} }

// classed is a row of one character with a class.
func classed(r rune, class int, into ...rune) row {
	return row{from: r, to: r, class: class, into: into}
}

// kinded is a row of one character with a kind.
func kinded(r rune, kind string, into ...rune) row {
	return row{from: r, to: r, kind: kind, into: into}
}

// text is rows as lines, by no layer's means.
func text(rows []row) string {
	var s strings.Builder
	for _, w := range rows {
		var into []string
		if w.kind != "" {
			into = append(into, "<"+w.kind+">")
		}
		for _, r := range w.into {
			into = append(into, fmt.Sprintf("%04X", r))
		}
		parts := strings.Join(into, " ")
		if w.from == w.to {
			fmt.Fprintf(&s, "%04X;A;Lu;%d;;%s\n", w.from, w.class, parts)
		} else {
			fmt.Fprintf(&s, "%04X;<A, First>;Lu;%d;;\n%04X;<A, Last>;Lu;%d;;\n", w.from, w.class, w.to, w.class)
		}
	}
	return strings.TrimSuffix(s.String(), "\n") // as what stands behind the last line feed is a line, too
}

// told is what the document's words say of rows and exclusions that ucd lets be, looked for anew at each question.
type told struct {
	rows []row
	out  []rune
}

// row is the row of a character.
func (o told) row(r rune) (row, bool) {
	for _, w := range o.rows {
		if w.from <= r && r <= w.to {
			return w, true
		}
	}
	return row{}, false
}

func (o told) class(r rune) int {
	w, _ := o.row(r)
	return w.class
}

func (o told) decomp(r rune) (string, []rune) {
	if w, ok := o.row(r); ok && len(w.into) > 0 {
		return w.kind, w.into
	}
	if a, b, is := hangul.Split(r); is {
		return "", []rune{a, b}
	}
	return "", nil
}

// isMade tells whether the character of a row is made of two.
func (o told) isMade(w row) bool {
	return w.kind == "" && len(w.into) == 2 && !slices.Contains(o.out, w.from) && w.class == 0 && o.class(w.into[0]) == 0
}

func (o told) pair(x, y rune) (rune, bool) {
	for _, w := range o.rows {
		if o.isMade(w) && w.into[0] == x && w.into[1] == y {
			return w.from, true
		}
	}
	return hangul.Join(x, y)
}

func (o told) second(r rune) bool {
	for _, w := range o.rows {
		if o.isMade(w) && w.into[1] == r {
			return true
		}
	}
	return 0x1161 <= r && r <= 0x1175 || 0x11a8 <= r && r <= 0x11c2
}

// leads is what a character leads to, in one step or more.
func (o told) leads(r rune) map[rune]int {
	seen := map[rune]int{}
	todo := []rune{r}
	for len(todo) > 0 {
		_, into := o.decomp(todo[0])
		todo = todo[1:]
		for _, c := range into {
			if _, ok := seen[c]; !ok {
				seen[c] = 1
				todo = append(todo, c)
			}
		}
	}
	return seen
}

// many is how many characters one is, parted as far as it can be; no more than are needed to know.
func (o told) many(r rune) int {
	_, into := o.decomp(r)
	if len(into) == 0 {
		return 1
	}
	n := 0
	for _, c := range into {
		if n <= 18 {
			n += o.many(c)
		}
	}
	return n
}

func (w row) hasSyllable() bool {
	for r := rune(0xac00); r <= 0xd7a3; r++ {
		if w.from <= r && r <= w.to {
			return true
		}
	}
	return false
}

// wrong is New's error, behind ucd's.
func (o told) wrong() api.Errno {
	for _, w := range o.rows {
		if (w.class > 0 || len(w.into) > 0) && w.hasSyllable() {
			return api.ErrThere
		}
	}
	for _, w := range o.rows {
		if w.kind == "" && len(w.into) > 2 {
			return api.ErrForm
		}
	}
	for _, w := range o.rows {
		if _, ok := o.leads(w.from)[w.from]; ok {
			return api.ErrLoop
		}
		for r := range o.leads(w.from) {
			if _, ok := o.leads(r)[r]; ok {
				return api.ErrLoop
			}
		}
	}
	for _, w := range o.rows {
		if len(w.into) > 0 && o.many(w.from) > 18 {
			return api.ErrFull
		}
	}
	for i, w := range o.rows {
		if !o.isMade(w) {
			continue
		}
		if _, is := hangul.Join(w.into[0], w.into[1]); is {
			return api.ErrThere
		}
		for _, v := range o.rows[:i] {
			if o.isMade(v) && slices.Equal(v.into, w.into) {
				return api.ErrThere
			}
		}
	}
	return api.OK
}

// ask holds all that a base answers of some characters against the words.
func (o told) ask(t *testing.T, b *base.Base, chars []rune) {
	t.Helper()
	for _, r := range chars {
		if got, want := b.Class(r), o.class(r); got != want {
			t.Fatalf("%q: Class(%#x): %d, not %d", text(o.rows), r, got, want)
		}
		kind, into := b.Decomp(r)
		wantKind, want := o.decomp(r)
		if kind != wantKind || !slices.Equal(into, want) {
			t.Fatalf("%q: Decomp(%#x): %q, %#x, not %q, %#x", text(o.rows), r, kind, into, wantKind, want)
		}
		if got, want := b.Second(r), o.second(r); got != want {
			t.Fatalf("%q, but %#x: Second(%#x): %v, not %v", text(o.rows), o.out, r, got, want)
		}
		for _, y := range chars {
			got, is := b.Pair(r, y)
			want, wantIs := o.pair(r, y)
			if got != want || is != wantIs {
				t.Fatalf("%q, but %#x: Pair(%#x, %#x): %#x, %v, not %#x, %v", text(o.rows), o.out, r, y, got, is, want, wantIs)
			}
		}
	}
}

// flat is pairs in a row: a character, and the two.
func flat(b *base.Base) []rune {
	var l []rune
	for r, two := range b.Pairs() {
		l = append(l, r, two[0], two[1])
	}
	return l
}

func (o told) lists(t *testing.T, b *base.Base) {
	t.Helper()
	var pairs, known []rune
	for _, w := range o.rows {
		if len(w.into) > 0 {
			known = append(known, w.from)
		}
		if o.isMade(w) {
			pairs = append(pairs, w.from, w.into[0], w.into[1])
		}
	}
	if got := flat(b); !slices.Equal(got, pairs) {
		t.Fatalf("%q, but %#x: Pairs: %#x, not %#x", text(o.rows), o.out, got, pairs)
	}
	if got := slices.Collect(b.Known()); !slices.Equal(got, known) {
		t.Fatalf("%q: Known: %#x, not %#x", text(o.rows), got, known)
	}
}

// follows holds a base against what follows: what two make is parted into them, and nothing leads back.
func follows(t *testing.T, b *base.Base, chars []rune) {
	t.Helper()
	for _, x := range chars {
		for _, y := range chars {
			r, is := b.Pair(x, y)
			if !is {
				continue
			}
			if kind, into := b.Decomp(r); kind != "" || !slices.Equal(into, []rune{x, y}) {
				t.Fatalf("%#x of %#x and %#x is parted into %q %#x", r, x, y, kind, into)
			}
		}
	}
	for r := range b.Known() {
		todo := []rune{r}
		for range 1000 {
			if len(todo) == 0 {
				break
			}
			_, into := b.Decomp(todo[0])
			todo = append(todo[1:], into...)
			if slices.Contains(into, r) {
				t.Fatalf("%#x leads back to itself", r)
			}
		}
		if len(todo) > 0 {
			t.Fatalf("%#x leads on and on", r)
		}
	}
}

func exclusions(l []rune) string {
	var s strings.Builder
	for _, r := range l {
		fmt.Fprintf(&s, "%04X # left out\n", r)
	}
	return s.String()
}

// check holds New, and a base that it makes, against the words; it answers what New told.
func (o told) check(t *testing.T, chars []rune) api.Errno {
	t.Helper()
	b, e := base.New(text(o.rows), exclusions(o.out))
	if want := o.wrong(); e != want || (b == nil) != (e != api.OK) {
		t.Fatalf("%q, but %#x: %d, not %d, and a nil base: %v", text(o.rows), o.out, int(e), int(want), b == nil)
	}
	if e == api.OK {
		o.ask(t, b, chars)
		o.lists(t, b)
		follows(t, b, chars)
	}
	return e
}

func mustNew(t *testing.T, data, exclusions string) *base.Base {
	t.Helper()
	b, e := base.New(data, exclusions)
	if e != api.OK || b == nil {
		t.Fatalf("New(%.200q, %q): %d", data, exclusions, int(e))
	}
	return b
}

func wantError(t *testing.T, data, exclusions string, want api.Errno) {
	t.Helper()
	if b, e := base.New(data, exclusions); e != want || (b == nil) != (want != api.OK) {
		t.Errorf("New(%.300q, %.300q): %d, not %d, and a nil base: %v", data, exclusions, int(e), int(want), b == nil)
	}
}

// P8.1, P8.2: the document's examples.
func TestExamples(t *testing.T) {
	const data = "00C9;E;Lu;0;;0045 0301\n0301;X;Mn;230;;\n"
	b := mustNew(t, data, "")
	if c := b.Class(0x301); c != 230 {
		t.Error(c)
	}
	if kind, into := b.Decomp(0xc9); kind != "" || !slices.Equal(into, []rune{0x45, 0x301}) {
		t.Error(kind, into)
	}
	if r, is := b.Pair(0x45, 0x301); r != 0xc9 || !is {
		t.Error(r, is)
	}
	if r, is := mustNew(t, data, "00C9").Pair(0x45, 0x301); r != 0 || is {
		t.Error(r, is)
	}
}

// choices is each row of a character that a list of partings, with and without a class, lets be, and none.
func choices(r rune, classes []int, partings []row) []row {
	l := []row{{from: -1}}
	for _, c := range classes {
		for _, p := range partings {
			p.from, p.to, p.class = r, r, c
			l = append(l, p)
		}
	}
	return l
}

// present is rows without those that are none.
func present(l ...row) []row {
	return slices.DeleteFunc(l, func(w row) bool { return w.from < 0 })
}

// counted counts what New told, and wants some of each.
func counted(t *testing.T, many map[api.Errno]int, want ...api.Errno) {
	t.Helper()
	got := slices.Sorted(maps.Keys(many))
	if slices.Sort(want); !slices.Equal(got, want) {
		t.Errorf("what New told: %d, not %d", got, want)
	}
}

// P8.1, P8.2, P8.3, P8.4: three characters, each of all of some rows.
func TestAllSmall(t *testing.T) {
	partings := []row{
		char(0), char(0, 0x41), char(0, 0x42), char(0, 0x61),
		char(0, 0x41, 0x61), char(0, 0x42, 0x61), char(0, 0x61, 0x43), char(0, 0x61, 0x61), char(0, 0x61, 0x62, 0x41),
		kinded(0, "x", 0x61), kinded(0, "x", 0x61, 0x61), kinded(0, "x", 0x43, 0x62, 0x42),
		kinded(0, "x", 0x61, 0x61, 0x61, 0x61, 0x61, 0x61, 0x61, 0x61, 0x61),
		kinded(0, "x", 0x62, 0x62, 0x62, 0x62, 0x62, 0x62, 0x62, 0x62, 0x62, 0x42),
	}
	chars := []rune{0, 0x41, 0x42, 0x43, 0x61, 0x62}
	many := map[api.Errno]int{}
	for _, x := range choices(0x41, []int{0, 7}, partings) {
		for _, y := range choices(0x42, []int{0, 7}, partings) {
			for _, z := range choices(0x43, []int{0, 7}, partings) {
				for _, out := range [][]rune{nil, {0x42}} {
					many[told{present(x, y, z), out}.check(t, chars)]++
				}
			}
		}
	}
	counted(t, many, api.OK, api.ErrForm, api.ErrLoop, api.ErrFull, api.ErrThere)
}

// P8.1, P8.2, P8.3, P8.4: characters whose first parts have classes, of a range too, or are left out.
func TestAllClasses(t *testing.T) {
	chars := []rune{0x40, 0x41, 0x42, 0x43, 0x44, 0x60, 0x61, 0x62, 0x63, 0x64, 0x65}
	partings := []row{char(0), char(0, 0x61, 0x63), char(0, 0x62, 0x63), char(0, 0x61, 0x62), char(0, 0x65, 0x61)}
	marks := [][]row{
		nil,
		{classed(0x61, 1)},
		{classed(0x61, 0), classed(0x63, 254)},
		{{from: 0x61, to: 0x62, class: 230}},
		{{from: 0x62, to: 0x64, class: 9}},
		{{from: 0x60, to: 0x61, class: 0}, {from: 0x62, to: 0x63, class: 220}, classed(0x64, 230)},
	}
	many := map[api.Errno]int{}
	for _, x := range choices(0x41, []int{0, 1}, partings) {
		for _, y := range choices(0x42, []int{0, 254}, partings) {
			for _, behind := range marks {
				for _, out := range [][]rune{nil, {0x41}, {0x42}, {0x41, 0x42}, {0x40, 0x43, 0x61}} {
					many[told{append(present(x, y), behind...), out}.check(t, chars)]++
				}
			}
		}
	}
	counted(t, many, api.OK, api.ErrThere)
}

// P8.1, P8.2, P8.3, P8.4: rows of syllables, of their parts, and of what is parted into them.
func TestAllSyllables(t *testing.T) {
	chars := []rune{0x41, 0x42, 0x1100, 0x1112, 0x1160, 0x1161, 0x1175, 0x1176, 0x11a7, 0x11a8, 0x11c2, 0x11c3, 0xabff, 0xac00, 0xac01, 0xac1c, 0xd7a3, 0xd7a4}
	here := []row{
		char(0), char(0, 0xac01), char(0, 0x1100, 0x1161), char(0, 0xac00, 0x11a8), char(0, 0xac01, 0x11a8), char(0, 0x1112, 0x61),
		kinded(0, "x", 0x1100, 0x1161), kinded(0, "x", 0xac01, 0xac01, 0xac01, 0xac01, 0xac01, 0xac01),
		kinded(0, "x", 0xac01, 0xac01, 0xac01, 0xac01, 0xac01, 0xac00, 0xac00),
	}
	part := []row{char(0), char(0, 0x61), char(0, 0x61, 0x62), char(0, 0xac00), char(0, 0xd7a3), kinded(0, "x", 0x61, 0x61, 0x61, 0x61)}
	whole := []row{char(0), char(0, 0x61), char(0, 0x61, 0x62), kinded(0, "x", 0x61)}
	many := map[api.Errno]int{}
	for _, x := range choices(0x41, []int{0, 1}, here) {
		for _, y := range choices(0x1100, []int{0, 1}, part) {
			for _, z := range choices(0x11a8, []int{0, 230}, part) {
				for _, w := range choices(0xac01, []int{0, 1}, whole) {
					many[told{present(x, y, z, w), nil}.check(t, chars)]++
				}
				many[told{present(x, y, z), []rune{0x41, 0x11a8}}.check(t, chars)]++
			}
		}
	}
	counted(t, many, api.OK, api.ErrLoop, api.ErrFull, api.ErrThere)
}

// P8.1: ucd's errors, those of the data ahead of those of the exclusions.
func TestFilesErrors(t *testing.T) {
	lines := strings.Repeat("\n", api.MaxRows+1)
	for _, c := range []struct {
		data, out string
		want      api.Errno
	}{
		{"", "", api.OK},
		{"# x\n\n", " # x", api.OK},
		{"x", "", api.ErrForm},
		{"41;a;b;0;", "", api.ErrForm},
		{"110000;a;b;0;;", "", api.ErrRange},
		{"41;a;b;255;;", "", api.ErrRange},
		{"41;a;b;0;;D800", "", api.ErrRange},
		{"41;a;b;0;;\n41;a;b;0;;", "", api.ErrThere},
		{"42;a;b;0;;\n41;a;b;0;;", "", api.ErrThere},
		{"41;<a, First>;b;0;;", "", api.ErrForm},
		{lines + "41;a;b;0;;", "", api.ErrFull},
		{"", "x", api.ErrForm},
		{"", "110000", api.ErrRange},
		{"", "42..41", api.ErrRange},
		{"", "41\n41", api.ErrThere},
		{"", "0..1000", api.ErrFull},
		{"", "0..FFF", api.OK},
		{"x", "42..41", api.ErrForm},
		{"110000;a;b;0;;", "x", api.ErrRange},
		{"41;a;b;0;;41", "x", api.ErrForm},
		{"41;a;b;0;;61 62 63", "42..41", api.ErrRange},
		{"AC00;a;b;1;;", "x", api.ErrForm},
	} {
		wantError(t, c.data, c.out, c.want)
	}
}

// P8.1: rows that have a syllable, at the ends, within and all of them.
func TestRowsWithSyllables(t *testing.T) {
	for _, c := range [][2]rune{
		{0xabff, 0xabff}, {0xac00, 0xac00}, {0xac01, 0xac01}, {0xd7a2, 0xd7a2}, {0xd7a3, 0xd7a3}, {0xd7a4, 0xd7a4},
		{0xab00, 0xabff}, {0xab00, 0xac00}, {0xac00, 0xd7a3}, {0xac01, 0xd7a2}, {0xd7a3, 0xd7a4}, {0xd7a4, 0xd7a5},
		{0, 0xabff}, {0, 0xac00}, {0, 0x10ffff}, {0xabff, 0xd7a4}, {0xc000, 0xc001}, {0xc000, 0xe000}, {0xd7a4, 0x10ffff}, {0xabff, 0xac00},
	} {
		for _, class := range []int{0, 1, 254} {
			o := told{rows: []row{{from: c[0], to: c[1], class: class}}}
			o.check(t, []rune{c[0] - 1, c[0], c[0] + 1, c[1] - 1, c[1], c[1] + 1, 0xac00, 0xc123, 0xd7a3})
		}
	}
	wantError(t, "AC00;a;b;0;;", "", api.OK)
	wantError(t, "AC00;a;b;0;;61", "", api.ErrThere)
	wantError(t, "D7A3;a;b;0;;<x> 61", "", api.ErrThere)
	wantError(t, "ABFF;a;b;1;;61\nD7A4;a;b;1;;62", "", api.OK)
}

// P8.1: the error that is named first, whichever row has it.
func TestOrderOfErrors(t *testing.T) {
	// Each has one error, and characters of its own; %c is where these stand.
	faults := []struct {
		data string
		e    api.Errno
	}{
		{"AC0%c;a;b;1;;\n", api.ErrThere},
		{"1%c0;a;b;0;;61 62 63\n", api.ErrForm},
		{"1%c0;a;b;0;;<x> 1%[1]c0\n", api.ErrLoop},
		{"1%c0;a;b;0;;<x>" + strings.Repeat(" 61", 10) + "\n1%[1]c1;a;b;0;;<x> 61 1%[1]c0" + strings.Repeat(" 61", 8) + "\n", api.ErrFull},
		{"1%c0;a;b;0;;61 62\n1%[1]c1;a;b;0;;61 62\n", api.ErrThere},
	}
	for i, f := range faults {
		for j, g := range faults {
			want := faults[min(i, j)].e
			first, second := fmt.Sprintf(f.data, 'A'), fmt.Sprintf(g.data, 'B')
			if i == 0 && j > 0 { // the syllable stands behind the others, as rows rise
				first, second = second, first
			}
			wantError(t, first+second, "", want)
		}
	}
	// A loop, and what is too long, that are left out, or have a class, are so all the same; two of one pair are not.
	wantError(t, "41;a;b;9;;42\n42;a;b;0;;41", "41..42", api.ErrLoop)
	wantError(t, "41;a;b;9;;<x>"+strings.Repeat(" 61", 18)+"\n42;a;b;0;;41 61", "41..42", api.ErrFull)
	wantError(t, "41;a;b;0;;61 62\n42;a;b;0;;61 62", "41", api.OK)
	wantError(t, "41;a;b;0;;61 62\n42;a;b;0;;61 62", "43", api.ErrThere)
}

// fold is rows that part a character into two of the one ahead, which ends at a letter: each is twice as many.
func fold(many int) []row {
	l := []row{kinded(0x100, "x", 0x61, 0x61)}
	for r := rune(0x101); len(l) < many; r++ {
		l = append(l, kinded(r, "x", r-1, r-1))
	}
	return l
}

// chain is rows that part a character into the next one.
func chain(many int) []row {
	var l []row
	for r := rune(0x100); len(l) < many; r++ {
		l = append(l, char(r, r+1))
	}
	return l
}

// P8.1: what is too long, by how much it may be; long ways, and lengths that no number holds.
func TestLong(t *testing.T) {
	s := func(n int) string { return strings.Repeat(" 61", n) }
	for _, c := range []struct {
		data string
		want api.Errno
	}{
		{"41;a;b;0;;<x>" + s(18), api.OK},
		{"41;a;b;0;;<x>" + s(19), api.ErrRange},
		{"41;a;b;0;;<x>" + s(18) + "\n42;a;b;0;;41", api.OK},
		{"41;a;b;0;;<x>" + s(18) + "\n42;a;b;0;;41 61", api.ErrFull},
		{"41;a;b;0;;<x>" + s(18) + "\n42;a;b;0;;61 41", api.ErrFull},
		{"41;a;b;0;;<x>" + s(9) + "\n42;a;b;0;;41 41", api.OK},
		{"41;a;b;0;;<x>" + s(9) + "\n42;a;b;0;;41 41\n43;a;b;0;;<y> 61 42", api.ErrFull},
		{"41;a;b;0;;<x> AC01 AC01 AC01 AC01 AC01 AC01", api.OK},
		{"41;a;b;0;;<x> AC01 AC01 AC01 AC01 AC01 AC01 61", api.ErrFull},
		{"1100;a;b;0;;<x>" + s(18), api.OK}, // its syllables are 19 and 20, but no row parts them
		{"41;a;b;0;;AC00\n1100;a;b;0;;<x>" + s(18), api.ErrFull},
		{"41;a;b;0;;AC00\n1100;a;b;0;;<x>" + s(17), api.OK},
		{"41;a;b;0;;AC01\n1100;a;b;0;;<x>" + s(17), api.ErrFull},
		{text(fold(4)), api.OK}, // 16
		{text(fold(5)), api.ErrFull},
		{text(fold(32)), api.ErrFull},
		{text(fold(64)), api.ErrFull},
		{text(fold(4000)), api.ErrFull},
		{text(chain(api.MaxRows)), api.OK},
		{text(append(chain(api.MaxRows-1), kinded(0x10ff, "x", 0x100))), api.ErrLoop},
		{text(append(chain(api.MaxRows-1), kinded(0x10ff, "x", 0x1000))), api.ErrLoop},
		{text(append(chain(api.MaxRows-1), kinded(0x10ff, "x", 0x61, 0x62))), api.OK},
	} {
		wantError(t, c.data, "", c.want)
	}
}

// P8.1, P8.2: characters at the edges of numbers, and of the classes.
func TestEdges(t *testing.T) {
	chars := []rune{math.MinInt32, -0xac00, -1, 0, 1, 0x60, 0x61, 0xd7ff, 0xe000, 0xfffd, 0x10ffff, 0x110000, math.MaxInt32}
	told{rows: []row{char(0, 0x10ffff, 0xe000), classed(1, 254), char(0xd7ff, 1, 0x61), char(0x10ffff, 0xfffd, 0x61)}}.check(t, chars)
	told{rows: []row{char(0, 0x61, 0x62)}, out: []rune{0}}.check(t, append(chars, 0x62))
	told{rows: []row{char(0, 0x61, 0x62)}, out: []rune{1, 0x10ffff}}.check(t, append(chars, 0x62))
	told{rows: []row{char(0x61, 0), char(0x10ffff, 0, 0)}}.check(t, chars)
	told{rows: []row{char(1, 0xd7ff), classed(0x10ffff, 1, 0, 0)}}.check(t, chars)
	told{rows: []row{{from: 0, to: 0xabff, class: 3}, {from: 0xe000, to: 0x10ffff, class: 254}}}.check(t, chars)
}

// P8.2: of all numbers those are second that are a vowel, a tail, or told.
func TestEverySecond(t *testing.T) {
	o := told{rows: []row{char(0x41, 0x61, 0x300), char(0x42, 0x61, 0x11c3), char(0x43, 0x61, 0x1100)}}
	b := mustNew(t, text(o.rows), "")
	for r := rune(-0x100); r < 0x110100; r++ {
		if b.Second(r) != o.second(r) {
			t.Fatalf("%#x: %v", r, b.Second(r))
		}
	}
}

// P8.2: kinds are told as they are written.
func TestKinds(t *testing.T) {
	b := mustNew(t, "A0;a;b;0;;<noBreak> 20\nB2;a;b;0;;<super>32\nB3;a;b;0;;33\n", "")
	for r, want := range map[rune]string{0xa0: "noBreak", 0xb2: "super", 0xb3: "", 0xac00: "", 0x20: ""} {
		if kind, _ := b.Decomp(r); kind != want {
			t.Errorf("%#x: %q", r, kind)
		}
	}
}

// P8.3: lists rise though rows that are parted stand among others, can be left, and gone through again.
func TestLists(t *testing.T) {
	var rows []row
	for r := rune(0x10000); r < 0x10800; r++ {
		switch r % 4 {
		case 0:
			rows = append(rows, char(r))
		case 1:
			rows = append(rows, classed(r, 1, r+0x20000, 0x301))
		case 2:
			rows = append(rows, char(r, r+0x20000, 0x301))
		case 3:
			rows = append(rows, kinded(r, "x", r+0x20000, 0x301))
		}
	}
	o := told{rows: rows}
	b := mustNew(t, text(rows), "10002\n")
	o.out = []rune{0x10002}
	for range 3 {
		o.lists(t, b)
	}
	pairs, known := b.Pairs(), b.Known()
	for n := 1; n < 5; n++ {
		var l []rune
		for r, two := range pairs {
			if l = append(l, r); !slices.Equal(two[:], []rune{r + 0x20000, 0x301}) {
				t.Fatal(r, two)
			}
			if len(l) == n {
				break
			}
		}
		if !slices.Equal(l, []rune{0x10006, 0x1000a, 0x1000e, 0x10012}[:n]) {
			t.Errorf("%#x", l)
		}
		l = nil
		for r := range known {
			if l = append(l, r); len(l) == n {
				break
			}
		}
		if !slices.Equal(l, []rune{0x10001, 0x10002, 0x10003, 0x10005}[:n]) {
			t.Errorf("%#x", l)
		}
	}
}

// P8.3: a nil base, and one of which nothing is told, know nothing but the syllables.
func TestNil(t *testing.T) {
	chars := []rune{-1, 0, 0x41, 0x301, 0x10ff, 0x1100, 0x1112, 0x1113, 0x1160, 0x1161, 0x1175, 0x1176, 0x11a7, 0x11a8, 0x11c2, 0x11c3, 0xabff, 0xac00, 0xac01, 0xd788, 0xd7a3, 0xd7a4, 0x10ffff, 0x110000}
	for _, b := range []*base.Base{nil, mustNew(t, "", ""), mustNew(t, "", "41\nAC00")} {
		told{}.ask(t, b, chars)
		told{}.lists(t, b)
		if b.Pairs() == nil || b.Known() == nil {
			t.Error("an iterator that is none")
		}
	}
}

// P8.4: every syllable is what its two make, whatever is told beside.
func TestSyllablesThereAndBack(t *testing.T) {
	for _, b := range []*base.Base{nil, mustNew(t, "41;a;b;0;;1100 301\n1100;a;b;7;;61 62\n1161;a;b;0;;<x> 62", "AC00..AC10")} {
		for r := rune(0xac00); r <= 0xd7a3; r++ {
			kind, into := b.Decomp(r)
			if kind != "" || len(into) != 2 {
				t.Fatalf("%#x: %q %#x", r, kind, into)
			}
			if got, is := b.Pair(into[0], into[1]); got != r || !is || !b.Second(into[1]) {
				t.Fatalf("%#x: %#x, %v", r, got, is)
			}
		}
	}
}

// P8.2, R2: what is answered is the caller's.
func TestAnswersAreTheCallers(t *testing.T) {
	b := mustNew(t, "C9;E;Lu;0;;45 301\nFB01;f;Ll;0;;<compat> 66 69", "")
	for _, r := range []rune{0xc9, 0xfb01, 0xac00} {
		_, into := b.Decomp(r)
		want := slices.Clone(into)
		clear(into)
		_ = append(into[:1], 9)
		if _, again := b.Decomp(r); !slices.Equal(again, want) {
			t.Errorf("%#x: %#x, not %#x", r, again, want)
		}
	}
	if r, is := b.Pair(0x45, 0x301); r != 0xc9 || !is {
		t.Error(r, is)
	}
	if got := flat(b); !slices.Equal(got, []rune{0xc9, 0x45, 0x301}) {
		t.Errorf("%#x", got)
	}
}

// P8.1, R3: two bases do not hang on each other.
func TestBasesStandAlone(t *testing.T) {
	a := mustNew(t, "41;a;b;0;;61 62\n62;a;b;5;;", "")
	b := mustNew(t, "42;a;b;0;;61 62\n61;a;b;0;;", "")
	if x, _ := a.Pair(0x61, 0x62); x != 0x41 || a.Class(0x62) != 5 {
		t.Error(x)
	}
	if x, _ := b.Pair(0x61, 0x62); x != 0x42 || b.Class(0x62) != 0 {
		t.Error(x)
	}
}
