package decomp_test

import (
	"fmt"
	"math"
	"slices"
	"strings"
	"testing"

	"inkhorn/api"
	"inkhorn/base"
	"inkhorn/decomp"
	"inkhorn/hangul"
)

// char is what a test tells of a character.
type char struct {
	class int
	kind  string
	into  []rune
}

// told is what a test tells of characters.
type told map[rune]char

// base is a base to which just this is told.
func (o told) base(t testing.TB) *base.Base {
	t.Helper()
	var chars []rune
	for r := range o {
		chars = append(chars, r)
	}
	slices.Sort(chars)
	var lines []string
	for _, r := range chars {
		c := o[r]
		var into []string
		if c.kind != "" {
			into = append(into, "<"+c.kind+">")
		}
		for _, x := range c.into {
			into = append(into, fmt.Sprintf("%04X", x))
		}
		lines = append(lines, fmt.Sprintf("%04X;A;Lu;%d;;%s", r, c.class, strings.Join(into, " ")))
	}
	b, e := base.New(strings.Join(lines, "\n"), "")
	if e != api.OK {
		t.Fatal("a base that is none:", int(e))
	}
	return b
}

// step is a character parted once, or nothing, if it is not.
func (o told) step(compat bool, r rune) []rune {
	if a, b, is := hangul.Split(r); is {
		return []rune{a, b}
	}
	if c := o[r]; c.kind == "" || compat {
		return c.into
	}
	return nil
}

// parted is characters of which the first one that can be parted is parted, again and again.
func (o told) parted(compat bool, l []rune) []rune {
	l = slices.Clone(l)
	for i := 0; i < len(l); {
		if into := o.step(compat, l[i]); len(into) > 0 {
			l = slices.Concat(l[:i], into, l[i+1:])
		} else {
			i++
		}
	}
	return l
}

// wrong tells whether a mark stands at a place, right behind one of a greater class.
func (o told) wrong(l []rune, i int) bool {
	if i == 0 {
		return false
	}
	class := o[l[i]].class
	return class > 0 && o[l[i-1]].class > class
}

// inOrder tells whether there is no such place.
func (o told) inOrder(l []rune) bool {
	for i := range l {
		if o.wrong(l, i) {
			return false
		}
	}
	return true
}

// ordered is characters of which two marks in wrong order change places, till there are none.
func (o told) ordered(l []rune) []rune {
	l = slices.Clone(l)
	for i := 0; i < len(l); {
		if o.wrong(l, i) {
			l[i-1], l[i] = l[i], l[i-1]
			i--
		} else {
			i++
		}
	}
	return l
}

// runs is characters with a cut ahead of each that is no mark.
func (o told) runs(l []rune) [][]rune {
	var runs [][]rune
	for i, r := range l {
		if i == 0 || o[r].class == 0 {
			runs = append(runs, nil)
		}
		runs[len(runs)-1] = append(runs[len(runs)-1], r)
	}
	return runs
}

func sameLists(a, b [][]rune) bool { return slices.EqualFunc(a, b, slices.Equal[[]rune]) }

// check holds every call at a list against the document's words.
func (o told) check(t *testing.T, b *base.Base, l []rune) {
	t.Helper()
	was := slices.Clone(l)
	if got, want := decomp.Order(b, l...), o.ordered(l); !slices.Equal(got, want) {
		t.Fatalf("Order of %#x: %#x, not %#x", l, got, want)
	}
	if got, want := decomp.Ordered(b, l...), o.inOrder(l); got != want {
		t.Fatalf("Ordered of %#x: %v", l, got)
	}
	if got, want := decomp.Runs(b, l...), o.runs(l); !sameLists(got, want) {
		t.Fatalf("Runs of %#x: %#x, not %#x", l, got, want)
	}
	for _, compat := range []bool{false, true} {
		parted := o.parted(compat, l)
		if got, want := decomp.Full(b, compat, l...), o.ordered(parted); !slices.Equal(got, want) {
			t.Fatalf("Full(%v) of %#x: %#x, not %#x", compat, l, got, want)
		}
		if len(l) != 1 {
			continue
		}
		if got := decomp.One(b, compat, l[0]); !slices.Equal(got, parted) {
			t.Fatalf("One(%v) of %#x: %#x, not %#x", compat, l[0], got, parted)
		}
	}
	if !slices.Equal(l, was) {
		t.Fatalf("%#x is %#x now", was, l)
	}
}

// follow holds what follows against a list.
func (o told) follow(t *testing.T, b *base.Base, l []rune) {
	t.Helper()
	order := decomp.Order(b, l...)
	if !slices.Equal(slices.Sorted(slices.Values(order)), slices.Sorted(slices.Values(l))) {
		t.Fatalf("Order of %#x has others: %#x", l, order)
	}
	for i, r := range l {
		if (o[r].class == 0 || o[order[i]].class == 0) && order[i] != r {
			t.Fatalf("Order of %#x moves what is no mark: %#x", l, order)
		}
	}
	if !decomp.Ordered(b, order...) || decomp.Ordered(b, l...) != slices.Equal(order, l) {
		t.Fatalf("Order of %#x: %#x", l, order)
	}
	runs := decomp.Runs(b, l...)
	if !slices.Equal(slices.Concat(runs...), l) {
		t.Fatalf("Runs of %#x: %#x", l, runs)
	}
	for _, compat := range []bool{false, true} {
		full := decomp.Full(b, compat, l...)
		if again := decomp.Full(b, compat, full...); !slices.Equal(again, full) || !decomp.Ordered(b, full...) {
			t.Fatalf("Full of Full of %#x: %#x, not %#x", l, again, full)
		}
	}
}

// fullOfRuns is Full of each run, one behind the other.
func fullOfRuns(b *base.Base, compat bool, l []rune) []rune {
	var full []rune
	for _, run := range decomp.Runs(b, l...) {
		full = append(full, decomp.Full(b, compat, run...)...)
	}
	return full
}

// lists calls back with all lists of up to so many of some characters.
func lists(chars []rune, most int, each func(l []rune)) {
	var longer func(l []rune)
	longer = func(l []rune) {
		each(l)
		if len(l) == most {
			return
		}
		for _, r := range chars {
			longer(append(l[:len(l):len(l)], r))
		}
	}
	longer(nil)
}

// Characters of the tests: two others, marks of four classes, and such as are parted, into others, marks or both, in either way.
const (
	other, letter                 = 0x41, 0x66
	low, mid, mid2, high, highest = 0x327, 0x323, 0x324, 0x300, 0x345
	first, double, deep           = 0xc0, 0xd5, 0x1ea6
	ligature, both, oneWay        = 0xfb01, 0xfb02, 0xfb03
	markParted, twoMarks, markOut = 0x340, 0x344, 0x346
	syllable                      = 0xac01
)

var some = told{
	low: {class: 1}, mid: {class: 220}, mid2: {class: 220}, high: {class: 230}, highest: {class: 254},
	first:      {into: []rune{other, high}},
	double:     {into: []rune{first, mid}},
	deep:       {into: []rune{double, low}},
	ligature:   {kind: "compat", into: []rune{letter, first}},
	both:       {into: []rune{ligature, mid}},
	oneWay:     {kind: "a", into: []rune{high, both, syllable}},
	markParted: {class: 230, into: []rune{high}},
	twoMarks:   {class: 230, into: []rune{high, mid}},
	markOut:    {class: 220, into: []rune{letter, low}},
}

// P9.1, P9.2: the document's examples.
func TestExamples(t *testing.T) {
	b := told{0xc0: {into: []rune{0x41, 0x300}}, 0x323: {class: 220}, 0x300: {class: 230}}.base(t)
	if got := decomp.Full(b, false, 0xc0, 0x323); !slices.Equal(got, []rune{0x41, 0x323, 0x300}) {
		t.Errorf("%#x", got)
	}
	if got := decomp.Runs(b, 0x41, 0x300, 0x42); !sameLists(got, [][]rune{{0x41, 0x300}, {0x42}}) {
		t.Errorf("%#x", got)
	}
}

// P9.1: into what each of some characters is parted.
func TestOne(t *testing.T) {
	b := some.base(t)
	for i, c := range []struct {
		r            rune
		canon, whole []rune
	}{
		{other, []rune{other}, []rune{other}},
		{high, []rune{high}, []rune{high}},
		{first, []rune{other, high}, []rune{other, high}},
		{double, []rune{other, high, mid}, []rune{other, high, mid}}, // One puts nothing in order
		{deep, []rune{other, high, mid, low}, []rune{other, high, mid, low}},
		{ligature, []rune{ligature}, []rune{letter, other, high}},
		{both, []rune{ligature, mid}, []rune{letter, other, high, mid}},
		{oneWay, []rune{oneWay}, []rune{high, letter, other, high, mid, 0x1100, 0x1161, 0x11a8}},
		{markParted, []rune{high}, []rune{high}},
		{twoMarks, []rune{high, mid}, []rune{high, mid}},
		{syllable, []rune{0x1100, 0x1161, 0x11a8}, []rune{0x1100, 0x1161, 0x11a8}},
		{0xac00, []rune{0x1100, 0x1161}, []rune{0x1100, 0x1161}},
	} {
		if got := decomp.One(b, false, c.r); !slices.Equal(got, c.canon) {
			t.Errorf("%d: %#x", i, got)
		}
		if got := decomp.One(b, true, c.r); !slices.Equal(got, c.whole) {
			t.Errorf("%d: %#x", i, got)
		}
	}
}

// P9.1, P9.2, P9.3: all short lists of characters that are not parted.
func TestListsOfMarks(t *testing.T) {
	b := some.base(t)
	lists([]rune{other, letter, low, mid, mid2, high}, 6, func(l []rune) {
		some.check(t, b, l)
		some.follow(t, b, l)
		if got, want := fullOfRuns(b, false, l), decomp.Full(b, false, l...); !slices.Equal(got, want) {
			t.Fatalf("Full of the runs of %#x: %#x, not %#x", l, got, want)
		}
	})
}

// P9.1, P9.2, P9.3: all short lists of characters of which many are parted.
func TestListsOfParted(t *testing.T) {
	b := some.base(t)
	chars := []rune{other, low, mid, high, highest, first, double, deep, ligature, both, oneWay, markParted, twoMarks, markOut, syllable, 0x11a8}
	lists(chars, 4, func(l []rune) {
		some.check(t, b, l)
		some.follow(t, b, l)
	})
}

// P9.3: Full of runs, one behind the other, is Full of all, where what is no mark is parted into one that is none, first of all.
func TestFullOfRuns(t *testing.T) {
	b := some.base(t)
	lists([]rune{other, low, mid, high, first, double, deep, ligature, both, twoMarks, markOut, syllable}, 4, func(l []rune) {
		for _, compat := range []bool{false, true} {
			if got, want := fullOfRuns(b, compat, l), decomp.Full(b, compat, l...); !slices.Equal(got, want) {
				t.Fatalf("Full(%v) of the runs of %#x: %#x, not %#x", compat, l, got, want)
			}
		}
	})
}

// P9.1, P9.2: every class in a row of marks, falling, rising and mixed, several of each.
func TestEveryClass(t *testing.T) {
	o := told{}
	var rising []rune
	for class := 1; class <= 254; class++ {
		for i := range rune(3) {
			r := 0x10000 + 3*rune(class) + i
			o[r] = char{class: class}
			rising = append(rising, r)
		}
	}
	b := o.base(t)
	falling := slices.Clone(rising)
	slices.Reverse(falling)
	var mixed []rune
	for i := range rising {
		mixed = append(mixed, rising[i*101%len(rising)])
	}
	for _, l := range [][]rune{rising, falling, mixed, slices.Concat(mixed, []rune{0x41}, falling, []rune{0x41, 0x42}, rising)} {
		o.check(t, b, l)
		o.follow(t, b, l)
	}
}

// P9.1: each class stands behind all that are less, and ahead of all that are greater.
func TestTwoClasses(t *testing.T) {
	o := told{}
	for class := range rune(255) {
		o[0x10000+class] = char{class: int(class)}
	}
	b := o.base(t)
	for x := range rune(255) {
		for y := range rune(255) {
			l := []rune{0x10000 + x, 0x10000 + y}
			want := slices.Clone(l)
			if 0 < y && y < x {
				slices.Reverse(want)
			}
			if got := decomp.Order(b, l...); !slices.Equal(got, want) || decomp.Ordered(b, l...) != slices.Equal(l, want) {
				t.Fatalf("%d, %d: %#x", x, y, got)
			}
		}
	}
}

// P9.1, P9.2, P9.3: texts of the greatest length, of marks alone too, which no one puts in order one by one in time.
func TestLong(t *testing.T) {
	o := told{}
	for class := rune(1); class <= 254; class++ {
		o[0x10000+class] = char{class: int(class)}
	}
	b := o.base(t)
	marks := make([]rune, api.MaxText)
	others := make([]rune, api.MaxText)
	for i := range marks {
		marks[i] = 0x10000 + 254 - rune(i%254)
		others[i] = 0x41 + rune(i%2)
	}
	sorted := slices.Sorted(slices.Values(marks))
	if got := decomp.Full(b, true, marks...); !slices.Equal(got, sorted) {
		t.Error("marks are not in order")
	}
	if got := decomp.Runs(b, marks...); !sameLists(got, [][]rune{marks}) {
		t.Error("marks are cut")
	}
	if decomp.Ordered(b, marks...) || !decomp.Ordered(b, sorted...) {
		t.Error("Ordered of marks")
	}
	if got := decomp.Full(b, true, others...); !slices.Equal(got, others) {
		t.Error("others are moved")
	}
	runs := decomp.Runs(b, others...)
	if len(runs) != len(others) || !slices.Equal(slices.Concat(runs...), others) || !decomp.Ordered(b, others...) {
		t.Error("others are not cut")
	}
}

// P9.1: as many in a chain as a file has lines, at the end of which one is parted into as many as may be.
func TestChains(t *testing.T) {
	const from, rows = 0x10000, api.MaxRows
	o := told{}
	for i := range rune(rows) {
		o[from+i] = char{into: []rune{from + i + 1}}
	}
	var parts []rune
	for range api.MaxDeep {
		parts = append(parts, 0x41)
	}
	o[from+rows-1] = char{kind: "x", into: parts}
	b := o.base(t)
	if got := decomp.One(b, false, from); !slices.Equal(got, []rune{from + rows - 1}) {
		t.Errorf("%#x", got)
	}
	if got := decomp.One(b, true, from); !slices.Equal(got, parts) {
		t.Errorf("%#x", got)
	}
	l := make([]rune, api.MaxText)
	for i := range l {
		l[i] = from + rune(i)%rows
	}
	if got := decomp.Full(b, true, l...); !slices.Equal(got, slices.Repeat(parts, len(l))) {
		t.Error("not all of a long text")
	}
	if got := decomp.Full(b, false, l...); !slices.Equal(got, slices.Repeat([]rune{from + rows - 1}, len(l))) {
		t.Error("not all of a long text")
	}
}

// P9.1: characters that come again and again, each of which leads to the next one twice.
func TestFolds(t *testing.T) {
	o := told{}
	want := []rune{0x41}
	for i := range rune(4) {
		o[0x100-i] = char{into: []rune{0x100 - i - 1, 0x100 - i - 1}}
		want = append(want, want...)
	}
	o[0x100-4] = char{kind: "x", into: []rune{0x41}}
	b := o.base(t)
	if got := decomp.One(b, true, 0x100); !slices.Equal(got, want) {
		t.Errorf("%#x", got)
	}
	if got := decomp.Full(b, true, 0x100, 0xff, 0x100); !slices.Equal(got, slices.Repeat([]rune{0x41}, 40)) {
		t.Errorf("%#x", got)
	}
	if got := decomp.Full(b, false, 0xff, 0xfd); !slices.Equal(got, slices.Repeat([]rune{0xfc}, 10)) {
		t.Errorf("%#x", got)
	}
}

// P9.1, P9.2: every syllable, of any base.
func TestSyllables(t *testing.T) {
	for _, b := range []*base.Base{nil, some.base(t)} {
		for r := rune(0xac00 - 1); r <= 0xd7a3+1; r++ {
			want := hangul.Parts(r)
			for _, compat := range []bool{false, true} {
				if got := decomp.One(b, compat, r); !slices.Equal(got, want) {
					t.Fatalf("%#x: %#x", r, got)
				}
				if got := decomp.Full(b, compat, 0x41, r, r); !slices.Equal(got, slices.Concat([]rune{0x41}, want, want)) {
					t.Fatalf("%#x: %#x", r, got)
				}
			}
		}
	}
}

// odd is numbers that are no characters, and the edges beside them.
var odd = []rune{math.MinInt32, -1, 0, 0xd7ff, 0xd800, 0xdfff, 0xe000, api.MaxRune, api.MaxRune + 1, math.MaxInt32}

// P9.1, P9.2, P9.3: numbers that are no characters stand alone.
func TestNoCharacters(t *testing.T) {
	b := some.base(t)
	for _, r := range odd {
		some.check(t, b, []rune{r})
	}
	lists(append(slices.Clone(odd), mid, high), 3, func(l []rune) {
		some.check(t, b, l)
		some.follow(t, b, l)
	})
}

// P9.1, P9.2, P9.3: a base that is none knows no marks, and parts nothing but syllables.
func TestNil(t *testing.T) {
	for _, b := range []*base.Base{nil, told{}.base(t)} {
		lists(append(slices.Clone(odd), mid, high, first, ligature, syllable, 0xac00), 3, func(l []rune) {
			told{}.check(t, b, l)
			told{}.follow(t, b, l)
		})
	}
}

// P9.1, P9.2: of no characters there is nothing, and it is in order.
func TestNothing(t *testing.T) {
	for _, b := range []*base.Base{nil, some.base(t)} {
		if len(decomp.Order(b)) > 0 || len(decomp.Full(b, false)) > 0 || len(decomp.Full(b, true)) > 0 || len(decomp.Runs(b)) > 0 || !decomp.Ordered(b) {
			t.Error("something of nothing")
		}
	}
}

// R2: what is handed in is not written into, nor what stands behind it.
func TestArgumentsStay(t *testing.T) {
	b := some.base(t)
	all := []rune{high, mid, double, high, low, highest, mid, low, other}
	was := slices.Clone(all)
	for n := range all {
		l := all[:n]
		_ = append(decomp.Order(b, l...), 1)
		_ = append(decomp.Full(b, true, l...), 1)
		for _, run := range decomp.Runs(b, l...) {
			_ = append(run, 1)
			clear(run)
		}
		clear(decomp.Order(b, l...))
		clear(decomp.Full(b, true, l...))
		if !slices.Equal(all, was) {
			t.Fatalf("%d: %#x, not %#x", n, all, was)
		}
	}
	ordered := []rune{0x41, low, mid, 0x42}
	clear(decomp.Order(b, ordered...))
	if !slices.Equal(ordered, []rune{0x41, low, mid, 0x42}) {
		t.Errorf("%#x", ordered)
	}
}

// R2: what is answered is the caller's, and no two lists share anything.
func TestAnswersAreTheCallers(t *testing.T) {
	b := some.base(t)
	for _, r := range []rune{other, first, deep, ligature, oneWay, syllable} {
		got := decomp.One(b, true, r)
		want := slices.Clone(got)
		clear(got)
		_ = append(got[:1], 9)
		if again := decomp.One(b, true, r); !slices.Equal(again, want) {
			t.Errorf("%#x: %#x, not %#x", r, again, want)
		}
	}
	runs := decomp.Runs(b, high, other, mid, letter, low)
	for i := range runs {
		_ = append(runs[i], 9)
		clear(runs[i][:cap(runs[i])])
		for _, run := range runs[i+1:] {
			if slices.Contains(run, 0) {
				t.Fatalf("%#x", runs)
			}
		}
	}
}
