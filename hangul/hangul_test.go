package hangul_test

import (
	"math"
	"slices"
	"testing"

	"inkhorn/api"
	"inkhorn/hangul"
)

// syllable is what the document's words say of one; the tail is 0 if there is none.
type syllable struct{ r, bare, lead, vowel, tail rune }

// allSyllables is reckoned by the document's words, for each lead, vowel and tail, or none.
func allSyllables() []syllable {
	var l []syllable
	for i := rune(0); i < 19; i++ {
		for j := rune(0); j < 21; j++ {
			bare := 0xac00 + 588*i + 28*j
			l = append(l, syllable{bare, bare, 0x1100 + i, 0x1161 + j, 0})
			for k := rune(1); k <= 27; k++ {
				l = append(l, syllable{bare + k, bare, 0x1100 + i, 0x1161 + j, 0x11a8 + k - 1})
			}
		}
	}
	return l
}

// pairsThatJoin is the two that each syllable is split into.
func pairsThatJoin() map[[2]rune]rune {
	m := map[[2]rune]rune{}
	for _, s := range allSyllables() {
		a, b := s.two()
		m[[2]rune{a, b}] = s.r
	}
	return m
}

func (s syllable) two() (a, b rune) {
	if s.tail == 0 {
		return s.lead, s.vowel
	}
	return s.bare, s.tail
}

func (s syllable) full() []rune {
	if s.tail == 0 {
		return []rune{s.lead, s.vowel}
	}
	return []rune{s.lead, s.vowel, s.tail}
}

func checkSplit(t *testing.T, r, a, b rune, is bool) {
	t.Helper()
	if x, y, got := hangul.Split(r); x != a || y != b || got != is {
		t.Fatalf("Split(%#x): %#x, %#x, %v, not %#x, %#x, %v", r, x, y, got, a, b, is)
	}
	if got := hangul.Is(r); got != is {
		t.Fatalf("Is(%#x): %v", r, got)
	}
}

func checkJoin(t *testing.T, a, b, want rune, is bool) {
	t.Helper()
	if got, ok := hangul.Join(a, b); got != want || ok != is {
		t.Fatalf("Join(%#x, %#x): %#x, %v, not %#x, %v", a, b, got, ok, want, is)
	}
}

func checkList(t *testing.T, what string, of, got, want []rune) {
	t.Helper()
	if !slices.Equal(got, want) {
		t.Fatalf("%s of %#x: %#x, not %#x", what, of, got, want)
	}
}

// P7.1, P7.2: the document's examples.
func TestExamples(t *testing.T) {
	checkSplit(t, 0xac01, 0xac00, 0x11a8, true)
	checkJoin(t, 0x1112, 0x1175, 0xd788, true)
	checkList(t, "Full", []rune{0xd7a3}, hangul.Full(0xd7a3), []rune{0x1112, 0x1175, 0x11c2})
}

// P7.1, P7.2, P7.3: every syllable, there and back.
func TestEverySyllable(t *testing.T) {
	all := allSyllables()
	if len(all) != 0xd7a3-0xac00+1 || all[0].r != 0xac00 || all[len(all)-1].r != 0xd7a3 {
		t.Fatal("not the document's syllables")
	}
	for _, s := range all {
		a, b := s.two()
		checkSplit(t, s.r, a, b, true)
		checkJoin(t, a, b, s.r, true)
		l := []rune{s.r}
		checkList(t, "Full", l, hangul.Full(s.r), s.full())
		checkList(t, "Parts", l, hangul.Parts(s.r), s.full())
		checkList(t, "Syllables", s.full(), hangul.Syllables(s.full()...), l)
		checkList(t, "Syllables", []rune{a, b}, hangul.Syllables(a, b), l)
		checkList(t, "Syllables", l, hangul.Syllables(s.r), l)
		checkList(t, "Split again and again", l, splitAgain(s.r), s.full())
	}
}

// splitAgain splits a character as long as it can be.
func splitAgain(r rune) []rune {
	a, b, is := hangul.Split(r)
	if !is {
		return []rune{r}
	}
	return append(splitAgain(a), splitAgain(b)...)
}

// P7.1, P7.2: numbers that are no syllables, characters or not.
func TestNoSyllable(t *testing.T) {
	check := func(r rune) {
		checkSplit(t, r, 0, 0, false)
		l := []rune{r}
		checkList(t, "Full", l, hangul.Full(r), nil)
		checkList(t, "Parts", l, hangul.Parts(r), l)
		checkList(t, "Syllables", l, hangul.Syllables(r), l)
	}
	for r := rune(-1000); r <= api.MaxRune+1000; r++ {
		if r < 0xac00 || r > 0xd7a3 {
			check(r)
		}
	}
	for r := int64(math.MinInt32); r <= math.MaxInt32; r += 0x1001 {
		if r < 0xac00 || r > 0xd7a3 {
			check(rune(r))
		}
	}
	check(math.MinInt32)
	check(math.MaxInt32)
}

// strangers is numbers that are neither parts nor syllables, at the edges of these and of all numbers, and such as wrap round.
func strangers() []rune {
	return []rune{
		math.MinInt32, math.MinInt32 + 1, math.MinInt32 + 0x1100, math.MinInt32 + 0xac00, -0xac00, -0x1100, -1, 0, 1, 'a', 0x301,
		0x10ff, 0x1113, 0x1160, 0x1176, 0x11a7, 0x11c3, 0xabff, 0xd7a4, 0xd7ff, 0xd800, 0xdfff, 0xe000, api.Bad,
		api.MaxRune, api.MaxRune + 1, math.MaxInt32 - 1, math.MaxInt32,
	}
}

// P7.1: all pairs of numbers at and about parts and syllables.
func TestEveryPair(t *testing.T) {
	var first, second []rune
	for r := rune(0x10f0); r <= 0x1210; r++ {
		first, second = append(first, r), append(second, r)
	}
	for r := rune(0xabf0); r <= 0xd7b0; r++ {
		first = append(first, r)
	}
	first, second = append(first, strangers()...), append(second, strangers()...)
	second = append(second, 0xac00, 0xac01, 0xac1b, 0xac1c, 0xd788, 0xd7a3)
	pairs := pairsThatJoin()
	for _, a := range first {
		for _, b := range second {
			want, is := pairs[[2]rune{a, b}]
			checkJoin(t, a, b, want, is)
		}
	}
}

// P7.3: what Join makes is split into the two again.
func TestSplitOfJoin(t *testing.T) {
	n := 0
	for a := rune(0x1000); a <= 0xd800; a++ {
		for b := rune(0x1150); b <= 0x11d0; b++ {
			if r, is := hangul.Join(a, b); is {
				checkSplit(t, r, a, b, true)
				n++
			}
		}
	}
	if n != 19*21*28 {
		t.Error(n, "pairs that join")
	}
}

// P7.2: what the document's words say of some texts.
func TestTexts(t *testing.T) {
	type runes = []rune
	for _, c := range []struct{ l, parts, syllables runes }{
		{nil, nil, nil},
		{runes{'a'}, runes{'a'}, runes{'a'}},
		{runes{'a', 0xac01, 'b'}, runes{'a', 0x1100, 0x1161, 0x11a8, 'b'}, runes{'a', 0xac01, 'b'}},
		{runes{0xac00, 0xac01}, runes{0x1100, 0x1161, 0x1100, 0x1161, 0x11a8}, runes{0xac00, 0xac01}},
		{runes{0x1100, 0x1161}, runes{0x1100, 0x1161}, runes{0xac00}},
		{runes{0x1100, 0x1161, 0x11a8}, runes{0x1100, 0x1161, 0x11a8}, runes{0xac01}},
		{runes{0x1100, 0x1161, 0x11a8, 0x11a8}, runes{0x1100, 0x1161, 0x11a8, 0x11a8}, runes{0xac01, 0x11a8}},
		{runes{0x1100, 0x1161, 0x1161}, runes{0x1100, 0x1161, 0x1161}, runes{0xac00, 0x1161}},
		{runes{0x1100, 0x1100, 0x1161}, runes{0x1100, 0x1100, 0x1161}, runes{0x1100, 0xac00}},
		{runes{0x1100, 'a', 0x1161}, runes{0x1100, 'a', 0x1161}, runes{0x1100, 'a', 0x1161}},
		{runes{0x1100, 0x301, 0x1161}, runes{0x1100, 0x301, 0x1161}, runes{0x1100, 0x301, 0x1161}},
		{runes{0x1161, 0x1100}, runes{0x1161, 0x1100}, runes{0x1161, 0x1100}},
		{runes{0xac00, 0x11a8, 0x1100}, runes{0x1100, 0x1161, 0x11a8, 0x1100}, runes{0xac01, 0x1100}},
		{runes{0xac01, 0x11a8}, runes{0x1100, 0x1161, 0x11a8, 0x11a8}, runes{0xac01, 0x11a8}},
		{runes{0xac00, 0x11a7}, runes{0x1100, 0x1161, 0x11a7}, runes{0xac00, 0x11a7}},
		{runes{0xac00, 0x1161}, runes{0x1100, 0x1161, 0x1161}, runes{0xac00, 0x1161}},
		{runes{0x1112, 0x1175, 0x11c2, 0x1112, 0x1175}, runes{0x1112, 0x1175, 0x11c2, 0x1112, 0x1175}, runes{0xd7a3, 0xd788}},
		{runes{0x1113, 0x1161, 0x1100, 0x1176, -1, 0x110000}, runes{0x1113, 0x1161, 0x1100, 0x1176, -1, 0x110000}, runes{0x1113, 0x1161, 0x1100, 0x1176, -1, 0x110000}},
	} {
		checkList(t, "Parts", c.l, hangul.Parts(c.l...), c.parts)
		checkList(t, "Syllables", c.l, hangul.Syllables(c.l...), c.syllables)
	}
}

// partsAsTold is the document's words on Parts.
func partsAsTold(l []rune, all []syllable) []rune {
	var out []rune
	for _, r := range l {
		if i := int(r) - 0xac00; 0 <= i && i < len(all) {
			out = append(out, all[i].full()...)
		} else {
			out = append(out, r)
		}
	}
	return out
}

// syllablesAsTold is the document's words on Syllables.
func syllablesAsTold(l []rune, pairs map[[2]rune]rune) []rune {
	if len(l) == 0 {
		return nil
	}
	there := syllablesAsTold(l[:len(l)-1], pairs)
	next := l[len(l)-1]
	if len(there) > 0 {
		head := there[:len(there)-1]
		if made, is := pairs[[2]rune{there[len(there)-1], next}]; is {
			return append(head, made)
		}
	}
	return append(there, next)
}

// eachText calls f with all texts of some characters that are no longer than most.
func eachText(most int, of []rune, f func(l []rune)) {
	var from func(l []rune)
	from = func(l []rune) {
		f(l)
		if len(l) == most {
			return
		}
		for _, r := range of {
			from(append(slices.Clone(l), r))
		}
	}
	from(nil)
}

// P7.2, P7.3: all short texts of parts, syllables and strangers.
func TestEveryText(t *testing.T) {
	all, pairs := allSyllables(), pairsThatJoin()
	check := func(l []rune) {
		parts, syllables := hangul.Parts(l...), hangul.Syllables(l...)
		checkList(t, "Parts", l, parts, partsAsTold(l, all))
		checkList(t, "Syllables", l, syllables, syllablesAsTold(l, pairs))
		checkList(t, "Parts of Syllables", l, hangul.Parts(syllables...), parts)
	}
	eachText(5, []rune{0x1100, 0x1112, 0x1161, 0x1175, 0x11a8, 0x11c2, 0xac00, 0xac01, 'a'}, check)
	eachText(3, append(strangers(), 0x1100, 0x1105, 0x1112, 0x1161, 0x1170, 0x1175, 0x11a8, 0x11b0, 0x11c2, 0xac00, 0xac01, 0xac1b, 0xac1c, 0xb000, 0xd788, 0xd7a3), check)
}

// P7.3: Syllables of Parts of syllables alone is them.
func TestSyllablesOfParts(t *testing.T) {
	var long []rune
	for _, s := range allSyllables() {
		long = append(long, s.r)
	}
	checkList(t, "Syllables of Parts", nil, hangul.Syllables(hangul.Parts(long...)...), long)
	slices.Reverse(long)
	checkList(t, "Syllables of Parts", nil, hangul.Syllables(hangul.Parts(long...)...), long)
	some := []rune{0xac00, 0xac01, 0xac1b, 0xac1c, 0xac37, 0xae4c, 0xb000, 0xd788, 0xd789, 0xd7a3}
	eachText(4, some, func(l []rune) {
		checkList(t, "Syllables of Parts", l, hangul.Syllables(hangul.Parts(l...)...), l)
	})
}

// R2: what is handed in is not written into, nor what stands behind it, and what is answered is the caller's.
func TestMemory(t *testing.T) {
	whole := []rune{0x1100, 0x1161, 0x11a8, 0xac00, 0x11a8, 'a', 0x1161, 0x11a8}
	given := slices.Clone(whole)
	for n := range len(given) + 1 {
		for _, f := range []func(...rune) []rune{hangul.Parts, hangul.Syllables} {
			a, b := f(given[:n]...), f(given[:n]...)
			for i := range a[:cap(a)] {
				a[:cap(a)][i] = -7
			}
			checkList(t, "what was handed in", whole, given, whole)
			if slices.Contains(b, -7) {
				t.Fatalf("two answers share: %#x", b)
			}
		}
	}
	for _, s := range []syllable{{0xac00, 0xac00, 0x1100, 0x1161, 0}, {0xd7a3, 0xd788, 0x1112, 0x1175, 0x11c2}} {
		a := hangul.Full(s.r)
		for i := range a[:cap(a)] {
			a[:cap(a)][i] = -7
		}
		checkList(t, "Full", []rune{s.r}, hangul.Full(s.r), s.full())
		x, y := s.two()
		checkSplit(t, s.r, x, y, true)
	}
}
