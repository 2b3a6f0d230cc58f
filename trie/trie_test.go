package trie_test

import (
	"fmt"
	"iter"
	"math"
	"slices"
	"testing"

	"inkhorn/api"
	"inkhorn/trie"
)

// span is a range of numbers, and its value.
type span[T comparable] struct {
	from, to rune
	v        T
}

func list[T comparable](all iter.Seq2[[2]rune, T]) []span[T] {
	var l []span[T]
	for ends, v := range all {
		l = append(l, span[T]{ends[0], ends[1], v})
	}
	return l
}

func set[T comparable](t *testing.T, x *trie.Table[T], l ...span[T]) {
	t.Helper()
	for _, s := range l {
		if e := x.Set(s.from, s.to, s.v); e != api.OK {
			t.Fatalf("Set(%d, %d, %v): %d", s.from, s.to, s.v, int(e))
		}
	}
}

func check[T comparable](t *testing.T, x *trie.Table[T], blocks int, want ...span[T]) {
	t.Helper()
	if l := list(x.All()); !slices.Equal(l, want) {
		t.Errorf("All: %.500s, not %.500s", fmt.Sprint(l), fmt.Sprint(want))
	}
	if n := x.Blocks(); n != blocks {
		t.Errorf("Blocks: %d, not %d", n, blocks)
	}
}

// numbersAtEdges is the numbers at the ends of some ranges and beside them, and at the ends of blocks and of all numbers.
func numbersAtEdges[T comparable](l []span[T]) []rune {
	out := []rune{-1, 0, 255, 256, 0xd7ff, 0xd800, 0xdfff, 0xe000, api.MaxRune, api.MaxRune + 1}
	for _, s := range l {
		out = append(out, s.from-1, s.from, s.from+1, s.to-1, s.to, s.to+1)
	}
	slices.Sort(out)
	return slices.Compact(out)
}

// valueAsTold is what a number has after some Sets: what the last one with the number in it told.
func valueAsTold[T comparable](none T, l []span[T], r rune) T {
	for _, s := range slices.Backward(l) {
		if s.from <= r && r <= s.to {
			return s.v
		}
	}
	return none
}

// rangesAsTold is the document's words on All, from what was set: values change at an end of a range alone.
func rangesAsTold[T comparable](none T, l []span[T]) []span[T] {
	var cuts []rune
	for _, s := range l {
		cuts = append(cuts, s.from, s.to+1)
	}
	slices.Sort(cuts)
	cuts = slices.Compact(cuts)
	var out []span[T]
	for i := 0; i+1 < len(cuts); i++ {
		v := valueAsTold(none, l, cuts[i])
		last := len(out) - 1
		switch {
		case v == none:
		case last >= 0 && out[last].to+1 == cuts[i] && out[last].v == v:
			out[last].to = cuts[i+1] - 1
		default:
			out = append(out, span[T]{cuts[i], cuts[i+1] - 1, v})
		}
	}
	return out
}

func blocksOf[T comparable](l []span[T]) int {
	count, next := 0, rune(0)
	for _, s := range l {
		for n := max(next, s.from>>8); n <= s.to>>8; n++ {
			count, next = count+1, n+1
		}
	}
	return count
}

// checkAsTold holds a table against the Sets that it had.
func checkAsTold[T comparable](t *testing.T, x *trie.Table[T], none T, l []span[T]) {
	t.Helper()
	for _, r := range numbersAtEdges(l) {
		if v, want := x.Get(r), valueAsTold(none, l, r); v != want {
			t.Fatalf("Get(%d) after %v: %v, not %v", r, l, v, want)
		}
	}
	want := rangesAsTold(none, l)
	if got := list(x.All()); !slices.Equal(got, want) {
		t.Fatalf("All after %v: %v, not %v", l, got, want)
	}
	if got := x.Blocks(); got != blocksOf(want) {
		t.Fatalf("Blocks after %v: %d, not %d", l, got, blocksOf(want))
	}
}

// P6.1, P6.2: a table to which nothing was told.
func TestNew(t *testing.T) {
	for _, none := range []int{0, 7, -1} {
		x := trie.New(none)
		check(t, x, 0)
		checkAsTold(t, x, none, nil)
		for r := rune(-1000); r <= api.MaxRune+1000; r++ {
			if v := x.Get(r); v != none {
				t.Fatalf("Get(%d): %d, not %d", r, v, none)
			}
		}
	}
}

// P6.1, P6.2: the document's example.
func TestExample(t *testing.T) {
	x := trie.New(0)
	set(t, x, span[int]{5, 600, 1}, span[int]{300, 310, 0})
	check(t, x, 3, span[int]{5, 299, 1}, span[int]{311, 600, 1})
}

// P6.1: ranges that are none, and numbers that are none; nothing is changed by them.
func TestNoRange(t *testing.T) {
	x := trie.New(9)
	set(t, x, span[int]{0, 10, 1}, span[int]{api.MaxRune - 10, api.MaxRune, 2})
	for _, c := range [][2]rune{
		{-1, 5}, {-1, -1}, {-5, -2}, {-256, 255}, {math.MinInt32, math.MaxInt32}, {math.MinInt32, 0}, {-1, api.MaxRune},
		{5, api.MaxRune + 1}, {0, api.MaxRune + 1}, {api.MaxRune + 1, api.MaxRune + 1}, {0x110000, 0x1100ff}, {5, math.MaxInt32}, {math.MaxInt32, math.MaxInt32},
		{6, 5}, {1, 0}, {256, 255}, {api.MaxRune, 0}, {api.MaxRune, api.MaxRune - 1}, {0, -1}, {math.MaxInt32, math.MinInt32}, {api.MaxRune + 1, 5},
	} {
		for _, v := range []int{3, 9} {
			if e := x.Set(c[0], c[1], v); e != api.ErrRange {
				t.Errorf("Set(%d, %d, %d): %d", c[0], c[1], v, int(e))
			}
			check(t, x, 2, span[int]{0, 10, 1}, span[int]{api.MaxRune - 10, api.MaxRune, 2})
		}
	}
	for _, r := range []rune{-1, -2, -255, -256, -257, math.MinInt32, api.MaxRune + 1, 0x110100, math.MaxInt32} {
		if v := x.Get(r); v != 9 {
			t.Errorf("Get(%d): %d", r, v)
		}
	}
}

// P6.1, P6.2: every number by itself, those that are no characters too.
func TestEveryNumber(t *testing.T) {
	const none = 5
	value := func(r rune) int { return int(r/3)%7 + int(r>>16) } // three of one, so that there is something to join
	x := trie.New(none)
	for r := rune(0); r <= api.MaxRune; r++ {
		set(t, x, span[int]{r, r, value(r)})
	}
	var want []span[int]
	for r := rune(0); r <= api.MaxRune; r++ {
		v, last := value(r), len(want)-1
		if got := x.Get(r); got != v {
			t.Fatalf("Get(%d): %d, not %d", r, got, v)
		}
		switch {
		case v == none:
		case last >= 0 && want[last].to == r-1 && want[last].v == v:
			want[last].to = r
		default:
			want = append(want, span[int]{r, r, v})
		}
	}
	check(t, x, 0x1100, want...)
	set(t, x, span[int]{0, api.MaxRune, 1})
	check(t, x, 0x1100, span[int]{0, api.MaxRune, 1})
	set(t, x, span[int]{1, api.MaxRune - 1, none})
	check(t, x, 2, span[int]{0, 0, 1}, span[int]{api.MaxRune, api.MaxRune, 1})
	set(t, x, span[int]{0, api.MaxRune, none})
	check(t, x, 0)
}

// P6.2: every block, told by its first number, its last one, one within, or all.
func TestEveryBlock(t *testing.T) {
	for n := range rune(0x1100) {
		first := n * 256
		x := trie.New("")
		for _, s := range []span[string]{{first, first, "a"}, {first + 255, first + 255, "a"}, {first + 77, first + 77, "a"}, {first, first + 255, "a"}} {
			set(t, x, s)
			if n := x.Blocks(); n != 1 {
				t.Fatalf("Blocks after %v: %d", s, n)
			}
			for _, r := range []rune{first - 1, first, first + 77, first + 255, first + 256} {
				if v, want := x.Get(r), valueAsTold("", []span[string]{s}, r); v != want {
					t.Fatalf("Get(%d) after %v: %q", r, s, v)
				}
			}
			s.v = ""
			set(t, x, s)
			check(t, x, 0)
		}
	}
}

// someSets is the Sets of all ranges between some numbers, with each of some values.
func someSets[T comparable](edges []rune, values ...T) []span[T] {
	var l []span[T]
	for i, from := range edges {
		for _, to := range edges[i:] {
			for _, v := range values {
				l = append(l, span[T]{from, to, v})
			}
		}
	}
	return l
}

// P6.1, P6.2: the document's words after all two and three Sets of some.
func TestSetsAsTold(t *testing.T) {
	for _, edges := range [][]rune{{0, 255, 256, 511, 512}, {254, 255, 256, 257}, {0x10fe00, 0x10feff, 0x10ff00, api.MaxRune}, {0xd7ff, 0xd800, 0xdfff, 0xe000}} {
		pool := someSets(edges, 0, 1, 2)
		for _, a := range pool {
			ahead := trie.New(0)
			set(t, ahead, a)
			checkAsTold(t, ahead, 0, []span[int]{a})
			for _, b := range pool {
				two := ahead.Copy()
				set(t, two, b)
				checkAsTold(t, two, 0, []span[int]{a, b})
				if len(edges) > 4 {
					continue
				}
				for _, c := range pool {
					three := two.Copy()
					set(t, three, c)
					checkAsTold(t, three, 0, []span[int]{a, b, c})
				}
			}
		}
	}
}

// someOrder is numbers that look like no order, and are always the same.
func someOrder() func(below int) int {
	x := uint32(1)
	return func(below int) int {
		x = x*1664525 + 1013904223
		return int(x>>8) % below
	}
}

// P6.1, P6.2: many Sets, one behind the other, of a table whose none is a value like others.
func TestManySets(t *testing.T) {
	pick := someOrder()
	for range 30 {
		x := trie.New(2)
		var l []span[int]
		for range 60 {
			from := rune(pick(3000))
			s := span[int]{from, from + rune(pick(700)), pick(4)}
			l = append(l, s)
			set(t, x, s)
			checkAsTold(t, x, 2, l)
		}
		for r := rune(-1); r < 4000; r++ {
			if v, want := x.Get(r), valueAsTold(2, l, r); v != want {
				t.Fatalf("Get(%d) after %v: %d, not %d", r, l, v, want)
			}
		}
	}
}

// P6.2: ranges are the longest ones, over the ends of blocks too, and rise, however far they are parted.
func TestAll(t *testing.T) {
	type spans = []span[string]
	for _, c := range []struct {
		sets   spans
		blocks int
		want   spans
	}{
		{nil, 0, nil},
		{spans{{7, 7, ""}}, 0, nil},
		{spans{{0, api.MaxRune, ""}}, 0, nil},
		{spans{{7, 7, "a"}}, 1, spans{{7, 7, "a"}}},
		{spans{{7, 7, "a"}, {8, 8, "a"}}, 1, spans{{7, 8, "a"}}},
		{spans{{7, 7, "a"}, {8, 8, "b"}}, 1, spans{{7, 7, "a"}, {8, 8, "b"}}},
		{spans{{7, 7, "a"}, {9, 9, "a"}}, 1, spans{{7, 7, "a"}, {9, 9, "a"}}},
		{spans{{9, 9, "a"}, {7, 7, "a"}, {8, 8, "a"}}, 1, spans{{7, 9, "a"}}},
		{spans{{255, 255, "a"}, {256, 256, "a"}}, 2, spans{{255, 256, "a"}}},
		{spans{{256, 256, "b"}, {255, 255, "a"}}, 2, spans{{255, 255, "a"}, {256, 256, "b"}}},
		{spans{{255, 255, "a"}, {512, 512, "a"}}, 2, spans{{255, 255, "a"}, {512, 512, "a"}}}, // a block between that tells nothing
		{spans{{0x10ff00, api.MaxRune, "z"}, {0, 0, "a"}, {0x8000, 0x80ff, "m"}}, 3, spans{{0, 0, "a"}, {0x8000, 0x80ff, "m"}, {0x10ff00, api.MaxRune, "z"}}},
		{spans{{0xd000, 0xefff, "s"}}, 32, spans{{0xd000, 0xefff, "s"}}},
		{spans{{5, 600, "a"}, {256, 511, ""}}, 2, spans{{5, 255, "a"}, {512, 600, "a"}}},
		{spans{{5, 600, "a"}, {100, 200, "a"}}, 3, spans{{5, 600, "a"}}},
		{spans{{5, 600, "a"}, {256, 256, "b"}, {256, 256, "a"}}, 3, spans{{5, 600, "a"}}},
		{spans{{0, api.MaxRune, "a"}, {0, 0x10fffe, ""}}, 1, spans{{api.MaxRune, api.MaxRune, "a"}}},
	} {
		x := trie.New("")
		set(t, x, c.sets...)
		check(t, x, c.blocks, c.want...)
	}
	x := trie.New("")
	var want spans
	for n := range rune(0x1100) {
		r := (n*1777%0x1100)*256 + 100 // all blocks, in another order
		set(t, x, span[string]{r, r + 1, "a"})
		want = append(want, span[string]{n*256 + 100, n*256 + 101, "a"})
	}
	check(t, x, 0x1100, want...)
}

// P6.2: what All tells is as it was when All was asked for, ends where it is asked to, and comes again.
func TestAllAsAsked(t *testing.T) {
	x := trie.New(0)
	before := x.All()
	set(t, x, span[int]{1, 2, 1}, span[int]{300, 400, 2}, span[int]{1000, 1000, 3})
	all := x.All()
	set(t, x, span[int]{0, api.MaxRune, 0}, span[int]{301, 301, 9})
	want := []span[int]{{1, 2, 1}, {300, 400, 2}, {1000, 1000, 3}}
	for range 2 {
		if l := list(before); len(l) != 0 {
			t.Error(l)
		}
		if l := list(all); !slices.Equal(l, want) {
			t.Error(l)
		}
	}
	check(t, x, 1, span[int]{301, 301, 9})
	for most := 1; most <= len(want); most++ {
		var l []span[int]
		all(func(ends [2]rune, v int) bool {
			l = append(l, span[int]{ends[0], ends[1], v})
			return len(l) < most
		})
		if !slices.Equal(l, want[:most]) {
			t.Errorf("%v of %d", l, most)
		}
	}
	// Sets while it is gone through.
	set(t, x, want...)
	n := rune(0)
	for ends, v := range x.All() {
		set(t, x, span[int]{ends[0], api.MaxRune, 0}, span[int]{2000 + n, 2000 + n, v})
		n++
	}
	if n != 3 {
		t.Errorf("%d ranges", n)
	}
	check(t, x, 1, span[int]{2002, 2002, 3})
}

// P6.2: a copy is the same, and of its own.
func TestCopy(t *testing.T) {
	x := trie.New(4)
	empty := x.Copy()
	set(t, x, span[int]{5, 600, 1})
	c := x.Copy()
	check(t, c, 3, span[int]{5, 600, 1})
	if c.Get(4) != 4 || c.Get(-1) != 4 || c.Get(256) != 1 || empty.Get(256) != 4 {
		t.Error("Get of a copy")
	}
	set(t, x, span[int]{300, 310, 2}, span[int]{512, 767, 4}, span[int]{0x8000, 0x8000, 3})
	set(t, c, span[int]{0, 255, 4}, span[int]{301, 301, 7})
	check(t, x, 3, span[int]{5, 299, 1}, span[int]{300, 310, 2}, span[int]{311, 511, 1}, span[int]{0x8000, 0x8000, 3})
	check(t, c, 2, span[int]{256, 300, 1}, span[int]{301, 301, 7}, span[int]{302, 600, 1})
	check(t, empty, 0)
	set(t, empty, span[int]{1, 1, 1}, span[int]{2, 2, 4})
	check(t, empty, 1, span[int]{1, 1, 1})
	check(t, c.Copy().Copy(), 2, span[int]{256, 300, 1}, span[int]{301, 301, 7}, span[int]{302, 600, 1})
}

// P6.1, P6.2: calls of a nil table.
func TestNil(t *testing.T) {
	var x *trie.Table[string]
	for _, c := range [][2]rune{{1, 2}, {-1, 2}, {2, 1}, {0, api.MaxRune + 1}} {
		if e := x.Set(c[0], c[1], "a"); e != api.ErrNil {
			t.Error(c, int(e))
		}
	}
	for _, r := range []rune{-1, 0, 'a', api.MaxRune + 1} {
		if v := x.Get(r); v != "" {
			t.Error(r, v)
		}
	}
	if x.All() == nil {
		t.Fatal("a nil iterator")
	}
	check(t, x, 0)
	if x.Copy() != nil {
		t.Error("a copy of nothing")
	}
}

// eachOrder calls f with a list in all its orders.
func eachOrder[T any](l []T, f func([]T)) {
	var from func(i int)
	from = func(i int) {
		if i == len(l) {
			f(l)
			return
		}
		for j := i; j < len(l); j++ {
			l[i], l[j] = l[j], l[i]
			from(i + 1)
			l[i], l[j] = l[j], l[i]
		}
	}
	from(0)
}

// checkOrders sets all ranges of a table into others, in all orders: they are the same.
func checkOrders[T comparable](t *testing.T, x *trie.Table[T], none T) {
	t.Helper()
	want := list(x.All())
	eachOrder(slices.Clone(want), func(l []span[T]) {
		y := trie.New(none)
		set(t, y, l...)
		check(t, y, x.Blocks(), want...)
		for _, r := range numbersAtEdges(want) {
			if x.Get(r) != y.Get(r) {
				t.Fatalf("Get(%d) of %v", r, l)
			}
		}
	})
}

// P6.3: the ranges of a table tell all of it, in whatever order.
func TestRangesTellAll(t *testing.T) {
	x := trie.New(0)
	checkOrders(t, x, 0)
	set(t, x, span[int]{0, 0, 1}, span[int]{5, 600, 1}, span[int]{300, 310, 0}, span[int]{400, 420, 3}, span[int]{api.MaxRune, api.MaxRune, 2})
	checkOrders(t, x, 0)
	pick := someOrder()
	for range 20 {
		x := trie.New(1)
		for range 4 {
			from := rune(pick(0x10f000))
			set(t, x, span[int]{from, from + rune(pick(0x1000)), pick(4)})
		}
		if len(list(x.All())) < 6 {
			checkOrders(t, x, 1)
		}
	}
}

// P6.3: what was set last counts alone.
func TestLastCounts(t *testing.T) {
	pool := someSets([]rune{0, 200, 255, 256, 400, 1000}, 1, 2)
	eachPair := func(f func(a, b span[int])) {
		for _, a := range pool {
			for _, b := range pool {
				f(a, b)
			}
		}
	}
	eachPair(func(a, b span[int]) {
		x := trie.New(0)
		set(t, x, a, span[int]{0, 1000, 0}, b)
		check(t, x, blocksOf([]span[int]{b}), b)
		set(t, x, a, b, span[int]{0, 1000, 1})
		check(t, x, 4, span[int]{0, 1000, 1})
		set(t, x, b, a, span[int]{0, 1000, 0})
		check(t, x, 0)
	})
}

// P6.1, P6.2: values of several types, the zero value told or none.
func TestTypes(t *testing.T) {
	checkType(t, "", "a", "b")
	checkType(t, "a", "", "b")
	checkType(t, uint8(0), 1, 255)
	checkType(t, uint8(255), 0, 1)
	checkType(t, false, true, true)
	checkType(t, true, false, false)
	checkType(t, [2]int{}, [2]int{0, 1}, [2]int{1, 0})
	checkType(t, struct{}{}, struct{}{}, struct{}{})
	checkType(t, span[string]{1, 2, "x"}, span[string]{}, span[string]{1, 2, "y"})
	checkType(t, 0.0, 1.5, math.Inf(1))
	one, two := 1, 1
	checkType(t, nil, &one, &two)
	checkType(t, &one, nil, &two)
	checkType[any](t, nil, 1, "1")
	checkType[any](t, 0, nil, int8(0))
	checkType[error](t, nil, api.ErrArg, api.ErrNil)
}

func checkType[T comparable](t *testing.T, none, a, b T) {
	t.Helper()
	pool := someSets([]rune{0, 255, 256, 300}, none, a, b)
	for _, first := range pool {
		for _, second := range pool {
			x := trie.New(none)
			set(t, x, first, second)
			checkAsTold(t, x, none, []span[T]{first, second})
		}
	}
}

// P6.1, P6.2, R1: values that are never one with another by the language: nothing panics, and what was never told is none.
func TestValuesThatAreNeverOne(t *testing.T) {
	nan := math.NaN()
	x := trie.New(nan)
	check(t, x, 0)
	set(t, x, span[float64]{5, 300, 1})
	check(t, x, 2, span[float64]{5, 300, 1})
	if v := x.Get(4); v == v {
		t.Error(v)
	}
	y := trie.New(0.0)
	set(t, y, span[float64]{5, 6, nan})
	if v := y.Get(5); v == v || y.Get(4) != 0 || y.Blocks() != 1 {
		t.Error(v, y.Get(4), y.Blocks())
	}

	slice := []int{1}
	z := trie.New[any](slice)
	check(t, z, 0)
	set(t, z, span[any]{5, 300, 1}, span[any]{6, 7, slice}, span[any]{8, 9, map[int]int{}})
	if l, ok := z.Get(6).([]int); !ok || !slices.Equal(l, slice) || z.Get(300) != 1 || z.Blocks() != 2 {
		t.Error(z.Get(6), z.Get(300), z.Blocks())
	}
	if n := len(list(z.All())); n != 6 { // 5; 6, 7, 8 and 9, one by one; 10 on
		t.Error(n)
	}
	if c := z.Copy(); c.Get(5) != 1 || c.Blocks() != 2 {
		t.Error(c.Get(5), c.Blocks())
	}
	set(t, z, span[any]{0, api.MaxRune, 2})
	check(t, z, 0x1100, span[any]{0, api.MaxRune, 2})
}
