package stream_test

import (
	"fmt"
	"math"
	"slices"
	"strings"
	"testing"

	"inkhorn/api"
	"inkhorn/stream"
	"inkhorn/utf8"
	"inkhorn/wide"
)

// kinds is all of them.
var kinds = []int{wide.LE16, wide.BE16, wide.LE32, wide.BE32, stream.UTF8}

// noKinds is numbers that are none.
var noKinds = []int{0, -1, 6, 16, 32, math.MinInt, math.MaxInt}

// policies is all of them.
var policies = []int{api.Strict, api.Replace, api.Skip}

// noPolicies is numbers that are none.
var noPolicies = []int{0, -1, 4, math.MinInt, math.MaxInt}

// mark is a kind's, with the bytes that the document gives.
type mark struct {
	s    string
	kind int
}

// marks is in the order in which they are looked for.
var marks = []mark{
	{"\xef\xbb\xbf", stream.UTF8},
	{"\xff\xfe\x00\x00", wide.LE32},
	{"\x00\x00\xfe\xff", wide.BE32},
	{"\xff\xfe", wide.LE16},
	{"\xfe\xff", wide.BE16},
}

// beginnings is the bytes that wait for a mark: fewer than four, and not the mark of three.
var beginnings = []string{"", "\xef", "\xef\xbb", "\xff", "\xff\xfe", "\xff\xfe\x00", "\xfe", "\xfe\xff", "\x00", "\x00\x00", "\x00\x00\xfe"}

// decode is the layer's below.
func decode(kind, policy int, s string) ([]rune, []api.Fault, api.Errno) {
	if kind == stream.UTF8 {
		return utf8.Decode(policy, s)
	}
	return wide.Decode(kind, policy, s)
}

// cut is the layer's below.
func cut(kind int, s string) int {
	if kind == stream.UTF8 {
		return utf8.Cut(s)
	}
	n, _ := wide.Cut(kind, s)
	return n
}

// found is the kind of bytes, and how many of them are a mark.
func found(kind int, guess bool, s string) (int, int) {
	for _, m := range marks {
		if guess && strings.HasPrefix(s, m.s) {
			return m.kind, len(m.s)
		}
	}
	return kind, 0
}

// state is all that a decoder tells, and what the last call answered.
type state struct {
	l      []rune
	e      api.Errno
	faults []api.Fault
	waits  string
	kind   int
	at     int
}

func (a state) equal(b state) bool {
	return slices.Equal(a.l, b.l) && a.e == b.e && slices.Equal(a.faults, b.faults) && a.waits == b.waits && a.kind == b.kind && a.at == b.at
}

func (a state) String() string {
	return fmt.Sprintf("%x, %v, faults %v, waits %x, kind %d, at %d", a.l, a.e, a.faults, a.waits, a.kind, a.at)
}

// stateOf is a decoder's, behind a call.
func stateOf(d *stream.Decoder, l []rune, e api.Errno) state {
	return state{l, e, d.Faults(), d.Waits(), d.Kind(), d.At()}
}

// told is the document's words on a decoder, taken literally: all bytes are kept, and read anew at each part.
type told struct {
	kind, policy int
	guess        bool
	all          string
	answered     int
	over         bool
	last         state
}

// feed is what is told behind one part.
func (w *told) feed(part string) state {
	if w.over {
		w.last.l, w.last.e = nil, api.ErrOver
		return w.last
	}
	w.all += part
	if w.guess && slices.Contains(beginnings, w.all) {
		w.last = state{waits: w.all, kind: w.kind, at: len(w.all)}
		return w.last
	}
	kind, n := found(w.kind, w.guess, w.all)
	return w.read(kind, n, n+cut(kind, w.all[n:]))
}

// close is what is told behind Close.
func (w *told) close() state {
	if w.over {
		w.last.l, w.last.e = nil, api.ErrOver
		return w.last
	}
	kind, n := found(w.kind, w.guess, w.all)
	w.read(kind, n, len(w.all))
	w.over = true
	return w.last
}

// read is what is told of the bytes from a place to another one.
func (w *told) read(kind, from, to int) state {
	l, faults, e := decode(kind, w.policy, w.all[from:to])
	for i := range faults {
		faults[i].At += from
	}
	w.last = state{l[w.answered:], e, faults, w.all[to:], kind, len(w.all)}
	w.answered = len(l)
	if e != api.OK {
		w.over = true
		w.last.waits = ""
	}
	return w.last
}

// samples calls f with all texts of up to n of some bytes.
func samples(from string, n int, f func(s string)) {
	var more func(s string)
	more = func(s string) {
		f(s)
		if len(s) < n {
			for i := range len(from) {
				more(s + from[i:i+1])
			}
		}
	}
	more("")
}

// sampled calls f with texts of bytes at which marks and units turn, and with marks, whole and not, and texts behind them.
func sampled(f func(s string)) {
	samples("\x00A\xbb\xbf\xc3\xd8\xdc\xef\xfe\xff", 3, f)
	samples("\x00A\xbf\xd8\xfe\xff", 4, f)
	for _, m := range marks {
		samples("\x00A\xbf\xd8\xdc\xe2", 2, func(s string) { f(m.s + s) })
		for n := 1; n < len(m.s); n++ {
			samples("\x00A\xbf\xd8\xff", 2, func(s string) { f(m.s[:n] + s) })
		}
	}
	for _, s := range []string{"\x00A\xd8\x3d\xde\x00\xdc", "A\x00\x3d\xd8\x00\xde\x00", "A\x00\x00\x00\x00\xd8\x00", "\x00\x00\x00A\x00\x11\x00", "A\xf0\x9f\x98\x80\xe2\x82", "\xff\xfe\xff\xfe\x00\x00A", "\xef\xbb\xbf\xef\xbb\xbfA"} {
		f(s)
	}
}

// each calls f with every kind, policy and guess.
func each(f func(kind, policy int, guess bool)) {
	for _, kind := range kinds {
		for _, policy := range policies {
			f(kind, policy, false)
			f(kind, policy, true)
		}
	}
}

// parted is bytes, cut behind the byte i if bit i of cuts is set.
func parted(s string, cuts int) []string {
	var l []string
	from := 0
	for i := range len(s) - 1 {
		if cuts>>i&1 == 1 {
			l = append(l, s[from:i+1])
			from = i + 1
		}
	}
	return append(l, s[from:])
}

// opened is a decoder that must be there.
func opened(t *testing.T, kind, policy int, guess bool) *stream.Decoder {
	t.Helper()
	d, e := stream.New(kind, policy, guess)
	if d == nil || e != api.OK {
		t.Fatalf("New(%d, %d, %v): %v %d", kind, policy, guess, d, int(e))
	}
	return d
}

// P3.1: the kinds' numbers are those of the document.
func TestKinds(t *testing.T) {
	if !slices.Equal(kinds, []int{1, 2, 3, 4, 5}) {
		t.Error(kinds)
	}
}

// P3.1: marks of each kind, with bytes behind them and without, not whole, and without a guess.
func TestWholeOfMarks(t *testing.T) {
	for _, c := range []struct {
		kind   int
		guess  bool
		s      string
		l      []rune
		faults []api.Fault
		got    int
	}{
		{stream.UTF8, true, "", nil, nil, stream.UTF8},
		{wide.BE32, true, "", nil, nil, wide.BE32},
		{wide.LE16, true, "\xef\xbb\xbf", nil, nil, stream.UTF8},
		{wide.LE16, true, "\xef\xbb\xbfA\xff", []rune{'A', 0xfffd}, []api.Fault{{At: 4, Len: 1}}, stream.UTF8},
		{stream.UTF8, true, "\xff\xfe", nil, nil, wide.LE16},
		{stream.UTF8, true, "\xff\xfeA\x00", []rune{'A'}, nil, wide.LE16},
		{stream.UTF8, true, "\xff\xfe\x00", []rune{0xfffd}, []api.Fault{{At: 2, Len: 1}}, wide.LE16},
		{stream.UTF8, true, "\xff\xfe\x00A", []rune{0x4100}, nil, wide.LE16},
		{stream.UTF8, true, "\xff\xfe\x00\x00", nil, nil, wide.LE32},
		{stream.UTF8, true, "\xff\xfe\x00\x00A\x00", []rune{0xfffd}, []api.Fault{{At: 4, Len: 2}}, wide.LE32},
		{stream.UTF8, true, "\xff\xfeA\x00\x00\xdcB\x00", []rune{'A', 0xfffd, 'B'}, []api.Fault{{At: 4, Len: 2}}, wide.LE16},
		{wide.LE32, true, "\xfe\xff", nil, nil, wide.BE16},
		{wide.LE32, true, "\xfe\xff\x00\x00", []rune{0}, nil, wide.BE16},
		{wide.LE16, true, "\x00\x00\xfe\xff\x00\x00\x00A", []rune{'A'}, nil, wide.BE32},
		{stream.UTF8, true, "\xef\xbb\xbf\xef\xbb\xbf", []rune{0xfeff}, nil, stream.UTF8}, // a mark behind a mark is a character
		{stream.UTF8, true, "\xff\xfe\xff\xfe\x00\x00", []rune{0xfeff, 0}, nil, wide.LE16},
		{wide.BE16, true, "\xfe\xff\xfe\xff", []rune{0xfeff}, nil, wide.BE16},
		{stream.UTF8, true, "A\xef\xbb\xbf", []rune{'A', 0xfeff}, nil, stream.UTF8},
		{wide.BE16, true, "\x00A\xff\xfe", []rune{'A', 0xfffe}, nil, wide.BE16},
		{stream.UTF8, true, "\xef\xbb", []rune{0xfffd}, []api.Fault{{At: 0, Len: 2}}, stream.UTF8},
		{wide.LE16, true, "\xef\xbb", []rune{0xbbef}, nil, wide.LE16},
		{stream.UTF8, true, "\x00\x00\xfe", []rune{0, 0, 0xfffd}, []api.Fault{{At: 2, Len: 1}}, stream.UTF8},
		{stream.UTF8, false, "\xef\xbb\xbfA", []rune{0xfeff, 'A'}, nil, stream.UTF8},
		{wide.LE16, false, "\xff\xfeA\x00", []rune{0xfeff, 'A'}, nil, wide.LE16},
		{wide.LE16, false, "\xff\xfe\x00\x00", []rune{0xfeff, 0}, nil, wide.LE16},
		{wide.BE16, false, "\xfe\xff", []rune{0xfeff}, nil, wide.BE16},
		{wide.BE16, false, "\xff\xfe", []rune{0xfffe}, nil, wide.BE16},
		{wide.LE32, false, "\xff\xfe\x00\x00", []rune{0xfeff}, nil, wide.LE32},
		{wide.BE32, false, "\x00\x00\xfe\xff", []rune{0xfeff}, nil, wide.BE32},
		{stream.UTF8, false, "\xff\xfe", []rune{0xfffd, 0xfffd}, []api.Fault{{At: 0, Len: 1}, {At: 1, Len: 1}}, stream.UTF8},
		{wide.BE16, false, "\xef\xbb\xbf", []rune{0xefbb, 0xfffd}, []api.Fault{{At: 2, Len: 1}}, wide.BE16},
	} {
		l, faults, kind, e := stream.Whole(c.kind, api.Replace, c.guess, c.s)
		if !slices.Equal(l, c.l) || !slices.Equal(faults, c.faults) || kind != c.got || e != api.OK {
			t.Errorf("Whole(%d, Replace, %v, %x): %x %v %d %d", c.kind, c.guess, c.s, l, faults, kind, int(e))
		}
	}
}

// P3.1: malformed units by each policy; of Strict the characters ahead, the unit and the kind stand beside ErrBad.
func TestWholeByPolicies(t *testing.T) {
	for _, c := range []struct {
		policy int
		guess  bool
		l      []rune
		faults []api.Fault
		kind   int
		e      api.Errno
	}{
		{api.Strict, true, []rune{'A'}, []api.Fault{{At: 4, Len: 2}}, wide.BE16, api.ErrBad},
		{api.Replace, true, []rune{'A', 0xfffd, 'B', 0xfffd}, []api.Fault{{At: 4, Len: 2}, {At: 8, Len: 1}}, wide.BE16, api.OK},
		{api.Skip, true, []rune{'A', 'B'}, []api.Fault{{At: 4, Len: 2}, {At: 8, Len: 1}}, wide.BE16, api.OK},
		{api.Strict, false, nil, []api.Fault{{At: 0, Len: 1}}, stream.UTF8, api.ErrBad},
		{api.Skip, false, []rune{0, 'A', 0, 0, 'B'}, []api.Fault{{At: 0, Len: 1}, {At: 1, Len: 1}, {At: 4, Len: 1}, {At: 8, Len: 1}}, stream.UTF8, api.OK},
	} {
		l, faults, kind, e := stream.Whole(stream.UTF8, c.policy, c.guess, "\xfe\xff\x00A\xdc\x00\x00B\xd8")
		if !slices.Equal(l, c.l) || !slices.Equal(faults, c.faults) || kind != c.kind || e != c.e {
			t.Errorf("%v: %x %v %d %d", c, l, faults, kind, int(e))
		}
	}
}

// P3.1: the document's words on Whole, at all that the samples are.
func TestWholeAsTold(t *testing.T) {
	each(func(kind, policy int, guess bool) {
		sampled(func(s string) {
			wk, n := found(kind, guess, s)
			wl, wf, we := decode(wk, policy, s[n:])
			for i := range wf {
				wf[i].At += n
			}
			l, f, k, e := stream.Whole(kind, policy, guess, s)
			if !slices.Equal(l, wl) || !slices.Equal(f, wf) || k != wk || e != we {
				t.Fatalf("Whole(%d, %d, %v, %x): %x %v %d %d, not %x %v %d %d", kind, policy, guess, s, l, f, k, int(e), wl, wf, wk, int(we))
			}
		})
	})
}

// P3.1 and P3.2: of a kind that is none, a policy that is none, and both, ErrKind and nothing else, also where a mark tells a kind.
func TestNoKind(t *testing.T) {
	check := func(kind, policy int) {
		for _, guess := range []bool{false, true} {
			if d, e := stream.New(kind, policy, guess); d != nil || e != api.ErrKind {
				t.Errorf("New(%d, %d, %v): %v %d", kind, policy, guess, d, int(e))
			}
			for _, s := range []string{"", "A", "\xff", "\xef\xbb\xbfA", "\xff\xfe\x00\x00", "\xfe\xff\xdc\x00"} {
				if l, f, k, e := stream.Whole(kind, policy, guess, s); len(l) != 0 || len(f) != 0 || k != 0 || e != api.ErrKind {
					t.Errorf("Whole(%d, %d, %v, %x): %x %v %d %d", kind, policy, guess, s, l, f, k, int(e))
				}
			}
		}
	}
	for _, kind := range noKinds {
		for _, policy := range append(slices.Clone(policies), noPolicies...) {
			check(kind, policy)
		}
	}
	for _, kind := range kinds {
		for _, policy := range noPolicies {
			check(kind, policy)
		}
	}
}

// P3.2 and P3.3: a decoder to which nothing came, by a Feed of no parts, and of parts that have no bytes.
func TestNothingCame(t *testing.T) {
	each(func(kind, policy int, guess bool) {
		d := opened(t, kind, policy, guess)
		want := state{kind: kind}
		if got := stateOf(d, nil, api.OK); !got.equal(want) {
			t.Errorf("New(%d, %d, %v): %v", kind, policy, guess, got)
		}
		for _, parts := range [][]string{nil, {""}, {"", "", ""}} {
			l, e := d.Feed(parts...)
			if got := stateOf(d, l, e); !got.equal(want) {
				t.Errorf("Feed(%q) of %d, %d, %v: %v", parts, kind, policy, guess, got)
			}
		}
		l, e := d.Close()
		if got := stateOf(d, l, e); !got.equal(want) {
			t.Errorf("Close of %d, %d, %v: %v", kind, policy, guess, got)
		}
	})
}

// P3.2 and P3.3: with a guess the beginnings of marks wait, a mark of two bytes too; the kind is found by what comes behind, or at the end.
func TestBeginningsWait(t *testing.T) {
	each(func(kind, policy int, _ bool) {
		for _, s := range beginnings {
			d := opened(t, kind, policy, true)
			l, e := d.Feed(s, "")
			if got, want := stateOf(d, l, e), (state{waits: s, kind: kind, at: len(s)}); !got.equal(want) {
				t.Errorf("Feed(%x) of %d, %d: %v", s, kind, policy, got)
			}
			wl, wf, wk, we := stream.Whole(kind, policy, true, s)
			l, e = d.Close()
			if got, want := stateOf(d, l, e), (state{wl, we, wf, "", wk, len(s)}); !got.equal(want) {
				t.Errorf("Close behind %x of %d, %d: %v, not %v", s, kind, policy, got, want)
			}
		}
	})
}

// P3.2 and P3.3: with a guess what is no beginning of a mark, and what is more than one, does not wait for it.
func TestMarksAreFound(t *testing.T) {
	for _, c := range []struct {
		kind  int
		s     string
		l     []rune
		waits string
		got   int
	}{
		{wide.BE32, "\xef\xbb\xbf", nil, "", stream.UTF8},
		{wide.BE32, "\xef\xbb\xbf\xef\xbb", nil, "\xef\xbb", stream.UTF8},
		{wide.BE32, "\xef\xbb\xbfA\xff\xfe", []rune{'A', 0xfffd, 0xfffd}, "", stream.UTF8},
		{stream.UTF8, "\xff\xfe\x00\x00", nil, "", wide.LE32},
		{stream.UTF8, "\xff\xfe\x00\x00A\x00\x00", nil, "A\x00\x00", wide.LE32},
		{stream.UTF8, "\xff\xfe\x00A", []rune{0x4100}, "", wide.LE16},
		{stream.UTF8, "\xff\xfeA", nil, "A", wide.LE16},
		{stream.UTF8, "\xff\xfe\x00\xd8\x00", nil, "\x00\xd8\x00", wide.LE16},
		{stream.UTF8, "\xfe\xff\x00", nil, "\x00", wide.BE16},
		{stream.UTF8, "\xfe\xff\x00\x00", []rune{0}, "", wide.BE16},
		{stream.UTF8, "\x00\x00\xfe\xff", nil, "", wide.BE32},
		{stream.UTF8, "\x00\x00\xfe\xff\x00", nil, "\x00", wide.BE32},
		{stream.UTF8, "\x00\x00\xfeA", []rune{0, 0, 0xfffd, 'A'}, "", stream.UTF8},
		{stream.UTF8, "\x00\x00\x00", []rune{0, 0, 0}, "", stream.UTF8},
		{stream.UTF8, "\xef\xbb\xbe", []rune{0xfefe}, "", stream.UTF8},
		{stream.UTF8, "\xef\xbc", nil, "\xef\xbc", stream.UTF8},
		{stream.UTF8, "\xffA", []rune{0xfffd, 'A'}, "", stream.UTF8},
		{stream.UTF8, "\xc3", nil, "\xc3", stream.UTF8},
		{wide.LE16, "A", nil, "A", wide.LE16},
		{wide.LE32, "\xbb\xbf\xef", nil, "\xbb\xbf\xef", wide.LE32},
		{wide.LE16, "\xef\xbb\xbe", []rune{0xbbef}, "\xbe", wide.LE16},
		{wide.BE16, "A\x00\xff\xfe", []rune{0x4100, 0xfffe}, "", wide.BE16},
	} {
		for cuts := range 1 << (len(c.s) - 1) {
			d := opened(t, c.kind, api.Replace, true)
			l, e := d.Feed(parted(c.s, cuts)...)
			if !slices.Equal(l, c.l) || e != api.OK || d.Waits() != c.waits || d.Kind() != c.got || d.At() != len(c.s) {
				t.Errorf("Feed(%q) of %d: %x %d %x %d %d", parted(c.s, cuts), c.kind, l, int(e), d.Waits(), d.Kind(), d.At())
			}
		}
	}
}

// P3.2 and P3.3: without a guess marks, and beginnings of them, are bytes like others.
func TestMarksWithoutGuess(t *testing.T) {
	for _, c := range []struct {
		kind  int
		s     string
		l     []rune
		waits string
	}{
		{stream.UTF8, "\xef", nil, "\xef"},
		{stream.UTF8, "\xef\xbb", nil, "\xef\xbb"},
		{stream.UTF8, "\xef\xbb\xbf", []rune{0xfeff}, ""},
		{stream.UTF8, "\xff", []rune{0xfffd}, ""},
		{stream.UTF8, "\xff\xfe\x00\x00", []rune{0xfffd, 0xfffd, 0, 0}, ""},
		{stream.UTF8, "\x00", []rune{0}, ""},
		{wide.LE16, "\xff\xfe", []rune{0xfeff}, ""},
		{wide.LE16, "\xff\xfe\x00", []rune{0xfeff}, "\x00"},
		{wide.LE16, "\xff\xfe\x00\x00", []rune{0xfeff, 0}, ""},
		{wide.LE16, "\xfe\xff", []rune{0xfffe}, ""},
		{wide.BE16, "\xfe\xff", []rune{0xfeff}, ""},
		{wide.BE16, "\x00\x00", []rune{0}, ""},
		{wide.BE16, "\xef\xbb\xbf", []rune{0xefbb}, "\xbf"},
		{wide.LE32, "\xff\xfe\x00\x00", []rune{0xfeff}, ""},
		{wide.LE32, "\xff\xfe\x00", nil, "\xff\xfe\x00"},
		{wide.BE32, "\x00\x00\xfe\xff", []rune{0xfeff}, ""},
		{wide.BE32, "\x00\x00\xfe", nil, "\x00\x00\xfe"},
	} {
		for cuts := range 1 << (len(c.s) - 1) {
			d := opened(t, c.kind, api.Replace, false)
			l, e := d.Feed(parted(c.s, cuts)...)
			if !slices.Equal(l, c.l) || e != api.OK || d.Waits() != c.waits || d.Kind() != c.kind || d.At() != len(c.s) {
				t.Errorf("Feed(%q) of %d: %x %d %x %d %d", parted(c.s, cuts), c.kind, l, int(e), d.Waits(), d.Kind(), d.At())
			}
		}
	}
}

// notWhole is what waits, of each kind and length; also what no byte behind it could make whole.
var notWhole = []struct {
	kind int
	s    string
}{
	{stream.UTF8, "\xc3"}, {stream.UTF8, "\xe2"}, {stream.UTF8, "\xe2\x82"}, {stream.UTF8, "\xf0"}, {stream.UTF8, "\xf0\x9f"}, {stream.UTF8, "\xf0\x9f\x98"},
	{wide.LE16, "A"}, {wide.LE16, "\x3d\xd8"}, {wide.LE16, "\x3d\xd8\x00"},
	{wide.BE16, "\xdc"}, {wide.BE16, "\xd8\x3d"}, {wide.BE16, "\xd8\x3d\x00"},
	{wide.LE32, "A"}, {wide.LE32, "A\x00"}, {wide.LE32, "\xff\xff\xff"},
	{wide.BE32, "\xff"}, {wide.BE32, "\x00\x11"}, {wide.BE32, "\x00\x00\xd8"},
}

// ahead is two characters as bytes.
func ahead(kind int) string {
	if kind == stream.UTF8 {
		return "A\u00e9"
	}
	s, _ := wide.Encode(kind, 'A', 0xe9)
	return s
}

// P3.2 and P3.3: what is not whole waits, behind one part and behind several of one Feed, and is one malformed unit at Close.
func TestNotWhole(t *testing.T) {
	for _, c := range notWhole {
		for _, policy := range policies {
			for cuts := range 1 << (len(c.s) - 1) {
				s := ahead(c.kind)
				parts := append([]string{s, ""}, append(parted(c.s, cuts), "")...)
				d := opened(t, c.kind, policy, false)
				l, e := d.Feed(parts...)
				at := len(s) + len(c.s)
				if got, want := stateOf(d, l, e), (state{l: []rune{'A', 0xe9}, waits: c.s, kind: c.kind, at: at}); !got.equal(want) {
					t.Errorf("Feed(%q) of %d, %d: %v", parts, c.kind, policy, got)
				}
				want := state{kind: c.kind, at: at, faults: []api.Fault{{At: len(s), Len: len(c.s)}}}
				switch policy {
				case api.Strict:
					want.e = api.ErrBad
				case api.Replace:
					want.l = []rune{0xfffd}
				}
				l, e = d.Close()
				if got := stateOf(d, l, e); !got.equal(want) {
					t.Errorf("Close behind %q of %d, %d: %v", parts, c.kind, policy, got)
				}
			}
		}
	}
}

// step is a Feed, and what it answers, and leaves.
type step struct {
	parts  []string
	l      []rune
	e      api.Errno
	waits  string
	faults []api.Fault
	at     int
}

// checkSteps goes through Feeds, one behind the other.
func checkSteps(t *testing.T, d *stream.Decoder, kind int, steps []step) {
	t.Helper()
	for i, c := range steps {
		l, e := d.Feed(c.parts...)
		if got, want := stateOf(d, l, e), (state{c.l, c.e, c.faults, c.waits, kind, c.at}); !got.equal(want) {
			t.Errorf("Feed %d (%q): %v, not %v", i, c.parts, got, want)
		}
	}
}

// P3.2: Strict ends at a malformed unit: in the first part, behind a mark, across two parts, and where more waits behind it; what comes behind does not count.
func TestStrict(t *testing.T) {
	for _, c := range []struct {
		kind  int
		guess bool
		got   int
		steps []step
	}{
		{stream.UTF8, false, stream.UTF8, []step{
			{[]string{"A\xffB"}, []rune{'A'}, api.ErrBad, "", []api.Fault{{At: 1, Len: 1}}, 3},
			{[]string{"C"}, nil, api.ErrOver, "", []api.Fault{{At: 1, Len: 1}}, 3}}},
		{stream.UTF8, true, stream.UTF8, []step{
			{[]string{"A", "B\xff\xc3", "CD"}, []rune{'A', 'B'}, api.ErrBad, "", []api.Fault{{At: 2, Len: 1}}, 4},
			{nil, nil, api.ErrOver, "", []api.Fault{{At: 2, Len: 1}}, 4}}},
		{stream.UTF8, false, stream.UTF8, []step{
			{[]string{"A\xe2"}, []rune{'A'}, api.OK, "\xe2", nil, 2},
			{[]string{"\x82"}, nil, api.OK, "\xe2\x82", nil, 3},
			{[]string{"BC"}, nil, api.ErrBad, "", []api.Fault{{At: 1, Len: 2}}, 5},
			{[]string{"\xff"}, nil, api.ErrOver, "", []api.Fault{{At: 1, Len: 2}}, 5}}},
		{stream.UTF8, true, wide.LE16, []step{
			{[]string{"\xff\xfe", "A\x00\x00"}, []rune{'A'}, api.OK, "\x00", nil, 5},
			{[]string{"\xdcB\x00"}, nil, api.ErrBad, "", []api.Fault{{At: 4, Len: 2}}, 8},
			{[]string{""}, nil, api.ErrOver, "", []api.Fault{{At: 4, Len: 2}}, 8}}},
		{wide.BE16, true, stream.UTF8, []step{
			{[]string{"\xef\xbb\xbf\xfe"}, nil, api.ErrBad, "", []api.Fault{{At: 3, Len: 1}}, 4},
			{[]string{"A"}, nil, api.ErrOver, "", []api.Fault{{At: 3, Len: 1}}, 4}}},
		{wide.BE16, false, wide.BE16, []step{
			{[]string{"\x00A\xd8"}, []rune{'A'}, api.OK, "\xd8", nil, 3},
			{[]string{"\x3d\x00"}, nil, api.OK, "\xd8\x3d\x00", nil, 5},
			{[]string{"B\x00C\xd8"}, nil, api.ErrBad, "", []api.Fault{{At: 2, Len: 2}}, 9}}},
		{wide.LE32, false, wide.LE32, []step{
			{[]string{"A\x00\x00", "\x00\x00\xd8", "\x00\x00", "B\x00\x00\x00"}, []rune{'A'}, api.ErrBad, "", []api.Fault{{At: 4, Len: 4}}, 8}}},
		{wide.BE32, true, wide.BE32, []step{
			{[]string{"\x00\x00\xfe"}, nil, api.OK, "\x00\x00\xfe", nil, 3},
			{[]string{"\xff\x00\x11", "\x00\x00"}, nil, api.ErrBad, "", []api.Fault{{At: 4, Len: 4}}, 8}}},
	} {
		d := opened(t, c.kind, api.Strict, c.guess)
		checkSteps(t, d, c.got, c.steps)
		last := c.steps[len(c.steps)-1]
		l, e := d.Close()
		if got, want := stateOf(d, l, e), (state{nil, api.ErrOver, last.faults, "", c.got, last.at}); !got.equal(want) {
			t.Errorf("Close behind ErrBad: %v", got)
		}
	}
}

// P3.2 and P3.3: Replace and Skip go on behind malformed units, and all of them are told.
func TestReplaceAndSkip(t *testing.T) {
	d := opened(t, stream.UTF8, api.Replace, true)
	checkSteps(t, d, stream.UTF8, []step{
		{[]string{"\xff"}, nil, api.OK, "\xff", nil, 1},
		{[]string{"A\xe2"}, []rune{0xfffd, 'A'}, api.OK, "\xe2", []api.Fault{{At: 0, Len: 1}}, 3},
		{[]string{"\x82", "B\xf0", "\x9f"}, []rune{0xfffd, 'B'}, api.OK, "\xf0\x9f", []api.Fault{{At: 0, Len: 1}, {At: 2, Len: 2}}, 7},
	})
	l, e := d.Close()
	if got, want := stateOf(d, l, e), (state{[]rune{0xfffd}, api.OK, []api.Fault{{At: 0, Len: 1}, {At: 2, Len: 2}, {At: 5, Len: 2}}, "", stream.UTF8, 7}); !got.equal(want) {
		t.Error(got)
	}
	d = opened(t, stream.UTF8, api.Skip, true)
	checkSteps(t, d, stream.UTF8, []step{{[]string{"\xff"}, nil, api.OK, "\xff", nil, 1}})
	checkSteps(t, d, wide.LE16, []step{
		{[]string{"\xfe\x00\xdc"}, nil, api.OK, "", []api.Fault{{At: 2, Len: 2}}, 4},
		{[]string{"A", "\x00\x00\xd8"}, []rune{'A'}, api.OK, "\x00\xd8", []api.Fault{{At: 2, Len: 2}}, 8},
		{[]string{"B\x00\x00\xd8\x00"}, []rune{'B'}, api.OK, "\x00\xd8\x00", []api.Fault{{At: 2, Len: 2}, {At: 6, Len: 2}}, 13},
	})
	l, e = d.Close()
	if got, want := stateOf(d, l, e), (state{nil, api.OK, []api.Fault{{At: 2, Len: 2}, {At: 6, Len: 2}, {At: 10, Len: 3}}, "", wide.LE16, 13}); !got.equal(want) {
		t.Error(got)
	}
}

// P3.2: Close reads what waits for a mark as it stands; Strict's error leaves the characters ahead.
func TestCloseOfBeginnings(t *testing.T) {
	for _, c := range []struct {
		kind, policy int
		s            string
		want         state
	}{
		{stream.UTF8, api.Strict, "\x00\x00\xfe", state{[]rune{0, 0}, api.ErrBad, []api.Fault{{At: 2, Len: 1}}, "", stream.UTF8, 3}},
		{stream.UTF8, api.Replace, "\xef\xbb", state{[]rune{0xfffd}, api.OK, []api.Fault{{At: 0, Len: 2}}, "", stream.UTF8, 2}},
		{stream.UTF8, api.Skip, "\xff", state{nil, api.OK, []api.Fault{{At: 0, Len: 1}}, "", stream.UTF8, 1}},
		{stream.UTF8, api.Strict, "\xff\xfe\x00", state{nil, api.ErrBad, []api.Fault{{At: 2, Len: 1}}, "", wide.LE16, 3}},
		{stream.UTF8, api.Strict, "\xff\xfe", state{nil, api.OK, nil, "", wide.LE16, 2}},
		{wide.BE32, api.Strict, "\xfe\xff", state{nil, api.OK, nil, "", wide.BE16, 2}},
		{wide.BE16, api.Strict, "\xef\xbb", state{[]rune{0xefbb}, api.OK, nil, "", wide.BE16, 2}},
		{wide.LE16, api.Strict, "\x00\x00\xfe", state{[]rune{0}, api.ErrBad, []api.Fault{{At: 2, Len: 1}}, "", wide.LE16, 3}},
	} {
		d := opened(t, c.kind, c.policy, true)
		d.Feed(c.s)
		l, e := d.Close()
		if got := stateOf(d, l, e); !got.equal(c.want) {
			t.Errorf("Close behind %x of %d, %d: %v", c.s, c.kind, c.policy, got)
		}
	}
}

// P3.2: behind Close, whatever that answered, all is over, and nothing changes.
func TestBehindClose(t *testing.T) {
	each(func(kind, policy int, guess bool) {
		for _, s := range []string{"", "\xff", "\xff\xfe", "\xef\xbb\xbfA", "\xef\xbb\xbf\xe2\x82", "\x00\x00\x00A\x00"} {
			d := opened(t, kind, policy, guess)
			d.Feed(s)
			d.Close()
			want := stateOf(d, nil, api.ErrOver)
			if want.waits != "" || want.at != len(s) {
				t.Errorf("Close behind %x of %d, %d, %v: %v", s, kind, policy, guess, want)
			}
			for _, parts := range [][]string{nil, {""}, {"A"}, {"\xff\xfe", "\xff"}} {
				l, e := d.Feed(parts...)
				if got := stateOf(d, l, e); !got.equal(want) {
					t.Errorf("Feed(%q) behind Close: %v, not %v", parts, got, want)
				}
			}
			l, e := d.Close()
			if got := stateOf(d, l, e); !got.equal(want) {
				t.Errorf("Close behind Close: %v, not %v", got, want)
			}
		}
	})
}

// P3.3: of a nil decoder ErrNil, nothing, 0.
func TestNilDecoder(t *testing.T) {
	var d *stream.Decoder
	for _, parts := range [][]string{nil, {""}, {"A", "\xff"}} {
		if l, e := d.Feed(parts...); len(l) != 0 || e != api.ErrNil {
			t.Errorf("Feed(%q): %x %d", parts, l, int(e))
		}
	}
	l, e := d.Close()
	if got := stateOf(d, l, e); !got.equal(state{e: api.ErrNil}) {
		t.Error(got)
	}
}

// P3.2 to P3.4: the document's words on all calls, at all that the samples are, parted in all ways, each part by a Feed of its own; and all that is answered is what Whole answers.
func TestAsTold(t *testing.T) {
	each(func(kind, policy int, guess bool) {
		sampled(func(s string) {
			for cuts := range 1 << max(len(s)-1, 0) {
				checkParted(t, kind, policy, guess, parted(s, cuts))
			}
		})
	})
}

func checkParted(t *testing.T, kind, policy int, guess bool, parts []string) {
	t.Helper()
	d := opened(t, kind, policy, guess)
	w := told{kind: kind, policy: policy, guess: guess}
	var all []rune
	bad := api.OK
	for i, part := range parts {
		l, e := d.Feed(part)
		if got, want := stateOf(d, l, e), w.feed(part); !got.equal(want) {
			t.Fatalf("Feed %d of %q, %d, %d, %v: %v, not %v", i, parts, kind, policy, guess, got, want)
		}
		if len(d.Waits()) > 3 {
			t.Fatalf("%q, %d, %d, %v: %x waits", parts, kind, policy, guess, d.Waits())
		}
		all = append(all, l...)
		if e == api.ErrBad {
			bad = e
		}
	}
	l, e := d.Close()
	if got, want := stateOf(d, l, e), w.close(); !got.equal(want) {
		t.Fatalf("Close of %q, %d, %d, %v: %v, not %v", parts, kind, policy, guess, got, want)
	}
	all = append(all, l...)
	if e == api.ErrBad {
		bad = e
	}
	wl, wf, wk, we := stream.Whole(kind, policy, guess, strings.Join(parts, ""))
	if !slices.Equal(all, wl) || !slices.Equal(d.Faults(), wf) || d.Kind() != wk || bad != we {
		t.Fatalf("%q, %d, %d, %v: %x %v %d %d, not %x %v %d %d", parts, kind, policy, guess, all, d.Faults(), d.Kind(), int(bad), wl, wf, wk, int(we))
	}
}

// P3.2: parts of one Feed, and parts of no bytes among them, are as Feeds of each, up to the error.
func TestPartsOfOneFeed(t *testing.T) {
	each(func(kind, policy int, guess bool) {
		sampled(func(s string) {
			cuts := 1<<max(len(s)-1, 0) - 1
			one := opened(t, kind, policy, guess)
			several := opened(t, kind, policy, guess)
			var parts []string
			var wl []rune
			we := api.OK
			for _, part := range parted(s, cuts) {
				parts = append(parts, "", part)
				l, e := several.Feed(part)
				wl = append(wl, l...)
				if we == api.OK {
					we = e
				}
			}
			l, e := one.Feed(parts...)
			if got, want := stateOf(one, l, e), stateOf(several, wl, we); !got.equal(want) {
				t.Fatalf("Feed(%q) of %d, %d, %v: %v, not %v", parts, kind, policy, guess, got, want)
			}
		})
	})
}

// text is characters of all lengths.
func text() []rune {
	l := []rune{'A'} // behind LE16's mark 0 would make it LE32's
	for r := rune(0); r <= api.MaxRune; r += 37 {
		if api.Scalar(r) {
			l = append(l, r, 'A')
		}
	}
	return l
}

// P3.4: long texts, behind a mark, in parts of several lengths.
func TestLongTexts(t *testing.T) {
	want := text()
	for _, m := range marks {
		s, e := utf8.Encode(want...)
		if m.kind != stream.UTF8 {
			s, e = wide.Encode(m.kind, want...)
		}
		if e != api.OK {
			t.Fatal(int(e))
		}
		s = m.s + s
		for _, size := range []int{1, 2, 3, 5, 7, 64, 1021, len(s)} {
			d := opened(t, kinds[0], api.Strict, true)
			var l []rune
			for from := 0; from < len(s); from += size {
				more, e := d.Feed(s[from:min(from+size, len(s))])
				if e != api.OK || len(d.Waits()) > 3 {
					t.Fatal(m.kind, size, from, int(e), d.Waits())
				}
				l = append(l, more...)
			}
			more, e := d.Close()
			if l = append(l, more...); !slices.Equal(l, want) || e != api.OK || d.Kind() != m.kind || d.At() != len(s) || len(d.Faults()) != 0 {
				t.Error(m.kind, size, len(l), int(e), d.Kind(), d.At(), len(d.Faults()))
			}
		}
	}
}

// The document's example.
func TestExample(t *testing.T) {
	d := opened(t, stream.UTF8, api.Replace, true)
	checkSteps(t, d, stream.UTF8, []step{
		{[]string{"\xef\xbb"}, nil, api.OK, "\xef\xbb", nil, 2},
		{[]string{"\xbf\x41\xc3"}, []rune{'A'}, api.OK, "\xc3", nil, 5},
	})
	if l, e := d.Close(); !slices.Equal(l, []rune{0xfffd}) || e != api.OK {
		t.Error(l, int(e))
	}
}

// R2: parts are left as they are, and what is answered is the caller's.
func TestMemory(t *testing.T) {
	parts := []string{"A\xff", "B\xc3", "C"}
	d := opened(t, stream.UTF8, api.Replace, false)
	l, _ := d.Feed(parts[:2]...)
	faults := d.Faults()
	clear(l)
	clear(faults)
	if !slices.Equal(parts, []string{"A\xff", "B\xc3", "C"}) || !slices.Equal(d.Faults(), []api.Fault{{At: 1, Len: 1}}) {
		t.Error(parts, d.Faults())
	}
	_ = append(faults, api.Fault{At: 7, Len: 7})
	d.Feed("\xff")
	if !slices.Equal(d.Faults(), []api.Fault{{At: 1, Len: 1}, {At: 3, Len: 1}, {At: 4, Len: 1}}) {
		t.Error(d.Faults())
	}
}

// R3: decoders do not count for each other.
func TestSeveralDecoders(t *testing.T) {
	a := opened(t, stream.UTF8, api.Replace, true)
	b := opened(t, stream.UTF8, api.Strict, true)
	a.Feed("\xff\xfe")
	b.Feed("\xc3")
	a.Feed("A")
	l, e := b.Feed("\xa9")
	if got, want := stateOf(b, l, e), (state{l: []rune{0xe9}, kind: stream.UTF8, at: 2}); !got.equal(want) {
		t.Error(got)
	}
	l, e = a.Feed("\x00")
	if got, want := stateOf(a, l, e), (state{l: []rune{'A'}, kind: wide.LE16, at: 4}); !got.equal(want) {
		t.Error(got)
	}
}
