// Package utf8 is layer 1: see shared/doc/01-utf8.md.
package utf8

import (
	"strings"

	"inkhorn/api"
)

// shape is what the bytes of all characters of one length have in common.
type shape struct {
	last rune // the greatest character of that length
	lead byte // the first byte, without the character's bits
	bits int  // how many of the character's bits stand in the first byte
}

// shapes is told by length. No character has the length 0.
var shapes = [5]shape{
	{last: -1, lead: 0x00, bits: 0},
	{last: 0x7f, lead: 0x00, bits: 7},
	{last: 0x7ff, lead: 0xc0, bits: 5},
	{last: 0xffff, lead: 0xe0, bits: 4},
	{last: api.MaxRune, lead: 0xf0, bits: 3},
}

// The bytes behind the first one: 10xxxxxx.
const (
	moreLead = 0x80
	moreBits = 6
	moreMask = 1<<moreBits - 1
)

// Len is how many bytes a character has.
func Len(r rune) int {
	if !api.Scalar(r) {
		return 0
	}
	n := 1
	for r > shapes[n].last {
		n++
	}
	return n
}

// Encode is characters as bytes.
func Encode(l ...rune) (string, api.Errno) {
	var out []byte
	for _, r := range l {
		n := Len(r)
		if n == 0 {
			return "", api.ErrRange
		}
		out = put(out, r, n)
	}
	return string(out), api.OK
}

func put(out []byte, r rune, n int) []byte {
	left := (n - 1) * moreBits
	out = append(out, shapes[n].lead|byte(r>>left))
	for left > 0 {
		left -= moreBits
		out = append(out, moreLead|byte(r>>left)&moreMask)
	}
	return out
}

// Next is the character with which bytes begin, and how many bytes it has.
func Next(s string) (r rune, n int, e api.Errno) {
	if s == "" {
		return 0, 0, api.ErrMore
	}
	size, r := first(s[0])
	if size == 0 {
		return 0, 1, api.ErrBad
	}
	for n = 1; n < size; n++ {
		if n == len(s) {
			return 0, n, api.ErrMore
		}
		if s[n]&^moreMask != moreLead {
			return 0, n, api.ErrBad
		}
		r = r<<moreBits | rune(s[n]&moreMask)
		if !leads(r, size, n+1) {
			return 0, n, api.ErrBad
		}
	}
	return r, size, api.OK
}

// first is how many bytes a character has that begins with a byte, and which of its bits that byte holds; 0 if there is no such character.
func first(b byte) (size int, r rune) {
	for n := 1; n < len(shapes); n++ {
		r = rune(b ^ shapes[n].lead)
		if r>>shapes[n].bits == 0 && leads(r, n, 1) {
			return n, r
		}
	}
	return 0, 0
}

// leads tells whether the bits of the first n bytes are those of any character that has size bytes.
// Such bits leave a range of numbers, and no such range has characters of that size in its middle alone: so its ends tell.
func leads(bits rune, size, n int) bool {
	left := (size - n) * moreBits
	low := bits << left
	high := low | (1<<left - 1)
	return Len(low) == size || Len(high) == size
}

// Decode is bytes, one part behind the other, as characters, and where they are none.
func Decode(policy int, l ...string) ([]rune, []api.Fault, api.Errno) {
	if policy != api.Strict && policy != api.Replace && policy != api.Skip {
		return nil, nil, api.ErrKind
	}
	var out []rune
	var faults []api.Fault
	s := strings.Join(l, "")
	for at := 0; at < len(s); {
		r, n, e := Next(s[at:])
		if e != api.OK {
			faults = append(faults, api.Fault{At: at, Len: n})
			if policy == api.Strict {
				return out, faults, api.ErrBad
			}
			r = api.Bad
		}
		if e == api.OK || policy == api.Replace {
			out = append(out, r)
		}
		at += n
	}
	return out, faults, api.OK
}

// Valid tells whether bytes are characters alone.
func Valid(s string) bool {
	for s != "" {
		_, n, e := Next(s)
		if e != api.OK {
			return false
		}
		s = s[n:]
	}
	return true
}

// Cut is where bytes that are cut may be cut, so that no character is: how many of them are whole.
// It looks at the end alone: a beginning's first byte is never a later one of another character, so what is ahead of it does not count.
func Cut(s string) int {
	for at := len(s) - 1; at >= 0 && len(s)-at < len(shapes)-1; at-- {
		if _, _, e := Next(s[at:]); e == api.ErrMore {
			return at
		}
	}
	return len(s)
}
