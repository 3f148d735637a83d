// Package utf is layer 1, code points as bytes, strictly: see shared/doc/01-utf.md.
package utf

import "toponym/api"

// What a byte behind the first one holds of its code point.
const (
	tailMark = 0x80
	tailBits = 6
	tailMask = 1<<tailBits - 1
)

// Point tells whether a number is a code point.
func Point(r rune) bool {
	return 0 <= r && r < 0xd800 || 0xdfff < r && r <= 0x10ffff
}

// Length tells how many bytes a code point has; 0, if r is none.
func Length(r rune) int {
	switch {
	case !Point(r):
		return 0
	case r < 0x80:
		return 1
	case r < 0x800:
		return 2
	case r < 0x10000:
		return 3
	}
	return 4
}

// Encode tells the bytes of code points, one behind the other.
func Encode(l ...rune) (string, api.Errno) {
	out := make([]byte, 0, len(l))
	for _, r := range l {
		n := Length(r)
		if n == 0 {
			return "", api.ErrUTF
		}
		out = append(out, headMark(n)|byte(r>>((n-1)*tailBits)))
		for i := n - 2; i >= 0; i-- {
			out = append(out, tailMark|byte(r>>(i*tailBits)&tailMask))
		}
	}
	return string(out), api.OK
}

// Decode takes the code point whose bytes stand in s from at on, and tells the place behind it.
func Decode(s string, at int) (rune, int, api.Errno) {
	if at < 0 || at >= len(s) {
		return 0, 0, api.ErrArg
	}
	r, n := head(s[at])
	if n == 0 || n > len(s)-at {
		goto none
	}
	for _, b := range []byte(s[at+1 : at+n]) {
		if b&^tailMask != tailMark {
			goto none
		}
		r = r<<tailBits | rune(b&tailMask)
	}
	// This also keeps out what is laid in more bytes than it needs, and numbers that are no code points.
	if Length(r) != n {
		goto none
	}
	return r, at + n, api.OK
none:
	return 0, 0, api.ErrUTF
}

// Runes takes all code points of s, and tells its length; or else the place at which none's bytes stand first.
func Runes(s string) ([]rune, int, api.Errno) {
	l := make([]rune, 0, len(s))
	at := 0
	for at < len(s) {
		r, behind, e := Decode(s, at)
		if e != api.OK {
			return nil, at, e
		}
		l = append(l, r)
		at = behind
	}
	return l, at, api.OK
}

// headMark tells what the first of n bytes holds beside bits of its code point.
func headMark(n int) byte {
	switch n {
	case 2:
		return 0xc0
	case 3:
		return 0xe0
	case 4:
		return 0xf0
	}
	return 0
}

// head tells the upper bits that a first byte holds, and how many bytes it begins; 0, if it begins none.
func head(b byte) (rune, int) {
	switch {
	case b < 0x80:
		return rune(b), 1
	case b < 0xc0 || b >= 0xf8:
		return 0, 0
	case b < 0xe0:
		return rune(b & 0x1f), 2
	case b < 0xf0:
		return rune(b & 0x0f), 3
	}
	return rune(b & 0x07), 4
}
