package utf

import (
	"math"
	"slices"
	"testing"
	"unicode/utf8"

	"toponym/api"
)

// The code points at the edges that the chapter names, each with its bytes.
func edges() map[rune]string {
	return map[rune]string{
		0:        "\x00",
		'a':      "a",
		0x7f:     "\x7f",
		0x80:     "\xc2\x80",
		0xe9:     "\xc3\xa9",
		0x7ff:    "\xdf\xbf",
		0x800:    "\xe0\xa0\x80",
		0x20ac:   "\xe2\x82\xac",
		0xd7ff:   "\xed\x9f\xbf",
		0xe000:   "\xee\x80\x80",
		0xfffd:   "\xef\xbf\xbd",
		0xfffe:   "\xef\xbf\xbe",
		0xffff:   "\xef\xbf\xbf",
		0x10000:  "\xf0\x90\x80\x80",
		0x3ffff:  "\xf0\xbf\xbf\xbf",
		0x40000:  "\xf1\x80\x80\x80",
		0x10ffff: "\xf4\x8f\xbf\xbf",
	}
}

// Numbers that are no code points.
func strangers() []rune {
	return []rune{math.MinInt32, -0x110000, -0xd800, -0x80, -1, 0xd800, 0xd801, 0xdbff, 0xdc00, 0xdfff, 0x110000, 0x1fffff, 0x200000, math.MaxInt32}
}

// Bytes at whose beginning no code point's stand.
func wrongs() []string {
	return []string{
		// Bytes that begin nothing.
		"\x80", "\xbf", "\x80a", "\xa9\xc3", "\xf8\x88\x80\x80\x80", "\xf8\x90\x80\x80", "\xfb\x90\x80\x80", "\xff\x90\x80\x80", "\xfc\x84\x80\x80\x80\x80", "\xfe", "\xff",
		// Bytes cut short by the end.
		"\xc3", "\xe2", "\xe2\x82", "\xf0", "\xf0\x90", "\xf0\x90\x80",
		// Bytes cut short by others.
		"\xc3a", "\xc3\xc3\xa9", "\xe2a\xac", "\xe2\x82a", "\xe2\x82\xc3\xa9", "\xf0a\x80\x80", "\xf0\x90a\x80", "\xf0\x90\x80a", "\xf0\x90\x80\xc0", "\xc3\x00", "\xc3\x7f", "\xc3\xff",
		// More bytes than are needed.
		"\xc0\x80", "\xc0\xaf", "\xc1\x81", "\xc1\xbf", "\xe0\x80\x80", "\xe0\x81\xbf", "\xe0\x82\x80", "\xe0\x9f\xbf", "\xf0\x80\x80\x80", "\xf0\x82\x82\xac", "\xf0\x8d\x9f\xbf", "\xf0\x8f\xbf\xbf",
		// Numbers that are no code points.
		"\xed\xa0\x80", "\xed\xaf\xbf", "\xed\xb0\x80", "\xed\xbf\xbf", "\xed\xa0\xbd\xed\xb8\x80", "\xf4\x90\x80\x80", "\xf4\xbf\xbf\xbf", "\xf5\x80\x80\x80", "\xf7\xbf\xbf\xbf",
	}
}

// everyShort calls see with every text of up to three bytes.
func everyShort(see func(s string)) {
	see("")
	for a := range 256 {
		see(string([]byte{byte(a)}))
		for b := range 256 {
			see(string([]byte{byte(a), byte(b)}))
			for c := range 256 {
				see(string([]byte{byte(a), byte(b), byte(c)}))
			}
		}
	}
}

// everyLong calls see with the texts of four and five bytes out of those at which the chapter's forms part.
func everyLong(see func(s string)) {
	some := []byte{0, 0x7f, 0x80, 0x8f, 0x90, 0x9f, 0xa0, 0xbf, 0xc1, 0xc2, 0xe0, 0xed, 0xf0, 0xf4, 0xf5, 0xff}
	var grow func(head []byte, more int)
	grow = func(head []byte, more int) {
		if len(head) >= 4 {
			see(string(head))
		}
		if more == 0 {
			return
		}
		for _, b := range some {
			grow(append(head, b), more-1)
		}
	}
	grow(make([]byte, 0, 5), 5)
}

// P1.1

func TestPointAndLengthAtEdges(t *testing.T) {
	for r, s := range edges() {
		if !Point(r) || Length(r) != len(s) {
			t.Errorf("%x: %t %d", r, Point(r), Length(r))
		}
	}
	for _, r := range strangers() {
		if Point(r) || Length(r) != 0 {
			t.Errorf("%x: %t %d", r, Point(r), Length(r))
		}
	}
}

func TestPointAndLengthOfAll(t *testing.T) {
	counts := [5]int{}
	for r := rune(-0x1000); r < 0x120000; r++ {
		n := Length(r)
		if Point(r) != (n > 0) || n != max(utf8.RuneLen(r), 0) {
			t.Fatalf("%x: %t %d", r, Point(r), n)
		}
		counts[n]++
	}
	if want := [5]int{0x1000 + 0x800 + 0x10000, 0x80, 0x780, 0xf000, 0x100000}; counts != want {
		t.Errorf("%x", counts)
	}
}

// P1.2

func TestEncodeAtEdges(t *testing.T) {
	for r, want := range edges() {
		if s, e := Encode(r); s != want || e != api.OK {
			t.Errorf("%x: %x %d", r, s, int(e))
		}
	}
}

func TestEncodeSeveral(t *testing.T) {
	for _, c := range []struct {
		l    []rune
		want string
	}{
		{nil, ""},
		{[]rune{}, ""},
		{[]rune{0xe9, 0x20ac}, "\xc3\xa9\xe2\x82\xac"},
		{[]rune{0x10ffff, 0, 0x7ff, 'z', 0x800}, "\xf4\x8f\xbf\xbf\x00\xdf\xbfz\xe0\xa0\x80"},
		{[]rune{'a', 0x301}, "a\xcc\x81"},
	} {
		if s, e := Encode(c.l...); s != c.want || e != api.OK {
			t.Errorf("%x: %x %d", c.l, s, int(e))
		}
	}
}

func TestEncodeStrangers(t *testing.T) {
	for _, r := range strangers() {
		for _, l := range [][]rune{{r}, {r, 'a'}, {'a', r}, {0xe9, r, 0x20ac}, {r, r}} {
			if s, e := Encode(l...); s != "" || e != api.ErrUTF {
				t.Errorf("%x: %x %d", l, s, int(e))
			}
		}
	}
}

func TestEncodeLeavesItsListAlone(t *testing.T) {
	whole := []rune{'a', 0xe9, 0x20ac, 0x10000, 7, 8, 9}
	was := slices.Clone(whole)
	s, _ := Encode(whole[:4]...)
	if !slices.Equal(whole, was) {
		t.Errorf("%x", whole)
	}
	whole[0] = 'b'
	if s != "a\xc3\xa9\xe2\x82\xac\xf0\x90\x80\x80" {
		t.Errorf("%x", s)
	}
}

// P1.3

func TestDecodeAtEdges(t *testing.T) {
	for want, s := range edges() {
		for _, ahead := range []string{"", "-", "\xff", "\xe2\x82", "\xc3\xa9"} {
			for _, behind := range []string{"", "-", "\x80", "\xff", "\xc3"} {
				r, to, e := Decode(ahead+s+behind, len(ahead))
				if r != want || to != len(ahead)+len(s) || e != api.OK {
					t.Errorf("%x %x %x: %x %d %d", ahead, s, behind, r, to, int(e))
				}
			}
		}
	}
}

func TestDecodeOutside(t *testing.T) {
	for _, s := range []string{"", "a", "\xff", "\xe2\x82\xac", "abc"} {
		for _, at := range []int{math.MinInt, math.MinInt32, -2, -1, len(s), len(s) + 1, math.MaxInt32, math.MaxInt - 3, math.MaxInt} {
			if r, to, e := Decode(s, at); r != 0 || to != 0 || e != api.ErrArg {
				t.Errorf("%x %d: %x %d %d", s, at, r, to, int(e))
			}
		}
	}
}

func TestDecodeWrongBytes(t *testing.T) {
	for _, s := range wrongs() {
		for _, ahead := range []string{"", "-", "\xe2\x82\xac", "\xff"} {
			if r, to, e := Decode(ahead+s, len(ahead)); r != 0 || to != 0 || e != api.ErrUTF {
				t.Errorf("%x %x: %x %d %d", ahead, s, r, to, int(e))
			}
		}
	}
}

func TestDecodeInTheMidstOfBytes(t *testing.T) {
	for _, s := range edges() {
		for at := 1; at < len(s); at++ {
			if r, to, e := Decode(s, at); r != 0 || to != 0 || e != api.ErrUTF {
				t.Errorf("%x %d: %x %d %d", s, at, r, to, int(e))
			}
		}
	}
}

func TestDecodeOfAllShortAndManyLong(t *testing.T) {
	faults := 0
	see := func(s string) {
		if s == "" || faults > 9 {
			return
		}
		r, to, e := Decode(s, 0)
		want, n := utf8.DecodeRuneInString(s)
		wantE := api.OK
		if want == utf8.RuneError && n == 1 {
			want, n, wantE = 0, 0, api.ErrUTF
		}
		if r != want || to != n || e != wantE {
			t.Errorf("%x: %x %d %d", s, r, to, int(e))
			faults++
		}
	}
	everyShort(see)
	everyLong(see)
}

// P1.4

func TestRunes(t *testing.T) {
	for _, c := range []struct {
		s    string
		want []rune
	}{
		{"", nil},
		{"a", []rune{'a'}},
		{"\x00", []rune{0}},
		{"\xc3\xa9\xe2\x82\xac", []rune{0xe9, 0x20ac}},
		{"\x7f\xc2\x80\xdf\xbf\xe0\xa0\x80", []rune{0x7f, 0x80, 0x7ff, 0x800}},
		{"\xed\x9f\xbf\xee\x80\x80\xef\xbf\xbf\xf0\x90\x80\x80\xf4\x8f\xbf\xbf", []rune{0xd7ff, 0xe000, 0xffff, 0x10000, 0x10ffff}},
	} {
		if l, to, e := Runes(c.s); !slices.Equal(l, c.want) || to != len(c.s) || e != api.OK {
			t.Errorf("%x: %x %d %d", c.s, l, to, int(e))
		}
	}
}

func TestRunesTellsTheFirstFault(t *testing.T) {
	for _, ahead := range []string{"", "ab", "\xc3\xa9", "\xe2\x82\xac\x00", "\xf0\x90\x80\x80-"} {
		for _, s := range wrongs() {
			for _, behind := range []string{"", "z", "\xff"} {
				l, at, e := Runes(ahead + s + behind)
				if len(l) != 0 || at != len(ahead) || e != api.ErrUTF {
					t.Errorf("%x %x %x: %x %d %d", ahead, s, behind, l, at, int(e))
				}
			}
		}
	}
}

func TestRunesHandsOutNewMemory(t *testing.T) {
	s := "a\xc3\xa9"
	one, _, _ := Runes(s)
	one[0] = 'z'
	if two, _, _ := Runes(s); !slices.Equal(two, []rune{'a', 0xe9}) {
		t.Errorf("%x", two)
	}
}

// P1.5

func TestRunesOfEncodeOfEach(t *testing.T) {
	for r := rune(0); r <= 0x10ffff; r++ {
		if !Point(r) {
			continue
		}
		s, e := Encode(r)
		l, to, f := Runes(s)
		if e != api.OK || f != api.OK || to != len(s) || len(l) != 1 || l[0] != r {
			t.Fatalf("%x: %x %d; %x %d %d", r, s, int(e), l, to, int(f))
		}
	}
}

func TestRunesOfEncodeOfAll(t *testing.T) {
	var all []rune
	for r := rune(0x10ffff); r >= 0; r-- {
		if Point(r) {
			all = append(all, r)
		}
	}
	s, e := Encode(all...)
	l, to, f := Runes(s)
	if e != api.OK || f != api.OK || to != len(s) || !slices.Equal(l, all) {
		t.Errorf("%d; %d %d %d", int(e), len(l), to, int(f))
	}
	if len(s) != 0x80+2*0x780+3*0xf000+4*0x100000 {
		t.Error(len(s))
	}
}

// P1.6

func TestEncodeOfRunes(t *testing.T) {
	faults := 0
	see := func(s string) {
		if faults > 9 {
			return
		}
		if why := formFault(s); why != "" {
			t.Errorf("%x: %s", s, why)
			faults++
		}
	}
	everyShort(see)
	everyLong(see)
	for _, s := range wrongs() {
		see("a\xc3\xa9\xe2\x82\xac\xf0\x90\x80\x80" + s)
	}
}

// formFault says how Runes of s breaks P1.6, or nothing.
func formFault(s string) string {
	l, at, e := Runes(s)
	if e == api.OK {
		if back, f := Encode(l...); back != s || f != api.OK || at != len(s) {
			return "is not told back"
		}
		return ""
	}
	if e != api.ErrUTF || len(l) != 0 || at < 0 || at >= len(s) {
		return "is told wrongly"
	}
	if k, to, f := Runes(s[:at]); f != api.OK || to != at || !slices.Equal(k, []rune(s[:at])) {
		return "has a fault ahead of the place"
	}
	if _, _, f := Decode(s, at); f != api.ErrUTF {
		return "has a code point's bytes at the place"
	}
	return ""
}
