package nfkc

import (
	"math"
	"math/rand"
	"slices"
	"strings"
	"testing"
	"unicode/utf8"

	"toponym/api"
	"toponym/arrange"
	"toponym/chars"
	"toponym/compose"
	"toponym/decomp"
	"toponym/utf"
)

// row is characters, and what they are with loose and without.
type row struct{ given, loose, strict []rune }

// stays is a row of characters that are a normal form in both ways.
func stays(l ...rune) row { return row{l, l, l} }

// both is a row of characters that come to be the same in both ways.
func both(given, want []rune) row { return row{given, want, want} }

func (r row) want(loose bool) []rune {
	if loose {
		return r.loose
	}
	return r.strict
}

// textRows are rows of code points.
func textRows() []row {
	return slices.Concat(plainRows(), looseRows(), markRows(), hangulRows())
}

// plainRows are of what stands for itself, and of singles.
func plainRows() []row {
	return []row{
		// No characters at all, and what is a normal form already.
		stays(),
		stays(0), stays('a'), stays(0x301), stays(0x10ffff), stays(0xe000),
		stays('a', 'b', 'c'),
		stays(0xe1, 0x327), stays(0xe7, 0x301), stays(0x390, 0x304c, 0x401, 0x5d0, 0x4e00, 0xac01),
		stays('q', 0x327, 0x301), stays(0x301, 0x308), stays(0x301, 'q', 0x301),
		stays(0xdf, 0x131, 0xb7, 0x2010, 0x2044, 0x200b),
		// Numbers that are code points, but no characters.
		stays(0x370, 0x305, 0x1113, 0xd7a4, 0xfffe, 0x10061, 0x10301), stays('a', 0x305, 0x301),
		// Singles are taken apart in both ways; the spaces among them are loose ones then.
		both([]rune{0x212b}, []rune{0xc5}), both([]rune{0x212a}, []rune{'K'}), both([]rune{0x2126}, []rune{0x3a9}),
		both([]rune{0x2126, 0x301}, []rune{0x38f}), both([]rune{0x212a, 0x327}, []rune{0x136}), both([]rune{0x212b, 0x301}, []rune{0xc5, 0x301}),
		{[]rune{0x2000}, []rune{' '}, []rune{0x2002}}, {[]rune{0x2001, 0x301}, []rune{' ', 0x301}, []rune{0x2003, 0x301}},
		// Letters that are put together.
		both([]rune{'a', 0x301}, []rune{0xe1}), both([]rune{'A', 0x30a}, []rune{0xc5}), both([]rune{0x304b, 0x3099}, []rune{0x304c}),
		both([]rune{0x3b9, 0x308, 0x301}, []rune{0x390}), both([]rune{0x3ca, 0x301}, []rune{0x390}), both([]rune{0x301, 'e', 0x301}, []rune{0x301, 0xe9}),
	}
}

// looseRows are of loose ones, which stay without loose: a normal form in one of the two ways alone.
func looseRows() []row {
	return []row{
		// The chapter's example.
		{[]rune{0xfb01, 'a', 0x301}, []rune{'f', 'i', 0xe1}, []rune{0xfb01, 0xe1}},
		{[]rune{0xa0}, []rune{' '}, []rune{0xa0}},
		{[]rune{0xbc}, []rune{'1', 0x2044, '4'}, []rune{0xbc}},
		{[]rune{0x149}, []rune{0x2bc, 'n'}, []rune{0x149}},
		{[]rune{0x2011}, []rune{0x2010}, []rune{0x2011}},
		{[]rune{0x2167, 0x217b}, []rune{'V', 'I', 'I', 'I', 'x', 'i', 'i'}, []rune{0x2167, 0x217b}},
		{[]rune{0xfb05}, []rune{'s', 't'}, []rune{0xfb05}},
		{[]rune{0x3000, 'x', 0xff5e}, []rune{' ', 'x', '~'}, []rune{0x3000, 'x', 0xff5e}},
		{[]rune{'e', 0x301, 0xb2}, []rune{0xe9, '2'}, []rune{0xe9, 0xb2}},
		// With a mark behind it.
		{[]rune{0xff21, 0x30a}, []rune{0xc5}, []rune{0xff21, 0x30a}},
		{[]rune{0x17f, 0x327}, []rune{0x15f}, []rune{0x17f, 0x327}},
		{[]rune{0xaa, 0x301}, []rune{0xe1}, []rune{0xaa, 0x301}},
		{[]rune{0xfb01, 0x301}, []rune{'f', 0xed}, []rune{0xfb01, 0x301}},
		{[]rune{0x2163, 0x307}, []rune{'I', 'V', 0x307}, []rune{0x2163, 0x307}},
		{[]rune{0x2161, 0x307}, []rune{'I', 0x130}, []rune{0x2161, 0x307}},
		{[]rune{0xfb05, 0x30c}, []rune{'s', 0x165}, []rune{0xfb05, 0x30c}},
		{[]rune{0x149, 0x301}, []rune{0x2bc, 0x144}, []rune{0x149, 0x301}},
		{[]rune{0xa8, 0x301}, []rune{' ', 0x308, 0x301}, []rune{0xa8, 0x301}},
		{[]rune{0xb4, 0x327}, []rune{' ', 0x327, 0x301}, []rune{0xb4, 0x327}},
		{[]rune{0xb4, 0x308}, []rune{' ', 0x301, 0x308}, []rune{0xb4, 0x308}},
		{[]rune{0xbd, 0x301}, []rune{'1', 0x2044, '2', 0x301}, []rune{0xbd, 0x301}},
		{[]rune{0xff25, 0x301, 0x328}, []rune{0x118, 0x301}, []rune{0xff25, 0x328, 0x301}},
		{[]rune{0xff21, 0x212b}, []rune{'A', 0xc5}, []rune{0xff21, 0xc5}},
	}
}

// markRows are of marks that stand in the wrong order.
func markRows() []row {
	return []row{
		both([]rune{'a', 0x301, 0x327}, []rune{0xe1, 0x327}),
		both([]rune{'c', 0x301, 0x327}, []rune{0xe7, 0x301}),
		both([]rune{0x107, 0x327}, []rune{0xe7, 0x301}),
		both([]rune{0xe9, 0x328}, []rune{0x119, 0x301}),
		both([]rune{'q', 0x301, 0x323, 0x327, 0x3099}, []rune{'q', 0x3099, 0x327, 0x323, 0x301}),
		both([]rune{0x301, 0x327}, []rune{0x327, 0x301}),
		both([]rune{0x301, 0x327, 'c', 0x301, 0x327}, []rune{0x327, 0x301, 0xe7, 0x301}),
		both([]rune{0x304b, 0x323, 0x3099}, []rune{0x304c, 0x323}),
		both([]rune{0x390, 0x323}, []rune{0x390, 0x323}),
		both([]rune{0x3af, 0x308}, []rune{0x3af, 0x308}),
		both([]rune{'e', 0x303, 0x301}, []rune{'e', 0x303, 0x301}),
		both([]rune{'a', 0x301, 'b', 0x327}, []rune{0xe1, 'b', 0x327}),
	}
}

// hangulRows are of letters of hangul.
func hangulRows() []row {
	return []row{
		both([]rune{0x1100, 0x1161}, []rune{0xac00}),
		both([]rune{0x1100, 0x1161, 0x11a8}, []rune{0xac01}),
		both([]rune{0x1112, 0x1175, 0x11c2}, []rune{0xd7a3}),
		both([]rune{0xac00, 0x11a8}, []rune{0xac01}),
		both([]rune{0xac01, 0x11a8}, []rune{0xac01, 0x11a8}),
		both([]rune{0x1100, 0x1100, 0x1161, 0x1161}, []rune{0x1100, 0xac00, 0x1161}),
		both([]rune{0xac00, 0x301, 0x11a8}, []rune{0xac00, 0x301, 0x11a8}),
		both([]rune{0x1100, 0x11a8}, []rune{0x1100, 0x11a8}),
		{[]rune{0xff21, 0x1100, 0x1161}, []rune{'A', 0xac00}, []rune{0xff21, 0xac00}},
	}
}

// wrongRows are of numbers below 0 and above 10ffff, and of numbers that are no code points: they stand for themselves, and have no class.
func wrongRows() []row {
	rows := []row{
		both([]rune{'a', 0x301, -1, 'a', 0x301}, []rune{0xe1, -1, 0xe1}),
		stays('a', -1, 0x301), stays('a', 0x110000, 0x301), stays('a', 0xd800, 0x301), stays('a', 0x110301), stays(0x1100, -0x1161), stays(-0x61, 0x301),
		both([]rune{-1, 0x301, 0x327}, []rune{-1, 0x327, 0x301}),
		{[]rune{0xdfff, 0xfb01, math.MaxInt32}, []rune{0xdfff, 'f', 'i', math.MaxInt32}, []rune{0xdfff, 0xfb01, math.MaxInt32}},
	}
	for _, r := range outside() {
		rows = append(rows, stays(r), stays(r, r), stays(0xe1, r, 0x301))
	}
	return rows
}

// outside are numbers that are no code points; some have lower bits that would be a character's.
func outside() []rune {
	return []rune{
		math.MinInt32, math.MinInt32 + 'a', math.MinInt32 + 0xfb01, math.MinInt32 + 0xac00, -0x110000, -0xfb01, -0x212b, -0x301, -0x10000 + 0x301, -2, -1,
		0xd800, 0xdbff, 0xdc00, 0xdfff,
		0x110000, 0x110000 + 'a', 0x110000 + 0x301, 0x11ac00, 0x11fb01, 0x7fff212b, 0x7ffffb01, math.MaxInt32 - 1, math.MaxInt32,
	}
}

// wrongTexts are bytes that are no code points.
func wrongTexts() []string {
	return []string{
		"\xff", "\x80", "\xbf", "\xc0", "\xc3", "\xe2\x82", "\xf0\x9f\x98", // no first byte, and what ends too early
		"\xc0\x80", "\xc1\xbf", "\xe0\x80\x80", "\xe0\x9f\xbf", "\xf0\x80\x80\x80", "\xf0\x8f\xbf\xbf", // more bytes than are needed
		"\xed\xa0\x80", "\xed\xbf\xbf", "\xf4\x90\x80\x80", "\xf8\x88\x80\x80\x80", // numbers that are no code points
	}
}

// wrongPlaces are the texts with wrong bytes at the beginning, in the middle, at the end, and alone.
func wrongPlaces() []string {
	var l []string
	for _, w := range wrongTexts() {
		l = append(l, w, w+"abc", "ab"+w+"c", "abc"+w, "e\u0301"+w+"\ufb01", "\ufb01\u0301"+w, w+"\u1100\u1161")
	}
	return l
}

// ways are with loose and without.
func ways() []bool { return []bool{true, false} }

// words is P8.1, word for word.
func words(loose bool, l []rune) []rune {
	return compose.All(arrange.Order(decomp.All(loose, l...)...)...)
}

// P8.1: the edges, each in both ways.
func TestRunes(t *testing.T) {
	for _, r := range slices.Concat(textRows(), wrongRows()) {
		for _, loose := range ways() {
			if got := Runes(loose, r.given...); !slices.Equal(got, r.want(loose)) {
				t.Errorf("Runes of %x, %t: %x, not %x", r.given, loose, got, r.want(loose))
			}
			if got := words(loose, r.given); !slices.Equal(got, r.want(loose)) {
				t.Errorf("%x, %t: by the words %x, not %x", r.given, loose, got, r.want(loose))
			}
		}
	}
}

// P8.1: just what stays as it is.
func TestIs(t *testing.T) {
	for _, r := range slices.Concat(textRows(), wrongRows()) {
		for _, loose := range ways() {
			if got := Is(loose, r.given...); got != slices.Equal(r.given, r.want(loose)) {
				t.Errorf("Is of %x, %t: %t", r.given, loose, got)
			}
		}
	}
	if !Is(true) || !Is(false) {
		t.Error("no characters at all")
	}
	// A normal form in one of the two ways alone.
	for _, l := range [][]rune{{0xfb01}, {0xfb01, 0xe1}, {0xff21, 0x30a}, {0x2002}, {0xbc}} {
		if Is(true, l...) || !Is(false, l...) {
			t.Errorf("%x: %t %t", l, Is(true, l...), Is(false, l...))
		}
	}
	// What has as many characters as its normal form, and is none.
	for _, l := range [][]rune{{0x212b}, {0x107, 0x327}, {'q', 0x301, 0x327}, {0x2000}} {
		if Is(true, l...) || Is(false, l...) {
			t.Errorf("%x: %t %t", l, Is(true, l...), Is(false, l...))
		}
	}
}

// P8.2: the rows as texts; Go's own conversions lay the bytes.
func TestText(t *testing.T) {
	for _, r := range textRows() {
		for _, loose := range ways() {
			got, e := Text(loose, string(r.given))
			if got != string(r.want(loose)) || e != api.OK {
				t.Errorf("Text of %q, %t: %q %d", string(r.given), loose, got, int(e))
			}
		}
	}
	if s, e := Text(true, "\xef\xac\x81a\xcc\x81"); s != "fi\xc3\xa1" || e != api.OK {
		t.Errorf("%q %d", s, int(e))
	}
	if s, e := Text(false, "\xef\xac\x81a\xcc\x81"); s != "\xef\xac\x81\xc3\xa1" || e != api.OK {
		t.Errorf("%q %d", s, int(e))
	}
}

// P8.2: wrong bytes, wherever they stand: utf's error, and no text beside it.
func TestTextWrong(t *testing.T) {
	for _, s := range wrongPlaces() {
		for _, loose := range ways() {
			if got, e := Text(loose, s); got != "" || e != api.ErrUTF {
				t.Errorf("Text of %q, %t: %q %d", s, loose, got, int(e))
			}
		}
	}
}

// P8.2: bytes by chance are wrong just where Go says that they are.
func TestTextBytes(t *testing.T) {
	c := rand.New(rand.NewSource(82))
	some := []string{"a", "e", "\u0301", "\u0327", "\ufb01", "\u1100", "\u1161", "\xcc", "\x81", "\xe2", "\x80", "\xff"}
	right := 0
	for range 20000 {
		s := ""
		for range c.Intn(8) {
			s += some[c.Intn(len(some))]
		}
		for _, loose := range ways() {
			got, e := Text(loose, s)
			want, fault := "", api.ErrUTF
			if utf8.ValidString(s) {
				want, fault = string(words(loose, []rune(s))), api.OK
				right++
			}
			if got != want || e != fault {
				t.Fatalf("Text of %q, %t: %q %d", s, loose, got, int(e))
			}
		}
	}
	if right < 1000 {
		t.Errorf("%d texts alone", right)
	}
}

// P8.3: texts that are the same, in both ways, loosely alone, and in none.
func TestSame(t *testing.T) {
	for _, c := range []struct {
		a, b          string
		loose, strict bool
	}{
		{"", "", true, true},
		{"", "a", false, false},
		{"", "\u200b", false, false},
		{"abc", "abc", true, true},
		{"abc", "abd", false, false},
		{"abc", "ab", false, false},
		{"a", "A", false, false},
		{"e\u0301", "\u00e9", true, true},
		{"\u212b", "A\u030a", true, true},
		{"\u212b", "\u00c5", true, true},
		{"\u00c5", "\uff21\u030a", true, false},
		{"\ufb01", "fi", true, false},
		{"\ufb01a\u0301", "fi\u00e1", true, false},
		{"\u2000", "\u2002", true, true},
		{"\u2000", "\u2003", true, false},
		{"\u2000", " ", true, false},
		{"\u00b2", "\u2082", true, false},
		{"\u00b2", "\u2083", false, false},
		{"\uff12", "\u00b2", true, false},
		{"c\u0301\u0327", "\u00e7\u0301", true, true},
		{"c\u0301\u0327", "\u0107\u0327", true, true},
		{"a\u0301\u0308", "a\u0308\u0301", false, false},
		{"\u0301\u0327", "\u0327\u0301", true, true},
		{"\u1100\u1161\u11a8", "\uac01", true, true},
		{"\uac00\u11a8", "\uac01", true, true},
		{"\u1100\u1161", "\uac01", false, false},
		{"\u2126\u0301", "\u038f", true, true},
		{"q\u0301", "q", false, false},
	} {
		for _, loose := range ways() {
			want := c.strict
			if loose {
				want = c.loose
			}
			if got, e := Same(loose, c.a, c.b); got != want || e != api.OK {
				t.Errorf("Same of %q and %q, %t: %t %d", c.a, c.b, loose, got, int(e))
			}
			if got, e := Same(loose, c.b, c.a); got != want || e != api.OK {
				t.Errorf("Same of %q and %q, %t: %t %d", c.b, c.a, loose, got, int(e))
			}
		}
	}
}

// P8.3: all rows, each against each, by their normal forms.
func TestSameEach(t *testing.T) {
	for _, a := range textRows() {
		for _, b := range textRows() {
			for _, loose := range ways() {
				want := slices.Equal(a.want(loose), b.want(loose))
				if got, e := Same(loose, string(a.given), string(b.given)); got != want || e != api.OK {
					t.Errorf("Same of %x and %x, %t: %t %d", a.given, b.given, loose, got, int(e))
				}
			}
		}
	}
}

// P8.3: wrong bytes in the first text, in the second one, and in both; even of the same bytes nothing is the same.
func TestSameWrong(t *testing.T) {
	see := func(a, b string) {
		t.Helper()
		for _, loose := range ways() {
			if same, e := Same(loose, a, b); same || e != api.ErrUTF {
				t.Errorf("Same of %q and %q, %t: %t %d", a, b, loose, same, int(e))
			}
		}
	}
	for _, s := range wrongPlaces() {
		for _, right := range []string{"", "abc", "e\u0301", "\ufb01"} {
			see(s, right)
			see(right, s)
		}
		see(s, s)
		see(s, "\xff")
		see("a\xff", s)
	}
}

// some are characters that do something with others, and some that do not.
func some() []rune {
	return []rune{
		'a', 'e', 'f', 'c', 'I', ' ', '1', 0x301, 0x302, 0x308, 0x30a, 0x323, 0x327, 0x328, 0x3099, 0x309a,
		0xa8, 0xaa, 0xb4, 0xb8, 0xbc, 0xc5, 0xe7, 0xe9, 0x107, 0x119, 0x132, 0x149, 0x17f, 0x390, 0x3b0, 0x3b9, 0x3ca, 0x3af, 0x418,
		0x1100, 0x1161, 0x11a8, 0xac00, 0xac01, 0x2000, 0x2003, 0x2126, 0x212a, 0x212b, 0x2161, 0x2167,
		0x304b, 0x304c, 0x306f, 0x3071, 0xfb01, 0xfb03, 0xfb05, 0xff21, 0xff49, 0x370, 0x305, 0x10301,
	}
}

// lists are every list of up to two of some, and lists by chance of them and of numbers that are no code points.
func lists() [][]rune {
	l := [][]rune{nil}
	for _, a := range some() {
		l = append(l, []rune{a})
		for _, b := range some() {
			l = append(l, []rune{a, b})
		}
	}
	c := rand.New(rand.NewSource(8))
	from := slices.Concat(some(), some(), outside())
	for i := range 4000 {
		one := make([]rune, c.Intn(3+i%20))
		for k := range one {
			one[k] = from[c.Intn(len(from))]
		}
		l = append(l, one)
	}
	for _, r := range slices.Concat(textRows(), wrongRows()) {
		l = append(l, r.given)
	}
	return l
}

// everyone calls see with each code point, alone, and with marks and letters behind it.
func everyone(see func(l []rune)) {
	for r := rune(-0x10); r < 0x110010; r++ {
		if r > 0x10000 && r%0x1d != 0 {
			continue
		}
		see([]rune{r})
		if r < 0x3400 || r > 0xfa00 && r < 0x10000 || r%0x3b == 0 {
			see([]rune{r, 0x301, 0x327})
			see([]rune{'a', r, 0x308})
		}
	}
}

// P8.1: every code point, and lists by chance.
func TestRunesByWords(t *testing.T) {
	see := func(l []rune) {
		for _, loose := range ways() {
			want := words(loose, l)
			if got := Runes(loose, l...); !slices.Equal(got, want) {
				t.Fatalf("Runes of %x, %t: %x, not %x", l, loose, got, want)
			}
			if got := Is(loose, l...); got != slices.Equal(l, want) {
				t.Fatalf("Is of %x, %t: %t", l, loose, got)
			}
		}
	}
	for _, l := range lists() {
		see(l)
	}
	everyone(see)
}

// P8.4: a normal form is its own; a loose one is so without loose, too.
func TestStable(t *testing.T) {
	see := func(l []rune) {
		for _, loose := range ways() {
			normal := Runes(loose, l...)
			if !slices.Equal(Runes(loose, normal...), normal) || !Is(loose, normal...) {
				t.Fatalf("%x, %t: %x, and again %x", l, loose, normal, Runes(loose, normal...))
			}
			if loose && (!slices.Equal(Runes(false, normal...), normal) || !Is(false, normal...)) {
				t.Fatalf("%x: %x, and without loose %x", l, normal, Runes(false, normal...))
			}
		}
	}
	for _, l := range lists() {
		see(l)
	}
	everyone(see)
	for _, r := range textRows() {
		for _, loose := range ways() {
			s, _ := Text(loose, string(r.given))
			if again, e := Text(loose, s); again != s || e != api.OK {
				t.Errorf("%q, %t: %q %d", s, loose, again, int(e))
			}
			if same, e := Same(loose, s, string(r.given)); !same || e != api.OK {
				t.Errorf("%q and %x, %t", s, r.given, loose)
			}
		}
	}
}

// P8.5: what characters have apart, and apart and ordered, they have; a loose normal form is that of the other one.
func TestOfApart(t *testing.T) {
	see := func(l []rune) {
		for _, loose := range ways() {
			normal := Runes(loose, l...)
			apart := decomp.All(loose, l...)
			if got := Runes(loose, apart...); !slices.Equal(got, normal) {
				t.Fatalf("%x, %t: %x, but apart %x", l, loose, normal, got)
			}
			if got := Runes(loose, arrange.Order(apart...)...); !slices.Equal(got, normal) {
				t.Fatalf("%x, %t: %x, but apart and ordered %x", l, loose, normal, got)
			}
			if got := Runes(loose, decomp.All(false, l...)...); !slices.Equal(got, normal) {
				t.Fatalf("%x, %t: %x, but apart without loose %x", l, loose, normal, got)
			}
		}
		if got := Runes(true, Runes(false, l...)...); !slices.Equal(got, Runes(true, l...)) {
			t.Fatalf("%x: %x, but of the other normal form %x", l, Runes(true, l...), got)
		}
	}
	for _, l := range lists() {
		see(l)
	}
	everyone(see)
}

// P8.5: two texts that differ, and have the same normal form.
func TestSameOfApart(t *testing.T) {
	for _, s := range chars.Table() {
		for r := s.From; r <= s.To; r++ {
			if r > 0x10000 || !utf.Point(r) {
				continue
			}
			for _, loose := range ways() {
				one := string(r)
				apart := string(decomp.One(r, loose))
				if same, e := Same(loose, one, apart); !same || e != api.OK {
					t.Fatalf("%x, %t: %t %d", r, loose, same, int(e))
				}
				if same, _ := Same(loose, one+"x", apart+"y"); same {
					t.Fatalf("%x x and %x y, %t", r, r, loose)
				}
			}
		}
	}
}

// P8.6: at most three times the bytes of the text.
func TestLength(t *testing.T) {
	see := func(l []rune) {
		s := string(l) // what is no code point comes to be one that stands for itself
		normal, e := Text(true, s)
		if e != api.OK || len(normal) > 3*len(s) {
			t.Fatalf("%q: %q %d", s, normal, int(e))
		}
		// Just some that are made of three signs come near it, with five bytes of two.
		if 2*len(normal) > 5*len(s) {
			t.Fatalf("%q has more than was thought: %q", s, normal)
		}
		if strict, e := Text(false, s); e != api.OK || len(strict) > len(s) {
			t.Fatalf("%q, without loose: %q %d", s, strict, int(e))
		}
	}
	for _, l := range lists() {
		see(l)
	}
	everyone(see)
}

// P8.6: the longest normal forms, and texts that have three times their bytes on the way, apart, and come together again.
func TestLengthEdges(t *testing.T) {
	for _, n := range []int{0, 1, 2, 133, 200} {
		for _, c := range []struct{ part, want string }{
			{"\u00bc", "1\u20444"}, {"\u00bd", "1\u20442"}, {"\u00be", "3\u20444"}, {"\u00a8", " \u0308"}, {"\u2167", "VIII"},
			{"\u0390", "\u0390"}, {"\u03b0", "\u03b0"}, {"\uac01", "\uac01"}, {"\ud7a3", "\ud7a3"},
		} {
			s := strings.Repeat(c.part, n)
			got, e := Text(true, s)
			if got != strings.Repeat(c.want, n) || e != api.OK || len(got) > 3*len(s) {
				t.Errorf("%d times %q: %q %d", n, c.part, got, int(e))
			}
		}
	}
	for _, s := range []string{"\u0390", "\u03b0", "\uac01", "\ud7a3", "\u0390\uac01"} {
		apart := string(decomp.All(true, []rune(s)...))
		if len(apart) != 3*len(s) {
			t.Errorf("%q, apart: %q", s, apart)
		}
		if got, e := Text(true, apart); got != s || e != api.OK {
			t.Errorf("%q: %q %d", apart, got, int(e))
		}
		// Marks behind it do not keep it apart.
		for _, mark := range []string{"\u0301", "\u0308", "\u0323", "\u0327", "\u3099"} {
			if got, e := Text(true, s+mark); got != s+mark || e != api.OK {
				t.Errorf("%q: %q %d", s+mark, got, int(e))
			}
		}
	}
}

// Very long texts, and very many marks in the wrong order behind one letter.
func TestVeryLong(t *testing.T) {
	const n = 50000
	s := strings.Repeat("e\u0301\ufb01\u1100\u1161\u00bc", n)
	if got, e := Text(true, s); got != strings.Repeat("\u00e9fi\uac001\u20444", n) || e != api.OK {
		t.Error("a long text")
	}
	if got, e := Text(false, s); got != strings.Repeat("\u00e9\ufb01\uac00\u00bc", n) || e != api.OK {
		t.Error("a long text, without loose")
	}
	run := "c" + strings.Repeat("\u0301\u0327", n)
	want := "\u00e7" + strings.Repeat("\u0327", n-1) + strings.Repeat("\u0301", n)
	for _, loose := range ways() {
		if got, e := Text(loose, run); got != want || e != api.OK {
			t.Error("a long run", loose)
		}
		if same, e := Same(loose, run, want); !same || e != api.OK {
			t.Error("a long run, held against its normal form", loose)
		}
		if got, e := Text(loose, s+"\xff"); got != "" || e != api.ErrUTF {
			t.Error("a long text, wrong at the end", loose)
		}
	}
}

// Rule 4: what is handed in stays as it is, its spare room too; what is handed out is new.
func TestMemory(t *testing.T) {
	for _, r := range slices.Concat(textRows(), wrongRows()) {
		for _, loose := range ways() {
			n := len(r.given)
			room := append(slices.Clone(r.given), 0x301, 0x327, 'x', 0x1161)
			before := slices.Clone(room)
			got := Runes(loose, room[:n]...)
			Is(loose, room[:n]...)
			if !slices.Equal(room, before) {
				t.Fatalf("%x was changed: %x", before, room)
			}
			for i := range room {
				room[i] = 'z'
			}
			if !slices.Equal(got, r.want(loose)) {
				t.Fatalf("%x, %t: the answer hangs on what was handed in", r.given, loose)
			}
			copy(room, before)
			for i := range got {
				got[i] = 7
			}
			_ = append(got, 8, 9)
			if !slices.Equal(room, before) || !slices.Equal(Runes(loose, r.given...), r.want(loose)) {
				t.Fatalf("%x, %t: the answer is not new", r.given, loose)
			}
		}
	}
}
