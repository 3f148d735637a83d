package fold

import (
	"math"
	"math/rand"
	"slices"
	"strconv"
	"strings"
	"testing"
	"unicode"

	"toponym/api"
	"toponym/chars"
	"toponym/decomp"
)

// named is the chapter's list of those that are named by themselves, word for word.
const named = "df 73 73; b5 3bc; 130 69 307; 149 2bc 6e; 178 ff; 17f 73; 386 3ac; 38c 3cc; 38e 3cd; 38f 3ce; 3c2 3c3; 401 451; 2126 3c9; 212a 6b; 212b e5; fb00 66 66; fb01 66 69; fb02 66 6c; fb03 66 66 69; fb04 66 66 6c; fb05 73 74"

// part is a range of the chapter: its words, what is left of a number by 2 (-1 if it may be anything), and how far above what it is folded to stands.
type part struct {
	words string
	rest  rune
	above rune
}

// parts are the chapter's ranges.
func parts() []part {
	return []part{
		{"41 to 5a", -1, 32}, {"c0 to de but d7", -1, 32}, {"391 to 3ab but 3a2", -1, 32}, {"410 to 42f", -1, 32}, {"ff21 to ff3a", -1, 32},
		{"100 to 136 but 130", 0, 1}, {"14a to 176", 0, 1},
		{"139 to 147", 1, 1}, {"179 to 17d", 1, 1},
		{"388 to 38a", -1, 37},
		{"2160 to 216b", -1, 16},
	}
}

func number(t *testing.T, s string) rune {
	t.Helper()
	n, err := strconv.ParseInt(s, 16, 32)
	if err != nil {
		t.Fatal(err)
	}
	return rune(n)
}

// ends are the first and the last number of a part, and the one that is left out (-1 if none is).
func (p part) ends(t *testing.T) (rune, rune, rune) {
	t.Helper()
	words, but, some := strings.Cut(p.words, " but ")
	from, to, _ := strings.Cut(words, " to ")
	out := rune(-1)
	if some {
		out = number(t, but)
	}
	return number(t, from), number(t, to), out
}

// book is all that are folded to others, and to what.
type book map[rune][]rune

// readNamed reads the chapter's list alone.
func readNamed(t *testing.T) book {
	t.Helper()
	b := book{}
	for _, row := range strings.Split(named, "; ") {
		words := strings.Fields(row)
		r := number(t, words[0])
		if b[r] != nil {
			t.Fatalf("%x stands twice", r)
		}
		for _, to := range words[1:] {
			b[r] = append(b[r], number(t, to))
		}
	}
	if len(b) != 21 {
		t.Fatalf("%d are named", len(b))
	}
	return b
}

// read reads the chapter's words, number by number.
func read(t *testing.T) book {
	t.Helper()
	b := readNamed(t)
	for _, p := range parts() {
		from, to, but := p.ends(t)
		for r := from; r <= to; r++ {
			if r == but || p.rest >= 0 && r%2 != p.rest {
				continue
			}
			if b[r] != nil {
				t.Fatalf("%x stands twice", r)
			}
			b[r] = []rune{r + p.above}
		}
	}
	return b
}

// one is what a character is folded to.
func (b book) one(r rune) []rune {
	if to := b[r]; to != nil {
		return to
	}
	return []rune{r}
}

// mapped is P9.2, word for word.
func (b book) mapped(folds bool, l []rune) []rune {
	var out []rune
	for _, r := range l {
		switch {
		case chars.Is(r, api.CharGone):
		case chars.Is(r, api.CharSpace):
			out = append(out, 0x20)
		case folds:
			out = append(out, b.one(r)...)
		default:
			out = append(out, r)
		}
	}
	return out
}

// folded is P9.3, word for word.
func (b book) folded(l []rune) bool {
	for _, r := range l {
		if b[r] != nil {
			return false
		}
	}
	return true
}

// ways are with folds and without.
func ways() []bool { return []bool{true, false} }

// outside are numbers below 0 and above 10ffff; some have lower bits that would be a character's.
func outside() []rune {
	return []rune{
		math.MinInt32, math.MinInt32 + 0x20, math.MinInt32 + 'A', math.MinInt32 + 0xdf, -0x10000 + 'A', -0xdf, -0xad, -0x41, -0x21, -0x20, -0x1f, -2, -1,
		0x110000, 0x110000 + 0x20, 0x110000 + 'A', 0x1100ad, 0x1100df, 0x110100, 0x11fb01, 0x7fff0041, 0x7fff0100, math.MaxInt32 - 32, math.MaxInt32 - 1, math.MaxInt32,
	}
}

// noChars are numbers up to 10ffff that are no characters, and some that are forbidden.
func noChars() []rune {
	return []rune{
		0x180, 0x1c4, 0x305, 0x370, 0x387, 0x38b, 0x38d, 0x3a2, 0x3cf, 0x3d8, 0x400, 0x402, 0x40f, 0x531, 0x1e00, 0x1e9e, 0x216c, 0x24b6,
		0xd800, 0xdfff, 0xfb06, 0xff5f, 0x10041, 0x100ad, 0x10400, 0x10ff21, 0x340, 0xe000, 0xe041, 0xfffe, 0xffff, 0x10ffff,
	}
}

// spaces are all spaces, rising.
func spaces() []rune {
	return []rune{
		0x9, 0xa, 0xb, 0xc, 0xd, 0x20, 0x85, 0xa0,
		0x2000, 0x2001, 0x2002, 0x2003, 0x2004, 0x2005, 0x2006, 0x2007, 0x2008, 0x2009, 0x200a,
		0x2028, 0x2029, 0x202f, 0x205f, 0x3000,
	}
}

// gone are the first and the last ones of each range of those that are left out.
func gone() []rune {
	return []rune{
		0, 8, 0xe, 0x1f, 0x7f, 0x84, 0x86, 0x9f, 0xad, 0x34f, 0x200b, 0x200f, 0x202a, 0x202e,
		0x2060, 0x2063, 0x206a, 0x206f, 0xfe00, 0xfe0f, 0xfeff, 0xfff9, 0xfffc,
	}
}

// everyone calls see with every code point, and with numbers that are none.
func everyone(see func(r rune)) {
	for r := rune(-0x400); r < 0x110400; r++ {
		see(r)
	}
	for _, r := range outside() {
		see(r)
	}
}

// P9.1: every number, by the chapter's words.
func TestOne(t *testing.T) {
	b := read(t)
	everyone(func(r rune) {
		if got := One(r); !slices.Equal(got, b.one(r)) {
			t.Errorf("One of %x: %x, not %x", r, got, b.one(r))
		}
	})
}

// P9.1: the first and the last number of each range, and those beside them.
func TestOneEdges(t *testing.T) {
	for _, c := range [][2]rune{
		{0x40, 0x40}, {0x41, 0x61}, {0x5a, 0x7a}, {0x5b, 0x5b}, {0x60, 0x60}, {0x61, 0x61}, {0x7a, 0x7a},
		{0xbf, 0xbf}, {0xc0, 0xe0}, {0xd6, 0xf6}, {0xd7, 0xd7}, {0xd8, 0xf8}, {0xde, 0xfe}, {0xe0, 0xe0}, {0xf7, 0xf7}, {0xff, 0xff},
		{0x100, 0x101}, {0x101, 0x101}, {0x102, 0x103}, {0x12e, 0x12f}, {0x12f, 0x12f}, {0x131, 0x131}, {0x132, 0x133}, {0x133, 0x133}, {0x135, 0x135}, {0x136, 0x137}, {0x137, 0x137},
		{0x138, 0x138}, {0x139, 0x13a}, {0x13a, 0x13a}, {0x13f, 0x140}, {0x140, 0x140}, {0x146, 0x146}, {0x147, 0x148}, {0x148, 0x148},
		{0x14a, 0x14b}, {0x14b, 0x14b}, {0x175, 0x175}, {0x176, 0x177}, {0x177, 0x177},
		{0x179, 0x17a}, {0x17a, 0x17a}, {0x17b, 0x17c}, {0x17c, 0x17c}, {0x17d, 0x17e}, {0x17e, 0x17e}, {0x180, 0x180},
		{0x387, 0x387}, {0x388, 0x3ad}, {0x389, 0x3ae}, {0x38a, 0x3af}, {0x38b, 0x38b}, {0x38d, 0x38d},
		{0x390, 0x390}, {0x391, 0x3b1}, {0x3a1, 0x3c1}, {0x3a2, 0x3a2}, {0x3a3, 0x3c3}, {0x3ab, 0x3cb}, {0x3ac, 0x3ac}, {0x3b0, 0x3b0}, {0x3b1, 0x3b1},
		{0x400, 0x400}, {0x402, 0x402}, {0x40f, 0x40f}, {0x410, 0x430}, {0x42f, 0x44f}, {0x430, 0x430}, {0x44f, 0x44f}, {0x451, 0x451},
		{0x215f, 0x215f}, {0x2160, 0x2170}, {0x216b, 0x217b}, {0x216c, 0x216c}, {0x2170, 0x2170},
		{0xff20, 0xff20}, {0xff21, 0xff41}, {0xff3a, 0xff5a}, {0xff3b, 0xff3b}, {0xff41, 0xff41},
	} {
		if got := One(c[0]); !slices.Equal(got, []rune{c[1]}) {
			t.Errorf("One of %x: %x, not %x", c[0], got, c[1])
		}
	}
}

// P9.1: those that a range leaves out; one of them is named by itself.
func TestOneLeftOut(t *testing.T) {
	for _, r := range []rune{0xd7, 0x3a2} {
		if got := One(r); !slices.Equal(got, []rune{r}) {
			t.Errorf("One of %x: %x", r, got)
		}
	}
	if got := One(0x130); !slices.Equal(got, []rune{0x69, 0x307}) {
		t.Errorf("One of 130: %x", got)
	}
}

// P9.1: in four stretches every second one is folded, to the one behind it, which stays.
func TestOneEvenAndOdd(t *testing.T) {
	see := func(from, to, step rune) {
		for r := from; r <= to; r += step {
			if r == 0x130 {
				continue
			}
			if got := One(r); !slices.Equal(got, []rune{r + 1}) {
				t.Errorf("One of %x: %x", r, got)
			}
			if got := One(r + 1); !slices.Equal(got, []rune{r + 1}) {
				t.Errorf("One of %x: %x", r+1, got)
			}
		}
	}
	see(0x100, 0x136, 2)
	see(0x139, 0x147, 2)
	see(0x14a, 0x176, 2)
	see(0x179, 0x17d, 2)
}

// P9.1: each that the list names, and those beside it that it does not name.
func TestOneNamed(t *testing.T) {
	b := read(t)
	for r, want := range readNamed(t) {
		if got := One(r); !slices.Equal(got, want) {
			t.Errorf("One of %x: %x, not %x", r, got, want)
		}
		for _, beside := range []rune{r - 1, r + 1} {
			if got := One(beside); !slices.Equal(got, b.one(beside)) {
				t.Errorf("One of %x: %x, not %x", beside, got, b.one(beside))
			}
		}
	}
	for r, want := range map[rune]string{0xdf: "ss", 0x149: "\u02bcn", 0xfb00: "ff", 0xfb03: "ffi", 0xfb04: "ffl", 0xfb05: "st", 0x212b: "\u00e5"} {
		if got := One(r); string(got) != want {
			t.Errorf("One of %x: %x", r, got)
		}
	}
}

// P9.1: numbers that are no characters, spaces and what is left out are themselves.
func TestOneThemselves(t *testing.T) {
	for _, r := range slices.Concat(outside(), noChars(), spaces(), gone()) {
		if got := One(r); !slices.Equal(got, []rune{r}) {
			t.Errorf("One of %x: %x", r, got)
		}
	}
}

// P9.1: the letters are Unicode's: one that is folded to one letter is folded to its small one, but for three small letters that are folded, too.
func TestOneSmall(t *testing.T) {
	for _, s := range chars.Table() {
		for r := s.From; r <= s.To; r++ {
			got := One(r)
			if len(got) == 1 && r != 0xb5 && r != 0x17f && r != 0x3c2 && got[0] != unicode.ToLower(r) {
				t.Errorf("One of %x: %x", r, got)
			}
		}
	}
}

// mapRow is characters, and what they are mapped to with folds and without.
type mapRow struct{ given, folds, plain []rune }

// stays is a row of what is mapped to itself in both ways.
func stays(l ...rune) mapRow { return mapRow{l, l, l} }

// both is a row of what is mapped to the same in both ways.
func both(given, want []rune) mapRow { return mapRow{given, want, want} }

func (r mapRow) want(folds bool) []rune {
	if folds {
		return r.folds
	}
	return r.plain
}

func mapRows() []mapRow {
	rows := []mapRow{
		// The chapter's example.
		{[]rune{0x41, 0xad, 0xdf, 0xa0}, []rune{0x61, 0x73, 0x73, 0x20}, []rune{0x41, 0xdf, 0x20}},
		// No characters at all; what is left out alone.
		stays(), both(gone(), nil), both([]rune{0xad, 0xad}, nil),
		// Spaces, each of them for itself.
		both(spaces(), slices.Repeat([]rune{0x20}, len(spaces()))),
		both([]rune{0x9, 0x200b, 0x3000, 0xa}, []rune{0x20, 0x20, 0x20}),
		// What is folded already.
		stays('a', 'b', 'c', 0x20, '1', '!', 0x301), stays(0xe0, 0xf7, 0xff, 0x101, 0x17e, 0x3b1, 0x3c3, 0x430, 0x451, 0x217b, 0xff41),
		stays(0x5d0, 0x1100, 0xac00, 0x304c, 0x4e00, 0x390, 0x131, 0x138, 0xd7),
		// Letters, with what is left out among them.
		{[]rune{'A', 0, 'B', 0xfeff, 'c'}, []rune{'a', 'b', 'c'}, []rune{'A', 'B', 'c'}},
		{[]rune{0xad, 'A'}, []rune{'a'}, []rune{'A'}}, {[]rune{'A', 0xad}, []rune{'a'}, []rune{'A'}},
		{[]rune{'A', 0x301, 'Z'}, []rune{'a', 0x301, 'z'}, []rune{'A', 0x301, 'Z'}},
		{[]rune{0x391, 0x3a3, 0x3c2}, []rune{0x3b1, 0x3c3, 0x3c3}, []rune{0x391, 0x3a3, 0x3c2}},
		// Those that are folded to two or three.
		{[]rune{0xdf, 0xdf}, []rune{'s', 's', 's', 's'}, []rune{0xdf, 0xdf}},
		{[]rune{0x130, 0x149}, []rune{0x69, 0x307, 0x2bc, 0x6e}, []rune{0x130, 0x149}},
		{[]rune{0xfb03, ' ', 0xfb04}, []rune{'f', 'f', 'i', ' ', 'f', 'f', 'l'}, []rune{0xfb03, ' ', 0xfb04}},
		// Wrong numbers among letters.
		{[]rune{'A', -1, 0x110000, 'B', 0xd800}, []rune{'a', -1, 0x110000, 'b', 0xd800}, []rune{'A', -1, 0x110000, 'B', 0xd800}},
	}
	for _, r := range spaces() {
		rows = append(rows, both([]rune{r}, []rune{0x20}), mapRow{[]rune{'A', r, r, 'B'}, []rune{'a', 0x20, 0x20, 'b'}, []rune{'A', 0x20, 0x20, 'B'}})
	}
	for _, r := range gone() {
		rows = append(rows, both([]rune{r}, nil), mapRow{[]rune{'A', r, r, 0xdf}, []rune{'a', 's', 's'}, []rune{'A', 0xdf}})
	}
	for _, r := range slices.Concat(outside(), noChars()) {
		rows = append(rows, stays(r), mapRow{[]rune{r, 'A', r}, []rune{r, 'a', r}, []rune{r, 'A', r}})
	}
	return rows
}

// P9.2: the edges, each in both ways.
func TestMap(t *testing.T) {
	b := read(t)
	for _, r := range mapRows() {
		for _, folds := range ways() {
			if got := Map(folds, r.given...); !slices.Equal(got, r.want(folds)) {
				t.Errorf("Map of %x, %t: %x, not %x", r.given, folds, got, r.want(folds))
			}
			if got := b.mapped(folds, r.given); !slices.Equal(got, r.want(folds)) {
				t.Errorf("%x, %t: by the words %x, not %x", r.given, folds, got, r.want(folds))
			}
		}
	}
}

// P9.2: every number, alone and between two letters.
func TestMapEveryone(t *testing.T) {
	b := read(t)
	everyone(func(r rune) {
		for _, folds := range ways() {
			for _, l := range [][]rune{{r}, {'A', r, 'b'}} {
				if got, want := Map(folds, l...), b.mapped(folds, l); !slices.Equal(got, want) {
					t.Fatalf("Map of %x, %t: %x, not %x", l, folds, got, want)
				}
			}
		}
	})
}

// lists are lists by chance, many of two numbers, and those of the rows.
func lists(t *testing.T) [][]rune {
	some := slices.Concat(outside(), noChars(), spaces(), gone())
	for r := range read(t) {
		some = append(some, r)
	}
	for _, kind := range []int{api.CharLetter, api.CharDigit, api.CharMark, api.CharSign, api.CharBad} {
		some = append(some, chars.Some(kind, 60)...)
	}
	slices.Sort(some)
	c := rand.New(rand.NewSource(9))
	var l [][]rune
	for i := range 8000 {
		one := make([]rune, c.Intn(3+i%20))
		for k := range one {
			one[k] = some[c.Intn(len(some))]
		}
		l = append(l, one)
	}
	for i := 0; i < len(some); i += 3 {
		for k := 1; k < len(some); k += 5 {
			l = append(l, []rune{some[i], some[k]})
		}
	}
	for _, r := range mapRows() {
		l = append(l, r.given)
	}
	return l
}

// P9.2, P9.3: lists by chance.
func TestByWords(t *testing.T) {
	b := read(t)
	both := 0
	for _, l := range lists(t) {
		for _, folds := range ways() {
			if got, want := Map(folds, l...), b.mapped(folds, l); !slices.Equal(got, want) {
				t.Fatalf("Map of %x, %t: %x, not %x", l, folds, got, want)
			}
		}
		if got := Folded(l...); got != b.folded(l) {
			t.Fatalf("Folded of %x: %t", l, got)
		}
		if len(l) > 1 && Folded(l...) {
			both++
		}
	}
	if both < 500 {
		t.Errorf("%d are folded alone", both)
	}
}

// P9.3: of no characters and of every number; one that is not folded, wherever it stands.
func TestFolded(t *testing.T) {
	b := read(t)
	if !Folded() || !Folded([]rune{}...) {
		t.Error("no characters at all")
	}
	everyone(func(r rune) {
		want := b[r] == nil
		if Folded(r) != want {
			t.Fatalf("Folded of %x: not %t", r, want)
		}
	})
	for r := range b {
		for _, l := range [][]rune{{r, r}, {r, 'a', 'b'}, {'a', r, 'b'}, {'a', 'b', r}, {r, 0xad}, {0x20, r}} {
			if Folded(l...) {
				t.Errorf("Folded of %x", l)
			}
		}
	}
}

// P9.3: spaces, what is left out, what is no character, and what is folded already are folded to themselves.
func TestFoldedThemselves(t *testing.T) {
	for _, l := range [][]rune{spaces(), gone(), outside(), noChars(), {'a', 'z', 0xe0, 0xd7, 0x131, 0x138, 0x3c3, 0x217b, 0xff41}} {
		if !Folded(l...) {
			t.Errorf("not Folded: %x", l)
		}
	}
	// What has as many characters as it is folded to, and is not folded.
	for _, l := range [][]rune{{'A'}, {0x17f}, {0x3c2}, {0xb5}, {'a', 'B'}} {
		if Folded(l...) {
			t.Errorf("Folded of %x", l)
		}
	}
}

// P9.4: what One tells is folded, and what it is made of, loosely, too.
func TestClosed(t *testing.T) {
	everyone(func(r rune) {
		l := One(r)
		if len(l) < 1 || len(l) > 3 || !Folded(l...) {
			t.Fatalf("One of %x: %x, which is not folded", r, l)
		}
		for _, to := range l {
			if again := One(to); !slices.Equal(again, []rune{to}) {
				t.Fatalf("One of %x: %x, and again %x", r, l, again)
			}
			if made := decomp.One(to, true); !Folded(made...) {
				t.Fatalf("One of %x: %x, made of %x", r, l, made)
			}
		}
	})
}

// P9.5: what Map tells has none that is left out, and no space but 20; mapped again it is the same.
func TestMapped(t *testing.T) {
	see := func(l []rune) {
		for _, folds := range ways() {
			got := Map(folds, l...)
			for _, r := range got {
				if chars.Is(r, api.CharGone) || chars.Is(r, api.CharSpace) && r != 0x20 {
					t.Fatalf("Map of %x, %t: %x", l, folds, got)
				}
			}
			if again := Map(folds, got...); !slices.Equal(again, got) {
				t.Fatalf("Map of %x, %t: %x, and again %x", l, folds, got, again)
			}
			if folds && !Folded(got...) {
				t.Fatalf("Map of %x: %x, which is not folded", l, got)
			}
		}
	}
	for _, l := range lists(t) {
		see(l)
	}
	everyone(func(r rune) { see([]rune{r}) })
}

// Very many characters.
func TestVeryLong(t *testing.T) {
	const n = 100000
	l := slices.Repeat([]rune{'A', 0xad, 0xfb03, 0x3000}, n)
	if got := Map(true, l...); !slices.Equal(got, slices.Repeat([]rune{'a', 'f', 'f', 'i', 0x20}, n)) {
		t.Error("with folds")
	}
	if got := Map(false, l...); !slices.Equal(got, slices.Repeat([]rune{'A', 0xfb03, 0x20}, n)) {
		t.Error("without folds")
	}
	small := slices.Repeat([]rune{'a'}, n)
	if !Folded(small...) || Folded(append(small, 'A')...) {
		t.Error("Folded")
	}
}

// Rule 4: what is handed in stays as it is, its spare room too; what is handed out is new.
func TestMemory(t *testing.T) {
	for _, r := range mapRows() {
		for _, folds := range ways() {
			n := len(r.given)
			room := append(slices.Clone(r.given), 'X', 0xdf, 0x3000, 0xad)
			before := slices.Clone(room)
			got := Map(folds, room[:n]...)
			Folded(room[:n]...)
			if !slices.Equal(room, before) {
				t.Fatalf("%x was changed: %x", before, room)
			}
			for i := range room {
				room[i] = 'z'
			}
			if !slices.Equal(got, r.want(folds)) {
				t.Fatalf("%x, %t: the answer hangs on what was handed in", r.given, folds)
			}
			copy(room, before)
			for i := range got {
				got[i] = 7
			}
			_ = append(got, 8, 9)
			if !slices.Equal(room, before) || !slices.Equal(Map(folds, r.given...), r.want(folds)) {
				t.Fatalf("%x, %t: the answer is not new", r.given, folds)
			}
		}
	}
	for r, want := range read(t) {
		got := One(r)
		for i := range got {
			got[i] = 7
		}
		_ = append(got, 8)
		if again := One(r); !slices.Equal(again, want) {
			t.Errorf("One of %x, later: %x", r, again)
		}
	}
}
