package compose

import (
	"math"
	"math/rand"
	"slices"
	"testing"

	"toponym/api"
	"toponym/arrange"
	"toponym/chars"
	"toponym/decomp"
	"toponym/hangul"
)

// two are the head and the character behind it.
type two struct{ a, b rune }

// book is all that letters and marks make, and all syllables, by which the words of P7.1 and P7.2 are said anew.
type book map[two]rune

// read asks decomp of every number, and counts the syllables by the words of their chapter.
func read(t *testing.T) book {
	t.Helper()
	b := book{}
	for r := rune(-0x200); r < 0x110200; r++ {
		if letter, mark, ok := decomp.Pair(r); ok {
			if b[two{letter, mark}] != 0 {
				t.Fatalf("%x %x make two letters", letter, mark)
			}
			b[two{letter, mark}] = r
		}
	}
	if len(b) != 211 {
		t.Fatalf("%d pairs", len(b))
	}
	for lead := range rune(19) {
		for vowel := range rune(21) {
			open := 0xac00 + (21*lead+vowel)*28
			b[two{0x1100 + lead, 0x1161 + vowel}] = open
			for tail := rune(1); tail <= 27; tail++ {
				b[two{open, 0x11a7 + tail}] = open + tail
			}
		}
	}
	return b
}

// classOf is the class of each mark, as the chapter of characters says it; 0 of all others.
func classOf(r rune) int {
	switch r {
	case 0x327, 0x328:
		return 202
	case 0x323:
		return 220
	case 0x3099, 0x309a:
		return 8
	case 0x300, 0x301, 0x302, 0x303, 0x304, 0x306, 0x307, 0x308, 0x30a, 0x30b, 0x30c:
		return 230
	}
	return 0
}

// all is P7.2, word for word: the head is looked for anew, and all behind it are asked, for each character.
func (b book) all(l []rune) []rune {
	var stand []rune
	for _, r := range l {
		head := len(stand) - 1
		for head >= 0 && classOf(stand[head]) != 0 {
			head--
		}
		if head < 0 {
			stand = append(stand, r)
			continue
		}
		pair, ok := b[two{stand[head], r}]
		for _, behind := range stand[head+1:] {
			if classOf(behind) >= classOf(r) {
				ok = false
			}
		}
		if ok {
			stand[head] = pair
		} else {
			stand = append(stand, r)
		}
	}
	return stand
}

// marks are all marks, rising.
func marks() []rune {
	return []rune{0x300, 0x301, 0x302, 0x303, 0x304, 0x306, 0x307, 0x308, 0x30a, 0x30b, 0x30c, 0x323, 0x327, 0x328, 0x3099, 0x309a}
}

// outside are numbers below 0 and above 10ffff; some have lower bits that would be a letter's, a mark's, a part's or a syllable's.
func outside() []rune {
	return []rune{
		math.MinInt32, math.MinInt32 + 'a', math.MinInt32 + 0x301, math.MinInt32 + 0xac00, -0xac00, -0x1161, -0x301, -0x61, -0x10000 + 'a', -0x10000 + 0x301, -2, -1,
		0x110000, 0x110000 + 'a', 0x110000 + 0x301, 0x111100, 0x111161, 0x7fff0061, 0x7fff0301, 0x7fffac00, math.MaxInt32 - 1, math.MaxInt32,
	}
}

// noChars are numbers up to 10ffff that are no characters.
func noChars() []rune {
	return []rune{0x180, 0x1fe, 0x305, 0x309, 0x30d, 0x324, 0x329, 0x370, 0x385, 0x400, 0x10ff, 0x1113, 0x1160, 0x1176, 0x11a7, 0x11c3, 0x3040, 0x3095, 0x3098, 0x309b, 0xabff, 0xd7a4, 0xd800, 0xdfff, 0x10061, 0x10301, 0x11100}
}

// heads are all letters that make something with a mark, and others of all kinds.
func heads(b book) []rune {
	var l []rune
	for p := range b {
		if classOf(p.b) != 0 {
			l = append(l, p.a)
		}
	}
	l = append(l, 0, 0x20, '0', '!', 0xa0, 0xc5, 0xdf, 0xe1, 0x130, 0x131, 0x390, 0x5d0, 0x1100, 0x1161, 0x11a8, 0x200b, 0x2126, 0x212b, 0x304c, 0x3093, 0x3094, 0x4e00, 0xac00, 0xac01, 0xe000, 0xfb01, 0xff21, 0x341)
	l = append(l, outside()...)
	l = append(l, noChars()...)
	slices.Sort(l)
	return slices.Compact(l)
}

// P7.1: whatever decomp's Pair tells, back; and hangul's Join. Each letter and each number that stands near one, with each mark and each part.
func TestPair(t *testing.T) {
	b := read(t)
	behind := slices.Concat(marks(), outside(), noChars(), []rune{0, 'a', 'b', 0x1161, 0x11a8, 0xac00, 0x340, 0x341, 0x34f})
	see := func(a, c rune) {
		want, ok := b[two{a, c}]
		if got, is := Pair(a, c); got != want || is != ok {
			t.Fatalf("Pair of %x and %x: %x %t, not %x", a, c, got, is, want)
		}
	}
	for _, a := range slices.Concat(outside(), noChars()) {
		for _, c := range behind {
			see(a, c)
		}
	}
	for _, a := range heads(b) {
		for _, c := range behind {
			see(a, c)
		}
	}
	for a := rune(0); a < 0x3100; a++ {
		for _, c := range []rune{0x301, 0x308, 0x3099, 'a', 0x1161} {
			see(a, c)
		}
	}
}

// P7.1: all that there are.
func TestPairAllThere(t *testing.T) {
	for p, want := range read(t) {
		if got, ok := Pair(p.a, p.b); got != want || !ok {
			t.Fatalf("Pair of %x and %x: %x %t, not %x", p.a, p.b, got, ok, want)
		}
		if _, ok := Pair(p.b, p.a); ok {
			t.Fatalf("Pair of %x and %x, the wrong way round", p.b, p.a)
		}
	}
}

// P7.1: of each row of decomp's table one, and what makes none, by code points.
func TestPairEdges(t *testing.T) {
	for _, c := range []struct{ a, b, want rune }{
		{'A', 0x300, 0xc0}, {'u', 0x300, 0xf9}, {'A', 0x301, 0xc1}, {'z', 0x301, 0x17a}, {0x391, 0x301, 0x386}, {0x3c9, 0x301, 0x3ce},
		{'y', 0x302, 0x177}, {'u', 0x303, 0x169}, {'A', 0x304, 0x100}, {0x438, 0x306, 0x439}, {'I', 0x307, 0x130}, {'z', 0x307, 0x17c},
		{'Y', 0x308, 0x178}, {0x415, 0x308, 0x401}, {0x435, 0x308, 0x451}, {'A', 0x30a, 0xc5}, {'u', 0x30b, 0x171}, {'z', 0x30c, 0x17e},
		{'C', 0x327, 0xc7}, {'u', 0x328, 0x173}, {0x304b, 0x3099, 0x304c}, {0x3046, 0x3099, 0x3094}, {0x307b, 0x309a, 0x307d},
		// A head that is made of a head and a mark already.
		{0x3ca, 0x301, 0x390}, {0x3cb, 0x301, 0x3b0},
		{0x3af, 0x308, 0}, {0xe4, 0x301, 0}, {0xe1, 0x308, 0}, {0xc5, 0x301, 0}, {0xe7, 0x301, 0}, {0x107, 0x327, 0},
		// Syllables.
		{0x1100, 0x1161, 0xac00}, {0x1112, 0x1175, 0xd788}, {0xac00, 0x11a8, 0xac01}, {0xd788, 0x11c2, 0xd7a3},
		{0xac01, 0x11a8, 0}, {0x1100, 0x11a8, 0}, {0x1161, 0x11a8, 0}, {0x1161, 0x1100, 0}, {0xac00, 0x1161, 0}, {0xac00, 0x11a7, 0}, {0x1113, 0x1161, 0}, {0x1100, 0x1176, 0}, {0xac00, 0x11c3, 0},
		// What decomp tells of singles and of loose ones makes none.
		{0x3a9, 0, 0}, {'K', 0, 0}, {'f', 'i', 0}, {' ', 0x308, 0}, {' ', 0x301, 0}, {'I', 'J', 0}, {0x17f, 't', 0},
		{'a', 'b', 0}, {'q', 0x301, 0}, {'a', 0x323, 0}, {'i', 0x307, 0}, {0x301, 0x301, 0}, {0x301, 'a', 0}, {0, 0, 0}, {0, 0x301, 0}, {'a', 0, 0},
		{'a', 0x341, 0}, {0x418, 0x301, 0}, {0x304b, 0x309a, 0}, {0x304c, 0x3099, 0}, {0xff21, 0x301, 0}, {0x5d0, 0x301, 0}, {0x4e00, 0x3099, 0},
	} {
		if got, ok := Pair(c.a, c.b); got != c.want || ok != (c.want != 0) {
			t.Errorf("Pair of %x and %x: %x %t, not %x", c.a, c.b, got, ok, c.want)
		}
	}
}

type wholeRow struct{ given, want []rune }

func wholeRows() []wholeRow {
	return []wholeRow{
		// No characters at all, and one alone.
		{nil, nil},
		{[]rune{'a'}, []rune{'a'}},
		{[]rune{0x301}, []rune{0x301}},
		{[]rune{-1}, []rune{-1}},
		// The chapter's examples.
		{[]rune{0x61, 0x301}, []rune{0xe1}},
		{[]rune{0x61, 0x327, 0x301}, []rune{0xe1, 0x327}},
		{[]rune{0x61, 0x308, 0x301}, []rune{0xe4, 0x301}},
		{[]rune{0x1100, 0x1161, 0x11a8}, []rune{0xac01}},
		{[]rune{0x3b9, 0x308, 0x301}, []rune{0x390}},
		// Marks with no head ahead of them.
		{[]rune{0x301, 0x301}, []rune{0x301, 0x301}},
		{[]rune{0x301, 'a'}, []rune{0x301, 'a'}},
		{[]rune{0x301, 'a', 0x301}, []rune{0x301, 0xe1}},
		{[]rune{0x30c, 0x327, 'c', 0x327, 0x301}, []rune{0x30c, 0x327, 0xe7, 0x301}},
		{[]rune{0x3099, 0x304b, 0x3099}, []rune{0x3099, 0x304c}},
		// A mark behind one of its own class.
		{[]rune{'a', 0x301, 0x301}, []rune{0xe1, 0x301}},
		{[]rune{'q', 0x301, 0x308}, []rune{'q', 0x301, 0x308}},
		{[]rune{'e', 0x303, 0x301}, []rune{'e', 0x303, 0x301}},
		{[]rune{'a', 0x327, 0x328}, []rune{'a', 0x327, 0x328}},
		{[]rune{0x3041, 0x3099, 0x3099}, []rune{0x3041, 0x3099, 0x3099}},
		{[]rune{0x3046, 0x309a, 0x3099}, []rune{0x3046, 0x309a, 0x3099}},
		// A mark behind one of a greater class.
		{[]rune{'e', 0x303, 0x328}, []rune{'e', 0x303, 0x328}},
		{[]rune{'a', 0x323, 0x328}, []rune{'a', 0x323, 0x328}},
		{[]rune{0x304b, 0x323, 0x3099}, []rune{0x304b, 0x323, 0x3099}},
		// Not the last one behind the head counts, but the greatest.
		{[]rune{'e', 0x303, 0x3099, 0x328}, []rune{'e', 0x303, 0x3099, 0x328}},
		{[]rune{'e', 0x303, 0x327, 0x301}, []rune{'e', 0x303, 0x327, 0x301}},
		{[]rune{'e', 0x323, 0x3099, 0x328}, []rune{'e', 0x323, 0x3099, 0x328}},
		// A mark behind one of a lower class, which stays.
		{[]rune{'a', 0x323, 0x301}, []rune{0xe1, 0x323}},
		{[]rune{'a', 0x3099, 0x328, 0x323, 0x301}, []rune{0x105, 0x3099, 0x323, 0x301}},
		{[]rune{'q', 0x3099, 0x327, 0x323, 0x301}, []rune{'q', 0x3099, 0x327, 0x323, 0x301}},
		// What went into the head is behind it no more.
		{[]rune{'c', 0x327, 0x301}, []rune{0xe7, 0x301}},
		{[]rune{'c', 0x301, 0x327}, []rune{0x107, 0x327}},
		{[]rune{'e', 0x302, 0x328}, []rune{0xea, 0x328}},
		{[]rune{0x3b9, 0x323, 0x308, 0x301}, []rune{0x390, 0x323}},
		{[]rune{0x3b9, 0x308, 0x323, 0x301}, []rune{0x390, 0x323}},
		{[]rune{0x3b9, 0x301, 0x308}, []rune{0x3af, 0x308}},
		// A head that is made of a head and a mark already.
		{[]rune{0x3ca, 0x301}, []rune{0x390}},
		{[]rune{0x3cb, 0x301, 0x301}, []rune{0x3b0, 0x301}},
		{[]rune{0xe4, 0x301}, []rune{0xe4, 0x301}},
		{[]rune{0xac00, 0x11a8}, []rune{0xac01}},
		// Two heads side by side that make a pair, and that make none.
		{[]rune{0x1100, 0x1161}, []rune{0xac00}},
		{[]rune{'a', 'b'}, []rune{'a', 'b'}},
		{[]rune{0x1100, 0x1100, 0x1161}, []rune{0x1100, 0xac00}},
		{[]rune{0x1161, 0x1100}, []rune{0x1161, 0x1100}},
		{[]rune{0xac01, 0x11a8}, []rune{0xac01, 0x11a8}},
		{[]rune{0x1100, 0x11a8}, []rune{0x1100, 0x11a8}},
		// Letters of hangul, of two and of three, one behind the other.
		{[]rune{0x1112, 0x1175, 0x11c2, 0x1100, 0x1161, 0x1100, 0x1161, 0x11a8, 0x11a8}, []rune{0xd7a3, 0xac00, 0xac01, 0x11a8}},
		// A mark between two heads keeps them apart, whatever its class.
		{[]rune{0x1100, 0x301, 0x1161}, []rune{0x1100, 0x301, 0x1161}},
		{[]rune{0x1100, 0x3099, 0x1161}, []rune{0x1100, 0x3099, 0x1161}},
		{[]rune{0x1100, 0x1161, 0x301, 0x11a8}, []rune{0xac00, 0x301, 0x11a8}},
		{[]rune{0x1100, 0x1161, 0x11a8, 0x301}, []rune{0xac01, 0x301}},
		// The last head counts, not one ahead of it.
		{[]rune{'a', 'q', 0x301}, []rune{'a', 'q', 0x301}},
		{[]rune{'q', 0x301, 'a', 0x301}, []rune{'q', 0x301, 0xe1}},
		{[]rune{'a', ' ', 0x301}, []rune{'a', ' ', 0x301}},
		{[]rune{'a', 0x200b, 0x301}, []rune{'a', 0x200b, 0x301}},
		// What has no class is a head, though it be no character.
		{[]rune{'a', -1, 0x301}, []rune{'a', -1, 0x301}},
		{[]rune{'a', 0x110000, 0x301}, []rune{'a', 0x110000, 0x301}},
		{[]rune{'a', 0x305, 0x301}, []rune{'a', 0x305, 0x301}},
		{[]rune{'a', 0x341, 0x301}, []rune{'a', 0x341, 0x301}},
		{[]rune{'a', 0xd800, 0x301, 'a', 0x301}, []rune{'a', 0xd800, 0x301, 0xe1}},
		{[]rune{-0x61, 0x301}, []rune{-0x61, 0x301}},
		{[]rune{0x110061, 0x301}, []rune{0x110061, 0x301}},
		{[]rune{'a', 0x110301}, []rune{'a', 0x110301}},
		// What decomp tells of singles and of loose ones is not put together.
		{[]rune{'f', 'i', 0x2126, 0x212b}, []rune{'f', 'i', 0x2126, 0x212b}},
		{[]rune{0x212b, 0x301}, []rune{0x212b, 0x301}},
		// What is whole already.
		{[]rune{0xe1, 'b', 0xac01, 0x390, 0x304c, 0x401}, []rune{0xe1, 'b', 0xac01, 0x390, 0x304c, 0x401}},
	}
}

// P7.2: by the chapter's words, on the edges that it names.
func TestAll(t *testing.T) {
	b := read(t)
	for _, row := range wholeRows() {
		if want := b.all(row.given); !slices.Equal(want, row.want) {
			t.Errorf("%x: %x or %x?", row.given, row.want, want)
		}
		if got := All(row.given...); !slices.Equal(got, row.want) {
			t.Errorf("All of %x: %x, not %x", row.given, got, row.want)
		}
	}
}

// P7.3: just what stays as it is.
func TestWhole(t *testing.T) {
	for _, row := range wholeRows() {
		if got := Whole(row.given...); got != slices.Equal(row.given, row.want) {
			t.Errorf("Whole of %x: %t", row.given, got)
		}
	}
	if !Whole() {
		t.Error("no characters at all")
	}
	for _, r := range slices.Concat(outside(), noChars(), marks(), []rune{'a', 0xe9, 0x212b, 0xac00}) {
		if !Whole(r) || !Whole(r, r) || !slices.Equal(All(r, r, r), []rune{r, r, r}) {
			t.Errorf("%x", r)
		}
	}
}

// see holds All and Whole of a list against the words.
func see(t *testing.T, b book, l []rune) {
	t.Helper()
	before := slices.Clone(l)
	want := b.all(l)
	if got := All(l...); !slices.Equal(got, want) {
		t.Fatalf("All of %x: %x, not %x", l, got, want)
	}
	if got := Whole(l...); got != slices.Equal(l, want) {
		t.Fatalf("Whole of %x: %t", l, got)
	}
	if !slices.Equal(l, before) {
		t.Fatalf("%x was changed: %x", before, l)
	}
}

// P7.2, P7.3: every list of up to four of some that make many pairs.
func TestEachShortList(t *testing.T) {
	b := read(t)
	some := []rune{'e', 0x3b9, 0x304b, 0x301, 0x308, 0x328, 0x323, 0x3099, 0x1100, 0x1161, 0x11a8, -1}
	var put func(l []rune)
	put = func(l []rune) {
		see(t, b, l)
		if len(l) == 4 {
			return
		}
		for _, r := range some {
			put(append(slices.Clone(l), r))
		}
	}
	put(nil)
}

// P7.2: every number as a head, as what stands between a head and its mark, and as what stands behind a head.
func TestEveryNumber(t *testing.T) {
	b := read(t)
	for r := rune(-0x100); r < 0x110100; r++ {
		if r > 0x3400 && r%0x3b != 0 {
			continue
		}
		see(t, b, []rune{r, 0x3099})
		see(t, b, []rune{'a', r, 0x301})
		see(t, b, []rune{0x1100, r, 0x11a8})
	}
}

// somebody is a list by chance, of letters with many marks behind them, and of whatever else there is.
func somebody(c *rand.Rand, from []rune, most int) []rune {
	l := make([]rune, c.Intn(most+1))
	for i := range l {
		switch c.Intn(8) {
		case 0, 1, 2, 3:
			l[i] = marks()[c.Intn(len(marks()))]
		case 4:
			l[i] = []rune{0x1100, 0x1161, 0x11a8, 0xac00, 0x1112, 0x1175, 0x11c2}[c.Intn(7)]
		default:
			l[i] = from[c.Intn(len(from))]
		}
	}
	return l
}

// P7.2, P7.3: lists by chance.
func TestByChance(t *testing.T) {
	b := read(t)
	from := heads(b)
	c := rand.New(rand.NewSource(7))
	for range 5000 {
		see(t, b, somebody(c, from, 12))
	}
	for range 100 {
		see(t, b, somebody(c, from, 400))
	}
}

// P7.4, P7.5: what is apart and ordered comes back, and its All is whole.
func TestBackAndWhole(t *testing.T) {
	b := read(t)
	from := heads(b)
	check := func(given []rune) {
		l := arrange.Order(decomp.All(false, given...)...)
		together := All(l...)
		if back := arrange.Order(decomp.All(false, together...)...); !slices.Equal(back, l) {
			t.Fatalf("%x, together %x, and apart again: %x", l, together, back)
		}
		if !Whole(together...) || !slices.Equal(All(together...), together) {
			t.Fatalf("All of %x is not whole: %x, %x", l, together, All(together...))
		}
	}
	check(nil)
	for _, row := range wholeRows() {
		check(row.given)
	}
	c := rand.New(rand.NewSource(74))
	for range 5000 {
		check(somebody(c, from, 12))
	}
	for _, head := range from {
		for _, first := range marks() {
			for _, second := range []rune{0x301, 0x308, 0x323, 0x328, 0x3099} {
				check([]rune{head, first, second})
			}
		}
	}
	for _, s := range chars.Table() {
		for r := s.From; r <= s.To; r++ {
			check([]rune{r})
		}
	}
}

// P7.6: a pair, apart, is what its two are, apart.
func TestPairsApart(t *testing.T) {
	for p := range read(t) {
		pair, ok := Pair(p.a, p.b)
		if !ok {
			t.Fatalf("%x %x", p.a, p.b)
		}
		if got, want := decomp.One(pair, false), decomp.All(false, p.a, p.b); !slices.Equal(got, want) {
			t.Fatalf("%x: %x, not %x", pair, got, want)
		}
		if chars.Class(pair) != 0 || !chars.Is(pair, api.CharLetter) {
			t.Fatalf("%x is no head", pair)
		}
	}
}

// Each letter that is one of decomp's pairs, and each syllable, is put together from its parts.
func TestFromParts(t *testing.T) {
	for _, s := range chars.Table() {
		for r := s.From; r <= s.To; r++ {
			if _, _, ok := decomp.Pair(r); !ok && !hangul.Syllable(r) {
				continue
			}
			if got := All(decomp.One(r, false)...); !slices.Equal(got, []rune{r}) {
				t.Fatalf("%x: %x", r, got)
			}
		}
	}
}

// A very long text, and very many marks behind one head, are gone through once.
func TestVeryLong(t *testing.T) {
	const n = 100000
	marked := slices.Repeat([]rune{'q', 0x301, 'e', 0x301}, n)
	if got := All(marked...); !slices.Equal(got, slices.Repeat([]rune{'q', 0x301, 0xe9}, n)) {
		t.Error("a long text")
	}
	run := append([]rune{'a'}, slices.Repeat([]rune{0x323}, n)...)
	run = append(run, slices.Repeat([]rune{0x301}, n)...)
	if got := All(run...); len(got) != 2*n || got[0] != 0xe1 || got[n] != 0x323 || got[n+1] != 0x301 {
		t.Error("a long run")
	}
	alone := slices.Repeat([]rune{0x301, 0x323}, n)
	if !Whole(alone...) {
		t.Error("marks alone")
	}
}

// Rule 4: what is handed in stays as it is, its spare room too; what is handed out is new.
func TestMemory(t *testing.T) {
	for _, row := range wholeRows() {
		room := append(slices.Clone(row.given), 0x301, 'x', 0x1161)
		before := slices.Clone(room)
		got := All(room[:len(row.given)]...)
		Whole(room[:len(row.given)]...)
		if !slices.Equal(room, before) {
			t.Fatalf("%x was changed: %x", before, room)
		}
		for i := range room {
			room[i] = 'z'
		}
		if !slices.Equal(got, row.want) {
			t.Fatalf("%x: the answer hangs on what was handed in", row.given)
		}
		copy(room, before)
		for i := range got {
			got[i] = 7
		}
		_ = append(got, 8, 9)
		if !slices.Equal(room, before) || !slices.Equal(All(row.given...), row.want) {
			t.Fatalf("%x: the answer is not new", row.given)
		}
	}
}
