package decomp

import (
	"math"
	"math/rand"
	"slices"
	"strconv"
	"strings"
	"testing"

	"toponym/api"
	"toponym/chars"
	"toponym/hangul"
)

// made is what one of the pairs is made of.
type made struct{ letter, mark rune }

// chapterRow is a row of the chapter's table of pairs.
type chapterRow struct {
	mark    rune
	letters string
}

// chapterPairs are the chapter's pairs, word for word.
func chapterPairs() []chapterRow {
	return []chapterRow{
		{0x300, "A À, E È, I Ì, O Ò, U Ù, a à, e è, i ì, o ò, u ù"},
		{0x301, "A Á, E É, I Í, O Ó, U Ú, Y Ý, a á, e é, i í, o ó, u ú, y ý, C Ć, c ć, L Ĺ, l ĺ, N Ń, n ń, R Ŕ, r ŕ, S Ś, s ś, Z Ź, z ź, Α Ά, Ε Έ, Η Ή, Ι Ί, Ο Ό, Υ Ύ, Ω Ώ, α ά, ε έ, η ή, ι ί, ο ό, υ ύ, ω ώ, ϊ ΐ, ϋ ΰ"},
		{0x302, "A Â, E Ê, I Î, O Ô, U Û, a â, e ê, i î, o ô, u û, C Ĉ, c ĉ, G Ĝ, g ĝ, H Ĥ, h ĥ, J Ĵ, j ĵ, S Ŝ, s ŝ, W Ŵ, w ŵ, Y Ŷ, y ŷ"},
		{0x303, "A Ã, N Ñ, O Õ, a ã, n ñ, o õ, I Ĩ, i ĩ, U Ũ, u ũ"},
		{0x304, "A Ā, a ā, E Ē, e ē, I Ī, i ī, O Ō, o ō, U Ū, u ū"},
		{0x306, "A Ă, a ă, E Ĕ, e ĕ, G Ğ, g ğ, I Ĭ, i ĭ, O Ŏ, o ŏ, U Ŭ, u ŭ, И Й, и й"},
		{0x307, "C Ċ, c ċ, E Ė, e ė, G Ġ, g ġ, I İ, Z Ż, z ż"},
		{0x308, "A Ä, E Ë, I Ï, O Ö, U Ü, a ä, e ë, i ï, o ö, u ü, y ÿ, Y Ÿ, Ι Ϊ, Υ Ϋ, ι ϊ, υ ϋ, Е Ё, е ё"},
		{0x30a, "A Å, a å, U Ů, u ů"},
		{0x30b, "O Ő, o ő, U Ű, u ű"},
		{0x30c, "C Č, c č, D Ď, d ď, E Ě, e ě, L Ľ, l ľ, N Ň, n ň, R Ř, r ř, S Š, s š, T Ť, t ť, Z Ž, z ž"},
		{0x327, "C Ç, c ç, G Ģ, g ģ, K Ķ, k ķ, L Ļ, l ļ, N Ņ, n ņ, R Ŗ, r ŗ, S Ş, s ş, T Ţ, t ţ"},
		{0x328, "A Ą, a ą, E Ę, e ę, I Į, i į, U Ų, u ų"},
		{0x3099, "か が, き ぎ, く ぐ, け げ, こ ご, さ ざ, し じ, す ず, せ ぜ, そ ぞ, た だ, ち ぢ, つ づ, て で, と ど, は ば, ひ び, ふ ぶ, へ べ, ほ ぼ, う ゔ"},
		{0x309a, "は ぱ, ひ ぴ, ふ ぷ, へ ぺ, ほ ぽ"},
	}
}

// chapterLoose are the chapter's loose ones, its stretches laid out one by one; but for those from ff01 on.
const chapterLoose = "a0: 20. 202f: 20. 205f: 20. 3000: 20. " +
	"2002: 20. 2003: 20. 2004: 20. 2005: 20. 2006: 20. 2007: 20. 2008: 20. 2009: 20. 200a: 20. " +
	"a8: 20 308. aa: 61. af: 20 304. b2: 32. b3: 33. b4: 20 301. b5: 3bc. b8: 20 327. b9: 31. ba: 6f. bc: 31 2044 34. bd: 31 2044 32. be: 33 2044 34. " +
	"132: 49 4a. 133: 69 6a. 13f: 4c b7. 140: 6c b7. 149: 2bc 6e. 17f: 73. 2011: 2010. 2070: 30. " +
	"2074: 34. 2075: 35. 2076: 36. 2077: 37. 2078: 38. 2079: 39. " +
	"2080: 30. 2081: 31. 2082: 32. 2083: 33. 2084: 34. 2085: 35. 2086: 36. 2087: 37. 2088: 38. 2089: 39. " +
	"2160: 49. 2161: 49 49. 2162: 49 49 49. 2163: 49 56. 2164: 56. 2165: 56 49. 2166: 56 49 49. 2167: 56 49 49 49. 2168: 49 58. 2169: 58. 216a: 58 49. 216b: 58 49 49. " +
	"2170: 69. 2171: 69 69. 2172: 69 69 69. 2173: 69 76. 2174: 76. 2175: 76 69. 2176: 76 69 69. 2177: 76 69 69 69. 2178: 69 78. 2179: 78. 217a: 78 69. 217b: 78 69 69. " +
	"fb00: 66 66. fb01: 66 69. fb02: 66 6c. fb03: 66 66 69. fb04: 66 66 6c. fb05: 17f 74."

// pairsOf reads the chapter's pairs.
func pairsOf(t *testing.T) map[rune]made {
	t.Helper()
	want := map[rune]made{}
	for _, row := range chapterPairs() {
		for _, two := range strings.Split(row.letters, ", ") {
			l := []rune(two)
			if len(l) != 3 || l[1] != ' ' {
				t.Fatalf("%q", two)
			}
			if _, twice := want[l[2]]; twice {
				t.Fatalf("%x stands twice", l[2])
			}
			want[l[2]] = made{l[0], row.mark}
		}
	}
	return want
}

func singlesOf() map[rune]rune {
	return map[rune]rune{0x2000: 0x2002, 0x2001: 0x2003, 0x2126: 0x3a9, 0x212a: 0x4b, 0x212b: 0xc5}
}

func number(t *testing.T, s string) rune {
	t.Helper()
	n, err := strconv.ParseInt(s, 16, 32)
	if err != nil {
		t.Fatal(err)
	}
	return rune(n)
}

// looseOf reads the chapter's loose ones.
func looseOf(t *testing.T) map[rune][]rune {
	t.Helper()
	want := map[rune][]rune{}
	for _, line := range strings.Split(strings.TrimSuffix(chapterLoose, "."), ". ") {
		from, to, _ := strings.Cut(line, ": ")
		r := number(t, from)
		if _, twice := want[r]; twice {
			t.Fatalf("%x stands twice", r)
		}
		for _, part := range strings.Fields(to) {
			want[r] = append(want[r], number(t, part))
		}
	}
	for i := range rune(94) {
		want[0xff01+i] = []rune{0x21 + i}
	}
	return want
}

// book is the chapter's tables, by which the words of P5.2 and P5.3 are said anew.
type book struct {
	pairs   map[rune]made
	singles map[rune]rune
	loose   map[rune][]rune
}

func read(t *testing.T) book {
	t.Helper()
	return book{pairsOf(t), singlesOf(), looseOf(t)}
}

// one replaces in a list whatever can be replaced, till nothing can be.
func (b book) one(r rune, loose bool) []rune {
	l := []rune{r}
	for {
		var next []rune
		for _, r := range l {
			p, pair := b.pairs[r]
			single, isSingle := b.singles[r]
			parts, isLoose := b.loose[r]
			switch {
			case pair:
				next = append(next, p.letter, p.mark)
			case isSingle:
				next = append(next, single)
			case isLoose && loose:
				next = append(next, parts...)
			default:
				next = append(next, hangul.Apart(r)...)
			}
		}
		if slices.Equal(l, next) {
			return l
		}
		l = next
	}
}

func (b book) all(l []rune, loose bool) []rune {
	var out []rune
	for _, r := range l {
		out = append(out, b.one(r, loose)...)
	}
	return out
}

// outside are numbers below 0 and above 10ffff; some have lower bits that would be a pair's, a single's or a loose one's.
func outside() []rune {
	return []rune{
		math.MinInt32, math.MinInt32 + 1, math.MinInt32 + 0xc5, math.MinInt32 + 0x2000, math.MinInt32 + 0xfb03, math.MinInt32 + 0xac01,
		-0xff21, -0xfb03, -0x212b, -0x2000, -0xc5, -0xa0, -0x10000 + 0xe9, -0x10000 + 0xfb00, -2, -1,
		0x110000, 0x110000 + 0xc5, 0x110000 + 0x212b, 0x110000 + 0xfb03, 0x7fff00c5, 0x7fff2000, 0x7ffffb03, math.MaxInt32 - 1, math.MaxInt32,
	}
}

// noChars are numbers up to 10ffff that are no characters; many of them fall apart in Unicode, or stand beside what does here.
func noChars() []rune {
	return []rune{0x1fe, 0x180, 0x1cd, 0x305, 0x309, 0x370, 0x385, 0x387, 0x38b, 0x3d3, 0x400, 0x40e, 0x1e00, 0x2012, 0x215f, 0x216c, 0x2329, 0x30ac, 0xd800, 0xdbff, 0xdc00, 0xdfff, 0xf900, 0xfb06, 0xff5f, 0x100c5, 0x1d15e}
}

// numbers are all code points, some numbers around them, and the greatest and the least ones.
func numbers(see func(r rune)) {
	for r := rune(-0x20000); r < 0x130000; r++ {
		see(r)
	}
	for i := range rune(0x20000) {
		see(math.MinInt32 + i)
		see(math.MaxInt32 - i)
	}
}

// lists calls see with no list at all, with lists of one, and with many by chance of all kinds of characters.
func lists(t *testing.T, see func(l []rune)) {
	t.Helper()
	b := read(t)
	var some []rune
	for r := range b.pairs {
		some = append(some, r)
	}
	for r := range b.singles {
		some = append(some, r)
	}
	for r := range b.loose {
		some = append(some, r)
	}
	some = append(some, outside()...)
	some = append(some, noChars()...)
	some = append(some, 'a', 'Z', '7', ' ', 0, 0x300, 0x301, 0x327, 0x3099, 0xdf, 0xb7, 0x2044, 0x2bc, 0x3a9, 0x3b9, 0x304b, 0x4e00, 0x1100, 0x1161, 0x11a8, 0xac00, 0xac01, 0xd7a3)
	slices.Sort(some)
	see(nil)
	see([]rune{})
	for _, r := range some {
		see([]rune{r})
	}
	rnd := rand.New(rand.NewSource(5))
	for range 5000 {
		l := make([]rune, rnd.Intn(30))
		for i := range l {
			switch rnd.Intn(5) {
			case 0:
				l[i] = 0xac00 + rune(rnd.Intn(0xd7a4-0xac00))
			case 1:
				l[i] = 0x20 + rune(rnd.Intn(0x60))
			default:
				l[i] = some[rnd.Intn(len(some))]
			}
		}
		see(l)
	}
}

// P5.1: each row of the pairs, and each number that is none of them.
func TestPair(t *testing.T) {
	want := pairsOf(t)
	if len(want) != 211 {
		t.Fatal(len(want))
	}
	numbers(func(r rune) {
		p, pair := want[r]
		if letter, mark, ok := Pair(r); letter != p.letter || mark != p.mark || ok != pair {
			t.Errorf("Pair of %x: %x %x %t", r, letter, mark, ok)
		}
	})
}

// P5.1: one of each row, a letter that stands in two rows, and letters that are none of the pairs, by their code points.
func TestPairEdges(t *testing.T) {
	for _, c := range []struct {
		r, letter, mark rune
		ok              bool
	}{
		{0xc0, 0x41, 0x300, true}, {0xf9, 0x75, 0x300, true},
		{0xc1, 0x41, 0x301, true}, {0x3b0, 0x3cb, 0x301, true}, {0x390, 0x3ca, 0x301, true},
		{0xc2, 0x41, 0x302, true}, {0x177, 0x79, 0x302, true},
		{0xc3, 0x41, 0x303, true}, {0x169, 0x75, 0x303, true},
		{0x100, 0x41, 0x304, true}, {0x16b, 0x75, 0x304, true},
		{0x102, 0x41, 0x306, true}, {0x419, 0x418, 0x306, true}, {0x439, 0x438, 0x306, true},
		{0x10a, 0x43, 0x307, true}, {0x130, 0x49, 0x307, true}, {0x17c, 0x7a, 0x307, true},
		{0xc4, 0x41, 0x308, true}, {0x178, 0x59, 0x308, true}, {0x3ca, 0x3b9, 0x308, true}, {0x3cb, 0x3c5, 0x308, true}, {0x401, 0x415, 0x308, true}, {0x451, 0x435, 0x308, true},
		{0xc5, 0x41, 0x30a, true}, {0x16f, 0x75, 0x30a, true},
		{0x150, 0x4f, 0x30b, true}, {0x171, 0x75, 0x30b, true},
		{0x10c, 0x43, 0x30c, true}, {0x17e, 0x7a, 0x30c, true},
		{0xc7, 0x43, 0x327, true}, {0x163, 0x74, 0x327, true},
		{0x104, 0x41, 0x328, true}, {0x173, 0x75, 0x328, true},
		{0x304c, 0x304b, 0x3099, true}, {0x3094, 0x3046, 0x3099, true},
		{0x3071, 0x306f, 0x309a, true}, {0x307d, 0x307b, 0x309a, true},
		{r: 0x41}, {r: 0x61}, {r: 0xbf}, {r: 0xc6}, {r: 0xd0}, {r: 0xd7}, {r: 0xd8}, {r: 0xdf}, {r: 0xf8}, {r: 0x131}, {r: 0x17f}, {r: 0x180}, {r: 0x1fe},
		{r: 0x300}, {r: 0x301}, {r: 0x385}, {r: 0x391}, {r: 0x3b9}, {r: 0x418}, {r: 0x304b}, {r: 0x3093}, {r: 0x3095}, {r: 0x3099}, {r: 0x309a}, {r: 0x30ac},
		{r: 0x2126}, {r: 0x212b}, {r: 0xac00}, {r: 0xfb03}, {r: 0xff21}, {r: 0}, {r: -1}, {r: -0xc5}, {r: 0x1100c5}, {r: math.MinInt32}, {r: math.MaxInt32},
	} {
		if letter, mark, ok := Pair(c.r); letter != c.letter || mark != c.mark || ok != c.ok {
			t.Errorf("Pair of %x: %x %x %t", c.r, letter, mark, ok)
		}
	}
}

// P5.1: each single, and each number that is none.
func TestSingle(t *testing.T) {
	want := singlesOf()
	numbers(func(r rune) {
		same, single := want[r]
		if got, ok := Single(r); got != same || ok != single {
			t.Errorf("Single of %x: %x %t", r, got, ok)
		}
	})
}

// P5.1: each loose one, and each number that is none.
func TestLoose(t *testing.T) {
	want := looseOf(t)
	if len(want) != 4+9+13+6+2+6+10+12+12+6+94 {
		t.Fatal(len(want))
	}
	numbers(func(r rune) {
		if got := Loose(r); !slices.Equal(got, want[r]) {
			t.Errorf("Loose of %x: %x, not %x", r, got, want[r])
		}
	})
}

// P5.1: the first and the last of each stretch of loose ones, and the numbers right beside it.
func TestLooseEdges(t *testing.T) {
	for _, c := range []struct {
		first, last     rune
		ofFirst, ofLast string
	}{
		{0xa0, 0xa0, " ", " "},
		{0x132, 0x133, "IJ", "ij"},
		{0x13f, 0x140, "L\u00b7", "l\u00b7"},
		{0x149, 0x149, "\u02bcn", "\u02bcn"},
		{0x17f, 0x17f, "s", "s"},
		{0x2002, 0x200a, " ", " "},
		{0x2011, 0x2011, "\u2010", "\u2010"},
		{0x202f, 0x202f, " ", " "},
		{0x205f, 0x205f, " ", " "},
		{0x2070, 0x2070, "0", "0"},
		{0x2074, 0x2079, "4", "9"},
		{0x2080, 0x2089, "0", "9"},
		{0x2160, 0x216b, "I", "XII"},
		{0x2170, 0x217b, "i", "xii"},
		{0x3000, 0x3000, " ", " "},
		{0xfb00, 0xfb05, "ff", "\u017ft"},
		{0xff01, 0xff5e, "!", "~"},
	} {
		for r, want := range map[rune]string{c.first: c.ofFirst, c.last: c.ofLast, c.first - 1: "", c.last + 1: ""} {
			if got := string(Loose(r)); got != want {
				t.Errorf("Loose of %x: %q, not %q", r, got, want)
			}
		}
	}
	for _, r := range slices.Concat([]rune{0x2000, 0x2001, 0x2126, 0x212a, 0x212b, 0xe9, 0xac00, 'a', ' ', 0x2071, 0x2073}, outside(), noChars()) {
		if got := Loose(r); len(got) != 0 {
			t.Errorf("Loose of %x: %x", r, got)
		}
	}
}

// P5.2: each number, with loose and without.
func TestOne(t *testing.T) {
	b := read(t)
	numbers(func(r rune) {
		for _, loose := range []bool{false, true} {
			if got, want := One(r, loose), b.one(r, loose); !slices.Equal(got, want) {
				t.Errorf("One of %x, %t: %x, not %x", r, loose, got, want)
			}
		}
	})
}

// P5.2: what falls apart in one step, in two and in three, by code points.
func TestOneEdges(t *testing.T) {
	for _, c := range []struct {
		r            rune
		tight, loose []rune
	}{
		{'a', []rune{0x61}, []rune{0x61}},
		{0xdf, []rune{0xdf}, []rune{0xdf}},
		{0xc5, []rune{0x41, 0x30a}, []rune{0x41, 0x30a}},
		// A letter whose pair's letter is one of the pairs.
		{0x390, []rune{0x3b9, 0x308, 0x301}, []rune{0x3b9, 0x308, 0x301}},
		{0x3b0, []rune{0x3c5, 0x308, 0x301}, []rune{0x3c5, 0x308, 0x301}},
		// Singles; one is one of the pairs, two are loose ones.
		{0x212b, []rune{0x41, 0x30a}, []rune{0x41, 0x30a}},
		{0x212a, []rune{0x4b}, []rune{0x4b}},
		{0x2126, []rune{0x3a9}, []rune{0x3a9}},
		{0x2000, []rune{0x2002}, []rune{0x20}},
		{0x2001, []rune{0x2003}, []rune{0x20}},
		// Loose ones; one has a loose part.
		{0x2002, []rune{0x2002}, []rune{0x20}},
		{0xb4, []rune{0xb4}, []rune{0x20, 0x301}},
		{0xbc, []rune{0xbc}, []rune{0x31, 0x2044, 0x34}},
		{0x17f, []rune{0x17f}, []rune{0x73}},
		{0xfb03, []rune{0xfb03}, []rune{0x66, 0x66, 0x69}},
		{0xfb05, []rune{0xfb05}, []rune{0x73, 0x74}},
		{0x2167, []rune{0x2167}, []rune{0x56, 0x49, 0x49, 0x49}},
		{0xff21, []rune{0xff21}, []rune{0x41}},
		// Syllables, and what stands beside them.
		{0xabff, []rune{0xabff}, []rune{0xabff}},
		{0xac00, []rune{0x1100, 0x1161}, []rune{0x1100, 0x1161}},
		{0xac01, []rune{0x1100, 0x1161, 0x11a8}, []rune{0x1100, 0x1161, 0x11a8}},
		{0xd7a3, []rune{0x1112, 0x1175, 0x11c2}, []rune{0x1112, 0x1175, 0x11c2}},
		{0xd7a4, []rune{0xd7a4}, []rune{0xd7a4}},
		{0x1100, []rune{0x1100}, []rune{0x1100}},
		{0, []rune{0}, []rune{0}},
	} {
		if got := One(c.r, false); !slices.Equal(got, c.tight) {
			t.Errorf("One of %x: %x, not %x", c.r, got, c.tight)
		}
		if got := One(c.r, true); !slices.Equal(got, c.loose) {
			t.Errorf("One of %x, loose: %x, not %x", c.r, got, c.loose)
		}
	}
	for _, r := range slices.Concat(outside(), noChars()) {
		if chars.Kind(r) != api.CharNone {
			t.Errorf("%x is a character", r)
		}
		if !slices.Equal(One(r, false), []rune{r}) || !slices.Equal(One(r, true), []rune{r}) {
			t.Errorf("One of %x: %x, %x", r, One(r, false), One(r, true))
		}
	}
}

// P5.3: many lists.
func TestAllAndApart(t *testing.T) {
	b := read(t)
	lists(t, func(l []rune) {
		for _, loose := range []bool{false, true} {
			want := b.all(l, loose)
			if got := All(loose, l...); !slices.Equal(got, want) {
				t.Errorf("All of %x, %t: %x, not %x", l, loose, got, want)
			}
			if got := Apart(loose, l...); got != slices.Equal(l, want) {
				t.Errorf("Apart of %x, %t: %t", l, loose, got)
			}
		}
	})
}

// P5.3: no code points at all, and lists that are apart in one way alone.
func TestAllAndApartEdges(t *testing.T) {
	if len(All(false)) != 0 || len(All(true)) != 0 || !Apart(false) || !Apart(true) {
		t.Error("no code points")
	}
	if got := All(true, 'x', 0xe9, 0xfb01, -1, 0x212b); !slices.Equal(got, []rune{'x', 'e', 0x301, 'f', 'i', -1, 'A', 0x30a}) {
		t.Errorf("%x", got)
	}
	if got := All(false, 'x', 0xe9, 0xfb01, -1, 0x212b); !slices.Equal(got, []rune{'x', 'e', 0x301, 0xfb01, -1, 'A', 0x30a}) {
		t.Errorf("%x", got)
	}
	for _, c := range []struct {
		l            []rune
		tight, loose bool
	}{
		{[]rune{'a', 'b', 0x301}, true, true},
		{[]rune{'a', 0xfb01}, true, false},
		{[]rune{0xb2}, true, false},
		{[]rune{'a', 0xe9}, false, false},
		{[]rune{0xe9, 'a'}, false, false},
		{[]rune{0x212a}, false, false},
		{[]rune{0xac00}, false, false},
		{[]rune{0x1100, 0x1161}, true, true},
		{[]rune{math.MinInt32, -1, 0x110000, 0xd800, 0x370}, true, true},
	} {
		if Apart(false, c.l...) != c.tight || Apart(true, c.l...) != c.loose {
			t.Errorf("Apart of %x: %t, %t", c.l, Apart(false, c.l...), Apart(true, c.l...))
		}
	}
}

// P5.4.
func TestWhole(t *testing.T) {
	see := func(l ...rune) {
		if got := All(false, l...); !Apart(false, got...) {
			t.Errorf("All of %x is not apart: %x", l, got)
		}
		if got := All(true, l...); !Apart(true, got...) || !Apart(false, got...) {
			t.Errorf("All of %x, loose, is not apart: %x", l, got)
		}
	}
	numbers(func(r rune) { see(r) })
	lists(t, func(l []rune) { see(l...) })
}

// P5.5.
func TestMore(t *testing.T) {
	see := func(l ...rune) {
		if got, want := All(true, All(false, l...)...), All(true, l...); !slices.Equal(got, want) {
			t.Errorf("All with loose of All of %x: %x, not %x", l, got, want)
		}
	}
	numbers(func(r rune) { see(r) })
	lists(t, func(l []rune) { see(l...) })
}

// P5.6: one to four characters; each many is there.
func TestThere(t *testing.T) {
	var many [5]int
	for r := rune(0); r <= 0x10ffff; r++ {
		if chars.Kind(r) == api.CharNone {
			continue
		}
		for _, loose := range []bool{false, true} {
			l := One(r, loose)
			if len(l) < 1 || len(l) > 4 {
				t.Errorf("One of %x, %t: %x", r, loose, l)
				continue
			}
			many[len(l)]++
			for _, part := range l {
				if chars.Kind(part) == api.CharNone {
					t.Errorf("One of %x, %t: %x is no character", r, loose, part)
				}
			}
		}
	}
	if slices.Contains(many[1:], 0) {
		t.Error(many)
	}
}

// P5.6: just characters are made of others.
func TestMadeAreCharacters(t *testing.T) {
	numbers(func(r rune) {
		if chars.Kind(r) == api.CharNone && !Apart(true, r) {
			t.Errorf("%x is no character, and is made of %x", r, One(r, true))
		}
	})
}

// Rule 4: what is handed in stays as it is, its spare room too; what is handed out is new.
func TestMemory(t *testing.T) {
	room := []rune{'a', 0xe9, 0xfb03, 0xac01, 'b', 7, 9}
	before := slices.Clone(room)
	tight, loose := All(false, room[:5]...), All(true, room[:5]...)
	Apart(false, room[:5]...)
	Apart(true, room[:5]...)
	if !slices.Equal(room, before) {
		t.Errorf("%x", room)
	}
	same := []rune{'a', 'b', 0}[:2]
	got := All(true, same...)
	got[0] = 'z'
	if _ = append(got, 'y'); !slices.Equal(same[:3], []rune{'a', 'b', 0}) {
		t.Errorf("%x", same[:3])
	}
	wantTight, wantLoose := slices.Clone(tight), slices.Clone(loose)
	clear(room)
	if !slices.Equal(tight, wantTight) || !slices.Equal(loose, wantLoose) {
		t.Errorf("%x %x", tight, loose)
	}
	for _, r := range []rune{'a', 0xe9, 0x390, 0x212b, 0x2000, 0xfb03, 0x2167, 0x217b, 0xac01, -1} {
		for _, call := range []func() []rune{
			func() []rune { return One(r, false) },
			func() []rune { return One(r, true) },
			func() []rune { return Loose(r) },
		} {
			l := call()
			want := slices.Clone(l)
			for i := range l {
				l[i] = 7
			}
			_ = append(l, 8)
			if got := call(); !slices.Equal(got, want) {
				t.Errorf("of %x: %x, not %x", r, got, want)
			}
		}
	}
}
