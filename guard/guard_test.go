package guard

import (
	"math"
	"math/rand"
	"slices"
	"strconv"
	"strings"
	"testing"
	"unicode/utf8"

	"toponym/api"
)

// kindWords are the words of chapter 3 on each kind but CharNone.
func kindWords() map[int]string {
	return map[int]string{
		api.CharLetter: "0041 to 005a, 0061 to 007a, 00aa, 00b5, 00ba, 00c0 to 00d6, 00d8 to 00f6, 00f8 to 017f, 02bc, 0386, 0388 to 038a, 038c, 038e to 03a1, 03a3 to 03ce, 0401, 0410 to 044f, 0451, 05d0 to 05ea, 1100 to 1112, 1161 to 1175, 11a8 to 11c2, 2126, 212a to 212b, 2160 to 216b, 2170 to 217b, 3041 to 3094, 4e00 to 4eff, ac00 to d7a3, fb00 to fb05, ff21 to ff3a, ff41 to ff5a",
		api.CharDigit:  "0030 to 0039, 00b2 to 00b3, 00b9, 0660 to 0669, 2070, 2074 to 2079, 2080 to 2089, ff10 to ff19",
		api.CharMark:   "0300 to 0304, 0306 to 0308, 030a to 030c, 0323, 0327 to 0328, 3099 to 309a",
		api.CharSign:   "0021 to 002f, 003a to 0040, 005b to 0060, 007b to 007e, 00a1 to 00a9, 00ab to 00ac, 00ae to 00b1, 00b4, 00b6 to 00b8, 00bb to 00bf, 00d7, 00f7, 2010 to 2011, 2044, 2212, ff01 to ff0f, ff1a to ff20, ff3b to ff40, ff5b to ff5e",
		api.CharSpace:  "0009 to 000d, 0020, 0085, 00a0, 2000 to 200a, 2028 to 2029, 202f, 205f, 3000",
		api.CharGone:   "0000 to 0008, 000e to 001f, 007f to 0084, 0086 to 009f, 00ad, 034f, 200b to 200f, 202a to 202e, 2060 to 2063, 206a to 206f, fe00 to fe0f, feff, fff9 to fffc",
		api.CharBad:    "0340 to 0341, e000 to f8ff, fdd0 to fdef, fffd to ffff",
	}
}

// piece is a range of the chapter's words, and its kind.
type piece struct {
	from, to rune
	kind     int
}

func number(t *testing.T, s string) rune {
	t.Helper()
	n, err := strconv.ParseInt(s, 16, 32)
	if err != nil {
		t.Fatal(err)
	}
	return rune(n)
}

// readPieces reads the chapter's words, with the last two of each plane from 1 to 16.
func readPieces(t *testing.T) []piece {
	t.Helper()
	var l []piece
	for kind, words := range kindWords() {
		for _, w := range strings.Split(words, ", ") {
			from, to, more := strings.Cut(w, " to ")
			if !more {
				to = from
			}
			l = append(l, piece{number(t, from), number(t, to), kind})
		}
	}
	for plane := rune(1); plane <= 16; plane++ {
		l = append(l, piece{plane<<16 | 0xfffe, plane<<16 | 0xffff, api.CharBad})
	}
	return l
}

// book is the kind of each character that has one.
type book map[rune]int

func read(t *testing.T) book {
	t.Helper()
	b := book{}
	for _, p := range readPieces(t) {
		for r := p.from; r <= p.to; r++ {
			b[r] = p.kind
		}
	}
	return b
}

// fit is P10.1's Fit, by the chapter's words.
func (b book) fit(r rune) bool { return b[r] != api.CharNone && b[r] != api.CharBad }

// check is P10.1's Check.
func (b book) check(l []rune) (int, api.Errno) {
	for i, r := range l {
		if !b.fit(r) {
			return i, api.ErrChar
		}
	}
	return len(l), api.OK
}

// text is P10.2, with Go's own reading of bytes, which is as strict.
func (b book) text(s string) (int, api.Errno) {
	unfit := -1
	for at := 0; at < len(s); {
		r, n := utf8.DecodeRuneInString(s[at:])
		if r == utf8.RuneError && n == 1 {
			return at, api.ErrUTF
		}
		if unfit < 0 && !b.fit(r) {
			unfit = at
		}
		at += n
	}
	if unfit >= 0 {
		return unfit, api.ErrChar
	}
	return len(s), api.OK
}

// only is P10.3.
func (b book) only(s string, kinds []int) bool {
	if !utf8.ValidString(s) {
		return false
	}
	for _, r := range s {
		if !slices.Contains(kinds, b[r]) {
			return false
		}
	}
	return true
}

// outside are numbers below 0 and above 10ffff; some have lower bits that would be a character's.
func outside() []rune {
	return []rune{
		math.MinInt32, math.MinInt32 + 1, math.MinInt32 + 'a', -0x110000, -0x10000 + 'a', -0x10000, -'a', -2, -1,
		0x110000, 0x110001, 0x110000 + 'a', 0x110301, 0x11ac00, 0x11ffff, 0x200041, 0x7fff0041, math.MaxInt32 - 1, math.MaxInt32,
	}
}

// surrogates are numbers that are no code points, but below 10ffff.
func surrogates() []rune { return []rune{0xd800, 0xd801, 0xdbff, 0xdc00, 0xdffe, 0xdfff} }

// noChars are code points that are no characters, of two, three and four bytes.
func noChars() []rune {
	return []rune{
		0x180, 0x2bb, 0x2bd, 0x2ff, 0x305, 0x309, 0x30d, 0x322, 0x370, 0x38b, 0x3a2, 0x400, 0x450, 0x5cf, 0x5eb, 0x7ff,
		0x800, 0x1113, 0x2012, 0x3040, 0x3095, 0x4f00, 0xd7a4, 0xd7ff, 0xf900, 0xfdcf, 0xff5f, 0xfff8,
		0x10000, 0x10041, 0x1fffd, 0x20000, 0x10fffd,
	}
}

// bad are forbidden code points, of two, three and four bytes.
func bad() []rune {
	return []rune{0x340, 0x341, 0xe000, 0xe001, 0xf8ff, 0xfdd0, 0xfdef, 0xfffd, 0xfffe, 0xffff, 0x1fffe, 0x1ffff, 0x8fffe, 0x10fffe, 0x10ffff}
}

// unfit are all of these that a text may have.
func unfit() []rune { return slices.Concat(noChars(), bad()) }

// fits are characters that are fit, of each kind, and of one, two and three bytes.
func fits() []rune {
	return []rune{
		'a', 'Z', '0', '9', '!', '~', ' ', 0, 9, 0x7f,
		0x85, 0xa0, 0xad, 0xb2, 0xe9, 0xd7, 0x17f, 0x301, 0x328, 0x34f, 0x3c9, 0x451, 0x5d0, 0x5ea, 0x660,
		0x1100, 0x2000, 0x200b, 0x2044, 0x2079, 0x212b, 0x3000, 0x3041, 0x3099, 0x4e00, 0xac00, 0xd7a3, 0xfb05, 0xfe0f, 0xfeff, 0xff21, 0xfffc,
	}
}

// wrongTexts are bytes that begin no code point.
func wrongTexts() []string {
	return []string{
		"\xff", "\x80", "\xbf", "\xc0", "\xc3", "\xe2", "\xe2\x82", "\xf0", "\xf0\x9f", "\xf0\x9f\x98", // no first byte, and what ends too early
		"\xc0\x80", "\xc1\xbf", "\xe0\x80\x80", "\xe0\x9f\xbf", "\xf0\x80\x80\x80", "\xf0\x8f\xbf\xbf", // more bytes than are needed
		"\xed\xa0\x80", "\xed\xbf\xbf", "\xf4\x90\x80\x80", "\xf8\x88\x80\x80\x80", // numbers that are no code points
	}
}

// seeCheck, seeText and seeOnly hold one answer against what is asked.
func seeCheck(t *testing.T, l []rune, n int, e api.Errno) {
	t.Helper()
	if gotN, gotE := Check(l...); gotN != n || gotE != e {
		t.Errorf("Check of %x: %d %d, not %d %d", l, gotN, int(gotE), n, int(e))
	}
}

func seeText(t *testing.T, s string, at int, e api.Errno) {
	t.Helper()
	if gotAt, gotE := Text(s); gotAt != at || gotE != e {
		t.Errorf("Text of %q: %d %d, not %d %d", s, gotAt, int(gotE), at, int(e))
	}
}

func seeOnly(t *testing.T, want bool, s string, kinds ...int) {
	t.Helper()
	if got := Only(s, kinds...); got != want {
		t.Errorf("Only of %q and %d: %t", s, kinds, got)
	}
}

// P10.1: every number, by the chapter's words.
func TestFit(t *testing.T) {
	b := read(t)
	see := func(r rune) {
		if got := Fit(r); got != b.fit(r) {
			t.Errorf("Fit of %x: %t", r, got)
		}
	}
	for r := rune(-0x400); r < 0x110400; r++ {
		see(r)
	}
	for _, r := range slices.Concat(outside(), surrogates(), unfit(), fits()) {
		see(r)
	}
}

// P10.1: some of each sort, without the chapter's table.
func TestFitSorts(t *testing.T) {
	for _, r := range fits() {
		if !Fit(r) {
			t.Errorf("%x is not fit", r)
		}
	}
	for _, r := range slices.Concat(outside(), surrogates(), unfit()) {
		if Fit(r) {
			t.Errorf("%x is fit", r)
		}
	}
	// Those that are written from the right are letters as others are.
	for r := rune(0x5d0); r <= 0x5ea; r++ {
		if !Fit(r) {
			t.Errorf("%x is not fit", r)
		}
	}
}

// P10.1, P10.2, P10.3: the first and the last number of each range of each kind, and those beside them.
func TestEdgesOfKinds(t *testing.T) {
	b := read(t)
	for _, p := range readPieces(t) {
		for _, r := range []rune{p.from - 1, p.from, p.to, p.to + 1} {
			if got := Fit(r); got != b.fit(r) {
				t.Errorf("Fit of %x: %t", r, got)
			}
			n, e := b.check([]rune{'a', r, 'b'})
			seeCheck(t, []rune{'a', r, 'b'}, n, e)
			if !utf8.ValidRune(r) {
				continue
			}
			s := string(r)
			if b.fit(r) {
				seeText(t, "a"+s+"b", 2+len(s), api.OK)
			} else {
				seeText(t, "a"+s+"b", 1, api.ErrChar)
			}
			for kind := -1; kind <= 8; kind++ {
				seeOnly(t, kind == b[r], s, kind)
			}
		}
		for _, r := range []rune{p.from, p.to} {
			seeOnly(t, true, string(r), p.kind)
			if fit := p.kind != api.CharBad; Fit(r) != fit {
				t.Errorf("Fit of %x: %t", r, !fit)
			}
		}
	}
}

// P10.1: no characters, all that are fit, and one that is not at each place.
func TestCheck(t *testing.T) {
	seeCheck(t, nil, 0, api.OK)
	seeCheck(t, []rune{}, 0, api.OK)
	seeCheck(t, []rune{'a'}, 1, api.OK)
	seeCheck(t, fits(), len(fits()), api.OK)
	for _, r := range slices.Concat(outside(), surrogates(), unfit()) {
		seeCheck(t, []rune{r}, 0, api.ErrChar)
		for i := 0; i <= len(fits()); i++ {
			seeCheck(t, slices.Insert(fits(), i, r), i, api.ErrChar)
		}
	}
}

// P10.1: of several that are not fit, the first.
func TestCheckSeveral(t *testing.T) {
	wrong := slices.Concat(unfit(), surrogates(), outside())
	seeCheck(t, wrong, 0, api.ErrChar)
	slices.Reverse(wrong)
	seeCheck(t, wrong, 0, api.ErrChar)
	for i, r := range wrong {
		seeCheck(t, append([]rune{'a', 0x301}, wrong[i:]...), 2, api.ErrChar)
		seeCheck(t, []rune{r, 'a', 'b', wrong[0]}, 0, api.ErrChar)
		seeCheck(t, []rune{'a', r, 'b', wrong[0]}, 1, api.ErrChar)
		seeCheck(t, []rune{'a', 0xac00, r, r}, 2, api.ErrChar)
	}
}

// P10.2: the chapter's examples.
func TestExamples(t *testing.T) {
	seeText(t, "\x61\xc2\xad\xc4\x80", 5, api.OK)
	seeText(t, "\x61\xee\x80\x80", 1, api.ErrChar)
}

// P10.2: the empty text, texts that are fit, and one that is not at each place; the place counts bytes.
func TestText(t *testing.T) {
	seeText(t, "", 0, api.OK)
	seeText(t, string(fits()), len(string(fits())), api.OK)
	for _, r := range unfit() {
		seeText(t, string(r), 0, api.ErrChar)
		for i := 0; i <= len(fits()); i++ {
			seeText(t, string(slices.Insert(fits(), i, r)), len(string(fits()[:i])), api.ErrChar)
		}
		for _, c := range []struct {
			ahead string
			at    int
		}{
			{"a", 1}, {"abc", 3}, {"\u00e9", 2}, {"\u0301", 2}, {"\u05d0", 2}, {"\u200b", 3}, {"\uac00", 3}, {"\ufeff", 3},
			{"a\u00e9", 3}, {"\u00e9\uac00", 5}, {"a\u00e9\uac00", 6}, {"\uac00\u00e9a\uac00", 9},
		} {
			seeText(t, c.ahead+string(r), c.at, api.ErrChar)
			seeText(t, c.ahead+string(r)+c.ahead, c.at, api.ErrChar)
		}
	}
}

// P10.2: none of four bytes is fit, so that it is the first itself; of several, of however many bytes, the first.
func TestTextSeveral(t *testing.T) {
	for _, four := range []string{"\U00010000", "\U0001f600", "\U0001ffff", "\U0010ffff"} {
		seeText(t, four, 0, api.ErrChar)
		seeText(t, four+"\ue000", 0, api.ErrChar)
		seeText(t, "a"+four+"\ue000", 1, api.ErrChar)
		seeText(t, "\uac00"+four+four, 3, api.ErrChar)
		seeText(t, "\u00e9\ue000"+four, 2, api.ErrChar)
		seeText(t, "a\u0370"+four+"\ue000", 1, api.ErrChar)
	}
	for _, a := range unfit() {
		for _, b := range unfit() {
			seeText(t, string([]rune{a, b}), 0, api.ErrChar)
			seeText(t, string([]rune{'a', 0xe9, 0xac00, a, 'b', b}), 6, api.ErrChar)
		}
	}
}

// P10.2: wrong bytes at each place, with code points of one, two, three and four bytes ahead of them.
func TestTextWrong(t *testing.T) {
	for _, w := range wrongTexts() {
		seeText(t, w, 0, api.ErrUTF)
		seeText(t, w+"abc", 0, api.ErrUTF)
		for _, ahead := range []string{"a", "\u00e9", "\uac00", "a\u00e9\uac00", string(fits())} {
			seeText(t, ahead+w, len(ahead), api.ErrUTF)
			seeText(t, ahead+w+"abc", len(ahead), api.ErrUTF)
			seeText(t, ahead+w+"\xff", len(ahead), api.ErrUTF)
		}
	}
}

// P10.2: a wrong byte is told ahead of what is not fit, whichever stands first.
func TestTextBoth(t *testing.T) {
	for _, w := range wrongTexts() {
		for _, r := range unfit() {
			s := string(r)
			seeText(t, s+w, len(s), api.ErrUTF)
			seeText(t, w+s, 0, api.ErrUTF)
			seeText(t, "a"+s+"bc"+w+"d", 3+len(s), api.ErrUTF)
			seeText(t, "\u00e9"+w+"bc"+s+"d", 2, api.ErrUTF)
		}
	}
	seeText(t, "\U00010000\xff", 4, api.ErrUTF)
	seeText(t, "\ue000\u0370\xff\ue000\xff", 5, api.ErrUTF)
}

// P10.3: the empty text, no kinds, one, several, and kinds that are none.
func TestOnly(t *testing.T) {
	seeOnly(t, true, "")
	seeOnly(t, true, "", api.CharLetter)
	seeOnly(t, true, "", -1)
	seeOnly(t, false, "a")
	seeOnly(t, false, "\u0370")
	seeOnly(t, false, "\ue000")
	seeOnly(t, true, "ab\u00e9\u05d0\uac00", api.CharLetter)
	seeOnly(t, false, "ab1", api.CharLetter)
	seeOnly(t, false, "1ab", api.CharLetter)
	seeOnly(t, false, "a1b", api.CharLetter)
	seeOnly(t, true, "a1b", api.CharLetter, api.CharDigit)
	seeOnly(t, true, "a1b", api.CharDigit, api.CharLetter)
	seeOnly(t, true, "a1b", api.CharDigit, api.CharDigit, api.CharLetter, -7)
	seeOnly(t, false, "a1 b", api.CharDigit, api.CharLetter)
	seeOnly(t, true, "12 \u00a0\u3000\uff13", api.CharDigit, api.CharSpace)
	seeOnly(t, false, "12 -3", api.CharDigit, api.CharSpace)
	seeOnly(t, true, "a1\u0301! \u200b\ue000\u0370", 0, 1, 2, 3, 4, 5, 6, 7)
	for _, kind := range []int{-1, 8, 99, 256, 257, math.MinInt, math.MaxInt} {
		seeOnly(t, false, "a", kind)
		seeOnly(t, false, "\u0370", kind)
		seeOnly(t, true, "a", kind, api.CharLetter)
		seeOnly(t, true, "a", api.CharLetter, kind)
	}
}

// P10.3: Only asks for kinds alone, not whether they are fit.
func TestOnlyUnfit(t *testing.T) {
	seeOnly(t, true, string(bad()), api.CharBad)
	seeOnly(t, false, string(bad()), 0, 1, 2, 3, 4, 5, 6)
	seeOnly(t, true, string(noChars()), api.CharNone)
	seeOnly(t, false, string(noChars()), 1, 2, 3, 4, 5, 6, 7)
	seeOnly(t, true, string(unfit()), api.CharNone, api.CharBad)
	seeOnly(t, false, string(unfit())+"a", api.CharNone, api.CharBad)
}

// P10.3: what is not the bytes of code points has none of any kinds.
func TestOnlyWrong(t *testing.T) {
	for _, w := range wrongTexts() {
		for _, s := range []string{w, "a" + w, w + "a", "a\u00e9" + w + "b"} {
			seeOnly(t, false, s)
			seeOnly(t, false, s, api.CharLetter)
			seeOnly(t, false, s, api.CharNone)
			seeOnly(t, false, s, api.CharBad)
			seeOnly(t, false, s, 0, 1, 2, 3, 4, 5, 6, 7)
		}
	}
}

// P10.2, P10.3: every code point, alone and between others.
func TestEveryPoint(t *testing.T) {
	b := read(t)
	for r := rune(0); r <= 0x10ffff; r++ {
		if !utf8.ValidRune(r) {
			continue
		}
		s := "\u00e9" + string(r) + "a"
		at, e := len(s), api.OK
		if !b.fit(r) {
			at, e = 2, api.ErrChar
		}
		if gotAt, gotE := Text(s); gotAt != at || gotE != e {
			t.Errorf("Text of %q: %d %d", s, gotAt, int(gotE))
		}
		if !Only(string(r), b[r]) || Only(string(r), (b[r]+1)%8) {
			t.Errorf("Only of %x", r)
		}
	}
}

// randomText is some parts, one behind the other.
func randomText(c *rand.Rand, parts []string) string {
	s := ""
	for range c.Intn(7) {
		s += parts[c.Intn(len(parts))]
	}
	return s
}

// P10.1 to P10.3: texts and lists by chance, by the chapter's words.
func TestByWords(t *testing.T) {
	b := read(t)
	c := rand.New(rand.NewSource(10))
	parts := []string{"\xff", "\xc3", "\x80", "\xe2\x82", "\ue000", "\u0370", "\U00010000", "\U0010ffff"}
	for _, r := range fits() {
		parts = append(parts, string(r))
	}
	numbers := slices.Concat(fits(), fits(), fits(), fits(), unfit(), surrogates(), outside())
	told := map[api.Errno]int{}
	for range 30000 {
		s := randomText(c, parts)
		at, e := b.text(s)
		seeText(t, s, at, e)
		told[e]++
		kinds := make([]int, c.Intn(8))
		for i := range kinds {
			kinds[i] = c.Intn(10) - 1
		}
		seeOnly(t, b.only(s, kinds), s, kinds...)
		l := make([]rune, c.Intn(7))
		for i := range l {
			l[i] = numbers[c.Intn(len(numbers))]
		}
		n, e := b.check(l)
		seeCheck(t, l, n, e)
	}
	for _, e := range []api.Errno{api.OK, api.ErrUTF, api.ErrChar} {
		if told[e] < 1000 {
			t.Errorf("%d was asked for %d times alone", int(e), told[e])
		}
	}
}

// seeParts holds texts of code points, one behind the other, against each of them.
func seeParts(t *testing.T, texts []string) {
	t.Helper()
	whole, at, want := strings.Join(texts, ""), 0, api.OK
	for _, s := range texts {
		n, e := Text(s)
		at += n
		if e != api.OK {
			want = e
			break
		}
	}
	seeText(t, whole, at, want)
}

// P10.4: texts one behind the other are fit just if each is.
func TestParts(t *testing.T) {
	seeParts(t, nil)
	seeParts(t, []string{"", "", ""})
	seeText(t, "a\u00e9"+"\uac00"+"b\ue000c"+"\u0370", 7, api.ErrChar)
	some := []string{"", "a", "\u00e9", "\uac00\u0301", "\ue000", "a\u0370", "\u00e9\U00010000b", "\U0010ffff"}
	for _, a := range some {
		for _, b := range some {
			for _, c := range some {
				seeParts(t, []string{a, b, c})
			}
		}
	}
	chance := rand.New(rand.NewSource(104))
	for range 5000 {
		var texts []string
		for range chance.Intn(6) {
			texts = append(texts, randomText(chance, append([]string{"ab", "\u0301", "\u3000x"}, some...)))
		}
		seeParts(t, texts)
	}
}

// P10.4: lists of characters, too.
func TestPartsOfLists(t *testing.T) {
	some := [][]rune{nil, {'a'}, {0xe9, 0x301}, {0xe000}, {'a', 0x370}, {0xd800, 'a'}, {'a', 'b', -1}, {0x110000}}
	for _, a := range some {
		for _, b := range some {
			n, e := Check(a...)
			if e == api.OK {
				var more int
				more, e = Check(b...)
				n += more
			}
			seeCheck(t, slices.Concat(a, b), n, e)
		}
	}
}

// P10.4 is said of texts of code points: bytes that are wrong apart may be right together, and wrong ones are told first.
func TestPartsOfBytes(t *testing.T) {
	seeText(t, "\xc3", 0, api.ErrUTF)
	seeText(t, "\xa9", 0, api.ErrUTF)
	seeText(t, "\xc3"+"\xa9", 2, api.OK)
	seeText(t, "\ue000"+"a\xff", 4, api.ErrUTF)
}

// Very long texts and lists.
func TestVeryLong(t *testing.T) {
	const n = 100000
	s := strings.Repeat("a\u00e9\uac00", n)
	seeText(t, s, 6*n, api.OK)
	seeOnly(t, true, s, api.CharLetter)
	if at, e := Text(s + "\ue000" + s); at != 6*n || e != api.ErrChar {
		t.Error("not fit in the middle", at, int(e))
	}
	if at, e := Text("\ue000" + s + "\xff"); at != 6*n+3 || e != api.ErrUTF {
		t.Error("wrong at the end", at, int(e))
	}
	if Only(s+"1", api.CharLetter) || Only(s+"\xff", api.CharLetter) {
		t.Error("another kind at the end")
	}
	if k, e := Check(append([]rune(s), 0xd800, 'a')...); k != 3*n || e != api.ErrChar {
		t.Error("a long list", k, int(e))
	}
}

// Rule 4: lists that are handed in stay as they are, their spare room too.
func TestMemory(t *testing.T) {
	list := slices.Concat(fits(), unfit(), surrogates(), outside())
	for _, n := range []int{0, 1, 5, len(fits()), len(fits()) + 1, len(list) - 3} {
		room := slices.Clone(list)
		Check(room[:n]...)
		if !slices.Equal(room, list) {
			t.Fatalf("%x was changed: %x", list, room)
		}
	}
	kinds := []int{7, 3, 1, 1, -4, 5, 2, 0, 99}
	for n := range kinds {
		room := slices.Clone(kinds)
		first := Only("a1", room[:n]...)
		if !slices.Equal(room, kinds) {
			t.Fatalf("%d was changed: %d", kinds, room)
		}
		// What stands in the spare room is not asked for.
		for i := n; i < len(room); i++ {
			room[i] = api.CharLetter
		}
		if Only("a1", room[:n]...) != first {
			t.Fatalf("%d: the spare room is asked for", kinds[:n])
		}
	}
}

// Rule 5: the same is answered however often and in whichever order it is asked.
func TestAgain(t *testing.T) {
	for range 3 {
		seeText(t, "a\ue000", 1, api.ErrChar)
		seeText(t, "a\xff", 1, api.ErrUTF)
		seeText(t, "ab", 2, api.OK)
		seeCheck(t, []rune{'a', 0x370}, 1, api.ErrChar)
		seeCheck(t, []rune{'a'}, 1, api.OK)
		seeOnly(t, true, "a", api.CharLetter)
		seeOnly(t, false, "a", api.CharDigit)
	}
}
