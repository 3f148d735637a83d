package prep

import (
	"math"
	"math/rand"
	"slices"
	"strings"
	"testing"
	"unicode"
	"unicode/utf8"

	"toponym/api"
	"toponym/blanks"
	"toponym/chars"
	"toponym/fold"
	"toponym/guard"
	"toponym/nfkc"
)

// ways are all four.
func ways() []int {
	return []int{api.PrepExact, api.PrepFold, api.PrepNumeric, api.PrepPhone}
}

// noWays are numbers that are no ways, below the least and above the greatest; some have lower bits that would be one's.
func noWays() []int {
	return []int{math.MinInt, math.MinInt + 1, -1<<32 + 1, -256 + 2, -4, -3, -2, -1, 0, 5, 6, 7, 8, 255, 257, 258, 1<<16 + 3, 1<<32 + 1, 1<<32 + 4, math.MaxInt - 1, math.MaxInt}
}

// row is a text, and what it is in each of the ways.
type row struct{ given, exact, folded, numeric, phone string }

func (r row) want(way int) string {
	switch way {
	case api.PrepExact:
		return r.exact
	case api.PrepFold:
		return r.folded
	case api.PrepNumeric:
		return r.numeric
	}
	return r.phone
}

// plain is a row of a text in which nothing is folded and no hyphen left out.
func plain(given, value, dense string) row { return row{given, value, value, dense, dense} }

func rows() []row {
	return slices.Concat(blankRows(), foldRows(), looseRows(), markRows(), hyphenRows(), hangulRows())
}

// blankRows are of texts without characters, of what is left out, and of spaces.
func blankRows() []row {
	return []row{
		plain("", "  ", ""),
		plain(" ", "  ", ""), plain("  ", "  ", ""), plain("       ", "  ", ""),
		plain("\u00a0", "  ", ""), plain("\t\r\n", "  ", ""), plain("\u3000\u2028 \u0085", "  ", ""),
		plain("\u00ad", "  ", ""), plain("\x00\u200b\ufeff", "  ", ""), plain("\u00ad \u00ad", "  ", ""),
		plain("a", " a ", "a"), plain(" a", " a ", "a"), plain("a ", " a ", "a"), plain("  a  ", " a ", "a"),
		plain("a b", " a  b ", "ab"), plain("a  b", " a  b ", "ab"), plain("a   b", " a  b ", "ab"),
		plain(" ab  cd   ef ", " ab  cd  ef ", "abcdef"),
		plain("a\u00a0b", " a  b ", "ab"), plain("a\r\nb", " a  b ", "ab"), plain("a\u2000\u2009b\u205fc\u202f", " a  b  c ", "abc"),
		plain("so\u00adft\u200b", " soft ", "soft"), plain("a \u00ad b", " a  b ", "ab"), plain("a\ufe0fb\x7f", " ab ", "ab"),
		plain("1 2", " 1  2 ", "12"), plain(" 12 \u00b2 ", " 12  2 ", "122"),
		// What is written from the right stays in its order.
		plain("\u05d0\u05d1 1\u05d2", " \u05d0\u05d1  1\u05d2 ", "\u05d0\u05d11\u05d2"),
		plain("\u4e00 \u3042", " \u4e00  \u3042 ", "\u4e00\u3042"),
	}
}

// foldRows are of great and small letters.
func foldRows() []row {
	return []row{
		{"Ab C", " Ab  C ", " ab  c ", "AbC", "abc"},
		{"Fu\u00dfg\u00e4nger\u00a0 Zone", " Fu\u00dfg\u00e4nger  Zone ", " fussg\u00e4nger  zone ", "Fu\u00dfg\u00e4ngerZone", "fussg\u00e4ngerzone"},
		{"STRASSE", " STRASSE ", " strasse ", "STRASSE", "strasse"},
		{"\u0130", " \u0130 ", " i\u0307 ", "\u0130", "i\u0307"},
		{"I\u0307", " \u0130 ", " i\u0307 ", "\u0130", "i\u0307"},
		{"\u03a3\u03c2\u03c3", " \u03a3\u03c2\u03c3 ", " \u03c3\u03c3\u03c3 ", "\u03a3\u03c2\u03c3", "\u03c3\u03c3\u03c3"},
		{"\u0401\u0416", " \u0401\u0416 ", " \u0451\u0436 ", "\u0401\u0416", "\u0451\u0436"},
		{"\u1100A \u1161", " \u1100A  \u1161 ", " \u1100a  \u1161 ", "\u1100A\u1161", "\u1100a\u1161"},
		{"\u0178", " \u0178 ", " \u00ff ", "\u0178", "\u00ff"},
		{"Y\u0308", " \u0178 ", " \u00ff ", "\u0178", "\u00ff"},
	}
}

// looseRows are of characters that are not in the loose normal form, some of which are folded, too.
func looseRows() []row {
	return []row{
		plain("\ufb01", " fi ", "fi"), plain("\ufb05", " st ", "st"), plain("\u00bc", " 1\u20444 ", "1\u20444"),
		plain("e\u0301", " \u00e9 ", "\u00e9"), plain("\u00aa\u0301", " \u00e1 ", "\u00e1"),
		plain("\u3046\u3099", " \u3094 ", "\u3094"),
		{"\u212b", " \u00c5 ", " \u00e5 ", "\u00c5", "\u00e5"}, {"\u2126", " \u03a9 ", " \u03c9 ", "\u03a9", "\u03c9"},
		{"\u2126\u0301", " \u038f ", " \u03ce ", "\u038f", "\u03ce"},
		{"\uff21\u030a", " \u00c5 ", " \u00e5 ", "\u00c5", "\u00e5"},
		{"\u2167 \uff26\uff55\uff53\uff53", " VIII  Fuss ", " viii  fuss ", "VIIIFuss", "viiifuss"},
		{"\u013f", " L\u00b7 ", " l\u00b7 ", "L\u00b7", "l\u00b7"}, {"\u0132", " IJ ", " ij ", "IJ", "ij"},
		{"\u0149", " \u02bcn ", " \u02bcn ", "\u02bcn", "\u02bcn"},
		{"\u00b5", " \u03bc ", " \u03bc ", "\u03bc", "\u03bc"},
		{"E\u00ad\u0301", " \u00c9 ", " \u00e9 ", "\u00c9", "\u00e9"},
	}
}

// markRows are of marks: first, behind spaces, and in the wrong order.
func markRows() []row {
	return []row{
		plain("\u0301", "  \u0301 ", "\u0301"), plain("\u0301\u0327", "  \u0327\u0301 ", "\u0327\u0301"),
		plain("\u0301a", "  \u0301a ", "\u0301a"), plain("\u0301 a", "  \u0301  a ", "\u0301a"), plain("\u0301 ", "  \u0301 ", "\u0301"),
		plain("\u00ad\u0301", "  \u0301 ", "\u0301"), plain("\u3099", "  \u3099 ", "\u3099"),
		plain(" \u0301", "  \u0301 ", " \u0301"), plain("  \u0301", "  \u0301 ", " \u0301"), plain("\u3000\u0301", "  \u0301 ", " \u0301"),
		plain("\u00b4", "  \u0301 ", " \u0301"), plain(" \u00b4", "  \u0301 ", " \u0301"), plain("a\u00b4", " a \u0301 ", "a \u0301"),
		plain("e \u0301", " e \u0301 ", "e \u0301"), plain("e  \u0301", " e   \u0301 ", "e \u0301"), plain("e \u00ad\u0301b", " e \u0301b ", "e \u0301b"),
		plain("c\u0301\u0327", " \u00e7\u0301 ", "\u00e7\u0301"), plain("c\u0301\u034f\u0327", " \u00e7\u0301 ", "\u00e7\u0301"),
		plain("q\u0301 b", " q\u0301  b ", "q\u0301b"),
	}
}

// hyphenRows are of hyphens, which a phone number alone does without.
func hyphenRows() []row {
	return []row{
		{"-", " - ", " - ", "-", ""}, {"\u2010", " \u2010 ", " \u2010 ", "\u2010", ""}, {"\u2212", " \u2212 ", " \u2212 ", "\u2212", ""},
		{"\u2011", " \u2010 ", " \u2010 ", "\u2010", ""}, {"\uff0d", " - ", " - ", "-", ""},
		{"- -", " -  - ", " -  - ", "--", ""}, {" \u2010-\u2212 ", " \u2010-\u2212 ", " \u2010-\u2212 ", "\u2010-\u2212", ""},
		{"+49 30-12\u2011A", " +49  30-12\u2010A ", " +49  30-12\u2010a ", "+4930-12\u2010A", "+493012a"},
		{"(0) 1-2", " (0)  1-2 ", " (0)  1-2 ", "(0)1-2", "(0)12"},
		plain("-\u0301", " -\u0301 ", "-\u0301"), plain("\u2011\u0301", " \u2010\u0301 ", "\u2010\u0301"),
		{"--\u0301", " --\u0301 ", " --\u0301 ", "--\u0301", "-\u0301"},
		{"- \u0301", " - \u0301 ", " - \u0301 ", "- \u0301", " \u0301"},
		{"1_2\u00b72", " 1_2\u00b72 ", " 1_2\u00b72 ", "1_2\u00b72", "1_2\u00b72"},
	}
}

// hangulRows are of characters that go together once the blanks between them are left out.
func hangulRows() []row {
	return []row{
		plain("\u1100\u1161", " \uac00 ", "\uac00"), plain("\u1100\u00ad\u1161\u200b\u11a8", " \uac01 ", "\uac01"),
		plain("\u1100 \u1161", " \u1100  \u1161 ", "\uac00"), plain("\u1100 \u1161 \u11a8", " \u1100  \u1161  \u11a8 ", "\uac01"),
		plain("\uac00\u3000 \u11a8", " \uac00  \u11a8 ", "\uac01"), plain(" \u1112 \u1175\u11c2", " \u1112  \u1175\u11c2 ", "\ud7a3"),
		plain("\uac01 \u11a8", " \uac01  \u11a8 ", "\uac01\u11a8"),
		plain("\u1100 \u0301\u1161", " \u1100 \u0301\u1161 ", "\u1100 \u0301\u1161"),
		{"\u1100-\u1161", " \u1100-\u1161 ", " \u1100-\u1161 ", "\u1100-\u1161", "\uac00"},
		{"\u1100 \u1161-\u11a8", " \u1100  \u1161-\u11a8 ", " \u1100  \u1161-\u11a8 ", "\uac00-\u11a8", "\uac01"},
		{"1 \uac00\u2011 \u11a8", " 1  \uac00\u2010  \u11a8 ", " 1  \uac00\u2010  \u11a8 ", "1\uac00\u2010\u11a8", "1\uac01"},
	}
}

// unfit are code points that may be in no value: no characters, and forbidden ones.
func unfit() []rune {
	return []rune{0x180, 0x305, 0x340, 0x341, 0x370, 0x3a2, 0x5eb, 0x1113, 0x2012, 0x3095, 0xd7a4, 0xe000, 0xf8ff, 0xfdd0, 0xff5f, 0xfffd, 0xffff, 0x10000, 0x10041, 0x1f600, 0x1fffe, 0x10ffff}
}

// outside are numbers that are no code points; some have lower bits that would be a character's.
func outside() []rune {
	return []rune{
		math.MinInt32, math.MinInt32 + 'a', -0x10000 + 0x20, -0x10000 + 0x301, -0x301, -'a', -0x20, -1,
		0xd800, 0xdbff, 0xdc00, 0xdfff, 0x110000, 0x110020, 0x110061, 0x11ac00, 0x7fff00ad, math.MaxInt32,
	}
}

// wrongTexts are bytes that are no code points.
func wrongTexts() []string {
	return []string{
		"\xff", "\x80", "\xbf", "\xc0", "\xc3", "\xe2\x82", "\xf0\x9f\x98", // no first byte, and what ends too early
		"\xc0\x80", "\xc0\xa0", "\xc1\xbf", "\xe0\x80\xa0", "\xe0\x9f\xbf", "\xf0\x80\x80\x80", "\xf0\x8f\xbf\xbf", // more bytes than are needed
		"\xed\xa0\x80", "\xed\xbf\xbf", "\xf4\x90\x80\x80", "\xf8\x88\x80\x80\x80", // numbers that are no code points
	}
}

// words is P12.1, word for word.
func words(way int, l []rune) ([]rune, api.Errno) {
	if !slices.Contains(ways(), way) {
		return nil, api.ErrArg
	}
	l = nfkc.Runes(true, fold.Map(way == api.PrepFold || way == api.PrepPhone, l...)...)
	for _, r := range l {
		if kind := chars.Kind(r); kind == api.CharNone || kind == api.CharBad {
			return nil, api.ErrChar
		}
	}
	switch way {
	case api.PrepNumeric:
		return nfkc.Runes(true, blanks.Numeric(l...)...), api.OK
	case api.PrepPhone:
		return nfkc.Runes(true, blanks.Phone(l...)...), api.OK
	}
	return blanks.Value(l...), api.OK
}

// wordsOf is P12.2, word for word; Go's own reading of bytes is as strict.
func wordsOf(way int, s string) (string, api.Errno) {
	switch {
	case !slices.Contains(ways(), way):
		return "", api.ErrArg
	case len(s) > 1202:
		return "", api.ErrBig
	case !utf8.ValidString(s):
		return "", api.ErrUTF
	}
	l, e := words(way, []rune(s))
	return string(l), e
}

func seeSteps(t *testing.T, way int, l, want []rune, e api.Errno) {
	t.Helper()
	if got, gotE := Steps(way, l...); !slices.Equal(got, want) || gotE != e {
		t.Errorf("Steps %d of %x: %x %d, not %x %d", way, l, got, int(gotE), want, int(e))
	}
}

func seeValue(t *testing.T, way int, s, want string, e api.Errno) {
	t.Helper()
	if got, gotE := Value(way, s); got != want || gotE != e {
		t.Errorf("Value %d of %q: %q %d, not %q %d", way, s, got, int(gotE), want, int(e))
	}
}

func seeSame(t *testing.T, way int, want bool, e api.Errno, all ...string) {
	t.Helper()
	if got, gotE := Same(way, all...); got != want || gotE != e {
		t.Errorf("Same %d of %q: %t %d, not %t %d", way, all, got, int(gotE), want, int(e))
	}
}

func seePrepared(t *testing.T, way int, s string, want bool) {
	t.Helper()
	if Prepared(way, s) != want {
		t.Errorf("Prepared %d of %q: not %t", way, s, want)
	}
}

// P12.1, P12.2, P12.4: the edges, each in all four ways.
func TestRows(t *testing.T) {
	for _, r := range rows() {
		for _, way := range ways() {
			want := r.want(way)
			seeSteps(t, way, []rune(r.given), []rune(want), api.OK)
			seeValue(t, way, r.given, want, api.OK)
			seePrepared(t, way, r.given, r.given == want)
			seePrepared(t, way, want, true)
			if by, e := words(way, []rune(r.given)); string(by) != want || e != api.OK {
				t.Errorf("%q, %d: by the words %q %d", r.given, way, string(by), int(e))
			}
		}
	}
}

// The chapter's three examples, word for word.
func TestExamples(t *testing.T) {
	seeValue(t, api.PrepFold, "Fußgänger\u00a0 Zone", " fussgänger  zone ", api.OK)
	seeValue(t, api.PrepExact, "\ufb01", " fi ", api.OK)
	seeValue(t, api.PrepNumeric, "1 2", "12", api.OK)
}

// No characters, and no bytes.
func TestNothing(t *testing.T) {
	for _, way := range ways() {
		want := ""
		if way == api.PrepExact || way == api.PrepFold {
			want = "  "
		}
		if got, e := Steps(way); string(got) != want || e != api.OK {
			t.Errorf("Steps %d of nothing: %x %d", way, got, int(e))
		}
		seeSteps(t, way, []rune{}, []rune(want), api.OK)
		seeValue(t, way, "", want, api.OK)
		seePrepared(t, way, "", want == "")
	}
}

// P12.1 to P12.4: what is no way, whatever else is wrong.
func TestNoWay(t *testing.T) {
	big, wrong, bad := strings.Repeat("a", 1203), "\xff", "\ue000"
	for _, way := range noWays() {
		seeSteps(t, way, nil, nil, api.ErrArg)
		for _, l := range [][]rune{{}, {'a'}, {' '}, {0xe000}, {-1}} {
			seeSteps(t, way, l, nil, api.ErrArg)
		}
		for _, s := range []string{"", "a", " a ", "  ", big, wrong, bad, big + wrong, bad + wrong} {
			seeValue(t, way, s, "", api.ErrArg)
			seePrepared(t, way, s, false)
			seeSame(t, way, false, api.ErrArg, s)
			seeSame(t, way, false, api.ErrArg, s, s)
			seeSame(t, way, false, api.ErrArg, "a", s)
		}
		seeSame(t, way, false, api.ErrArg)
	}
}

// P12.1, P12.2: characters that are not fit, wherever they stand; no characters are told beside the error.
func TestUnfit(t *testing.T) {
	for _, r := range unfit() {
		for _, way := range ways() {
			for _, l := range [][]rune{{r}, {r, 'a'}, {'a', r, 'b'}, {' ', r}, {r, 0x301}, {0xad, r, 0xad}, {'1', ' ', '-', r}, {r, r}} {
				seeSteps(t, way, l, nil, api.ErrChar)
				seeValue(t, way, string(l), "", api.ErrChar)
				seePrepared(t, way, string(l), false)
				seeSame(t, way, false, api.ErrChar, string(l), string(l))
			}
		}
	}
	for _, r := range outside() {
		for _, way := range ways() {
			for _, l := range [][]rune{{r}, {r, 'a'}, {'a', r, 0x301}, {' ', r, ' '}, {0xad, r}} {
				seeSteps(t, way, l, nil, api.ErrChar)
			}
		}
	}
}

// P12.2: bytes that are no UTF-8, wherever they stand, and though what stands ahead or behind is not fit.
func TestWrongBytes(t *testing.T) {
	for _, w := range wrongTexts() {
		for _, way := range ways() {
			for _, s := range []string{w, w + "abc", "ab" + w + "c", "abc" + w, " " + w + " ", "\ue000" + w, w + "\ue000", "\u0370" + w + "\u0370", "\u00ad" + w, strings.Repeat("a", 1202-len(w)) + w} {
				seeValue(t, way, s, "", api.ErrUTF)
				seePrepared(t, way, s, false)
				seeSame(t, way, false, api.ErrUTF, s)
			}
		}
	}
}

// P12.2: texts of MaxPrep bytes, and of one more; it is bytes that are counted, also of what is left out.
func TestLong(t *testing.T) {
	for _, one := range []string{"a", " ", "-", "\u00e9", "\u00ad", "\x00", "\u00bc"} {
		n := 1202 / len(one)
		most := strings.Repeat(one, n)
		for _, way := range ways() {
			want, e := wordsOf(way, most)
			if e != api.OK {
				t.Fatalf("%q: %d", one, int(e))
			}
			seeValue(t, way, most, want, api.OK)
			seeSame(t, way, true, api.OK, most, most)
			for _, more := range []string{most + "a", most + " ", "\x00" + most, most + "\xff", most + "\ue000", most + most} {
				seeValue(t, way, more, "", api.ErrBig)
				seePrepared(t, way, more, false)
				seeSame(t, way, false, api.ErrBig, "a", more)
			}
		}
	}
	seeValue(t, api.PrepExact, strings.Repeat("a", 1202), " "+strings.Repeat("a", 1202)+" ", api.OK)
	seeValue(t, api.PrepExact, strings.Repeat(" ", 1202), "  ", api.OK)
	seeValue(t, api.PrepNumeric, strings.Repeat("\u00e9", 601), strings.Repeat("\u00e9", 601), api.OK)
	seePrepared(t, api.PrepPhone, strings.Repeat("1", 1202), true)
	seePrepared(t, api.PrepFold, " "+strings.Repeat("a", 1200)+" ", true)
	seePrepared(t, api.PrepFold, " "+strings.Repeat("a", 1201)+" ", false)
}

// P12.1: Steps knows no limit.
func TestVeryLong(t *testing.T) {
	const n = 50000
	given := slices.Repeat([]rune{'A', 0x301, 0xa0, 0xad, ' ', 0x1100, '-', ' ', 0x1161, 0x3000}, n)
	for i, want := range []string{" \u00c1  \u1100-  \u1161 ", " \u00e1  \u1100-  \u1161 ", "\u00c1\u1100-\u1161", "\u00e1\uac00"} {
		got, e := Steps(ways()[i], given...)
		if string(got) != strings.Repeat(want, n) || e != api.OK {
			t.Errorf("Steps %d: %d characters, %d", ways()[i], len(got), int(e))
		}
	}
	if got, e := Steps(api.PrepFold, append(given, 0xe000)...); len(got) != 0 || e != api.ErrChar {
		t.Errorf("%d characters, %d", len(got), int(e))
	}
}

// P12.2: which error is told where several could be.
func TestErrors(t *testing.T) {
	big := strings.Repeat("a", 1203)
	for _, way := range ways() {
		seeValue(t, way, big+"\xff", "", api.ErrBig)
		seeValue(t, way, "\xff"+big, "", api.ErrBig)
		seeValue(t, way, "\ue000"+big, "", api.ErrBig)
		seeValue(t, way, "\ue000\xff", "", api.ErrUTF)
		seeValue(t, way, "\xff\ue000", "", api.ErrUTF)
		seeValue(t, way, "\ue000", "", api.ErrChar)
	}
	seeValue(t, 0, big+"\xff\ue000", "", api.ErrArg)
	seeValue(t, 5, "\ue000", "", api.ErrArg)
}

// P12.3: none, one and several.
func TestSame(t *testing.T) {
	for _, way := range ways() {
		seeSame(t, way, true, api.OK)
		for _, s := range []string{"", " ", "a", "A", "\u0301", "\ufb01 x"} {
			seeSame(t, way, true, api.OK, s)
			seeSame(t, way, true, api.OK, s, s)
			seeSame(t, way, true, api.OK, s, s, s, s)
			seeSame(t, way, false, api.OK, s, "b")
			seeSame(t, way, false, api.OK, "b", s)
			seeSame(t, way, false, api.OK, s, s, "b")
			seeSame(t, way, false, api.OK, s, "b", s)
			seeSame(t, way, false, api.OK, "b", s, s)
			seeSame(t, way, false, api.OK, "b", "c", s)
		}
		seeSame(t, way, true, api.OK, "", " ", "\u00ad\u3000")
		seeSame(t, way, true, api.OK, slices.Repeat([]string{"a", " a", "\u00aa"}, 200)...)
		seeSame(t, way, false, api.OK, append(slices.Repeat([]string{"a", " a", "\u00aa"}, 200), "b")...)
	}
	seeSame(t, api.PrepFold, true, api.OK, "A  b", "a B", "a\u00a0b\u00ad")
	seeSame(t, api.PrepExact, false, api.OK, "a", "A")
	seeSame(t, api.PrepNumeric, false, api.OK, "a", "A")
	seeSame(t, api.PrepPhone, true, api.OK, "a", "A")
	seeSame(t, api.PrepFold, false, api.OK, "ab", "a b")
	seeSame(t, api.PrepNumeric, true, api.OK, "12", "1 2", "\uff11\u00b2")
	seeSame(t, api.PrepNumeric, false, api.OK, "12", "1-2")
	seeSame(t, api.PrepPhone, true, api.OK, "12", "1-2", "1 - 2", "1\u20112")
	seeSame(t, api.PrepExact, false, api.OK, "\u00df", "ss")
	seeSame(t, api.PrepFold, true, api.OK, "\u00df", "ss", "SS", "Ss")
}

// P12.3: the rows, each against each, by what they are prepared.
func TestSameEach(t *testing.T) {
	for _, a := range rows() {
		for _, b := range rows() {
			for _, way := range ways() {
				seeSame(t, way, a.want(way) == b.want(way), api.OK, a.given, b.given)
			}
		}
	}
}

// P12.3: the error of the first that has one, behind ones with none, and though texts ahead of it differ.
func TestSameErrors(t *testing.T) {
	wrongs := []struct {
		s string
		e api.Errno
	}{{"\xff", api.ErrUTF}, {"\ue000", api.ErrChar}, {strings.Repeat("a", 1203), api.ErrBig}}
	for _, way := range ways() {
		for _, one := range wrongs {
			for _, ahead := range [][]string{nil, {"a"}, {"a", "a"}, {"a", "b"}, {"b", "a", "a"}, {"", " "}} {
				for _, behind := range []string{"a", "b", "\xff", "\ue000", strings.Repeat("b", 1300)} {
					seeSame(t, way, false, one.e, append(slices.Clone(ahead), one.s)...)
					seeSame(t, way, false, one.e, append(slices.Clone(ahead), one.s, behind)...)
					seeSame(t, way, false, one.e, append(slices.Clone(ahead), one.s, one.s, behind)...)
				}
			}
		}
	}
	seeSame(t, api.PrepExact, false, api.ErrUTF, "a", "\xff", "\ue000")
	seeSame(t, api.PrepExact, false, api.ErrChar, "a", "\ue000", "\xff")
}

// P12.4: what is prepared in one way need not be in another.
func TestPrepared(t *testing.T) {
	for _, c := range []struct {
		s    string
		want [4]bool
	}{
		{"", [4]bool{false, false, true, true}},
		{"  ", [4]bool{true, true, false, false}},
		{" ", [4]bool{false, false, false, false}},
		{" a ", [4]bool{true, true, false, false}},
		{" A ", [4]bool{true, false, false, false}},
		{"A", [4]bool{false, false, true, false}},
		{"a", [4]bool{false, false, true, true}},
		{"1-2", [4]bool{false, false, true, false}},
		{" a b ", [4]bool{false, false, false, false}},
		{" a  b ", [4]bool{true, true, false, false}},
		{" a   b ", [4]bool{false, false, false, false}},
		{" a", [4]bool{false, false, false, false}},
		{"a ", [4]bool{false, false, false, false}},
		{"\u0301", [4]bool{false, false, true, true}},
		{" \u0301", [4]bool{false, false, true, true}},
		{" \u0301 ", [4]bool{false, false, false, false}},
		{"  \u0301 ", [4]bool{true, true, false, false}},
		{" \ufb01 ", [4]bool{false, false, false, false}},
		{" e\u0301 ", [4]bool{false, false, false, false}},
		{" \u00e9 ", [4]bool{true, true, false, false}},
		{"\u1100\u1161", [4]bool{false, false, false, false}},
		{" \u1100  \u1161 ", [4]bool{true, true, false, false}},
		{" \u00a0", [4]bool{false, false, false, false}},
		{" a\u00ad ", [4]bool{false, false, false, false}},
		{" \ue000 ", [4]bool{false, false, false, false}},
		{" \xff ", [4]bool{false, false, false, false}},
		{"\ue000", [4]bool{false, false, false, false}},
		{"\xff", [4]bool{false, false, false, false}},
	} {
		for i, way := range ways() {
			seePrepared(t, way, c.s, c.want[i])
		}
	}
}

// some are characters of each kind that is fit, and of each layer's edges.
func some() []rune {
	return []rune{
		'a', 'E', 'i', 'I', 'Z', '1', '-', '+', '(', 0x20, 0x20, 0x20, 9, 0xa0, 0x2003, 0x3000, 0, 0xad, 0x34f, 0x200b, 0xfe0f,
		0xb4, 0xa8, 0xaa, 0xb2, 0xb5, 0xbc, 0xc5, 0xdf, 0xe9, 0x130, 0x132, 0x149, 0x17f, 0x2bc, 0x390, 0x391, 0x3c2, 0x401, 0x5d0, 0x660,
		0x300, 0x301, 0x307, 0x308, 0x323, 0x327, 0x328, 0x3099, 0x304b, 0x309a,
		0x1100, 0x1161, 0x11a8, 0xac00, 0xac01, 0x2010, 0x2011, 0x2044, 0x2212, 0x2126, 0x212a, 0x212b, 0x2167, 0x217b, 0x4e00, 0xfb01, 0xfb05, 0xff21, 0xff0d, 0xff5e,
	}
}

// small are all lists of at most so many of some characters.
func small(most int, of []rune) [][]rune {
	all := [][]rune{nil}
	from := 0
	for range most {
		to := len(all)
		for _, l := range all[from:to] {
			for _, r := range of {
				all = append(all, append(slices.Clone(l), r))
			}
		}
		from = to
	}
	return all
}

// lists are all short ones of a few characters, longer ones by chance, and those of the rows.
func lists() [][]rune {
	l := slices.Concat(small(4, []rune{0x20, 0x301, 'E', '-', 0xad}), small(5, []rune{0x1100, 0x1161, 0x11a8, 0x20}), small(2, some()))
	c := rand.New(rand.NewSource(12))
	of := some()
	for i := range 3000 {
		one := make([]rune, c.Intn(3+i%30))
		for k := range one {
			one[k] = of[c.Intn(len(of))]
		}
		l = append(l, one)
	}
	for _, r := range rows() {
		l = append(l, []rune(r.given))
	}
	return l
}

// P12.1, P12.2: lists and texts by the chapter's words.
func TestByWords(t *testing.T) {
	for _, l := range lists() {
		for _, way := range ways() {
			want, e := words(way, l)
			seeSteps(t, way, l, want, e)
			seeValue(t, way, string(l), string(want), e)
			if t.Failed() {
				return
			}
		}
	}
}

// P12.1 to P12.4: bytes and numbers by chance, wrong ones among them.
func TestByChance(t *testing.T) {
	c := rand.New(rand.NewSource(122))
	some := []string{"a", "E", " ", "\u0301", "\u00ad", "\ufb01", "\u1100", "\u1161", "-", "\u3000", "\xcc", "\x81", "\xe2", "\x80", "\xff", "\ue000", "\u0370"}
	told := map[api.Errno]int{}
	for range 40000 {
		s, way := "", c.Intn(6)
		for range c.Intn(7) {
			s += some[c.Intn(len(some))]
		}
		want, e := wordsOf(way, s)
		told[e]++
		seeValue(t, way, s, want, e)
		seePrepared(t, way, s, e == api.OK && s == want)
		seeSame(t, way, e == api.OK, e, s, s)
		l := []rune(s)
		if len(l) > 0 && c.Intn(5) == 0 {
			l[c.Intn(len(l))] = outside()[c.Intn(len(outside()))]
		}
		wantRunes, e := words(way, l)
		seeSteps(t, way, l, wantRunes, e)
		if t.Failed() {
			return
		}
	}
	for _, e := range []api.Errno{api.OK, api.ErrArg, api.ErrUTF, api.ErrChar} {
		if told[e] < 1000 {
			t.Errorf("error %d: %d times alone", int(e), told[e])
		}
	}
}

// seeFollows holds what follows of a value against P12.5 and P12.6; it tells whether there is a Value.
func seeFollows(t *testing.T, way int, s string) bool {
	t.Helper()
	v, e := Value(way, s)
	if e != api.OK {
		return false
	}
	if len(v) <= 1202 {
		seePrepared(t, way, v, true)
		seeSame(t, way, true, api.OK, s, v)
	}
	l := []rune(v)
	seeSteps(t, way, l, l, api.OK)
	if len(v) > 3*len(s)+2 {
		t.Errorf("Value %d of %q: %q, which is too long", way, s, v)
	}
	if !utf8.ValidString(v) || !nfkc.Is(true, l...) {
		t.Errorf("Value %d of %q: %q, which is not normal", way, s, v)
	}
	if at, e := guard.Text(v); at != len(v) || e != api.OK {
		t.Errorf("Value %d of %q: %q, which is not fit", way, s, v)
	}
	return true
}

// P12.5, P12.6: the lists as texts.
func TestFollows(t *testing.T) {
	for _, l := range lists() {
		for _, way := range ways() {
			if !seeFollows(t, way, string(l)) {
				t.Errorf("%q has no Value", string(l))
			}
			if t.Failed() {
				return
			}
		}
	}
}

// P12.5, P12.6: each character by itself, with others round it, and which of them have a Value.
func TestFollowsEveryone(t *testing.T) {
	for r := rune(0); r <= 0x10ffff; r++ {
		if r == 0xd800 {
			r = 0xe000
		}
		kind := chars.Kind(r)
		fit := kind != api.CharNone && kind != api.CharBad
		// Of the higher planes there is nothing that is fit: a few of them will do.
		if low := r & 0xffff; r > 0xffff && 0x100 < low && low < 0xff00 {
			continue
		}
		for _, way := range ways() {
			if seeFollows(t, way, string(r)) != fit {
				t.Fatalf("%x, %d: %t", r, way, fit)
			}
			if fit {
				seeFollows(t, way, "E"+string(r)+" -"+string(r)+"\u0301")
			}
		}
		if t.Failed() {
			return
		}
	}
}

// P12.5: a Value that is longer than MaxPrep is Prepared no more, since it has none itself.
func TestLongValues(t *testing.T) {
	for _, c := range []struct {
		s, want string
		ok      bool
	}{
		{strings.Repeat("a", 1200), " " + strings.Repeat("a", 1200) + " ", true},
		{strings.Repeat("a", 1201), " " + strings.Repeat("a", 1201) + " ", false},
		{strings.Repeat("\u00bc", 240), " " + strings.Repeat("1\u20444", 240) + " ", true},
		{strings.Repeat("\u00bc", 601), " " + strings.Repeat("1\u20444", 601) + " ", false},
		{strings.Repeat("a ", 400), strings.Repeat(" a ", 400), true},
		{strings.Repeat("a ", 401), strings.Repeat(" a ", 401), false},
	} {
		for _, way := range []int{api.PrepExact, api.PrepFold} {
			seeValue(t, way, c.s, c.want, api.OK)
			seePrepared(t, way, c.want, c.ok)
			seeFollows(t, way, c.s)
			if !c.ok {
				seeValue(t, way, c.want, "", api.ErrBig)
			}
		}
	}
}

// spaces and gone are all of their kinds, by the words of chapter 3.
func spaces() []rune {
	return through(9, 0xd, 0x20, 0x20, 0x85, 0x85, 0xa0, 0xa0, 0x2000, 0x200a, 0x2028, 0x2029, 0x202f, 0x202f, 0x205f, 0x205f, 0x3000, 0x3000)
}

func gone() []rune {
	return through(0, 8, 0xe, 0x1f, 0x7f, 0x84, 0x86, 0x9f, 0xad, 0xad, 0x34f, 0x34f, 0x200b, 0x200f, 0x202a, 0x202e, 0x2060, 0x2063, 0x206a, 0x206f, 0xfe00, 0xfe0f, 0xfeff, 0xfeff, 0xfff9, 0xfffc)
}

// through gives ranges, each by its first and its last.
func through(ends ...rune) []rune {
	var l []rune
	for i := 0; i < len(ends); i += 2 {
		for r := ends[i]; r <= ends[i+1]; r++ {
			l = append(l, r)
		}
	}
	return l
}

// P12.7: each space is as good as any other, and what is left out changes nothing, wherever it stands.
func TestSameKinds(t *testing.T) {
	if len(spaces()) != 24 || len(gone()) != 102 {
		t.Fatalf("%d spaces, %d to be left out", len(spaces()), len(gone()))
	}
	for _, way := range ways() {
		for _, r := range spaces() {
			s := string(r)
			seeSame(t, way, true, api.OK, "a b", "a"+s+"b", "a"+s+s+s+"b", s+"a "+s+" b"+s)
			seeSame(t, way, true, api.OK, " ", s, s+s)
			seeSame(t, way, true, api.OK, " \u0301", s+"\u0301", " "+s+"\u0301")
		}
		for _, r := range gone() {
			s := string(r)
			seeSame(t, way, true, api.OK, "ae\u0301 b", s+"a"+s+s+"e"+s+"\u0301"+s+" "+s+"b"+s)
			seeSame(t, way, true, api.OK, "\uac01", "\u1100"+s+"\u1161"+s+"\u11a8")
			seeSame(t, way, true, api.OK, "", s, s+s)
			seeSame(t, way, true, api.OK, " \u0301", " "+s+"\u0301")
		}
	}
}

// P12.7: great and small letters, by Go's own word on them.
func TestSameLetters(t *testing.T) {
	asked := 0
	for r := rune(0); r <= 0xffff; r++ {
		small := unicode.ToLower(r)
		// Go tells of 130 the letter without its dot.
		if small == r || chars.Kind(r) != api.CharLetter || r == 0x130 {
			continue
		}
		asked++
		a, b := "x "+string(r)+"y", "x "+string(small)+"y"
		seeSame(t, api.PrepFold, true, api.OK, a, b)
		seeSame(t, api.PrepPhone, true, api.OK, a, b)
		seeSame(t, api.PrepExact, false, api.OK, a, b)
		seeSame(t, api.PrepNumeric, false, api.OK, a, b)
	}
	if asked < 200 {
		t.Errorf("%d letters alone", asked)
	}
	for _, s := range []string{"\u00c9COLE", "E\u0301cole", "\uff25\u0301COL\uff25", "\u00e9c\u00adole"} {
		seeSame(t, api.PrepFold, true, api.OK, s, "\u00e9cole")
	}
}

// blank gives some spaces, at least so many, with what is left out among them.
func blank(c *rand.Rand, least int) string {
	s := ""
	for range least + c.Intn(3) {
		s += string(spaces()[c.Intn(len(spaces()))])
		for range c.Intn(2) {
			s += string(gone()[c.Intn(len(gone()))])
		}
	}
	return s
}

// grown gives words again, with more blanks and more to be left out, and, if asked, with other letters.
func grown(c *rand.Rand, words [][]string, folds bool) string {
	s := blank(c, 0)
	for i, word := range words {
		if i > 0 {
			s += blank(c, 1)
		}
		for _, cluster := range word {
			if folds && c.Intn(2) == 0 {
				cluster = strings.ToUpper(cluster)
			}
			for _, r := range cluster {
				s += string(r)
				for range c.Intn(2) {
					s += string(gone()[c.Intn(len(gone()))])
				}
			}
		}
	}
	return s + blank(c, 0)
}

// P12.7: words by chance, written in two ways that differ in what means nothing.
func TestSameByChance(t *testing.T) {
	c := rand.New(rand.NewSource(127))
	clusters := []string{"a", "e\u0301", "\u00fc", "q\u0327\u0301", "\u03b1", "\u0436", "\u05d0", "1", "-", "\u1100\u1161", "\u11a8", "\u4e00", "z"}
	for range 3000 {
		words := make([][]string, c.Intn(4))
		for i := range words {
			for range 1 + c.Intn(4) {
				words[i] = append(words[i], clusters[c.Intn(len(clusters))])
			}
		}
		for _, way := range ways() {
			folds := way == api.PrepFold || way == api.PrepPhone
			a, b := grown(c, words, false), grown(c, words, folds)
			seeSame(t, way, true, api.OK, a, b)
			seeSame(t, way, true, api.OK, a, b, a)
		}
		if t.Failed() {
			return
		}
	}
}

// P12.7: a number may be parted by spaces anywhere, a phone number by hyphens, too.
func TestSameParted(t *testing.T) {
	c := rand.New(rand.NewSource(1277))
	clusters := []string{"1", "2", "a", "e\u0301", "\u1100", "\u1161", "\u11a8", "+", "("}
	hyphens := []string{"-", "\u2010", "\u2011", "\u2212", "\uff0d"}
	for range 3000 {
		whole, parted, dashed := "", blank(c, 0), ""
		for range c.Intn(8) {
			one := clusters[c.Intn(len(clusters))]
			whole += one
			parted += one + blank(c, 0)
			dashed += one + blank(c, 0) + hyphens[c.Intn(len(hyphens))] + blank(c, 0)
		}
		seeSame(t, api.PrepNumeric, true, api.OK, whole, parted)
		seeSame(t, api.PrepPhone, true, api.OK, whole, parted, dashed)
		seeSame(t, api.PrepNumeric, dashed == "", api.OK, whole, dashed)
		if t.Failed() {
			return
		}
	}
}

// Rule 4: what is handed in stays as it is, its spare room too; what is handed out is new.
func TestMemory(t *testing.T) {
	for _, r := range rows() {
		for _, way := range ways() {
			l, want := []rune(r.given), []rune(r.want(way))
			room := append(slices.Clone(l), 0x301, 0x20, 0x1161, 'x')
			before := slices.Clone(room)
			got, e := Steps(way, room[:len(l)]...)
			if !slices.Equal(room, before) || !slices.Equal(got, want) || e != api.OK {
				t.Fatalf("Steps %d of %x: %x; %x was changed: %x", way, l, got, before, room)
			}
			for i := range room {
				room[i] = 'z'
			}
			if !slices.Equal(got, want) {
				t.Fatalf("Steps %d of %x: the answer hangs on what was handed in", way, l)
			}
			copy(room, before)
			for i := range got {
				got[i] = 7
			}
			_ = append(got, 8, 9)
			if again, _ := Steps(way, l...); !slices.Equal(room, before) || !slices.Equal(again, want) {
				t.Fatalf("Steps %d of %x: the answer is not new", way, l)
			}
		}
	}
}

// Rule 4: texts stay as they are, and so does what stands behind them in their list; also beside an error.
func TestMemoryOfTexts(t *testing.T) {
	room := []string{"A b", "a  B", "a\u00a0b", "\xff", "c"}
	before := slices.Clone(room)
	for _, way := range slices.Concat(ways(), []int{0, 5}) {
		for n := range room {
			Same(way, room[:n]...)
		}
		Same(way, room...)
		if !slices.Equal(room, before) {
			t.Fatalf("%d: %q", way, room)
		}
	}
	seeSame(t, api.PrepFold, true, api.OK, room[:3]...)
	seeSame(t, api.PrepFold, false, api.ErrUTF, room[:4]...)
}
