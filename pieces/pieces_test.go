package pieces

import (
	"math"
	"math/rand"
	"slices"
	"strings"
	"testing"
	"unicode/utf8"

	"toponym/api"
	"toponym/blanks"
	"toponym/chars"
	"toponym/fold"
	"toponym/nfkc"
	"toponym/prep"
)

// ways are all four.
func ways() []int {
	return []int{api.PrepExact, api.PrepFold, api.PrepNumeric, api.PrepPhone}
}

// noWays are numbers that are no ways, below the least and above the greatest; some have lower bits that would be one's.
func noWays() []int {
	return []int{math.MinInt, math.MinInt + 1, -1<<32 + 1, -256 + 2, -4, -1, 0, 5, 6, 8, 255, 257, 258, 1<<16 + 3, 1<<32 + 1, 1<<32 + 4, math.MaxInt - 1, math.MaxInt}
}

// asks are pieces that ask for what is not empty.
func asks(initial, final string, any ...string) api.Pieces {
	return api.Pieces{Initial: initial, Final: final, HasInitial: initial != "", HasFinal: final != "", Any: any}
}

// made are pieces that ask to begin and to end, even if with nothing.
func made(initial, final string, any ...string) api.Pieces {
	return api.Pieces{Initial: initial, Final: final, HasInitial: true, HasFinal: true, Any: any}
}

// at gives pieces that ask for a text at one place alone: 1 the beginning, 2 the midst, 3 the end.
func at(kind int, s string) api.Pieces {
	switch kind {
	case 1:
		return api.Pieces{Initial: s, HasInitial: true}
	case 2:
		return api.Pieces{Any: []string{s}}
	}
	return api.Pieces{Final: s, HasFinal: true}
}

func same(a, b api.Pieces) bool {
	return a.Initial == b.Initial && a.Final == b.Final && a.HasInitial == b.HasInitial && a.HasFinal == b.HasFinal && slices.Equal(a.Any, b.Any)
}

func seeCheck(t *testing.T, p api.Pieces, want api.Errno) {
	t.Helper()
	if got := Check(p); got != want {
		t.Errorf("Check of %#v: %d, not %d", p, int(got), int(want))
	}
}

func seePrepare(t *testing.T, way int, p, want api.Pieces, e api.Errno) {
	t.Helper()
	if got, gotE := Prepare(way, p); !same(got, want) || gotE != e {
		t.Errorf("Prepare %d of %#v: %#v %d, not %#v %d", way, p, got, int(gotE), want, int(e))
	}
}

func seeMatch(t *testing.T, value string, p api.Pieces, want bool) {
	t.Helper()
	if Match(value, p) != want {
		t.Errorf("Match of %#v in %q: not %t", p, value, want)
	}
}

func seeAsks(t *testing.T, way int, value string, p api.Pieces, want bool, e api.Errno) {
	t.Helper()
	if got, gotE := Asks(way, value, p); got != want || gotE != e {
		t.Errorf("Asks %d of %#v in %q: %t %d, not %t %d", way, p, value, got, int(gotE), want, int(e))
	}
}

// row is a piece, and what it is in each of the ways: of the first two as a beginning, a midst and an end.
type row struct {
	given           string
	exact, folded   [3]string
	numeric, phoned string
}

func (r row) want(way, kind int) string {
	switch way {
	case api.PrepExact:
		return r.exact[kind-1]
	case api.PrepFold:
		return r.folded[kind-1]
	case api.PrepNumeric:
		return r.numeric
	}
	return r.phoned
}

// plain is a row of a piece in which nothing is folded and no hyphen left out.
func plain(given, initial, midst, final, dense string) row {
	parts := [3]string{initial, midst, final}
	return row{given, parts, parts, dense, dense}
}

func rows() []row {
	return slices.Concat(blankRows(), letterRows(), markRows(), hyphenRows())
}

// blankRows are of spaces, and of what is left out.
func blankRows() []row {
	return []row{
		plain("a", " a", "a", "a ", "a"),
		plain(" ", " ", " ", " ", ""), plain("    ", " ", " ", " ", ""), plain("\u00a0", " ", " ", " ", ""), plain("\t\r\n\u3000", " ", " ", " ", ""),
		plain("\u00ad", " ", "", " ", ""), plain("\x00\u200b\ufeff", " ", "", " ", ""),
		plain("\u00ad \u00ad", " ", " ", " ", ""), plain("\u00ada\u00ad", " a", "a", "a ", "a"),
		plain("a ", " a ", "a ", "a ", "a"), plain("a   ", " a ", "a ", "a ", "a"), plain("a\u00a0\u00ad", " a ", "a ", "a ", "a"),
		plain(" a", " a", " a", " a ", "a"), plain("   a", " a", " a", " a ", "a"), plain("\u00ad\u2028a", " a", " a", " a ", "a"),
		plain(" a ", " a ", " a ", " a ", "a"),
		plain("a b", " a  b", "a  b", "a  b ", "ab"), plain("a    b", " a  b", "a  b", "a  b ", "ab"), plain("a\u3000b", " a  b", "a  b", "a  b ", "ab"),
		plain("  a   b  ", " a  b ", " a  b ", " a  b ", "ab"), plain(" ab cd ef", " ab  cd  ef", " ab  cd  ef", " ab  cd  ef ", "abcdef"),
		plain("1 2", " 1  2", "1  2", "1  2 ", "12"), plain("\u05d0 \u05d1", " \u05d0  \u05d1", "\u05d0  \u05d1", "\u05d0  \u05d1 ", "\u05d0\u05d1"),
	}
}

// letterRows are of great and small letters, and of what is not in the loose normal form.
func letterRows() []row {
	return []row{
		{"A", [3]string{" A", "A", "A "}, [3]string{" a", "a", "a "}, "A", "a"},
		{"\u00df Z", [3]string{" \u00df  Z", "\u00df  Z", "\u00df  Z "}, [3]string{" ss  z", "ss  z", "ss  z "}, "\u00dfZ", "ssz"},
		{"\u0130", [3]string{" \u0130", "\u0130", "\u0130 "}, [3]string{" i\u0307", "i\u0307", "i\u0307 "}, "\u0130", "i\u0307"},
		{"\u212b", [3]string{" \u00c5", "\u00c5", "\u00c5 "}, [3]string{" \u00e5", "\u00e5", "\u00e5 "}, "\u00c5", "\u00e5"},
		{"\uff21\u030a", [3]string{" \u00c5", "\u00c5", "\u00c5 "}, [3]string{" \u00e5", "\u00e5", "\u00e5 "}, "\u00c5", "\u00e5"},
		plain("\ufb01", " fi", "fi", "fi ", "fi"), plain("\u00bc", " 1\u20444", "1\u20444", "1\u20444 ", "1\u20444"),
		plain("e\u0301", " \u00e9", "\u00e9", "\u00e9 ", "\u00e9"), plain("e\u00ad\u0301", " \u00e9", "\u00e9", "\u00e9 ", "\u00e9"),
		plain("c\u0301\u0327", " \u00e7\u0301", "\u00e7\u0301", "\u00e7\u0301 ", "\u00e7\u0301"),
		plain("\u1100\u1161\u11a8", " \uac01", "\uac01", "\uac01 ", "\uac01"),
		plain("\u1100 \u1161", " \u1100  \u1161", "\u1100  \u1161", "\u1100  \u1161 ", "\uac00"),
		plain("\uac00\u3000 \u11a8", " \uac00  \u11a8", "\uac00  \u11a8", "\uac00  \u11a8 ", "\uac01"),
	}
}

// markRows are of marks: first, behind spaces, and in the wrong order. A beginning alone is made firm.
func markRows() []row {
	return []row{
		plain("\u0301", "  \u0301", "\u0301", "\u0301 ", "\u0301"), plain("\u0301a", "  \u0301a", "\u0301a", "\u0301a ", "\u0301a"),
		plain("\u00ad\u0301", "  \u0301", "\u0301", "\u0301 ", "\u0301"), plain("\u0301\u0327", "  \u0327\u0301", "\u0327\u0301", "\u0327\u0301 ", "\u0327\u0301"),
		plain("\u0301 ", "  \u0301 ", "\u0301 ", "\u0301 ", "\u0301"), plain("\u3099 b", "  \u3099  b", "\u3099  b", "\u3099  b ", "\u3099b"),
		plain(" \u0301", "  \u0301", " \u0301", " \u0301 ", " \u0301"), plain("\u3000\u0301", "  \u0301", " \u0301", " \u0301 ", " \u0301"),
		plain("   \u0301", "  \u0301", "  \u0301", "  \u0301 ", " \u0301"), plain("\u00b4", "  \u0301", " \u0301", " \u0301 ", " \u0301"),
		plain("a \u0301", " a \u0301", "a \u0301", "a \u0301 ", "a \u0301"), plain("a  \u0301", " a   \u0301", "a   \u0301", "a   \u0301 ", "a \u0301"),
	}
}

// hyphenRows are of hyphens, which a phone number alone does without.
func hyphenRows() []row {
	three := func(given, initial, midst, final, numeric, phoned string) row {
		parts := [3]string{initial, midst, final}
		return row{given, parts, parts, numeric, phoned}
	}
	return []row{
		three("-", " -", "-", "- ", "-", ""), three("\u2010", " \u2010", "\u2010", "\u2010 ", "\u2010", ""), three("\u2011", " \u2010", "\u2010", "\u2010 ", "\u2010", ""),
		three("- \u2212", " -  \u2212", "-  \u2212", "-  \u2212 ", "-\u2212", ""),
		three("1 2-3", " 1  2-3", "1  2-3", "1  2-3 ", "12-3", "123"),
		three("\u1100-\u1161", " \u1100-\u1161", "\u1100-\u1161", "\u1100-\u1161 ", "\u1100-\u1161", "\uac00"),
		plain("-\u0301", " -\u0301", "-\u0301", "-\u0301 ", "-\u0301"),
	}
}

// unfit are texts with a character that may be in no value: no characters, and forbidden ones.
func unfit() []string {
	return []string{"\u0180", "\u0305", "\u0340", "\u0341", "\u0370", "\u03a2", "\u2012", "\ue000", "\uf8ff", "\ufdd0", "\ufffd", "\uffff", "\U00010000", "\U0001f600", "\U0001fffe", "\U0010ffff"}
}

// wrongTexts are bytes that are no code points.
func wrongTexts() []string {
	return []string{"\xff", "\x80", "\xbf", "\xc0", "\xc3", "\xe2\x82", "\xf0\x9f\x98", "\xc0\x80", "\xc0\xa0", "\xe0\x80\xa0", "\xf0\x80\x80\x80", "\xed\xa0\x80", "\xed\xbf\xbf", "\xf4\x90\x80\x80", "\xf8\x88\x80\x80\x80"}
}

// wordsCheck is P13.1, word for word.
func wordsCheck(p api.Pieces) api.Errno {
	switch {
	case !p.HasInitial && !p.HasFinal && len(p.Any) == 0:
		return api.ErrArg
	case p.Initial != "" && !p.HasInitial, p.Final != "" && !p.HasFinal, len(p.Any) > 6:
		return api.ErrArg
	case p.HasInitial && p.Initial == "", p.HasFinal && p.Final == "":
		return api.ErrArg
	}
	for _, s := range p.Any {
		if s == "" {
			return api.ErrArg
		}
	}
	return api.OK
}

// wordsPiece is what P13.2 says of one piece, word for word; Go's own reading of bytes is as strict.
func wordsPiece(way, kind int, s string) (string, api.Errno) {
	if len(s) > 1202 {
		return "", api.ErrBig
	}
	if !utf8.ValidString(s) {
		return "", api.ErrUTF
	}
	l := nfkc.Runes(true, fold.Map(way == api.PrepFold || way == api.PrepPhone, []rune(s)...)...)
	for _, r := range l {
		if k := chars.Kind(r); k == api.CharNone || k == api.CharBad {
			return "", api.ErrChar
		}
	}
	switch way {
	case api.PrepNumeric:
		l = nfkc.Runes(true, blanks.Numeric(l...)...)
	case api.PrepPhone:
		l = nfkc.Runes(true, blanks.Phone(l...)...)
	default:
		l = blanks.Piece(kind, l...)
	}
	return string(l), api.OK
}

// wordsPrepare is P13.2, word for word.
func wordsPrepare(way int, p api.Pieces) (api.Pieces, api.Errno) {
	if e := wordsCheck(p); e != api.OK {
		return api.Pieces{}, e
	}
	if !slices.Contains(ways(), way) {
		return api.Pieces{}, api.ErrArg
	}
	out, e := api.Pieces{HasInitial: p.HasInitial, HasFinal: p.HasFinal}, api.OK
	if p.HasInitial {
		if out.Initial, e = wordsPiece(way, 1, p.Initial); e != api.OK {
			return api.Pieces{}, e
		}
	}
	for _, s := range p.Any {
		v, e := wordsPiece(way, 2, s)
		if e != api.OK {
			return api.Pieces{}, e
		}
		out.Any = append(out.Any, v)
	}
	if p.HasFinal {
		if out.Final, e = wordsPiece(way, 3, p.Final); e != api.OK {
			return api.Pieces{}, e
		}
	}
	return out, api.OK
}

// stand tells whether texts stand between two places of a value, one behind the other, by trying every place.
func stand(value string, from, to int, any []string) bool {
	if len(any) == 0 {
		return from <= to
	}
	for i := from; i+len(any[0]) <= to; i++ {
		if value[i:i+len(any[0])] == any[0] && stand(value, i+len(any[0]), to, any[1:]) {
			return true
		}
	}
	return false
}

// wordsMatch is P13.3, word for word.
func wordsMatch(value string, p api.Pieces) bool {
	if !p.HasInitial && !p.HasFinal && len(p.Any) == 0 || !p.HasInitial && p.Initial != "" || !p.HasFinal && p.Final != "" || len(p.Any) > 6 {
		return false
	}
	return strings.HasPrefix(value, p.Initial) && strings.HasSuffix(value, p.Final) && stand(value, len(p.Initial), len(value)-len(p.Final), p.Any)
}

// P13.1: pieces that may be.
func TestCheckRight(t *testing.T) {
	six := slices.Repeat([]string{"a"}, 6)
	for _, p := range []api.Pieces{
		asks("a", ""), asks("", "a"), asks("", "", "a"), asks("a", "b"), asks("a", "", "b"), asks("", "a", "b"), asks("a", "b", "c"),
		asks("", "", six...), asks("a", "b", six...), asks("a", "", six...), asks("", "b", six...),
		asks(" ", " ", " "), asks("\x00", "\xff", "\ue000"), asks("\u00ad", "\u00ad", "\u00ad"),
		asks(strings.Repeat("a", 1203), strings.Repeat("b", 5000), strings.Repeat("\xff", 1203)),
		{Initial: "a", HasInitial: true, Any: []string{}}, {Any: slices.Repeat([]string{"ab"}, 6)},
	} {
		seeCheck(t, p, api.OK)
	}
}

// P13.1: pieces that may not be, each for one reason alone.
func TestCheckWrong(t *testing.T) {
	for _, p := range []api.Pieces{
		{}, {Any: []string{}},
		{Initial: "a"}, {Final: "a"}, {Initial: "a", Any: []string{"b"}}, {Final: "a", Any: []string{"b"}},
		{Initial: "a", Final: "b", HasFinal: true}, {Initial: "a", Final: "b", HasInitial: true},
		{HasInitial: true}, {HasFinal: true}, {HasInitial: true, HasFinal: true, Final: "a"}, {HasInitial: true, HasFinal: true, Initial: "a"},
		{HasInitial: true, Any: []string{"a"}}, {HasFinal: true, Any: []string{"a"}},
		{Any: []string{""}}, {Any: []string{"", "a"}}, {Any: []string{"a", ""}}, {Any: []string{"a", "b", "c", "d", "e", ""}},
		asks("a", "b", ""), asks("a", "b", "c", "", "d"),
		{Any: slices.Repeat([]string{"a"}, 7)}, asks("a", "b", slices.Repeat([]string{"a"}, 7)...), asks("a", "", slices.Repeat([]string{"a"}, 5000)...), {Any: make([]string, 7)}, {Any: make([]string, 6)},
	} {
		seeCheck(t, p, api.ErrArg)
		for _, way := range slices.Concat(ways(), noWays()) {
			seePrepare(t, way, p, api.Pieces{}, api.ErrArg)
			seeAsks(t, way, "a", p, false, api.ErrArg)
		}
	}
}

// shapes are pieces of all forms, those that may be and others, of some texts.
func shapes(texts []string, lists [][]string) []api.Pieces {
	var out []api.Pieces
	for _, initial := range texts {
		for _, final := range texts {
			for has := range 4 {
				for _, any := range lists {
					out = append(out, api.Pieces{Initial: initial, Final: final, HasInitial: has&1 != 0, HasFinal: has&2 != 0, Any: any})
				}
			}
		}
	}
	return out
}

// P13.1 to P13.3: every form that pieces may have.
func TestShapes(t *testing.T) {
	lists := [][]string{nil, {}, {""}, {"b"}, {"b", ""}, {"", "b"}, {"b", "b"}, slices.Repeat([]string{"b"}, 6), slices.Repeat([]string{"b"}, 7), make([]string, 6), make([]string, 7), slices.Repeat([]string{"b"}, 100)}
	value := "a" + strings.Repeat("b", 120) + "a"
	found := 0
	for _, p := range shapes([]string{"", "a", "ab", "ba"}, lists) {
		seeCheck(t, p, wordsCheck(p))
		for _, way := range []int{0, 1, 2, 3, 4, 5} {
			want, e := wordsPrepare(way, p)
			seePrepare(t, way, p, want, e)
		}
		for _, v := range []string{value, "", "a", "ab", "aba"} {
			seeMatch(t, v, p, wordsMatch(v, p))
		}
		if Match(value, p) {
			found++
		}
	}
	if found < 50 {
		t.Errorf("%d found alone", found)
	}
}

// P13.2: the rows, at each place and in each way, alone and together.
func TestRows(t *testing.T) {
	for _, r := range rows() {
		for _, way := range ways() {
			for kind := 1; kind <= 3; kind++ {
				want := r.want(way, kind)
				seePrepare(t, way, at(kind, r.given), at(kind, want), api.OK)
				if by, e := wordsPiece(way, kind, r.given); by != want || e != api.OK {
					t.Errorf("%q, %d, %d: by the words %q %d", r.given, way, kind, by, int(e))
				}
			}
			midst := r.want(way, 2)
			seePrepare(t, way, asks(r.given, r.given, r.given, r.given), made(r.want(way, 1), r.want(way, 3), midst, midst), api.OK)
			seePrepare(t, way, asks("", "", slices.Repeat([]string{r.given}, 6)...), asks("", "", slices.Repeat([]string{midst}, 6)...), api.OK)
		}
	}
}

// P13.2: each piece is prepared by itself, at its own place, and what is not asked stays so.
func TestPreparePlaces(t *testing.T) {
	seePrepare(t, api.PrepFold, asks("A ", " B", "C D", "\u00ad", " \u00c9"), made(" a ", " b ", "c  d", "", " \u00e9"), api.OK)
	seePrepare(t, api.PrepExact, asks("A ", " B", "C D", "\u00ad", " \u00c9"), made(" A ", " B ", "C  D", "", " \u00c9"), api.OK)
	seePrepare(t, api.PrepNumeric, asks("A ", " -B", "C D", "\u00ad", " \u00c9"), made("A", "-B", "CD", "", "\u00c9"), api.OK)
	seePrepare(t, api.PrepPhone, asks("A ", " -B", "C D", "\u00ad", " \u00c9"), made("a", "b", "cd", "", "\u00e9"), api.OK)
	seePrepare(t, api.PrepFold, asks("A", ""), api.Pieces{Initial: " a", HasInitial: true}, api.OK)
	seePrepare(t, api.PrepFold, asks("", "A"), api.Pieces{Final: "a ", HasFinal: true}, api.OK)
	seePrepare(t, api.PrepFold, asks("", "", "A"), api.Pieces{Any: []string{"a"}}, api.OK)
	// What would go together stays apart in pieces of their own.
	seePrepare(t, api.PrepExact, asks("e", "\u0301", "\u0327"), made(" e", "\u0301 ", "\u0327"), api.OK)
	seePrepare(t, api.PrepPhone, asks("\u1100", "\u11a8", "\u1161"), made("\u1100", "\u11a8", "\u1161"), api.OK)
	seePrepare(t, api.PrepNumeric, asks(" ", "\u3000", "\u00a0", " "), made("", "", "", ""), api.OK)
	seePrepare(t, api.PrepPhone, asks("-", "\u2212", "\u2010", " - "), made("", "", "", ""), api.OK)
}

// P13.2: what is no way, though a piece has an error of its own; Check's error comes first, and is the same.
func TestNoWay(t *testing.T) {
	big := strings.Repeat("a", 1203)
	for _, way := range noWays() {
		for _, s := range []string{"a", " ", big, "\xff", "\ue000", big + "\xff", "\ue000\xff"} {
			for kind := 1; kind <= 3; kind++ {
				seePrepare(t, way, at(kind, s), api.Pieces{}, api.ErrArg)
				seeAsks(t, way, "a", at(kind, s), false, api.ErrArg)
			}
			seePrepare(t, way, asks(s, s, s), api.Pieces{}, api.ErrArg)
			seeAsks(t, way, s, asks("a", ""), false, api.ErrArg)
			seeAsks(t, way, s, asks(s, s, s), false, api.ErrArg)
		}
		seePrepare(t, way, api.Pieces{}, api.Pieces{}, api.ErrArg)
	}
}

// P13.2: pieces of MaxPrep bytes, and of one more; it is bytes that are counted, ahead of being prepared.
func TestLong(t *testing.T) {
	for _, one := range []string{"a", " ", "-", "\u00e9", "\u00ad", "\x00", "\u00bc", "\u00df"} {
		most := strings.Repeat(one, 1202/len(one))
		for _, way := range ways() {
			for kind := 1; kind <= 3; kind++ {
				want, e := wordsPiece(way, kind, most)
				if e != api.OK || len(most) != 1202 {
					t.Fatalf("%q: %d", one, int(e))
				}
				seePrepare(t, way, at(kind, most), at(kind, want), api.OK)
				for _, more := range []string{most + "a", most + " ", "\x00" + most, most + "\xff", most + "\ue000", "\xff" + most, most + most} {
					seePrepare(t, way, at(kind, more), api.Pieces{}, api.ErrBig)
					seeAsks(t, way, "a", at(kind, more), false, api.ErrBig)
				}
			}
			p := asks(most, most, slices.Repeat([]string{most}, 6)...)
			want, _ := wordsPrepare(way, p)
			seePrepare(t, way, p, want, api.OK)
		}
	}
	// What grows as it is prepared may grow above the limit.
	grown := strings.Repeat("1\u20444", 601)
	seePrepare(t, api.PrepExact, asks(strings.Repeat("\u00bc", 601), ""), asks(" "+grown, ""), api.OK)
	seePrepare(t, api.PrepPhone, asks("", "", strings.Repeat("\u00bc", 601)), asks("", "", grown), api.OK)
	seeAsks(t, api.PrepExact, strings.Repeat("\u00bc", 601), asks(strings.Repeat("\u00bc", 300), strings.Repeat("\u00bc", 301)), true, api.OK)
	seeAsks(t, api.PrepExact, strings.Repeat("\u00bc", 601), asks(strings.Repeat("\u00bc", 301), strings.Repeat("\u00bc", 301)), false, api.OK)
}

// P13.2: bytes that are no UTF-8, and characters that are not fit, wherever they stand.
func TestWrongPieces(t *testing.T) {
	see := func(bad string, want api.Errno) {
		t.Helper()
		for _, way := range ways() {
			for _, s := range []string{bad, bad + "abc", "ab" + bad + "c", "abc" + bad, " " + bad + " ", "\u00ad" + bad, "-" + bad, strings.Repeat("a", 1202-len(bad)) + bad} {
				for kind := 1; kind <= 3; kind++ {
					seePrepare(t, way, at(kind, s), api.Pieces{}, want)
					seeAsks(t, way, "abc", at(kind, s), false, want)
				}
				seePrepare(t, way, asks("a", "b", "c", "d", s, "e"), api.Pieces{}, want)
				seePrepare(t, way, asks("a", "b", "c", "d", "e", "f", "g", s), api.Pieces{}, want)
			}
		}
	}
	for _, w := range wrongTexts() {
		see(w, api.ErrUTF)
		see("\ue000"+w, api.ErrUTF)
		see(w+"\u0370", api.ErrUTF)
	}
	for _, u := range unfit() {
		see(u, api.ErrChar)
	}
}

// P13.2: of several errors that of the first piece is told: Initial, each of Any, Final.
func TestFirstError(t *testing.T) {
	texts := []string{"a", strings.Repeat("a", 1203), "\xff", "\ue000"}
	errors := []api.Errno{api.OK, api.ErrBig, api.ErrUTF, api.ErrChar}
	for n := range 4 * 4 * 4 * 4 {
		i, j, k, l := n&3, n>>2&3, n>>4&3, n>>6
		want := api.OK
		for _, one := range []int{i, j, k, l} {
			if want == api.OK {
				want = errors[one]
			}
		}
		p := asks(texts[i], texts[l], texts[j], texts[k])
		for _, way := range ways() {
			if got, e := Prepare(way, p); e != want || e != api.OK && !same(got, api.Pieces{}) {
				t.Errorf("%d %d %d %d, %d: %d, not %d", i, j, k, l, way, int(e), int(want))
			}
			if got, e := Asks(way, "b", p); e != want || got {
				t.Errorf("%d %d %d %d, %d: %t %d, not %d", i, j, k, l, way, got, int(e), int(want))
			}
		}
	}
	// Check's error comes ahead of all of them.
	for _, bad := range texts[1:] {
		for _, way := range ways() {
			seePrepare(t, way, asks(bad, "", ""), api.Pieces{}, api.ErrArg)
			seePrepare(t, way, api.Pieces{Initial: bad}, api.Pieces{}, api.ErrArg)
			seePrepare(t, way, asks("", "", slices.Repeat([]string{bad}, 7)...), api.Pieces{}, api.ErrArg)
		}
	}
}

// P13.2: pieces by chance, against the words.
func TestPrepareByChance(t *testing.T) {
	c := rand.New(rand.NewSource(132))
	bits := []string{"a", "A", "B", " ", " ", "\u00a0", "-", "\u00ad", "\u0301", "\u0327", "e", "\u00df", "\ufb01", "\u1100", "\u1161", "\u11a8", "\u00b4", "1", "\u2011", "\u3099", "\u3046", "\ue000", "\xff"}
	text := func() string {
		s, most := "", len(bits)-2
		if c.Intn(30) == 0 {
			most = len(bits)
		}
		for range c.Intn(6) {
			s += bits[c.Intn(most)]
		}
		return s
	}
	good := 0
	for range 20000 {
		p := asks(text(), text())
		for range c.Intn(4) {
			if s := text(); s != "" {
				p.Any = append(p.Any, s)
			}
		}
		way := 1 + c.Intn(4)
		want, e := wordsPrepare(way, p)
		seePrepare(t, way, p, want, e)
		if e == api.OK {
			good++
		}
		value := text() + text()
		v, valueE := prep.Value(way, value)
		if valueE != api.OK {
			seeAsks(t, way, value, p, false, valueE)
		} else {
			seeAsks(t, way, value, p, e == api.OK && wordsMatch(v, want), e)
		}
		if t.Failed() {
			return
		}
	}
	if good < 10000 {
		t.Errorf("%d good ones alone", good)
	}
}

// The chapter's three examples, word for word.
func TestExamples(t *testing.T) {
	seeMatch(t, " abcabc ", asks(" ab", "c ", "ca"), true)
	seeMatch(t, " abcabc ", asks("", "", "bc", "bc"), true)
	seeMatch(t, " abcabc ", asks("", "", "bc", "bc", "bc"), false)
}

// P13.3: ordinary ones.
func TestMatch(t *testing.T) {
	for _, p := range []api.Pieces{
		asks("a", ""), asks("abc", ""), asks("abcabc", ""), asks("", "c"), asks("", "abc"), asks("", "abcabc"), asks("", "", "a"), asks("", "", "abcabc"),
		asks("abc", "abc"), asks("abca", "bc"), asks("a", "c"), asks("a", "c", "b"), asks("a", "c", "bcab"), asks("a", "c", "b", "c", "a", "b"),
		asks("", "", "a", "b", "c", "a", "b", "c"), asks("", "", "abc", "abc"), asks("ab", "", "c", "abc"), asks("", "bc", "abc", "a"),
		asks("", "", "a", "a"), asks("", "", "c", "a"), asks("a", "", "a"), asks("", "c", "c"), asks("ab", "bc", "ca"),
	} {
		seeMatch(t, "abcabc", p, true)
	}
	for _, p := range []api.Pieces{
		asks("b", ""), asks("A", ""), asks("abcabca", ""), asks("", "b"), asks("", "aabcabc"), asks("", "", "d"), asks("", "", "ac"), asks("", "", "abcabca"),
		asks("abc", "cabc"), asks("abca", "abc"), asks("abcabc", "c"), asks("abcabc", "abcabc"), asks("a", "abcabc"),
		asks("a", "c", "bcabc"), asks("a", "c", "abca"), asks("a", "c", "a", "a"), asks("", "", "a", "a", "a"), asks("", "", "c", "c", "a"), asks("", "", "b", "a", "a"),
		asks("abcabc", "", "c"), asks("", "abcabc", "a"), asks("abc", "abc", "a"), asks("abc", "", "bca"), asks("", "abc", "bca"),
		asks("", "", "a", "b", "c", "a", "c", "b"), asks("", "", "abca", "abc"),
	} {
		seeMatch(t, "abcabc", p, false)
	}
}

// P13.3: pieces that would stand over one another.
func TestMatchOver(t *testing.T) {
	seeMatch(t, "aba", asks("ab", "ba"), false)
	seeMatch(t, "abba", asks("ab", "ba"), true)
	seeMatch(t, "aba", asks("", "", "ab", "ba"), false)
	seeMatch(t, "aaa", asks("", "", "aa", "aa"), false)
	seeMatch(t, "aaaa", asks("", "", "aa", "aa"), true)
	seeMatch(t, "aaa", asks("a", "a", "aa"), false)
	seeMatch(t, "aaaa", asks("a", "a", "aa"), true)
	seeMatch(t, "aaaaaaa", asks("a", "a", "a", "a", "a", "a", "a", "a"), false)
	seeMatch(t, "aaaaaaaa", asks("a", "a", "a", "a", "a", "a", "a", "a"), true)
	seeMatch(t, "xaby", asks("", "", "ab", "b"), false)
	seeMatch(t, "xabby", asks("", "", "ab", "b"), true)
	seeMatch(t, "xabcby", asks("x", "y", "ab", "b"), true)
	seeMatch(t, "x", asks("x", "x"), false)
	seeMatch(t, "xx", asks("x", "x"), true)
	// The first place is not the only one that would do, but the last one would not.
	seeMatch(t, "abab", asks("", "", "a", "b"), true)
	seeMatch(t, "abac", asks("", "", "a", "b", "c"), true)
	seeMatch(t, "aabaa", asks("a", "a", "ab", "a"), true)
}

// P13.3: what is empty stands everywhere, and what is not asked asks nothing.
func TestMatchEmpty(t *testing.T) {
	for _, v := range []string{"", "a", " a ", "\xff", "abcabc"} {
		for _, p := range []api.Pieces{
			{HasInitial: true}, {HasFinal: true}, {HasInitial: true, HasFinal: true}, {Any: []string{""}}, {Any: make([]string, 6)}, made("", "", make([]string, 6)...),
			made(v, ""), made("", v), made("", "", v), made("", "", "", v, ""), made(v, "", ""), made("", v, "", ""),
		} {
			seeMatch(t, v, p, true)
		}
		for _, p := range []api.Pieces{{}, {Any: []string{}}, {Any: make([]string, 7)}, made("", "", make([]string, 7)...), asks(v, "", make([]string, 7)...)} {
			seeMatch(t, v, p, false)
		}
	}
	for _, p := range []api.Pieces{made("a", ""), made("", "a"), made("", "", "a"), made("", "", "", "a"), made(" ", ""), made("\x00", "")} {
		seeMatch(t, "", p, false)
	}
}

// P13.3: a text that is not asked, though it stands there, and one piece more than there may be.
func TestMatchForms(t *testing.T) {
	seeMatch(t, "abc", api.Pieces{Initial: "a"}, false)
	seeMatch(t, "abc", api.Pieces{Final: "c"}, false)
	seeMatch(t, "abc", api.Pieces{Initial: "a", Any: []string{"b"}}, false)
	seeMatch(t, "abc", api.Pieces{Final: "c", Any: []string{"b"}}, false)
	seeMatch(t, "abc", api.Pieces{Initial: "a", Final: "c", HasFinal: true}, false)
	seeMatch(t, "abc", api.Pieces{Initial: "a", Final: "c", HasInitial: true}, false)
	v := strings.Repeat("ab", 20)
	for n := range 20 {
		any := slices.Repeat([]string{"b"}, n)
		seeMatch(t, v, asks("", "", any...), 1 <= n && n <= 6)
		seeMatch(t, v, asks("a", "b", any...), n <= 6)
	}
}

// texts are all that can be made of some letters, with up to so many of them.
func texts(letters string, most int) []string {
	out := []string{""}
	for from := 0; most > 0; most-- {
		to := len(out)
		for _, s := range out[from:to] {
			for i := range len(letters) {
				out = append(out, s+letters[i:i+1])
			}
		}
		from = to
	}
	return out
}

// P13.3: every value of up to six letters, and all short pieces, against every place that they could stand at.
func TestMatchAll(t *testing.T) {
	short := texts("ab", 2)
	var lists [][]string
	for _, a := range short {
		for _, b := range short {
			lists = append(lists, []string{a, b})
		}
		lists = append(lists, []string{a})
	}
	forms := shapes(short, append(lists, nil))
	for _, v := range texts("ab", 6) {
		for _, p := range forms {
			if Match(v, p) != wordsMatch(v, p) {
				t.Fatalf("Match of %#v in %q: not %t", p, v, wordsMatch(v, p))
			}
		}
	}
}

// P13.3: values by chance, with more pieces, some of them bytes of any kind.
func TestMatchByChance(t *testing.T) {
	c := rand.New(rand.NewSource(133))
	text := func(most int) string {
		s := ""
		for range c.Intn(most + 1) {
			s += []string{"a", "b", "\xff", "\u00e9"}[c.Intn(4)]
		}
		return s
	}
	found := 0
	for range 30000 {
		p := api.Pieces{HasInitial: c.Intn(2) == 0, HasFinal: c.Intn(2) == 0}
		if p.HasInitial {
			p.Initial = text(2)
		}
		if p.HasFinal {
			p.Final = text(2)
		}
		for range c.Intn(8) {
			p.Any = append(p.Any, text(2))
		}
		v := text(20)
		want := wordsMatch(v, p)
		seeMatch(t, v, p, want)
		if want {
			found++
		}
		if t.Failed() {
			return
		}
	}
	if found < 3000 {
		t.Errorf("%d found alone", found)
	}
}

// P13.3: Match knows no limit of bytes, takes what is no UTF-8, and prepares nothing.
func TestMatchBytes(t *testing.T) {
	big := strings.Repeat("ab", 100000)
	seeMatch(t, big, asks(big[:100000], big[100000:]), true)
	seeMatch(t, big, asks(big[:100000], big[99998:]), false)
	seeMatch(t, big, asks("ab", "ab", big[:50000], big[:50000], big[:50000]), true)
	seeMatch(t, big+"c", asks("", "", big, "c", "c"), false)
	seeMatch(t, "\xff\x00\xfe", asks("\xff", "\xfe", "\x00"), true)
	seeMatch(t, "\u00e9", asks("\xc3", "\xa9"), true)
	seeMatch(t, "A", asks("a", ""), false)
	seeMatch(t, "a", asks(" a", ""), false)
	seeMatch(t, "a  b", asks("", "", "a b"), false)
	seeMatch(t, "e\u0301", asks("\u00e9", ""), false)
}

// P13.4: ordinary ones, in each way.
func TestAsks(t *testing.T) {
	for _, x := range []struct {
		way   int
		value string
		p     api.Pieces
		want  bool
	}{
		{api.PrepFold, "Stra\u00dfe am Markt", asks("STRASS", "MARKT", "e A"), true}, {api.PrepExact, "Stra\u00dfe am Markt", asks("STRASS", ""), false},
		{api.PrepExact, "Stra\u00dfe am Markt", asks("Stra\u00df", "kt", "am"), true}, {api.PrepNumeric, "Stra\u00dfe am Markt", asks("", "", "EAM"), false},
		{api.PrepPhone, "Stra\u00dfe am Markt", asks("", "", "EAM"), true}, {api.PrepFold, "Stra\u00dfe am Markt", asks("", "", "EAM"), false},
		{api.PrepFold, "am Markt", asks("", "", "m  \u3000M"), true}, {api.PrepFold, "am Markt", asks("", "", "mm"), false}, {api.PrepNumeric, "am markt", asks("", "", "mm"), true},
		{api.PrepExact, "Ab", asks("a", ""), false}, {api.PrepFold, "Ab", asks("a", ""), true}, {api.PrepExact, "ab", asks("b", ""), false}, {api.PrepExact, "ab", asks("", "a"), false},
		{api.PrepNumeric, "12 34", asks("1 2 3", ""), true}, {api.PrepNumeric, "12 34", asks("1-2", ""), false}, {api.PrepPhone, "12 34", asks("1-2", ""), true},
		{api.PrepPhone, "+1-23", asks("", "2 3", "+1"), true}, {api.PrepPhone, "+1-23", asks("", "23", "3"), false},
		// A blank at a piece's edge is asked for; at a value's edge there is always one.
		{api.PrepFold, "ab", asks("", "", "a "), false}, {api.PrepFold, "a b", asks("", "", "a "), true}, {api.PrepFold, "a b", asks("", "", " b"), true}, {api.PrepFold, "ab", asks("", "", " a"), true},
		{api.PrepFold, "ab", asks("", "", "b "), true}, {api.PrepFold, "ab", asks("", "", " b"), false}, {api.PrepFold, " a", asks("a", ""), true}, {api.PrepFold, "a ", asks("", "a"), true},
		{api.PrepFold, "a b", asks("a ", " b"), true}, {api.PrepFold, "a b", asks("a ", " b", " "), false}, {api.PrepFold, "a b", asks("a", "b", " ", " "), true}, {api.PrepFold, "ab", asks("a", "b", " "), false},
		{api.PrepFold, "", asks(" ", ""), true}, {api.PrepFold, "", asks(" ", " "), true}, {api.PrepFold, "", asks(" ", " ", " "), false}, {api.PrepFold, "", asks("", "", "a"), false},
		// What is empty once it was prepared is found everywhere.
		{api.PrepExact, "a", asks("", "", "\u00ad"), true}, {api.PrepNumeric, "", asks(" ", " ", " "), true}, {api.PrepPhone, "", asks("-", "-", " - "), true}, {api.PrepNumeric, "1", asks("-", ""), false},
		// A midst and an end may begin with a mark; it is found where no letter took it.
		{api.PrepExact, "q\u0301", asks("", "", "\u0301"), true}, {api.PrepExact, "q\u0301", asks("q", "\u0301"), true}, {api.PrepExact, "e\u0301", asks("e", "\u0301"), false},
		{api.PrepExact, "\u0301a", asks("\u0301", ""), true}, {api.PrepExact, " \u0301a", asks("\u0301", ""), true}, {api.PrepExact, "q\u0301", asks("\u0301", ""), false},
		{api.PrepFold, "\ufb01n", asks("F", "N", "\uff29"), true}, {api.PrepNumeric, "\u1100 \u1161", asks("\uac00", ""), true}, {api.PrepNumeric, "\u1100 \u1161", asks("\u1100", ""), false},
	} {
		seeAsks(t, x.way, x.value, x.p, x.want, api.OK)
	}
}

// P13.4: the value's error comes first, whatever the pieces are; then that of the pieces.
func TestAsksErrors(t *testing.T) {
	big := strings.Repeat("a", 1203)
	wrong := []api.Pieces{{}, {Initial: "a"}, {Any: []string{""}}, asks("", "", slices.Repeat([]string{"a"}, 7)...), asks("a", ""), asks(big, ""), asks("\xff", ""), asks("", "\ue000")}
	for _, way := range ways() {
		for _, p := range wrong {
			seeAsks(t, way, big, p, false, api.ErrBig)
			seeAsks(t, way, big+"\xff", p, false, api.ErrBig)
			seeAsks(t, way, "a\xff", p, false, api.ErrUTF)
			seeAsks(t, way, "\ue000\xff", p, false, api.ErrUTF)
			seeAsks(t, way, "a\ue000", p, false, api.ErrChar)
			seeAsks(t, way, "\u0370", p, false, api.ErrChar)
			_, e := wordsPrepare(way, p)
			seeAsks(t, way, "b", p, false, e)
		}
		seeAsks(t, way, strings.Repeat("a", 1202), asks("a", "a"), true, api.OK)
	}
	for _, way := range noWays() {
		for _, p := range wrong {
			for _, v := range []string{"", "a", big, "\xff", "\ue000"} {
				seeAsks(t, way, v, p, false, api.ErrArg)
			}
		}
	}
}

// chosen are the cuts that bits choose, the empty ones left out: the first of all as the beginning and the last as the end, if edges are asked, and those between.
func chosen(cuts []string, bits int, edges bool) api.Pieces {
	var p api.Pieces
	for i, s := range cuts {
		switch {
		case s == "" || bits>>i&1 == 0:
		case edges && i == 0:
			p.Initial, p.HasInitial = s, true
		case edges && i == len(cuts)-1:
			p.Final, p.HasFinal = s, true
		default:
			p.Any = append(p.Any, s)
		}
	}
	return p
}

// cutAt cuts a list of texts at places by chance; cuts may be empty.
func cutAt(c *rand.Rand, all []string, n int) []string {
	places := []int{0, len(all)}
	for range n - 1 {
		places = append(places, c.Intn(len(all)+1))
	}
	slices.Sort(places)
	var out []string
	for i := range n {
		out = append(out, strings.Join(all[places[i]:places[i+1]], ""))
	}
	return out
}

// P13.5: a value of any bytes, cut by chance: what is asked of the cuts is found, of all of them and of fewer.
func TestCut(t *testing.T) {
	c := rand.New(rand.NewSource(135))
	letters := []string{"a", "a", "b", " ", "\xff", "\x00", "\xc3", "\xa9"}
	for range 800 {
		all := make([]string, c.Intn(30))
		for i := range all {
			all[i] = letters[c.Intn(len(letters))]
		}
		value := strings.Join(all, "")
		for n := 1; n <= 8; n++ {
			cuts := cutAt(c, all, n)
			for bits := range 1 << n {
				for _, edges := range []bool{true, false} {
					p := chosen(cuts, bits, edges)
					asked := p.HasInitial || p.HasFinal || len(p.Any) > 0
					seeMatch(t, value, p, asked && len(p.Any) <= 6)
				}
			}
		}
		if t.Failed() {
			return
		}
	}
}

// P13.5: a value is cut between its characters, in each way; no character here goes together with another one.
func TestCutAsked(t *testing.T) {
	c := rand.New(rand.NewSource(1355))
	letters := []string{"a", "B", "c", "\u00df", "\u00c9", "\ufb01", "\u00bc", "1", "-", "\u4e00", "\u05d0", "q", "Q\u0301", "x\u00ady", "\uac01"}
	for range 800 {
		var all []string
		for n := range 1 + c.Intn(8) {
			// More spaces in a row than a value keeps would each be asked for.
			if c.Intn(3) == 0 && (n == 0 || all[n-1] != " ") {
				all = append(all, " ")
			} else {
				all = append(all, letters[c.Intn(len(letters))])
			}
		}
		value := strings.Join(all, "")
		for n := 1; n <= 8; n++ {
			cuts := cutAt(c, all, n)
			for _, bits := range []int{1<<n - 1, c.Intn(1 << n)} {
				for _, edges := range []bool{true, false} {
					p := chosen(cuts, bits, edges)
					if Check(p) != api.OK {
						continue
					}
					for _, way := range ways() {
						seeAsks(t, way, value, p, true, api.OK)
					}
				}
			}
		}
		if t.Failed() {
			return
		}
	}
}

// P13.6: what is asked to begin and to end alone, in values just long enough for both, in shorter and in longer ones.
func TestWhole(t *testing.T) {
	all := texts("ab", 3)
	for _, v := range texts("ab", 7) {
		for _, initial := range all {
			for _, final := range all {
				want := strings.HasPrefix(v, initial) && strings.HasSuffix(v, final) && len(v) >= len(initial)+len(final)
				if Match(v, made(initial, final)) != want {
					t.Fatalf("%q, %q, %q: not %t", v, initial, final, want)
				}
			}
		}
	}
	for n := range 40 {
		for i := range 20 {
			for j := range 20 {
				seeMatch(t, strings.Repeat("a", n), made(strings.Repeat("a", i), strings.Repeat("a", j)), n >= i+j)
			}
		}
	}
	for _, way := range ways() {
		seeAsks(t, way, "aaa", asks("a", "aa"), true, api.OK)
		seeAsks(t, way, "aaa", asks("aa", "aa"), false, api.OK)
		seeAsks(t, way, "aaa", asks("aaa", "a"), false, api.OK)
		seeAsks(t, way, "aaa", asks("aaa", ""), true, api.OK)
		seeAsks(t, way, "aaaa", asks("aa", "aa"), true, api.OK)
	}
}

// Rule 4: what is handed in stays as it was, its spare room too; what is handed out is new.
func TestMemory(t *testing.T) {
	room := []string{"A b", "\u00ad", " C", "d\u0301", "spare", ""}
	before := slices.Clone(room)
	for _, way := range slices.Concat(ways(), []int{0, 5}) {
		for n := range len(room) + 1 {
			p := asks("X", "Y", room[:n]...)
			got, e := Prepare(way, p)
			Check(p)
			Match("xa by", p)
			Asks(way, "xa by", p)
			if !slices.Equal(room, before) || !same(p, asks("X", "Y", before[:n]...)) {
				t.Fatalf("%d: %q was changed: %q", way, before, room)
			}
			if e != api.OK {
				continue
			}
			want, _ := wordsPrepare(way, p)
			for i := range room {
				room[i] = "other"
			}
			if !same(got, want) {
				t.Fatalf("%d: the answer hangs on what was handed in", way)
			}
			copy(room, before)
			for i := range got.Any {
				got.Any[i] = "mine"
			}
			_ = append(got.Any, "more", "and more")
			if again, _ := Prepare(way, p); !slices.Equal(room, before) || !same(again, want) {
				t.Fatalf("%d: the answer is not new", way)
			}
		}
	}
}

// Rule 4: beside an error, too, nothing was changed, and nothing but the error is told.
func TestMemoryOfErrors(t *testing.T) {
	room := []string{"A b", "C D", "\ue000", "\xff", "e"}
	before := slices.Clone(room)
	for _, way := range ways() {
		for n := 3; n <= len(room); n++ {
			got, e := Prepare(way, asks("A", "B", room[:n]...))
			if e != api.ErrChar || !same(got, api.Pieces{}) || !slices.Equal(room, before) {
				t.Fatalf("%d: %#v %d, %q", way, got, int(e), room)
			}
		}
	}
}
