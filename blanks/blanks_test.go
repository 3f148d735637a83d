package blanks

import (
	"math"
	"math/rand"
	"slices"
	"strconv"
	"strings"
	"testing"
)

// markWords are the words of chapter 3 on marks.
const markWords = "0300 to 0304, 0306 to 0308, 030a to 030c, 0323, 0327 to 0328, 3099 to 309a"

// book is the marks.
type book map[rune]struct{}

func number(t *testing.T, s string) rune {
	t.Helper()
	n, err := strconv.ParseInt(s, 16, 32)
	if err != nil {
		t.Fatal(err)
	}
	return rune(n)
}

func read(t *testing.T) book {
	t.Helper()
	b := book{}
	for _, w := range strings.Split(markWords, ", ") {
		from, to, more := strings.Cut(w, " to ")
		if !more {
			to = from
		}
		for r := number(t, from); r <= number(t, to); r++ {
			b[r] = struct{}{}
		}
	}
	if len(b) != 16 {
		t.Fatalf("%d marks", len(b))
	}
	return b
}

func (b book) mark(r rune) bool {
	_, is := b[r]
	return is
}

// signs are what each character of a list is: s of a space, h of a hyphen, x of all others.
// They are told from the end on, by what stands behind.
func (b book) signs(l []rune) string {
	signs := make([]byte, len(l))
	behind := false
	for i := len(l) - 1; i >= 0; i-- {
		signs[i] = 'x'
		if !behind && l[i] == 0x20 {
			signs[i] = 's'
		}
		if !behind && (l[i] == 0x2d || l[i] == 0x2010 || l[i] == 0x2212) {
			signs[i] = 'h'
		}
		behind = b.mark(l[i])
	}
	return string(signs)
}

// firm is the chapter's word.
func (b book) firm(l []rune) []rune {
	if len(l) > 0 && b.mark(l[0]) {
		return slices.Insert(slices.Clone(l), 0, 0x20)
	}
	return l
}

// words are the chapter's, each by itself.
func (b book) words(l []rune) [][]rune {
	var all [][]rune
	at := 0
	for _, w := range strings.Split(b.signs(l), "s") {
		if w != "" {
			all = append(all, l[at:at+len(w)])
		}
		at += len(w) + 1
	}
	return all
}

func between(words [][]rune) []rune {
	var l []rune
	for i, w := range words {
		if i > 0 {
			l = append(l, 0x20, 0x20)
		}
		l = append(l, w...)
	}
	return l
}

// value is P11.2.
func (b book) value(l []rune) []rune {
	words := b.words(b.firm(l))
	if len(words) == 0 {
		return []rune{0x20, 0x20}
	}
	return slices.Concat([]rune{0x20}, between(words), []rune{0x20})
}

// but is P11.3: all that have none of some signs.
func (b book) but(l []rune, signs string) []rune {
	var left []rune
	for i, s := range b.signs(l) {
		if !strings.ContainsRune(signs, s) {
			left = append(left, l[i])
		}
	}
	return left
}

// piece is P11.4.
func (b book) piece(kind int, l []rune) []rune {
	if kind != 1 && kind != 2 && kind != 3 {
		return nil
	}
	if kind == 1 {
		l = b.firm(l)
	}
	signs := b.signs(l)
	words := b.words(l)
	if len(words) == 0 {
		if strings.Contains(signs, "s") || kind == 1 || kind == 3 {
			return []rune{0x20}
		}
		return nil
	}
	told := between(words)
	if strings.HasPrefix(signs, "s") || kind == 1 {
		told = slices.Insert(told, 0, 0x20)
	}
	if strings.HasSuffix(signs, "s") || kind == 3 {
		told = append(told, 0x20)
	}
	return told
}

// call is one of the calls that tell characters, and what the chapter's words make of the same.
type call struct {
	name  string
	told  func(l ...rune) []rune
	words func(l []rune) []rune
}

func pieceCall(b book, kind int) call {
	return call{
		"Piece " + strconv.Itoa(kind),
		func(l ...rune) []rune { return Piece(kind, l...) },
		func(l []rune) []rune { return b.piece(kind, l) },
	}
}

func calls(b book) []call {
	return []call{
		{"Value", Value, b.value},
		{"Numeric", Numeric, func(l []rune) []rune { return b.but(l, "s") }},
		{"Phone", Phone, func(l []rune) []rune { return b.but(l, "sh") }},
		pieceCall(b, 1), pieceCall(b, 2), pieceCall(b, 3), pieceCall(b, 0), pieceCall(b, 4),
	}
}

func hyphens() []rune { return []rune{0x2d, 0x2010, 0x2212} }

// otherSpaces and otherHyphens look like the chapter's, but are none of them.
func otherSpaces() []rune {
	return []rune{0, 9, 0xa, 0xd, 0x1f, 0x21, 0x85, 0xa0, 0x2000, 0x200a, 0x200b, 0x2028, 0x202f, 0x205f, 0x3000, 0xfeff}
}

func otherHyphens() []rune {
	return []rune{0x2b, 0x2c, 0x2e, 0x5f, 0xad, 0x200f, 0x2011, 0x2012, 0x2013, 0x2015, 0x2211, 0x2213, 0xff0d}
}

// noChars are numbers that are no characters; some have lower bits that would be a blank's or a mark's.
func noChars() []rune {
	return []rune{
		0x305, 0x309, 0x30d, 0x322, 0x324, 0x329, 0x340, 0x370, 0x3098, 0x309b, 0xd800, 0xdfff, 0xe000, 0xffff, 0x10020, 0x1002d, 0x10301, 0x10ffff,
		math.MinInt32, math.MinInt32 + 0x20, -0x10000 + 0x20, -0x10000 + 0x301, -0x301, -0x20, -1,
		0x110000, 0x110020, 0x110301, 0x7fff0020, 0x7fff0301, math.MaxInt32,
	}
}

// everyone goes through all code points, and numbers outside them.
func everyone(see func(r rune)) {
	for r := rune(-0x400); r <= 0x110400; r++ {
		see(r)
	}
	for _, r := range noChars() {
		see(r)
	}
}

func seePlace(t *testing.T, l []rune, i int, space, hyphen bool) {
	t.Helper()
	if Space(l, i) != space {
		t.Errorf("Space of %x at %d: not %t", l, i, space)
	}
	if Hyphen(l, i) != hyphen {
		t.Errorf("Hyphen of %x at %d: not %t", l, i, hyphen)
	}
}

// P11.1: every number, alone, and a mark or none just behind what may be blank.
func TestPlaceEveryone(t *testing.T) {
	b := read(t)
	everyone(func(r rune) {
		space, hyphen := r == 0x20, slices.Contains(hyphens(), r)
		seePlace(t, []rune{r}, 0, space, hyphen)
		seePlace(t, []rune{'a', r, 'b'}, 1, space, hyphen)
		seePlace(t, []rune{r, 0x301}, 0, false, false)
		seePlace(t, []rune{0x301, r}, 1, space, hyphen)
		seePlace(t, []rune{r, 'a', 0x301}, 0, space, hyphen)
		seePlace(t, []rune{0x20, r}, 0, !b.mark(r), false)
		for _, h := range hyphens() {
			seePlace(t, []rune{h, r}, 0, false, !b.mark(r))
		}
	})
}

// P11.1: spaces and hyphens first, last, in a row, and some of others.
func TestPlace(t *testing.T) {
	rows := []struct {
		l     string
		signs string
	}{
		{"", ""}, {" ", "s"}, {"  ", "ss"}, {"-", "h"}, {"- -", "hsh"}, {" - ", "shs"}, {"a b-c", "xsxhx"},
		{" \u0301", "xx"}, {"  \u0301", "sxx"}, {" \u0301 ", "xxs"}, {" \u0301\u0327", "xxx"}, {"\u0301 ", "xs"}, {"\u0301 \u0301", "xxx"},
		{"-\u0301", "xx"}, {"--\u0301", "hxx"}, {" -\u3099", "sxx"}, {"- \u309a", "hxx"}, {"\u2010\u2212\u0323\u2010", "hxxh"},
		{" a\u0301", "sxx"}, {"-a\u0301", "hxx"}, {" \u0305", "sx"}, {" \u0340", "sx"}, {"-\u0305", "hx"},
	}
	for _, row := range rows {
		for i, s := range row.signs {
			seePlace(t, []rune(row.l), i, s == 's', s == 'h')
		}
		if signs := read(t).signs([]rune(row.l)); signs != row.signs {
			t.Errorf("%q: by the words %s, not %s", row.l, signs, row.signs)
		}
	}
	for _, r := range slices.Concat(otherSpaces(), otherHyphens(), noChars()) {
		seePlace(t, []rune{r}, 0, false, false)
		seePlace(t, []rune{0x20, r, 0x2d}, 1, false, false)
		seePlace(t, []rune{0x20, r}, 0, true, false)
		seePlace(t, []rune{0x2010, r}, 0, false, true)
	}
}

// P11.1: numbers that are none of the list's, and what stands in its spare room.
func TestPlaceOutside(t *testing.T) {
	for _, l := range [][]rune{nil, {}, {0x20}, {0x2d}, {0x20, 0x20, 0x2d}, {'a', 0x20, 0x2010}} {
		for _, i := range []int{math.MinInt, math.MinInt + 1, -1 << 32, -4, -3, -2, -1, len(l), len(l) + 1, len(l) + 2, 1 << 32, math.MaxInt - 1, math.MaxInt} {
			seePlace(t, l, i, false, false)
		}
	}
	room := []rune{0x20, 0x301, 0x20, 0x2d, 0x301}
	seePlace(t, room[:1], 0, true, false)
	seePlace(t, room[:4], 3, false, true)
	seePlace(t, room[:2], 2, false, false)
	seePlace(t, room[2:3], 1, false, false)
	seePlace(t, room[2:3], -2, false, false)
}

func see(t *testing.T, c call, l, want []rune) {
	t.Helper()
	if got := c.told(l...); !slices.Equal(got, want) {
		t.Errorf("%s of %x: %x, not %x", c.name, l, got, want)
	}
	if got := c.words(l); !slices.Equal(got, want) {
		t.Errorf("%s of %x: by the words %x, not %x", c.name, l, got, want)
	}
}

// row is a text, and what each call tells of it.
type row struct {
	given, value, numeric, phone string
	pieces                       [3]string
}

func rows() []row {
	return []row{
		// No word: no characters at all, and spaces alone.
		{"", "  ", "", "", [3]string{" ", "", " "}},
		{" ", "  ", "", "", [3]string{" ", " ", " "}},
		{"  ", "  ", "", "", [3]string{" ", " ", " "}},
		{"     ", "  ", "", "", [3]string{" ", " ", " "}},
		// One word: a space at neither end, first, last, and at both.
		{"a", " a ", "a", "a", [3]string{" a", "a", "a "}},
		{" a", " a ", "a", "a", [3]string{" a", " a", " a "}},
		{"a ", " a ", "a", "a", [3]string{" a ", "a ", "a "}},
		{" a ", " a ", "a", "a", [3]string{" a ", " a ", " a "}},
		{"   ab   ", " ab ", "ab", "ab", [3]string{" ab ", " ab ", " ab "}},
		// Several words.
		{"a b", " a  b ", "ab", "ab", [3]string{" a  b", "a  b", "a  b "}},
		{"a  b", " a  b ", "ab", "ab", [3]string{" a  b", "a  b", "a  b "}},
		{"a   b", " a  b ", "ab", "ab", [3]string{" a  b", "a  b", "a  b "}},
		{" a  b c ", " a  b  c ", "abc", "abc", [3]string{" a  b  c ", " a  b  c ", " a  b  c "}},
		{"ab cd    ef  ", " ab  cd  ef ", "abcdef", "abcdef", [3]string{" ab  cd  ef ", "ab  cd  ef ", "ab  cd  ef "}},
		// The chapter's examples.
		{"+1 23-4", " +1  23-4 ", "+123-4", "+1234", [3]string{" +1  23-4", "+1  23-4", "+1  23-4 "}},
		// 20 with a mark just behind it.
		{" \u0301", "  \u0301 ", " \u0301", " \u0301", [3]string{"  \u0301", " \u0301", " \u0301 "}},
		{"  \u0301", "  \u0301 ", " \u0301", " \u0301", [3]string{"  \u0301", "  \u0301", "  \u0301 "}},
		{"a \u0301b", " a \u0301b ", "a \u0301b", "a \u0301b", [3]string{" a \u0301b", "a \u0301b", "a \u0301b "}},
		{"a  \u0301", " a   \u0301 ", "a \u0301", "a \u0301", [3]string{" a   \u0301", "a   \u0301", "a   \u0301 "}},
		{" \u0301 \u0327 ", "  \u0301 \u0327 ", " \u0301 \u0327", " \u0301 \u0327", [3]string{"  \u0301 \u0327 ", " \u0301 \u0327 ", " \u0301 \u0327 "}},
		// A mark first, alone, with a word, with a space behind it, and in the midst of a word.
		{"\u0301", "  \u0301 ", "\u0301", "\u0301", [3]string{"  \u0301", "\u0301", "\u0301 "}},
		{"\u0301a", "  \u0301a ", "\u0301a", "\u0301a", [3]string{"  \u0301a", "\u0301a", "\u0301a "}},
		{"\u0301 ", "  \u0301 ", "\u0301", "\u0301", [3]string{"  \u0301 ", "\u0301 ", "\u0301 "}},
		{"\u0301 a", "  \u0301  a ", "\u0301a", "\u0301a", [3]string{"  \u0301  a", "\u0301  a", "\u0301  a "}},
		{"\u0301\u0327  a", "  \u0301\u0327  a ", "\u0301\u0327a", "\u0301\u0327a", [3]string{"  \u0301\u0327  a", "\u0301\u0327  a", "\u0301\u0327  a "}},
		{"a\u0301 b", " a\u0301  b ", "a\u0301b", "a\u0301b", [3]string{" a\u0301  b", "a\u0301  b", "a\u0301  b "}},
		// Hyphens with spaces.
		{"- -", " -  - ", "--", "", [3]string{" -  -", "-  -", "-  - "}},
		{" -\u0301 -", " -\u0301  - ", "-\u0301-", "-\u0301", [3]string{" -\u0301  -", " -\u0301  -", " -\u0301  - "}},
		{"- \u0301", " - \u0301 ", "- \u0301", " \u0301", [3]string{" - \u0301", "- \u0301", "- \u0301 "}},
		// Other spaces are parts of words.
		{"a\u00a0b\u3000 \t", " a\u00a0b\u3000  \t ", "a\u00a0b\u3000\t", "a\u00a0b\u3000\t", [3]string{" a\u00a0b\u3000  \t", "a\u00a0b\u3000  \t", "a\u00a0b\u3000  \t "}},
	}
}

// P11.2 to P11.4: the edges, each in all ways.
func TestRows(t *testing.T) {
	c := calls(read(t))
	for _, r := range rows() {
		l := []rune(r.given)
		see(t, c[0], l, []rune(r.value))
		see(t, c[1], l, []rune(r.numeric))
		see(t, c[2], l, []rune(r.phone))
		for i, want := range r.pieces {
			see(t, c[3+i], l, []rune(want))
		}
	}
}

// The chapter's three examples, word for word.
func TestExamples(t *testing.T) {
	if got := string(Value([]rune("a  b")...)); got != " a  b " {
		t.Errorf("Value: %q", got)
	}
	if got := string(Phone([]rune("+1 23-4")...)); got != "+1234" {
		t.Errorf("Phone: %q", got)
	}
	if got := string(Piece(2, []rune("a ")...)); got != "a " {
		t.Errorf("Piece 2: %q", got)
	}
}

// P11.3: each of the hyphens, with and without a mark behind it; Numeric leaves them all, and what looks like them stays.
func TestHyphens(t *testing.T) {
	c := calls(read(t))
	for _, h := range hyphens() {
		for _, l := range [][]rune{{h}, {h, h}, {h, 0x20, h}} {
			see(t, c[2], l, nil)
		}
		see(t, c[1], []rune{h, 0x20, h}, []rune{h, h})
		see(t, c[2], []rune{'1', h, '2', h, h, 0x20, '3', h}, []rune{'1', '2', '3'})
		see(t, c[2], []rune{h, 0x301}, []rune{h, 0x301})
		see(t, c[2], []rune{h, h, 0x327, h}, []rune{h, 0x327})
		see(t, c[2], []rune{'1', h, 0x3099, 0x20, '2'}, []rune{'1', h, 0x3099, '2'})
		see(t, c[2], []rune{0x20, h, 0x301, 0x20}, []rune{h, 0x301})
		see(t, c[0], []rune{h, 0x20, h, 0x301}, []rune{0x20, h, 0x20, 0x20, h, 0x301, 0x20})
	}
	for _, r := range slices.Concat(otherHyphens(), otherSpaces(), noChars()) {
		see(t, c[1], []rune{0x20, r, 0x2d}, []rune{r, 0x2d})
		see(t, c[2], []rune{0x20, r, 0x2d}, []rune{r})
		see(t, c[2], []rune{r, r}, []rune{r, r})
	}
}

// P11.2 to P11.4: numbers that are no characters are words like others.
func TestNoChars(t *testing.T) {
	c := calls(read(t))
	for _, r := range noChars() {
		see(t, c[0], []rune{r}, []rune{0x20, r, 0x20})
		see(t, c[0], []rune{r, 0x20, 0x20, 0x20, r}, []rune{0x20, r, 0x20, 0x20, r, 0x20})
		see(t, c[1], []rune{0x20, r, 0x20}, []rune{r})
		see(t, c[3], []rune{r}, []rune{0x20, r})
		see(t, c[4], []rune{0x20, r}, []rune{0x20, r})
		see(t, c[5], []rune{r}, []rune{r, 0x20})
	}
}

// P11.4: of other kinds there are no characters.
func TestOtherKinds(t *testing.T) {
	for _, kind := range []int{math.MinInt, -1 << 32, -3, -2, -1, 0, 4, 5, 6, 255, 256, 257, 258, 1<<32 + 1, 1<<32 + 2, math.MaxInt} {
		for _, r := range rows() {
			if got := Piece(kind, []rune(r.given)...); len(got) != 0 {
				t.Errorf("Piece %d of %q: %x", kind, r.given, got)
			}
		}
	}
}

// P11.2, P11.4: every mark is made firm where it stands first, and makes a 20 ahead of it firm, and nothing else does.
func TestEveryone(t *testing.T) {
	c := calls(read(t))
	everyone(func(r rune) {
		for _, one := range []call{c[0], c[2], c[3], c[4]} {
			for _, l := range [][]rune{{r, 'a'}, {'a', 0x20, r, 0x20}} {
				if got, want := one.told(l...), one.words(l); !slices.Equal(got, want) {
					t.Fatalf("%s of %x: %x, not %x", one.name, l, got, want)
				}
			}
		}
	})
}

// small are all lists of at most so many of some characters.
func small(most int, of []rune) [][]rune {
	all := [][]rune{nil}
	from := 0
	for range most {
		to := len(all)
		for _, l := range all[from:to] {
			for _, r := range of {
				all = append(all, append(slices.Clone(l), r))
			}
		}
		from = to
	}
	return all
}

// lists are all short ones of a few characters, longer ones by chance, and those of the rows.
func lists() [][]rune {
	l := small(6, []rune{0x20, 0x301, 'a', 0x2d})
	some := slices.Concat(hyphens(), otherHyphens(), otherSpaces(), noChars(), []rune{'a', 'b', '1', 0x300, 0x327, 0x3099})
	c := rand.New(rand.NewSource(11))
	for i := range 8000 {
		one := make([]rune, c.Intn(3+i%25))
		for k := range one {
			switch c.Intn(4) {
			case 0:
				one[k] = 0x20
			case 1:
				one[k] = []rune{0x301, 0x2d, 'a'}[c.Intn(3)]
			default:
				one[k] = some[c.Intn(len(some))]
			}
		}
		l = append(l, one)
	}
	for _, r := range rows() {
		l = append(l, []rune(r.given))
	}
	return l
}

// P11.1 to P11.4: lists by the chapter's words.
func TestByWords(t *testing.T) {
	b := read(t)
	c := calls(b)
	for _, l := range lists() {
		for i, s := range b.signs(l) {
			seePlace(t, l, i, s == 's', s == 'h')
		}
		for _, one := range c {
			if got, want := one.told(l...), one.words(l); !slices.Equal(got, want) {
				t.Fatalf("%s of %x: %x, not %x", one.name, l, got, want)
			}
		}
	}
}

// P11.5: told again, it is the same; Value begins and ends with 20.
func TestAgain(t *testing.T) {
	c := calls(read(t))
	for _, l := range lists() {
		for _, one := range c {
			got := one.told(l...)
			if again := one.told(got...); !slices.Equal(again, got) {
				t.Fatalf("%s of %x: %x, and again %x", one.name, l, got, again)
			}
		}
		if v := Value(l...); len(v) < 2 || v[0] != 0x20 || v[len(v)-1] != 0x20 {
			t.Fatalf("Value of %x: %x", l, v)
		}
	}
}

// P11.6: what is no space, nor a hyphen of Phone, stays, in its order.
func TestKeep(t *testing.T) {
	b := read(t)
	for _, l := range lists() {
		kept, kin := b.but(b.firm(l), "s"), b.but(l, "s")
		for _, got := range [][]rune{Value(l...), Piece(1, l...)} {
			if left := b.but(got, "s"); !slices.Equal(left, kept) {
				t.Fatalf("of %x: %x is kept, not %x", l, left, kept)
			}
		}
		for _, got := range [][]rune{Numeric(l...), Piece(2, l...), Piece(3, l...)} {
			if left := b.but(got, "s"); !slices.Equal(left, kin) {
				t.Fatalf("of %x: %x is kept, not %x", l, left, kin)
			}
		}
		if got := Phone(l...); !slices.Equal(got, b.but(l, "sh")) {
			t.Fatalf("Phone of %x: %x", l, got)
		}
	}
}

// P11.6: more spaces where there is one change nothing in Value.
func TestMoreSpaces(t *testing.T) {
	b := read(t)
	asked := 0
	for _, l := range lists() {
		for i, s := range b.signs(l) {
			if s != 's' {
				continue
			}
			asked++
			for more := range 4 {
				longer := slices.Insert(slices.Clone(l), i, slices.Repeat([]rune{0x20}, more)...)
				if got, want := Value(longer...), Value(l...); !slices.Equal(got, want) {
					t.Fatalf("Value of %x: %x; of %x: %x", l, want, longer, got)
				}
			}
		}
	}
	if asked < 5000 {
		t.Errorf("asked %d times alone", asked)
	}
}

func begins(l, with []rune) bool {
	return len(with) <= len(l) && slices.Equal(l[:len(with)], with)
}

func ends(l, with []rune) bool {
	return len(with) <= len(l) && slices.Equal(l[len(l)-len(with):], with)
}

func stands(l, in []rune) bool {
	for i := range in {
		if begins(in[i:], l) {
			return true
		}
	}
	return false
}

// seePieces holds pieces against the whole; it tells whether they are such as the promise speaks of.
func seePieces(t *testing.T, b book, first, mid, last []rune) bool {
	t.Helper()
	all := slices.Concat(first, []rune{0x20}, mid, []rune{0x20}, last)
	signs := b.signs(all)
	if signs[len(first)] != 's' || signs[len(first)+1+len(mid)] != 's' {
		return false
	}
	for _, l := range [][]rune{first, mid, last} {
		if len(b.words(l)) == 0 {
			return false
		}
	}
	whole := Value(all...)
	if p := Piece(1, first...); !begins(whole, p) {
		t.Fatalf("%x does not begin with %x", whole, p)
	}
	if p := Piece(2, mid...); !stands(p, whole) {
		t.Fatalf("%x does not stand in %x", p, whole)
	}
	if p := Piece(3, last...); !ends(whole, p) {
		t.Fatalf("%x does not end with %x", whole, p)
	}
	return true
}

// P11.7: a beginning, a midst and an end.
func TestPieces(t *testing.T) {
	b := read(t)
	some := small(3, []rune{0x20, 0x301, 'a', 'b'})
	asked := 0
	for _, first := range some {
		for _, mid := range some {
			for _, last := range some {
				if seePieces(t, b, first, mid, last) {
					asked++
				}
			}
		}
	}
	if asked < 50000 {
		t.Errorf("asked %d times alone", asked)
	}
	all := lists()
	c := rand.New(rand.NewSource(117))
	for range 20000 {
		seePieces(t, b, all[c.Intn(len(all))], all[c.Intn(len(all))], all[c.Intn(len(all))])
	}
}

// P11.7 by examples: pieces that begin and end with spaces, and a mark first.
func TestPiecesShown(t *testing.T) {
	b := read(t)
	for _, p := range [][3]string{{"a", "b", "c"}, {" a ", " b ", " c "}, {"\u0301a", "b  c", "d"}, {"a \u0301", "  \u0301b", "c d"}, {"-", "-", "-"}} {
		if !seePieces(t, b, []rune(p[0]), []rune(p[1]), []rune(p[2])) {
			t.Errorf("%q are no pieces", p)
		}
	}
	// A 20 ahead of a mark parts nothing.
	if seePieces(t, b, []rune("a"), []rune("\u0301b"), []rune("c")) {
		t.Error("a mark is parted from what stands ahead of it")
	}
}

// Very many characters.
func TestVeryLong(t *testing.T) {
	const n = 100000
	l := slices.Repeat([]rune{'1', 0x2d, 0x20, 0x20, 0x20, 0x301}, n)
	want := slices.Repeat([]rune{0x20, 0x20, 0x20, 0x301, '1', 0x2d}, n)
	// The first word has no mark, and the last one nothing else.
	want = slices.Concat([]rune{0x20, '1', 0x2d}, want[:len(want)-2], []rune{0x20})
	if got := Value(l...); !slices.Equal(got, want) {
		t.Error("Value")
	}
	if got := Phone(l...); !slices.Equal(got, slices.Repeat([]rune{'1', 0x20, 0x301}, n)) {
		t.Error("Phone")
	}
	if got := Value(slices.Repeat([]rune{0x20}, n)...); !slices.Equal(got, []rune{0x20, 0x20}) {
		t.Error("spaces alone")
	}
	if got := Piece(2, slices.Repeat([]rune{'a', 0x20}, n)...); len(got) != 3*n-1 {
		t.Errorf("Piece 2: %d", len(got))
	}
}

// Rule 4: what is handed in stays as it is, its spare room too; what is handed out is new.
func TestMemory(t *testing.T) {
	c := calls(read(t))
	for _, r := range rows() {
		for _, one := range c {
			l := []rune(r.given)
			room := append(slices.Clone(l), 0x301, 0x20, 'x', 0x2d)
			before := slices.Clone(room)
			want := one.words(l)
			got := one.told(room[:len(l)]...)
			for i := range len(l) {
				Space(room[:len(l)], i)
				Hyphen(room[:len(l)], i)
			}
			if !slices.Equal(room, before) || !slices.Equal(got, want) {
				t.Fatalf("%s of %x: %x; %x was changed: %x", one.name, l, got, before, room)
			}
			for i := range room {
				room[i] = 'z'
			}
			if !slices.Equal(got, want) {
				t.Fatalf("%s of %x: the answer hangs on what was handed in", one.name, l)
			}
			copy(room, before)
			for i := range got {
				got[i] = 7
			}
			_ = append(got, 8, 9)
			if !slices.Equal(room, before) || !slices.Equal(one.told(l...), want) {
				t.Fatalf("%s of %x: the answer is not new", one.name, l)
			}
		}
	}
}
