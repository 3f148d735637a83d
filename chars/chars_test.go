package chars

import (
	"math"
	"slices"
	"strconv"
	"strings"
	"testing"

	"toponym/api"
	"toponym/span"
)

// chapter is the chapter's table, word for word, but for the planes from 1 to 16.
func chapter() map[int]string {
	return map[int]string{
		api.CharLetter: "0041 to 005a, 0061 to 007a, 00aa, 00b5, 00ba, 00c0 to 00d6, 00d8 to 00f6, 00f8 to 017f, 02bc, 0386, 0388 to 038a, 038c, 038e to 03a1, 03a3 to 03ce, 0401, 0410 to 044f, 0451, 05d0 to 05ea, 1100 to 1112, 1161 to 1175, 11a8 to 11c2, 2126, 212a to 212b, 2160 to 216b, 2170 to 217b, 3041 to 3094, 4e00 to 4eff, ac00 to d7a3, fb00 to fb05, ff21 to ff3a, ff41 to ff5a",
		api.CharDigit:  "0030 to 0039, 00b2 to 00b3, 00b9, 0660 to 0669, 2070, 2074 to 2079, 2080 to 2089, ff10 to ff19",
		api.CharMark:   "0300 to 0304, 0306 to 0308, 030a to 030c, 0323, 0327 to 0328, 3099 to 309a",
		api.CharSign:   "0021 to 002f, 003a to 0040, 005b to 0060, 007b to 007e, 00a1 to 00a9, 00ab to 00ac, 00ae to 00b1, 00b4, 00b6 to 00b8, 00bb to 00bf, 00d7, 00f7, 2010 to 2011, 2044, 2212, ff01 to ff0f, ff1a to ff20, ff3b to ff40, ff5b to ff5e",
		api.CharSpace:  "0009 to 000d, 0020, 0085, 00a0, 2000 to 200a, 2028 to 2029, 202f, 205f, 3000",
		api.CharGone:   "0000 to 0008, 000e to 001f, 007f to 0084, 0086 to 009f, 00ad, 034f, 200b to 200f, 202a to 202e, 2060 to 2063, 206a to 206f, fe00 to fe0f, feff, fff9 to fffc",
		api.CharBad:    "0340 to 0341, e000 to f8ff, fdd0 to fdef, fffd to ffff",
	}
}

// highest are the last two of each plane from 1 to 16.
func highest() []rune {
	return []rune{
		0x1fffe, 0x1ffff, 0x2fffe, 0x2ffff, 0x3fffe, 0x3ffff, 0x4fffe, 0x4ffff,
		0x5fffe, 0x5ffff, 0x6fffe, 0x6ffff, 0x7fffe, 0x7ffff, 0x8fffe, 0x8ffff,
		0x9fffe, 0x9ffff, 0xafffe, 0xaffff, 0xbfffe, 0xbffff, 0xcfffe, 0xcffff,
		0xdfffe, 0xdffff, 0xefffe, 0xeffff, 0xffffe, 0xfffff, 0x10fffe, 0x10ffff,
	}
}

func number(t *testing.T, s string) rune {
	t.Helper()
	n, err := strconv.ParseInt(s, 16, 32)
	if err != nil {
		t.Fatal(err)
	}
	return rune(n)
}

// ranges reads the chapter's table.
func ranges(t *testing.T) []api.Span {
	t.Helper()
	var out []api.Span
	for kind, text := range chapter() {
		for _, part := range strings.Split(text, ", ") {
			from, to, wide := strings.Cut(part, " to ")
			if !wide {
				to = from
			}
			out = append(out, api.Span{From: number(t, from), To: number(t, to), Has: kind})
		}
	}
	return out
}

// painted is what each code point's kind is, number by number.
func painted(t *testing.T) []int {
	t.Helper()
	all := make([]int, 0x110000)
	for _, s := range ranges(t) {
		for r := s.From; r <= s.To; r++ {
			if all[r] != api.CharNone {
				t.Fatalf("%x stands twice", r)
			}
			all[r] = s.Has
		}
	}
	for _, r := range highest() {
		all[r] = api.CharBad
	}
	return all
}

// outside are numbers that are below 0 or above the last code point.
func outside() []rune {
	l := []rune{-1, -2, -3, -0x41, -0x10000, -0x10001, -0x10002, -0x10ffff, math.MinInt32, math.MinInt32 + 1, math.MinInt32 + 0x41, 0x110000, 0x110001, 0x110041, 0x110301, math.MaxInt32 - 1, math.MaxInt32}
	for plane := 0x11; plane < 0x8000; plane++ {
		l = append(l, rune(plane<<16), rune(plane<<16|0x41), rune(plane<<16|0xfffe), rune(plane<<16|0xffff))
	}
	return l
}

// P3.1: the kind of each code point.
func TestKind(t *testing.T) {
	for r, kind := range painted(t) {
		if got := Kind(rune(r)); got != kind {
			t.Errorf("Kind of %x: %d, not %d", r, got, kind)
		}
	}
}

// P3.1: wrong numbers have no kind.
func TestKindOutside(t *testing.T) {
	for _, r := range outside() {
		if got := Kind(r); got != api.CharNone {
			t.Errorf("Kind of %x: %d", r, got)
		}
	}
}

// P3.1: the first and the last of each range, and the numbers right ahead of and right behind it.
func TestKindEdges(t *testing.T) {
	all := painted(t)
	for _, s := range ranges(t) {
		if Kind(s.From) != s.Has || Kind(s.To) != s.Has {
			t.Errorf("%x to %x: %d, %d", s.From, s.To, Kind(s.From), Kind(s.To))
		}
		if s.From > 0 && (Kind(s.From-1) == s.Has || Kind(s.From-1) != all[s.From-1]) {
			t.Errorf("ahead of %x: %d", s.From, Kind(s.From-1))
		}
		if Kind(s.To+1) == s.Has || Kind(s.To+1) != all[s.To+1] {
			t.Errorf("behind %x: %d", s.To, Kind(s.To+1))
		}
	}
	if Kind(0) != api.CharGone || Kind(-1) != api.CharNone || Kind(0xffff) != api.CharBad || Kind(0x10000) != api.CharNone {
		t.Error("the edges of the first plane")
	}
}

// P3.1: the last two of each plane, and what stands beside them.
func TestKindPlanes(t *testing.T) {
	for _, r := range highest() {
		if Kind(r) != api.CharBad {
			t.Errorf("%x: %d", r, Kind(r))
		}
	}
	for plane := rune(1); plane <= 16; plane++ {
		for _, r := range []rune{plane << 16, plane<<16 | 1, plane<<16 | 0x41, plane<<16 | 0xfffc, plane<<16 | 0xfffd, (plane + 1) << 16} {
			if Kind(r) != api.CharNone {
				t.Errorf("%x: %d", r, Kind(r))
			}
		}
	}
}

// P3.1: the chapter's examples.
func TestExamples(t *testing.T) {
	for r, kind := range map[rune]int{0x41: api.CharLetter, 0x301: api.CharMark, 0x200b: api.CharGone, 0xe000: api.CharBad, 0x370: api.CharNone} {
		if Kind(r) != kind {
			t.Errorf("%x: %d", r, Kind(r))
		}
	}
	if Class(0x301) != 230 {
		t.Error(Class(0x301))
	}
}

// P3.1: one kind, each of those that may be and those below and above.
func TestIsOne(t *testing.T) {
	kinds := []int{math.MinInt, -1, api.CharNone, api.CharLetter, api.CharDigit, api.CharMark, api.CharSign, api.CharSpace, api.CharGone, api.CharBad, 8, 9, math.MaxInt}
	all := painted(t)
	for r, kind := range all {
		if r > 0 && kind == all[r-1] {
			continue
		}
		for _, k := range kinds {
			if Is(rune(r), k) != (k == kind) {
				t.Errorf("Is of %x and %d: %t", r, k, Is(rune(r), k))
			}
		}
		if Is(rune(r)) {
			t.Errorf("%x is of a kind out of none", r)
		}
	}
	for _, r := range []rune{-1, 0x110000, math.MinInt32, math.MaxInt32} {
		for _, k := range kinds {
			if Is(r, k) != (k == api.CharNone) {
				t.Errorf("Is of %x and %d: %t", r, k, Is(r, k))
			}
		}
	}
}

// P3.1: several kinds, in any order.
func TestIsSome(t *testing.T) {
	for _, r := range []rune{'a', '7', 0x301, '-', ' ', 0xad, 0xe000, 0x370, -1, 0x10ffff, 0x110000} {
		for set := range 1 << 8 {
			var up []int
			for kind := range 8 {
				if set>>kind&1 == 1 {
					up = append(up, kind)
				}
			}
			down := slices.Clone(up)
			slices.Reverse(down)
			want := set>>Kind(r)&1 == 1
			if Is(r, up...) != want || Is(r, down...) != want || Is(r, append(up, up...)...) != want {
				t.Errorf("Is of %x and %v: not %t", r, up, want)
			}
		}
	}
	if Is('a', -1, 8, 99) || !Is('a', -1, 8, api.CharLetter) || Is('a', api.CharDigit, api.CharNone) {
		t.Error("kinds that are none")
	}
}

func classes() map[rune]int {
	return map[rune]int{
		0x300: 230, 0x301: 230, 0x302: 230, 0x303: 230, 0x304: 230, 0x306: 230, 0x307: 230, 0x308: 230, 0x30a: 230, 0x30b: 230, 0x30c: 230,
		0x323: 220, 0x327: 202, 0x328: 202, 0x3099: 8, 0x309a: 8,
	}
}

// P3.2.
func TestClass(t *testing.T) {
	want := classes()
	for r := rune(0); r <= 0x10ffff; r++ {
		if got := Class(r); got != want[r] {
			t.Errorf("Class of %x: %d, not %d", r, got, want[r])
		}
	}
	for _, r := range outside() {
		if got := Class(r); got != 0 {
			t.Errorf("Class of %x: %d", r, got)
		}
	}
}

// runs is the table of what was painted.
func runs(all []int) []api.Span {
	var out []api.Span
	for r, kind := range all {
		n := len(out)
		switch {
		case kind == api.CharNone:
		case n > 0 && out[n-1].To == rune(r-1) && out[n-1].Has == kind:
			out[n-1].To = rune(r)
		default:
			out = append(out, api.Span{From: rune(r), To: rune(r), Has: kind})
		}
	}
	return out
}

// P3.3.
func TestTable(t *testing.T) {
	got := Table()
	if span.Check(got) != api.OK {
		t.Error("no table")
	}
	if want := runs(painted(t)); !slices.Equal(got, want) {
		t.Errorf("%v, not %v", got, want)
	}
	for _, s := range got {
		if s.Has < api.CharLetter || s.Has > api.CharBad {
			t.Errorf("%x has %d", s.From, s.Has)
		}
	}
}

// P3.3: as many of each kind as the chapter has.
func TestTableCount(t *testing.T) {
	many := make([]int, 8)
	for _, kind := range painted(t) {
		many[kind]++
	}
	l := Table()
	for kind := api.CharLetter; kind <= api.CharBad; kind++ {
		if span.Count(l, kind) != many[kind] {
			t.Errorf("%d of kind %d, not %d", span.Count(l, kind), kind, many[kind])
		}
	}
	if span.Count(l, api.CharMark) != 16 || span.Count(l, api.CharNone) != 0 || span.Count(l, 8) != 0 {
		t.Error("marks, none, others")
	}
}

// ofKind are all code points of a kind, rising.
func ofKind(all []int, kind int) []rune {
	var l []rune
	for r, k := range all {
		if k == kind {
			l = append(l, rune(r))
		}
	}
	return l
}

// P3.4.
func TestSome(t *testing.T) {
	all := painted(t)
	for kind := api.CharLetter; kind <= api.CharBad; kind++ {
		l := ofKind(all, kind)
		for n := 1; n <= 500; n++ {
			want := l[:min(n, len(l))]
			if got := Some(kind, n); !slices.Equal(got, want) {
				t.Fatalf("the first %d of kind %d: %x, not %x", n, kind, got, want)
			}
		}
	}
}

// P3.4: of few there are fewer, up to the last one; of many the first 500.
func TestSomeEdges(t *testing.T) {
	if l := Some(api.CharMark, 1); !slices.Equal(l, []rune{0x300}) {
		t.Error(l)
	}
	if l := Some(api.CharMark, 500); len(l) != 16 || l[15] != 0x309a {
		t.Error(l)
	}
	if l := Some(api.CharMark, 15); len(l) != 15 || l[14] != 0x3099 {
		t.Error(l)
	}
	if l := Some(api.CharGone, 1); !slices.Equal(l, []rune{0}) {
		t.Error(l)
	}
	if l := Some(api.CharBad, 3); !slices.Equal(l, []rune{0x340, 0x341, 0xe000}) {
		t.Error(l)
	}
	if l := Some(api.CharLetter, 500); len(l) != 500 || l[26] != 0x61 {
		t.Error(len(l))
	}
}

// P3.4: wrong numbers and kinds.
func TestSomeNone(t *testing.T) {
	for _, n := range []int{0, -1, 501, 502, 0x10000, math.MinInt, math.MaxInt} {
		for kind := -1; kind <= 8; kind++ {
			if l := Some(kind, n); len(l) != 0 {
				t.Errorf("%d of kind %d: %d", n, kind, len(l))
			}
		}
	}
	for _, kind := range []int{api.CharNone, -1, 8, 9, math.MinInt, math.MaxInt} {
		for _, n := range []int{1, 2, 16, 499, 500} {
			if l := Some(kind, n); len(l) != 0 {
				t.Errorf("%d of kind %d: %d", n, kind, len(l))
			}
		}
	}
}

// P3.5.
func TestFoundIsKind(t *testing.T) {
	l := Table()
	for r := rune(-2); r <= 0x110001; r++ {
		if span.Find(l, r) != Kind(r) {
			t.Errorf("%x: %d found, of kind %d", r, span.Find(l, r), Kind(r))
		}
	}
	for _, r := range outside() {
		if span.Find(l, r) != Kind(r) {
			t.Errorf("%x: %d found, of kind %d", r, span.Find(l, r), Kind(r))
		}
	}
}

// P3.6: just marks have a class; that of all others is 0, by which they stay where they are.
func TestJustMarks(t *testing.T) {
	n := 0
	for r := rune(-1); r <= 0x110000; r++ {
		if (Class(r) != 0) != (Kind(r) == api.CharMark) || Class(r) < 0 {
			t.Errorf("%x of kind %d has the class %d", r, Kind(r), Class(r))
		}
		if Class(r) != 0 {
			n++
		}
	}
	if n != 16 {
		t.Error(n)
	}
	for _, r := range Some(api.CharMark, 500) {
		if Class(r) == 0 {
			t.Errorf("%x has no class", r)
		}
	}
	for _, kind := range []int{api.CharLetter, api.CharDigit, api.CharSign, api.CharSpace, api.CharGone, api.CharBad} {
		for _, r := range Some(kind, 500) {
			if Class(r) != 0 {
				t.Errorf("%x has the class %d", r, Class(r))
			}
		}
	}
}

// Rule 4: what is handed in stays as it is, its spare room too; what is handed out is new.
func TestMemory(t *testing.T) {
	room := []int{api.CharSign, api.CharDigit, 77, -5}
	before := slices.Clone(room)
	Is('a', room[:2]...)
	Is('7', room[:2]...)
	if !slices.Equal(room, before) {
		t.Error(room)
	}
	first := Table()
	want := slices.Clone(first)
	for i := range first {
		first[i] = api.Span{From: 1, To: 2, Has: 9}
	}
	if !slices.Equal(Table(), want) || Kind(0x41) != api.CharLetter {
		t.Error("a table was kept")
	}
	some := Some(api.CharMark, 16)
	clear(some)
	if l := Some(api.CharMark, 16); l[0] != 0x300 || Class(0x300) != 230 {
		t.Error("characters were kept")
	}
}
