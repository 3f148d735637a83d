package hangul

import (
	"math"
	"math/rand"
	"slices"
	"testing"
)

// syllables are the parts of each syllable, laid out by the chapter's words one after the other: ac00, ac01 and so on.
func syllables() [][]rune {
	var all [][]rune
	for lead := rune(0x1100); lead <= 0x1112; lead++ {
		for vowel := rune(0x1161); vowel <= 0x1175; vowel++ {
			all = append(all, []rune{lead, vowel})
			for tail := rune(0x11a8); tail <= 0x11c2; tail++ {
				all = append(all, []rune{lead, vowel, tail})
			}
		}
	}
	return all
}

// painted is what Part tells of each number that it does not tell 0 of.
func painted() map[rune]int {
	want := map[rune]int{}
	for i := range rune(19) {
		want[0x1100+i] = 1
	}
	for i := range rune(21) {
		want[0x1161+i] = 2
	}
	for i := range rune(27) {
		want[0x11a8+i] = 3
	}
	for i, l := range syllables() {
		want[0xac00+rune(i)] = 2 + len(l)
	}
	return want
}

// joined is what Join makes of each two that join.
func joined() map[[2]rune]rune {
	want := map[[2]rune]rune{}
	open := rune(0)
	for i, l := range syllables() {
		r := 0xac00 + rune(i)
		if len(l) == 2 {
			open = r
			want[[2]rune{l[0], l[1]}] = r
		} else {
			want[[2]rune{open, l[2]}] = r
		}
	}
	return want
}

// outside are numbers below 0 and above 10ffff; some have lower bits that would be a part's or a syllable's.
func outside() []rune {
	return []rune{
		math.MinInt32, math.MinInt32 + 1, math.MinInt32 + 0x1100, math.MinInt32 + 0xac00, math.MinInt32 + 0xd7a3, math.MinInt32 + 0xd7a4,
		-0xd7a3, -0xac01, -0xac00, -0x11a8, -0x1161, -0x1100, -0x10000 + 0xac00, -28, -27, -1,
		0x110000, 0x110000 + 0x1100, 0x110000 + 0x1161, 0x110000 + 0x11a8, 0x110000 + 0xac00, 0x7fff1100, 0x7fffac00, math.MaxInt32 - 1, math.MaxInt32,
	}
}

// edges are the first and the last of each kind, and the numbers right ahead of and right behind them.
func edges() []rune {
	return []rune{
		0x10ff, 0x1100, 0x1101, 0x1111, 0x1112, 0x1113,
		0x1160, 0x1161, 0x1162, 0x1174, 0x1175, 0x1176,
		0x11a7, 0x11a8, 0x11a9, 0x11c1, 0x11c2, 0x11c3,
		0xabff, 0xac00, 0xac01, 0xac1b, 0xac1c, 0xac1d, 0xae4b, 0xae4c, 0xd787, 0xd788, 0xd789, 0xd7a2, 0xd7a3, 0xd7a4,
	}
}

// others are neither parts nor syllables.
func others() []rune {
	return []rune{0, 1, 0x1b, 0x1c, 'A', 'a', 0xe9, 0x301, 0x3042, 0x3131, 0x4e00, 0xa960, 0xd7b0, 0xd7cb, 0xd800, 0xdfff, 0xe000, 0xffff, 0x11100, 0x1ac00, 0x10ac00, 0x10ffff}
}

func many() []rune {
	return slices.Concat(outside(), edges(), others())
}

// numbers are all code points, some numbers around them, and the greatest and the least ones.
func numbers(see func(r rune)) {
	for r := rune(-0x20000); r < 0x130000; r++ {
		see(r)
	}
	for i := range rune(0x20000) {
		see(math.MinInt32 + i)
		see(math.MaxInt32 - i)
	}
}

// P4.1: each number, code points or not.
func TestSyllableAndPart(t *testing.T) {
	want := painted()
	numbers(func(r rune) {
		if got := Part(r); got != want[r] {
			t.Errorf("Part of %x: %d, not %d", r, got, want[r])
		}
		if got := Syllable(r); got != (want[r] >= 4) {
			t.Errorf("Syllable of %x: %t", r, got)
		}
	})
	for _, r := range slices.Concat(outside(), others()) {
		if Part(r) != 0 || Syllable(r) {
			t.Errorf("%x: %d %t", r, Part(r), Syllable(r))
		}
	}
}

// P4.1: the edges, one by one.
func TestSyllableAndPartEdges(t *testing.T) {
	want := []int{
		0, 1, 1, 1, 1, 0,
		0, 2, 2, 2, 2, 0,
		0, 3, 3, 3, 3, 0,
		0, 4, 5, 5, 4, 5, 5, 4, 5, 4, 5, 5, 5, 0,
	}
	for i, r := range edges() {
		if Part(r) != want[i] || Syllable(r) != (want[i] >= 4) {
			t.Errorf("%x: %d %t", r, Part(r), Syllable(r))
		}
	}
}

// P4.2: each syllable, its parts in their order.
func TestApart(t *testing.T) {
	all := syllables()
	if len(all) != 0xd7a3-0xac00+1 {
		t.Fatal(len(all))
	}
	for i, want := range all {
		if got := Apart(0xac00 + rune(i)); !slices.Equal(got, want) {
			t.Errorf("%x apart: %x, not %x", 0xac00+i, got, want)
		}
	}
}

// P4.2: without a tail, with the first and with the last one.
func TestApartEdges(t *testing.T) {
	for r, want := range map[rune][]rune{
		0xac00: {0x1100, 0x1161},
		0xac01: {0x1100, 0x1161, 0x11a8},
		0xac1b: {0x1100, 0x1161, 0x11c2},
		0xac1c: {0x1100, 0x1162},
		0xae4b: {0x1100, 0x1175, 0x11c2},
		0xae4c: {0x1101, 0x1161},
		0xd55c: {0x1112, 0x1161, 0x11ab},
		0xd788: {0x1112, 0x1175},
		0xd789: {0x1112, 0x1175, 0x11a8},
		0xd7a3: {0x1112, 0x1175, 0x11c2},
		0xabff: {0xabff},
		0xd7a4: {0xd7a4},
		0x1100: {0x1100},
		0x1161: {0x1161},
		0x11a8: {0x11a8},
	} {
		if got := Apart(r); !slices.Equal(got, want) {
			t.Errorf("%x apart: %x, not %x", r, got, want)
		}
	}
}

// P4.2: others stay alone, numbers that are no code points too.
func TestApartOfOthers(t *testing.T) {
	numbers(func(r rune) {
		if r >= 0xac00 && r <= 0xd7a3 {
			return
		}
		if got := Apart(r); len(got) != 1 || got[0] != r {
			t.Errorf("%x apart: %x", r, got)
		}
	})
}

// P4.2, rule 4: the answer is new each time.
func TestApartIsNew(t *testing.T) {
	for _, r := range []rune{0xac00, 0xac01, 0xd7a3, 'a', -1} {
		l := Apart(r)
		want := slices.Clone(l)
		for i := range l {
			l[i] = 7
		}
		_ = append(l, 8)
		if got := Apart(r); !slices.Equal(got, want) {
			t.Errorf("%x apart: %x, not %x", r, got, want)
		}
	}
}

// P4.3: each two that join.
func TestJoin(t *testing.T) {
	want := joined()
	if len(want) != 19*21*28 {
		t.Fatal(len(want))
	}
	for two, r := range want {
		if got, ok := Join(two[0], two[1]); got != r || !ok {
			t.Errorf("%x joined: %x %t, not %x", two, got, ok, r)
		}
	}
}

// P4.3: what joins to nothing else, and nothing else to it.
func TestJoinOthers(t *testing.T) {
	want := joined()
	see := func(a, b rune) {
		r, joins := want[[2]rune{a, b}]
		if got, ok := Join(a, b); got != r || ok != joins {
			t.Errorf("%x and %x joined: %x %t", a, b, got, ok)
		}
	}
	for _, a := range many() {
		for _, b := range many() {
			see(a, b)
		}
		for b := rune(0x1000); b < 0x1300; b++ {
			see(a, b)
			see(b, a)
		}
	}
	for a := rune(0x10ff); a <= 0x11c3; a++ {
		for b := rune(0x10ff); b <= 0x11c3; b++ {
			see(a, b)
		}
	}
	for r := rune(0xab00); r < 0xd900; r++ {
		for _, b := range edges() {
			see(r, b)
			see(b, r)
		}
	}
}

// P4.3: the edges, one by one.
func TestJoinEdges(t *testing.T) {
	for _, c := range []struct {
		a, b, r rune
		ok      bool
	}{
		{0x1100, 0x1161, 0xac00, true},
		{0x1100, 0x1175, 0xae30, true},
		{0x1112, 0x1161, 0xd558, true},
		{0x1112, 0x1175, 0xd788, true},
		{0xac00, 0x11a8, 0xac01, true},
		{0xac00, 0x11c2, 0xac1b, true},
		{0xd788, 0x11a8, 0xd789, true},
		{0xd788, 0x11c2, 0xd7a3, true},
		{a: 0x10ff, b: 0x1161}, {a: 0x1113, b: 0x1161}, {a: 0x1100, b: 0x1160}, {a: 0x1100, b: 0x1176},
		{a: 0xac00, b: 0x11a7}, {a: 0xac00, b: 0x11c3}, {a: 0xabff, b: 0x11a8}, {a: 0xd7a4, b: 0x11a8},
		{a: 0xac01, b: 0x11a8}, {a: 0xac1b, b: 0x11a8}, {a: 0xd7a3, b: 0x11c2},
		{a: 0x1161, b: 0x1100}, {a: 0x11a8, b: 0xac00}, {a: 0x1100, b: 0x11a8}, {a: 0x1161, b: 0x11a8},
		{a: 0x1100, b: 0x1100}, {a: 0x1161, b: 0x1161}, {a: 0x11a8, b: 0x11a8}, {a: 0xac00, b: 0x1161}, {a: 0xac00, b: 0xac00}, {a: 0x1100, b: 0xac00},
		{a: 'a', b: 'b'}, {a: 'a', b: 0x301}, {a: 0, b: 0}, {a: -1, b: -1}, {a: math.MinInt32, b: math.MaxInt32},
	} {
		if r, ok := Join(c.a, c.b); r != c.r || ok != c.ok {
			t.Errorf("%x and %x joined: %x %t", c.a, c.b, r, ok)
		}
	}
}

// P4.4: lists one by one.
func TestWhole(t *testing.T) {
	for _, c := range []struct{ l, want []rune }{
		{nil, nil},
		{[]rune{}, nil},
		{[]rune{0x1100, 0x1161, 0x11a8, 0x41}, []rune{0xac01, 0x41}},
		{[]rune{0x1100, 0x1161, 0x11a8, 0x1100, 0x1161}, []rune{0xac01, 0xac00}},
		{[]rune{0x1100, 0x1161}, []rune{0xac00}},
		{[]rune{0x1112, 0x1175, 0x11c2}, []rune{0xd7a3}},
		{[]rune{0xd788, 0x11c2}, []rune{0xd7a3}},
		// A tail behind a syllable that has one.
		{[]rune{0xac01, 0x11a8}, []rune{0xac01, 0x11a8}},
		{[]rune{0xac00, 0x11a8, 0x11a8}, []rune{0xac01, 0x11a8}},
		{[]rune{0x1100, 0x1161, 0x11a8, 0x11a9, 0x1161}, []rune{0xac01, 0x11a9, 0x1161}},
		// A lead, a vowel or a tail alone.
		{[]rune{0x1100}, []rune{0x1100}},
		{[]rune{0x1161}, []rune{0x1161}},
		{[]rune{0x11a8}, []rune{0x11a8}},
		{[]rune{0x1100, 0x1100, 0x1161, 0x1161, 0x11a8}, []rune{0x1100, 0xac00, 0x1161, 0x11a8}},
		{[]rune{0x11a8, 0x1161, 0x1100}, []rune{0x11a8, 0x1161, 0x1100}},
		{[]rune{0x1100, 0x11a8, 0x1161}, []rune{0x1100, 0x11a8, 0x1161}},
		{[]rune{0x1100, 0xac00, 0x11a8}, []rune{0x1100, 0xac01}},
		// Something between them.
		{[]rune{0x1100, 'a', 0x1161}, []rune{0x1100, 'a', 0x1161}},
		{[]rune{0xac00, 0x301, 0x11a8}, []rune{0xac00, 0x301, 0x11a8}},
		{[]rune{0x1100, 0x1161, -1, 0x11a8}, []rune{0xac00, -1, 0x11a8}},
		// Just beside the parts.
		{[]rune{0x1113, 0x1161}, []rune{0x1113, 0x1161}},
		{[]rune{0x1100, 0x1176}, []rune{0x1100, 0x1176}},
		{[]rune{0xac00, 0x11a7}, []rune{0xac00, 0x11a7}},
		{[]rune{0xac00, 0x11c3}, []rune{0xac00, 0x11c3}},
		// Numbers that are no code points stay, and so do zeros.
		{[]rune{math.MinInt32, -1, 0, 0x110000, math.MaxInt32, 0}, []rune{math.MinInt32, -1, 0, 0x110000, math.MaxInt32, 0}},
	} {
		if got := Whole(c.l...); !slices.Equal(got, c.want) {
			t.Errorf("%x whole: %x, not %x", c.l, got, c.want)
		}
	}
}

// wholeBySight looks for the longest run of parts that is a syllable at each place: another way to say what the chapter says from the left on.
func wholeBySight(l []rune, join map[[2]rune]rune) []rune {
	var out []rune
	for i := 0; i < len(l); {
		r, n := l[i], 1
		for i+n < len(l) {
			both, ok := join[[2]rune{r, l[i+n]}]
			if !ok {
				break
			}
			r, n = both, n+1
		}
		out = append(out, r)
		i += n
	}
	return out
}

// lists calls see with all lists of up to five out of a few that join and do not, and with longer ones by chance.
func lists(see func(l []rune)) {
	some := []rune{0x1100, 0x1112, 0x1161, 0x1175, 0x11a8, 0x11c2, 0xac00, 0xd7a3, 0x41, -1}
	var grow func(head []rune, more int)
	grow = func(head []rune, more int) {
		see(slices.Clone(head))
		if more == 0 {
			return
		}
		for _, r := range some {
			grow(append(head, r), more-1)
		}
	}
	grow(make([]rune, 0, 5), 5)
	rnd := rand.New(rand.NewSource(4))
	all := many()
	for range 3000 {
		l := make([]rune, rnd.Intn(40))
		for i := range l {
			switch rnd.Intn(4) {
			case 0:
				l[i] = 0x1100 + rune(rnd.Intn(19))
			case 1:
				l[i] = 0x1161 + rune(rnd.Intn(21))
			case 2:
				l[i] = 0x11a8 + rune(rnd.Intn(27))
			case 3:
				l[i] = all[rnd.Intn(len(all))]
			}
		}
		see(l)
	}
}

// P4.4: many lists.
func TestWholeOfMany(t *testing.T) {
	join := joined()
	lists(func(l []rune) {
		if got, want := Whole(l...), wholeBySight(l, join); !slices.Equal(got, want) {
			t.Errorf("%x whole: %x, not %x", l, got, want)
		}
	})
}

// P4.4, rule 4: what is handed in stays as it is, its spare room too; what is handed out is new.
func TestWholeLeavesItsListAlone(t *testing.T) {
	room := []rune{0x1100, 0x1161, 0x11a8, 0x1100, 0x1161, 0x11c2, 7}
	before := slices.Clone(room)
	got := Whole(room[:5]...)
	if !slices.Equal(room, before) {
		t.Errorf("%x", room)
	}
	want := slices.Clone(got)
	for i := range room {
		room[i] = 9
	}
	if !slices.Equal(got, want) {
		t.Errorf("%x", got)
	}
	same := []rune{'a', 'b', 0}[:2]
	got = Whole(same...)
	got[0] = 'z'
	if _ = append(got, 'y'); !slices.Equal(same[:3], []rune{'a', 'b', 0}) {
		t.Errorf("%x", same[:3])
	}
}

// P4.5: each syllable comes back; others stay alone.
func TestBack(t *testing.T) {
	numbers(func(r rune) {
		if got := Whole(Apart(r)...); len(got) != 1 || got[0] != r {
			t.Errorf("%x apart and whole: %x", r, got)
		}
	})
}

// P4.5: what was joined falls apart into the parts of the first, and the second.
func TestJoinApart(t *testing.T) {
	n := 0
	see := func(a, b rune) {
		r, ok := Join(a, b)
		if !ok {
			return
		}
		n++
		if got := Apart(r); !slices.Equal(got, append(Apart(a), b)) {
			t.Errorf("%x and %x joined and apart: %x", a, b, got)
		}
	}
	for b := rune(0x10f0); b < 0x11d0; b++ {
		for a := rune(0x10f0); a < 0x11d0; a++ {
			see(a, b)
		}
		for a := rune(0xabf0); a < 0xd7b0; a++ {
			see(a, b)
		}
	}
	if n != 19*21*28 {
		t.Error(n)
	}
}

// P4.6: what is whole is whole again, and so are its parts.
func TestWholeStaysWhole(t *testing.T) {
	lists(func(l []rune) {
		whole := Whole(l...)
		if got := Whole(whole...); !slices.Equal(got, whole) {
			t.Errorf("%x whole twice: %x, not %x", l, got, whole)
		}
		var apart []rune
		for _, r := range whole {
			apart = append(apart, Apart(r)...)
		}
		if got := Whole(apart...); !slices.Equal(got, whole) {
			t.Errorf("%x whole, apart and whole: %x, not %x", l, got, whole)
		}
	})
}
