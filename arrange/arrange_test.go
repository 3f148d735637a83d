package arrange

import (
	"math"
	"math/rand"
	"slices"
	"testing"

	"toponym/chars"
)

// classOf is the class of each mark, as the chapter of characters says it; 0 of all others.
func classOf(r rune) int {
	switch r {
	case 0x327, 0x328:
		return 202
	case 0x323:
		return 220
	case 0x3099, 0x309a:
		return 8
	case 0x300, 0x301, 0x302, 0x303, 0x304, 0x306, 0x307, 0x308, 0x30a, 0x30b, 0x30c:
		return 230
	}
	return 0
}

// marks are all marks, rising.
func marks() []rune {
	return []rune{0x300, 0x301, 0x302, 0x303, 0x304, 0x306, 0x307, 0x308, 0x30a, 0x30b, 0x30c, 0x323, 0x327, 0x328, 0x3099, 0x309a}
}

// outside are numbers that are no code points, and numbers that are no characters.
func outside() []rune {
	return []rune{
		math.MinInt32, -0x301, -1, 0x110000, 0x110301, math.MaxInt32,
		0xd800, 0xdbff, 0xdc00, 0xdfff, 0x305, 0x309, 0x30d, 0x322, 0x324, 0x326, 0x329, 0x340, 0x341, 0x34f,
		0x370, 0x3098, 0x309b, 0xe000, 0xfdd0, 0xfffe, 0xffff, 0x10301, 0x1fffe, 0x10ffff,
	}
}

// plain are numbers without a class, of every kind.
func plain() []rune {
	l := []rune{0, 0x9, 0x20, '0', 'a', 'b', 'z', 0xe9, 0x3b1, 0x438, 0x5d0, 0x1100, 0x200b, 0x304b, 0x4e00, 0xac00, 0xff21}
	return append(l, outside()...)
}

type orderRow struct{ given, want []rune }

func orderRows() []orderRow {
	return []orderRow{
		{nil, nil},
		{[]rune{'a'}, []rune{'a'}},
		{[]rune{0x301}, []rune{0x301}},
		// The chapter's examples.
		{[]rune{0x61, 0x301, 0x327}, []rune{0x61, 0x327, 0x301}},
		{[]rune{0x61, 0x301, 0x62, 0x327}, []rune{0x61, 0x301, 0x62, 0x327}},
		// Marks at the beginning.
		{[]rune{0x301, 0x327}, []rune{0x327, 0x301}},
		{[]rune{0x301, 0x327, 'a'}, []rune{0x327, 0x301, 'a'}},
		{[]rune{0x301, 'a', 0x327}, []rune{0x301, 'a', 0x327}},
		{[]rune{0x323, 0x3099, 'a', 0x323, 0x3099}, []rune{0x3099, 0x323, 'a', 0x3099, 0x323}},
		// Marks of one class, one behind the other.
		{[]rune{'a', 0x308, 0x301}, []rune{'a', 0x308, 0x301}},
		{[]rune{'a', 0x301, 0x308}, []rune{'a', 0x301, 0x308}},
		{[]rune{'a', 0x328, 0x327}, []rune{'a', 0x328, 0x327}},
		{[]rune{'a', 0x309a, 0x3099}, []rune{'a', 0x309a, 0x3099}},
		{[]rune{'a', 0x301, 0x301, 0x301}, []rune{'a', 0x301, 0x301, 0x301}},
		{[]rune{'a', 0x301, 0x308, 0x328, 0x327}, []rune{'a', 0x328, 0x327, 0x301, 0x308}},
		{[]rune{'a', 0x30c, 0x300, 0x327, 0x301}, []rune{'a', 0x327, 0x30c, 0x300, 0x301}},
		// Marks of many classes.
		{[]rune{'a', 0x301, 0x323, 0x327, 0x3099}, []rune{'a', 0x3099, 0x327, 0x323, 0x301}},
		{[]rune{'a', 0x323, 0x301, 0x3099, 0x327, 0x309a, 0x300}, []rune{'a', 0x3099, 0x309a, 0x327, 0x323, 0x301, 0x300}},
		{[]rune{'a', 0x3099, 0x327, 0x323, 0x301}, []rune{'a', 0x3099, 0x327, 0x323, 0x301}},
		// Many runs.
		{[]rune{'a', 0x301, 0x327, 'b', 0x323, 0x328, 'c', 'd', 0x30a, 0x3099}, []rune{'a', 0x327, 0x301, 'b', 0x328, 0x323, 'c', 'd', 0x3099, 0x30a}},
		// What is no character, or of another kind than a mark, parts the runs.
		{[]rune{'a', 0x301, -1, 0x327}, []rune{'a', 0x301, -1, 0x327}},
		{[]rune{-5, 0x301, 0x327, 0x110000, 0x323, 0x328}, []rune{-5, 0x327, 0x301, 0x110000, 0x328, 0x323}},
		{[]rune{'a', 0x301, 0x34f, 0x327}, []rune{'a', 0x301, 0x34f, 0x327}},
		{[]rune{'a', 0x301, 0x341, 0x327}, []rune{'a', 0x301, 0x341, 0x327}},
		{[]rune{'a', 0x301, 0x305, 0x327}, []rune{'a', 0x301, 0x305, 0x327}},
		// Taken as 16 bits these would be marks.
		{[]rune{0x10301, 0x327, 0x10327}, []rune{0x10301, 0x327, 0x10327}},
	}
}

// runsOf are the runs, one character after the other as the chapter's words say.
func runsOf(l []rune) [][]rune {
	var runs [][]rune
	for i, r := range l {
		if i == 0 || classOf(r) == 0 {
			runs = append(runs, nil)
		}
		runs[len(runs)-1] = append(runs[len(runs)-1], r)
	}
	return runs
}

// orderOf takes the marks of each run class by class.
func orderOf(l []rune) []rune {
	var out []rune
	for _, run := range runsOf(l) {
		for class := 0; class <= 255; class++ {
			for _, r := range run {
				if classOf(r) == class {
					out = append(out, r)
				}
			}
		}
	}
	return out
}

func orderedOf(l []rune) bool {
	for i := 1; i < len(l); i++ {
		if classOf(l[i]) > 0 && classOf(l[i-1]) > classOf(l[i]) {
			return false
		}
	}
	return true
}

// somebody is a list by chance: mostly marks, so that runs are long.
func somebody(c *rand.Rand, most int) []rune {
	l := make([]rune, c.Intn(most+1))
	for i := range l {
		from := marks()
		if c.Intn(5) == 0 {
			from = plain()
		}
		l[i] = from[c.Intn(len(from))]
	}
	return l
}

func sameRuns(a, b [][]rune) bool {
	return slices.EqualFunc(a, b, func(x, y []rune) bool { return slices.Equal(x, y) })
}

// checkAll holds every call on a list against the chapter's words.
func checkAll(t *testing.T, l []rune) {
	t.Helper()
	kept := slices.Clone(l)
	order := Order(l...)
	if want := orderOf(l); !slices.Equal(order, want) {
		t.Fatalf("Order %x: %x, want %x", l, order, want)
	}
	if got, want := Ordered(l...), orderedOf(l); got != want {
		t.Fatalf("Ordered %x: %v", l, got)
	}
	if got, want := Runs(l...), runsOf(l); !sameRuns(got, want) {
		t.Fatalf("Runs %x: %x, want %x", l, got, want)
	}
	if !slices.Equal(l, kept) {
		t.Fatalf("%x was changed to %x", kept, l)
	}
}

// The tests stand on the classes that chars tells.
func TestClasses(t *testing.T) {
	for r := rune(-0x100); r <= 0x110100; r++ {
		if chars.Class(r) != classOf(r) {
			t.Fatalf("%x: %d", r, chars.Class(r))
		}
	}
}

// P6.1: the same characters, each run's marks by their classes.
func TestOrder(t *testing.T) {
	for _, row := range orderRows() {
		if got := Order(row.given...); !slices.Equal(got, row.want) {
			t.Errorf("%x: %x, want %x", row.given, got, row.want)
		}
		checkAll(t, row.given)
	}
}

// P6.1: each two marks, and each three, alone and behind a letter.
func TestOrderFewMarks(t *testing.T) {
	for _, a := range marks() {
		for _, b := range marks() {
			want := []rune{'x', a, b}
			if classOf(a) > classOf(b) {
				want = []rune{'x', b, a}
			}
			if got := Order('x', a, b); !slices.Equal(got, want) {
				t.Fatalf("%x %x: %x", a, b, got)
			}
			for _, c := range marks() {
				checkAll(t, []rune{a, b, c})
				checkAll(t, []rune{'x', a, b, c, 'y'})
			}
		}
	}
}

// P6.1: a run with every length, wholly the wrong way round, and with two of each class.
func TestOrderLongRuns(t *testing.T) {
	for _, n := range []int{1, 2, 3, 4, 5, 7, 10, 11, 33, 100, 399, 400, 5000} {
		var given, want []rune
		falling := []rune{0x301, 0x300, 0x323, 0x328, 0x327, 0x309a, 0x3099}
		for _, r := range falling {
			given = append(given, slices.Repeat([]rune{r}, n)...)
		}
		rising := []rune{0x309a, 0x3099, 0x328, 0x327, 0x323, 0x301, 0x300}
		for _, r := range rising {
			want = append(want, slices.Repeat([]rune{r}, n)...)
		}
		if got := Order(given...); !slices.Equal(got, want) {
			t.Fatalf("%d of each", n)
		}
		behind := Order(append([]rune{'a'}, given...)...)
		if behind[0] != 'a' || !slices.Equal(behind[1:], want) {
			t.Fatalf("%d of each, behind a letter", n)
		}
		if Ordered(given...) || !Ordered(want...) {
			t.Fatalf("%d of each: Ordered", n)
		}
	}
}

// P6.1: marks whose classes fall again and again, in a long run.
func TestOrderFallingAgain(t *testing.T) {
	given := slices.Repeat([]rune{0x30c, 0x323, 0x327, 0x3099, 0x300, 0x328, 0x309a}, 700)
	if got := Order(given...); !slices.Equal(got, orderOf(given)) {
		t.Fatal("falling again and again")
	}
}

// A very long run is put in order soon, however it stands.
func TestOrderVeryLong(t *testing.T) {
	const n = 100000
	given := append(slices.Repeat([]rune{0x301}, n), slices.Repeat([]rune{0x3099}, n)...)
	got := Order(given...)
	if len(got) != 2*n || !Ordered(got...) || got[n-1] != 0x3099 || got[n] != 0x301 {
		t.Fatal("a very long run")
	}
}

// P6.2: are they ordered?
func TestOrdered(t *testing.T) {
	for _, row := range orderRows() {
		if got, want := Ordered(row.given...), slices.Equal(row.given, row.want); got != want {
			t.Errorf("%x: %v", row.given, got)
		}
		if !Ordered(row.want...) {
			t.Errorf("%x: ordered, but not told so", row.want)
		}
	}
	if !Ordered() {
		t.Error("no characters at all")
	}
}

// P6.2: what is no mark is never wrong behind a mark, and no mark behind it.
func TestOrderedPlain(t *testing.T) {
	for _, r := range plain() {
		for _, m := range marks() {
			if !Ordered(m, r) || !Ordered(r, m) || !Ordered(m, r, m) || !Ordered(0x301, r, 0x327) {
				t.Errorf("%x, %x", r, m)
			}
			if Ordered(r, 0x301, 0x327) || Ordered(0x301, 0x327, r) {
				t.Errorf("%x: 301 ahead of 327", r)
			}
		}
	}
}

// P6.2: a fault at each place of a long list is seen.
func TestOrderedEachPlace(t *testing.T) {
	for at := range 60 {
		l := slices.Repeat([]rune{0x301}, 60)
		l[at] = 0x323
		if Ordered(l...) != (at == 0) {
			t.Errorf("a lower class at %d", at)
		}
	}
}

// P6.3: the runs, in order.
func TestRuns(t *testing.T) {
	for _, row := range []struct {
		given []rune
		want  [][]rune
	}{
		{nil, nil},
		{[]rune{'a'}, [][]rune{{'a'}}},
		{[]rune{0x301}, [][]rune{{0x301}}},
		{[]rune{0x301, 0x327}, [][]rune{{0x301, 0x327}}},
		{[]rune{0x301, 'a'}, [][]rune{{0x301}, {'a'}}},
		{[]rune{'a', 'b'}, [][]rune{{'a'}, {'b'}}},
		{[]rune{'a', 0x301, 0x327, 'b', 'c', 0x308}, [][]rune{{'a', 0x301, 0x327}, {'b'}, {'c', 0x308}}},
		{[]rune{0x301, 0x301, 'a', 0x301, 'b'}, [][]rune{{0x301, 0x301}, {'a', 0x301}, {'b'}}},
		{[]rune{-1, 0x301, 0x110000, 0x327, 0x327}, [][]rune{{-1, 0x301}, {0x110000, 0x327, 0x327}}},
		{[]rune{0x34f, 0x341, 0x305, 0xd800}, [][]rune{{0x34f}, {0x341}, {0x305}, {0xd800}}},
		{[]rune{0, 0, 0x3099, 0x323, 0}, [][]rune{{0}, {0, 0x3099, 0x323}, {0}}},
	} {
		if got := Runs(row.given...); !sameRuns(got, row.want) {
			t.Errorf("%x: %x, want %x", row.given, got, row.want)
		}
	}
}

// P6.1 to P6.3, P6.5: every number without a class stays where it is, and begins a run.
func TestEveryNumber(t *testing.T) {
	numbers := outside()
	for r := rune(0); r <= 0x10ffff; r++ {
		if classOf(r) == 0 && (r < 0x3400 || r%0x111 == 0) {
			numbers = append(numbers, r)
		}
	}
	for _, r := range numbers {
		if got := Order(0x301, r, 0x323, 0x327); !slices.Equal(got, []rune{0x301, r, 0x327, 0x323}) {
			t.Fatalf("%x: %x", r, got)
		}
		if got := Runs(0x301, r, 0x323); len(got) != 2 || !slices.Equal(got[1], []rune{r, 0x323}) {
			t.Fatalf("%x: %x", r, got)
		}
	}
}

// P6.1 to P6.3: lists by chance.
func TestByChance(t *testing.T) {
	c := rand.New(rand.NewSource(6))
	for range 5000 {
		checkAll(t, somebody(c, 40))
	}
	for range 20 {
		checkAll(t, somebody(c, 2000))
	}
}

// P6.4: what Order tells is ordered, and stays as it is; of each class the marks of a run stay as they stood.
func TestStable(t *testing.T) {
	c := rand.New(rand.NewSource(64))
	for range 3000 {
		l := somebody(c, 30)
		order := Order(l...)
		if !Ordered(order...) || !slices.Equal(Order(order...), order) {
			t.Fatalf("%x: %x", l, order)
		}
		if Ordered(l...) != slices.Equal(l, order) {
			t.Fatalf("%x: what is ordered stays as it is", l)
		}
		checkClasses(t, Runs(l...), Runs(order...))
	}
}

func checkClasses(t *testing.T, given, ordered [][]rune) {
	t.Helper()
	if len(given) != len(ordered) {
		t.Fatalf("%x: %x", given, ordered)
	}
	for i := range given {
		for _, class := range []int{0, 8, 202, 220, 230} {
			if a, b := ofClass(given[i], class), ofClass(ordered[i], class); !slices.Equal(a, b) {
				t.Fatalf("%x: %x, class %d", given[i], ordered[i], class)
			}
		}
	}
}

func ofClass(l []rune, class int) []rune {
	var out []rune
	for _, r := range l {
		if classOf(r) == class {
			out = append(out, r)
		}
	}
	return out
}

// P6.5: Order is the Order of the runs, one behind the other; it moves nothing that has no class.
func TestRunByRun(t *testing.T) {
	c := rand.New(rand.NewSource(65))
	for range 3000 {
		l := somebody(c, 30)
		order := Order(l...)
		var joined, whole []rune
		for _, run := range Runs(l...) {
			whole = append(whole, run...)
			joined = append(joined, Order(run...)...)
		}
		if !slices.Equal(whole, l) || !slices.Equal(joined, order) {
			t.Fatalf("%x: %x, %x", l, whole, joined)
		}
		for i, r := range l {
			if (classOf(r) == 0 || classOf(order[i]) == 0) && order[i] != r {
				t.Fatalf("%x: %x at %d", l, order, i)
			}
		}
	}
}

// What is handed in is not changed, its spare room neither, and not kept.
func TestMemoryGiven(t *testing.T) {
	for _, given := range [][]rune{{'a', 0x301, 0x327, 'b'}, {'a', 0x327, 0x301}, {'a', 'b'}, {0x301, 0x323, 'c'}} {
		room := append(slices.Clone(given), 0x327, 'x', 0x3099)
		l := room[:len(given)]
		order, runs := Order(l...), Runs(l...)
		Ordered(l...)
		if !slices.Equal(room, append(slices.Clone(given), 0x327, 'x', 0x3099)) {
			t.Fatalf("%x: %x", given, room)
		}
		kept, keptRuns := slices.Clone(order), runsOf(given)
		for i := range room {
			room[i] = 'z'
		}
		if !slices.Equal(order, kept) || !sameRuns(runs, keptRuns) {
			t.Fatalf("%x: an answer hangs on what was handed in", given)
		}
	}
}

// What is handed out is new memory: no two runs share any, not even their spare room.
func TestMemoryTold(t *testing.T) {
	l := []rune{0x301, 'a', 0x301, 0x327, 'b', 'c', 0x308}
	for i := range Runs(l...) {
		runs, want := Runs(l...), runsOf(l)
		for j := range runs[i] {
			runs[i][j] = 'z'
		}
		_ = append(runs[i], 'z', 'z', 'z')
		for j := range runs {
			if j != i && !slices.Equal(runs[j], want[j]) {
				t.Fatalf("run %d shares with run %d: %x", j, i, runs)
			}
		}
	}
	first, second := Order(l...), Order(l...)
	for i := range first {
		first[i] = 'z'
	}
	_ = append(first, 'z')
	if !slices.Equal(second, orderOf(l)) {
		t.Fatal("two answers share memory")
	}
}
