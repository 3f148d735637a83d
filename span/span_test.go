package span

import (
	"math"
	"math/rand"
	"slices"
	"testing"

	"toponym/api"
)

func sp(from, to rune, has int) api.Span { return api.Span{From: from, To: to, Has: has} }

// dots are n spans of one number each, every one two behind the one ahead.
func dots(n int) []api.Span {
	l := make([]api.Span, 0, n)
	for i := range n {
		l = append(l, sp(rune(2*i), rune(2*i), 1))
	}
	return l
}

// chain are n spans of three numbers each that touch, and have 1 and 2 by turns.
func chain(n int) []api.Span {
	l := make([]api.Span, 0, n)
	for i := range n {
		l = append(l, sp(rune(3*i), rune(3*i+2), 1+i%2))
	}
	return l
}

func tables() [][]api.Span {
	return [][]api.Span{
		nil,
		{},
		{sp(0, 0, 1)},
		{sp(0, 0x10ffff, 1)},
		{sp(0x10ffff, 0x10ffff, 7)},
		{sp(0, 5, -1)},
		{sp(0, 5, math.MaxInt), sp(6, 9, math.MinInt)},
		{sp(1, 2, 1), sp(3, 4, 2)},
		{sp(1, 2, 1), sp(3, 3, 2), sp(4, 9, 1)},
		{sp(1, 2, 1), sp(4, 5, 1)},
		{sp(0, 0xd7ff, 1), sp(0xd800, 0xdfff, 2), sp(0xe000, 0x10ffff, 1)},
		{sp(0, 0, 1), sp(0x10fffe, 0x10fffe, 2), sp(0x10ffff, 0x10ffff, 1)},
		dots(500),
		chain(500),
	}
}

// wrongSpans may not be, whatever they have.
func wrongSpans() []api.Span {
	return []api.Span{
		sp(-1, -1, 1), sp(-1, 0, 1), sp(-1, 5, 1), sp(math.MinInt32, 5, 1), sp(math.MinInt32, math.MaxInt32, 1), sp(math.MinInt32, math.MinInt32, 1),
		sp(0, -1, 1), sp(5, 4, 1), sp(5, 0, 2), sp(5, -5, 2), sp(0x10ffff, 0x10fffe, 1), sp(0, math.MinInt32, 1),
		sp(0, 0x110000, 1), sp(0x10ffff, 0x110000, 1), sp(0x110000, 0x110000, 1), sp(0, math.MaxInt32, 1), sp(math.MaxInt32, math.MaxInt32, 1), sp(math.MaxInt32, 0, 1),
	}
}

// strangers are lists that are no table.
func strangers() [][]api.Span {
	l := [][]api.Span{
		// Has 0.
		{sp(1, 2, 0)}, {sp(0, 0x10ffff, 0)}, {sp(1, 2, 1), sp(4, 5, 0)}, {sp(1, 2, 0), sp(4, 5, 1)},
		// One that touches, and has the same.
		{sp(1, 2, 1), sp(3, 4, 1)}, {sp(0, 0, 1), sp(1, 1, 2), sp(2, 2, 2)}, {sp(0, 0x10fffe, -3), sp(0x10ffff, 0x10ffff, -3)},
		// From not above the To ahead.
		{sp(1, 2, 1), sp(2, 4, 2)}, {sp(1, 9, 1), sp(3, 4, 2)}, {sp(1, 2, 1), sp(1, 2, 1)}, {sp(5, 6, 1), sp(1, 2, 1)}, {sp(5, 6, 1), sp(1, 2, 2)}, {sp(3, 4, 2), sp(1, 2, 1)},
		{sp(5, 5, 1), sp(5, 5, 2)}, {sp(1, 2, 1), sp(5, 6, 1), sp(3, 4, 2)}, {sp(0, 0x10ffff, 1), sp(0, 0x10ffff, 2)},
		// More than 500.
		dots(501), chain(501), dots(600),
		// The number behind To would leave the range of runes.
		{sp(0, math.MaxInt32, 1), sp(math.MinInt32, 0, 1)}, {sp(0, math.MaxInt32, 1), sp(math.MinInt32, 0, 2)},
	}
	for _, s := range wrongSpans() {
		l = append(l, []api.Span{s}, []api.Span{sp(0, 0, 3), s}, []api.Span{s, sp(0x10ffff, 0x10ffff, 3)}, append(dots(40), s))
	}
	return l
}

// places are numbers at all edges of spans, and beside them, and outside of all that may be.
func places(l []api.Span) []rune {
	out := []rune{math.MinInt32, -0x10ffff, -1, 0, 1, 2, 3, 0xd800, 0x10fffe, 0x10ffff, 0x110000, math.MaxInt32}
	for _, s := range l {
		for d := rune(-1); d <= 1; d++ {
			out = append(out, s.From+d, s.To+d)
		}
	}
	return out
}

// firstHas is what a number has in a table, looked for span by span.
func firstHas(l []api.Span, r rune) int {
	for _, s := range l {
		if s.From <= r && r <= s.To {
			return s.Has
		}
	}
	return 0
}

// lastHas is what the last span that holds a number has.
func lastHas(l []api.Span, r rune) int {
	has := 0
	for _, s := range l {
		if s.From <= r && r <= s.To {
			has = s.Has
		}
	}
	return has
}

// painted is the table of what each number has, made number by number.
func painted(l []api.Span) []api.Span {
	all := make([]int, 0x110000)
	for _, s := range l {
		for r := s.From; r <= s.To; r++ {
			all[r] = s.Has
		}
	}
	var out []api.Span
	for r, has := range all {
		n := len(out)
		switch {
		case has == 0:
		case n > 0 && out[n-1].To == rune(r-1) && out[n-1].Has == has:
			out[n-1].To = rune(r)
		default:
			out = append(out, sp(rune(r), rune(r), has))
		}
	}
	return out
}

// chance gives lists of spans that may be, many of them with the same edges.
func chance(rnd *rand.Rand) []api.Span {
	wide := []int{4, 12, 60, 0x110000}[rnd.Intn(4)]
	l := make([]api.Span, rnd.Intn(14))
	for i := range l {
		a, b := rune(rnd.Intn(wide)), rune(rnd.Intn(wide))
		l[i] = sp(min(a, b), max(a, b), rnd.Intn(4)-1)
	}
	return l
}

func mustBuild(t *testing.T, l []api.Span) []api.Span {
	t.Helper()
	table, e := Build(l...)
	if e != api.OK || Check(table) != api.OK {
		t.Fatalf("Build of %v: %v, %d", l, table, int(e))
	}
	return table
}

// P2.1.
func TestCheck(t *testing.T) {
	for _, l := range tables() {
		if e := Check(l); e != api.OK {
			t.Errorf("a table of %d: %d", len(l), int(e))
		}
	}
	for _, l := range strangers() {
		if e := Check(l); e != api.ErrSpan {
			t.Errorf("no table, of %d: %d", len(l), int(e))
		}
	}
	for _, n := range []int{499, 500} {
		if Check(dots(n)) != api.OK || Check(chain(n)) != api.OK {
			t.Error(n)
		}
	}
}

// P2.1: a fault is found wherever it stands.
func TestCheckEachPlace(t *testing.T) {
	for i := range 500 {
		l := dots(500)
		l[i].Has = 0
		if Check(l) != api.ErrSpan {
			t.Error(i, "Has 0")
		}
		l = chain(500)
		l[i].To--
		if Check(l) != api.OK {
			t.Error(i, "a gap")
		}
		l[i].To += 2
		if i < 499 && Check(l) != api.ErrSpan {
			t.Error(i, "one held twice")
		}
		l = chain(500)
		l[i].Has = 3 - l[i].Has
		if Check(l) != api.ErrSpan {
			t.Error(i, "the same Has")
		}
	}
}

// P2.2.
func TestFind(t *testing.T) {
	for _, l := range tables() {
		for _, r := range places(l) {
			if got := Find(l, r); got != firstHas(l, r) {
				t.Errorf("Find of %x among %d: %d, not %d", r, len(l), got, firstHas(l, r))
			}
		}
	}
	whole := []api.Span{sp(0, 0xd7ff, 1), sp(0xd800, 0xdfff, -2), sp(0x10fffe, 0x10ffff, 3)}
	for r, has := range map[rune]int{-1: 0, 0: 1, 0xd7ff: 1, 0xd800: -2, 0xdfff: -2, 0xe000: 0, 0x10fffd: 0, 0x10fffe: 3, 0x10ffff: 3, 0x110000: 0, math.MinInt32: 0, math.MaxInt32: 0} {
		if got := Find(whole, r); got != has {
			t.Errorf("Find of %x: %d, not %d", r, got, has)
		}
	}
}

// P2.2: nothing is found where there is no table.
func TestFindOfOthers(t *testing.T) {
	for _, l := range strangers() {
		for _, r := range places(l) {
			if got := Find(l, r); got != 0 {
				t.Errorf("Find of %x among %d that are no table: %d", r, len(l), got)
			}
		}
	}
}

// P2.3: the document's example, and others by hand.
func TestBuild(t *testing.T) {
	for _, c := range []struct{ of, want []api.Span }{
		{nil, nil},
		{[]api.Span{sp(0x10, 0x20, 1), sp(0x15, 0x17, 2), sp(0x21, 0x30, 1)}, []api.Span{sp(0x10, 0x14, 1), sp(0x15, 0x17, 2), sp(0x18, 0x30, 1)}},
		{[]api.Span{sp(0, 0x10ffff, 1)}, []api.Span{sp(0, 0x10ffff, 1)}},
		{[]api.Span{sp(0, 0, 1), sp(0x10ffff, 0x10ffff, 1)}, []api.Span{sp(0, 0, 1), sp(0x10ffff, 0x10ffff, 1)}},
		{[]api.Span{sp(0, 0x10ffff, 0)}, nil},
		{[]api.Span{sp(3, 9, 4), sp(3, 9, 0)}, nil},
		{[]api.Span{sp(3, 9, 0), sp(3, 9, 4)}, []api.Span{sp(3, 9, 4)}},
		{[]api.Span{sp(3, 9, 4), sp(5, 6, 0)}, []api.Span{sp(3, 4, 4), sp(7, 9, 4)}},
		{[]api.Span{sp(0, 0x10ffff, 4), sp(0, 0, 0), sp(0x10ffff, 0x10ffff, 0)}, []api.Span{sp(1, 0x10fffe, 4)}},
		{[]api.Span{sp(1, 2, 5), sp(3, 4, 5)}, []api.Span{sp(1, 4, 5)}},
		{[]api.Span{sp(3, 4, 5), sp(1, 2, 5)}, []api.Span{sp(1, 4, 5)}},
		{[]api.Span{sp(1, 2, 5), sp(3, 4, 6)}, []api.Span{sp(1, 2, 5), sp(3, 4, 6)}},
		{[]api.Span{sp(1, 2, 5), sp(4, 5, 5)}, []api.Span{sp(1, 2, 5), sp(4, 5, 5)}},
		{[]api.Span{sp(1, 9, 5), sp(3, 4, 6), sp(3, 4, 5)}, []api.Span{sp(1, 9, 5)}},
		{[]api.Span{sp(3, 4, 6), sp(1, 9, 5)}, []api.Span{sp(1, 9, 5)}},
		{[]api.Span{sp(1, 5, -1), sp(4, 9, math.MinInt), sp(9, 9, math.MaxInt)}, []api.Span{sp(1, 3, -1), sp(4, 8, math.MinInt), sp(9, 9, math.MaxInt)}},
	} {
		got, e := Build(c.of...)
		if e != api.OK || !slices.Equal(got, c.want) {
			t.Errorf("Build of %v: %v, %d", c.of, got, int(e))
		}
	}
}

// P2.3: what is built is what was painted, number by number.
func TestBuildAsPainted(t *testing.T) {
	rnd := rand.New(rand.NewSource(2))
	for range 300 {
		l := chance(rnd)
		if got := mustBuild(t, l); !slices.Equal(got, painted(l)) {
			t.Fatalf("Build of %v: %v, not %v", l, got, painted(l))
		}
	}
}

// P2.3: 200 may be built, and cut the table into as many pieces as can be; 201 may not.
func TestBuildMost(t *testing.T) {
	l := []api.Span{sp(0, 0x10ffff, 2)}
	for i := range 199 {
		l = append(l, sp(rune(2*i+1), rune(2*i+1), 1))
	}
	got := mustBuild(t, l)
	if len(got) != 399 || !slices.Equal(got, painted(l)) {
		t.Error(len(got))
	}
	if got, e := Build(append(l, sp(9, 9, 1))...); e != api.ErrSpan || len(got) != 0 {
		t.Error("201", len(got), int(e))
	}
	if got, e := Build(dots(200)...); e != api.OK || len(got) != 200 {
		t.Error("200 dots", len(got), int(e))
	}
	if got, e := Build(dots(201)...); e != api.ErrSpan || len(got) != 0 {
		t.Error("201 dots", len(got), int(e))
	}
	if got, e := Build(make([]api.Span, 201)...); e != api.ErrSpan || len(got) != 0 {
		t.Error("201 with 0", len(got), int(e))
	}
}

// P2.3: a span that may not be is told, wherever it stands and whatever it has.
func TestBuildOfOthers(t *testing.T) {
	for _, s := range wrongSpans() {
		for _, has := range []int{s.Has, 0} {
			s.Has = has
			for i := range 4 {
				l := slices.Insert([]api.Span{sp(1, 5, 1), sp(0, 0x10ffff, 2), sp(3, 4, 0)}, i, s)
				if got, e := Build(l...); e != api.ErrSpan || len(got) != 0 {
					t.Errorf("Build of %v: %v, %d", l, got, int(e))
				}
			}
		}
	}
}

// P2.4.
func TestCount(t *testing.T) {
	l := []api.Span{sp(0, 0, 1), sp(2, 5, 2), sp(6, 6, 1), sp(7, 9, -4), sp(0x10fff0, 0x10ffff, 1)}
	for has, n := range map[int]int{1: 18, 2: 4, -4: 3, 0: 0, 3: 0, 4: 0, math.MaxInt: 0, math.MinInt: 0} {
		if got := Count(l, has); got != n {
			t.Errorf("Count of %d: %d, not %d", has, got, n)
		}
	}
	if n := Count([]api.Span{sp(0, 0x10ffff, 1)}, 1); n != 0x110000 {
		t.Error(n)
	}
	if Count(dots(500), 1) != 500 || Count(chain(500), 2) != 750 || Count(nil, 1) != 0 || Count(nil, 0) != 0 {
		t.Error("500")
	}
	for _, l := range strangers() {
		for _, has := range []int{-3, 0, 1, 2, 3} {
			if n := Count(l, has); n != 0 {
				t.Errorf("%d numbers with %d among %d that are no table", n, has, len(l))
			}
		}
	}
}

// P2.4: what is counted is what is found.
func TestCountAsFound(t *testing.T) {
	rnd := rand.New(rand.NewSource(4))
	for range 200 {
		l := mustBuild(t, chance(rnd))
		for _, has := range []int{-1, 0, 1, 2} {
			n := 0
			for _, s := range l {
				if s.Has == has {
					n += int(s.To) - int(s.From) + 1
				}
			}
			if Count(l, has) != n {
				t.Fatalf("Count of %d in %v: %d, not %d", has, l, Count(l, has), n)
			}
		}
	}
}

// P2.5.
func TestLast(t *testing.T) {
	rnd := rand.New(rand.NewSource(5))
	for range 500 {
		l := chance(rnd)
		table := mustBuild(t, l)
		for _, r := range places(l) {
			if got := Find(table, r); got != lastHas(l, r) {
				t.Fatalf("Find of %x in what %v built: %d, not %d", r, l, got, lastHas(l, r))
			}
		}
	}
}

// P2.6.
func TestLeast(t *testing.T) {
	rnd := rand.New(rand.NewSource(6))
	some := tables()
	for range 200 {
		some = append(some, mustBuild(t, chance(rnd)))
	}
	for _, table := range append(some, dots(200), chain(200)) {
		if len(table) > 200 {
			continue
		}
		l := slices.Clone(table)
		for range 6 {
			if got := mustBuild(t, l); !slices.Equal(got, table) {
				t.Fatalf("Build of %v: %v, not %v", l, got, table)
			}
			rnd.Shuffle(len(l), func(i, j int) { l[i], l[j] = l[j], l[i] })
		}
	}
}

// P2.7: of all lists of up to three spans of few numbers, no two are tables that tell the same.
func TestSameTables(t *testing.T) {
	const top = 5
	spans := []api.Span{}
	for from := range rune(top) {
		for to := range rune(top) {
			spans = append(spans, sp(from, to, 0), sp(from, to, 1), sp(from, to, 2))
		}
	}
	told := map[[top]int][]api.Span{}
	see := func(l ...api.Span) {
		if Check(l) != api.OK {
			return
		}
		var what [top]int
		for r := range rune(top) {
			what[r] = Find(l, r)
		}
		if other, ok := told[what]; ok {
			t.Errorf("%v and %v tell the same", other, l)
		}
		told[what] = l
		if got := mustBuild(t, l); !slices.Equal(got, l) {
			t.Errorf("Build of %v: %v", l, got)
		}
	}
	see()
	for _, a := range spans {
		see(a)
		for _, b := range spans {
			see(a, b)
			for _, c := range spans {
				see(a, b, c)
			}
		}
	}
	// Of five numbers with 0, 1 or 2 each there are 243 ways; those of more than three spans are not among the lists.
	if len(told) != waysOfSpans(top, 3) {
		t.Error(len(told))
	}
}

// waysOfSpans counts the ways in which top numbers have 0, 1 or 2 each with at most most spans.
func waysOfSpans(top, most int) int {
	n, all := 0, 1
	for range top {
		all *= 3
	}
	for way := range all {
		spans, ahead := 0, 0
		for range top {
			if has := way % 3; has != ahead {
				ahead = has
				if has != 0 {
					spans++
				}
			}
			way /= 3
		}
		if spans <= most {
			n++
		}
	}
	return n
}

// P2.7: lists that say the same of each number, in other ways, build the same table.
func TestSameBuilt(t *testing.T) {
	rnd := rand.New(rand.NewSource(7))
	for range 300 {
		l := chance(rnd)
		var cut []api.Span
		for _, s := range l {
			at := s.From + rune(rnd.Intn(int(s.To-s.From)+1))
			cut = append(cut, sp(s.From, at, rnd.Intn(9)), sp(at, s.To, s.Has), sp(s.From, at, s.Has))
		}
		a, b := mustBuild(t, l), mustBuild(t, cut)
		if !slices.Equal(a, b) {
			t.Fatalf("%v and %v: %v and %v", l, cut, a, b)
		}
	}
}

// Rule 4: what is handed in stays as it is, its spare room too; what is handed out is new.
func TestMemory(t *testing.T) {
	room := []api.Span{sp(1, 9, 1), sp(10, 20, 1), sp(4, 5, 2), sp(77, 78, 79), sp(-1, -2, 3)}
	before := slices.Clone(room)
	first, _ := Build(room[:3]...)
	want := slices.Clone(first)
	Check(room[:3])
	Find(room[:1], 4)
	Count(room[:1], 1)
	Build(room...)
	if !slices.Equal(room, before) {
		t.Error(room)
	}
	table := append(make([]api.Span, 0, 9), sp(1, 2, 1), sp(3, 4, 2))
	same, _ := Build(table...)
	same[0].Has = 9
	if table[0].Has != 1 {
		t.Error("an answer shares its argument's memory")
	}
	second, _ := Build(room[:3]...)
	if !slices.Equal(first, want) || !slices.Equal(second, want) || &first[0] == &second[0] {
		t.Error(first, second)
	}
}
