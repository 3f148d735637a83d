package attrs

import (
	"fmt"
	"math"
	"math/rand"
	"regexp"
	"slices"
	"strings"
	"testing"

	"toponym/api"
)

// strange is numbers that are neither a syntax nor a rule.
var strange = []int{math.MinInt, math.MinInt + 1, math.MinInt32, -256, -12, -11, -10, -2, -1, 12, 13, 16, 100, 255, 256, 257, 258, 1 << 32, 1<<32 + 1, 1<<32 + 3, math.MaxInt32, math.MaxInt - 1, math.MaxInt}

// theRules is the rules of each syntax, as the chapter's words say them, by the numbers that the document's api gives them.
var theRules = map[int][]int{
	1: {0, 1, 2}, 2: {0, 1, 2}, 3: {0, 3}, 4: {0, 4}, 5: {0, 5}, 6: {0, 6}, 7: {0, 7}, 8: {0, 8}, 9: {0, 9}, 10: {0, 10, 11},
}

var wordText = regexp.MustCompile(`\A[a-z][a-z0-9-]{0,15}\z`)

// told is what is told of types: each in short, but not too many.
func told(l []api.Attr) string {
	var b strings.Builder
	for _, a := range l[:min(len(l), 30)] {
		fmt.Fprintf(&b, "[%.20q above %.20q syntax %d rule %d]", a.Name, a.Above, a.Syntax, a.Rule)
	}
	return fmt.Sprintf("%d types %s", len(l), b.String())
}

// stopAtFault ends a test that goes through many types at its first faults: the others would tell nothing more.
func stopAtFault(t *testing.T) {
	t.Helper()
	if t.Failed() {
		t.FailNow()
	}
}

// plain is types of SyntaxText, each written as its Name, or as its Name, a < and its Above.
func plain(texts ...string) []api.Attr {
	var l []api.Attr
	for _, s := range texts {
		name, above, _ := strings.Cut(s, "<")
		l = append(l, api.Attr{Name: name, Above: above, Syntax: 1, Rule: 2})
	}
	return l
}

// numbered is so many types of SyntaxText without an Above: a00, a01, and so on.
func numbered(n int) []api.Attr {
	var l []api.Attr
	for i := range n {
		l = append(l, api.Attr{Name: fmt.Sprintf("a%02d", i), Syntax: 1})
	}
	return l
}

// modelMay tells whether types may be, written anew out of the chapter's words: who is above whom is worked out for all at once.
func modelMay(l []api.Attr) bool {
	if len(l) > 24 {
		return false
	}
	above := map[[2]string]bool{}
	for i, a := range l {
		if !wordText.MatchString(a.Name) || !slices.Contains(theRules[a.Syntax], a.Rule) {
			return false
		}
		if i > 0 && strings.Compare(l[i-1].Name, a.Name) != -1 {
			return false
		}
		if a.Above == "" {
			continue
		}
		j := slices.IndexFunc(l, func(b api.Attr) bool { return b.Name == a.Above })
		if j < 0 || j == i || l[j].Syntax != a.Syntax {
			return false
		}
		above[[2]string{a.Name, a.Above}] = true
	}
	for _, m := range l {
		for _, a := range l {
			for _, b := range l {
				if above[[2]string{a.Name, m.Name}] && above[[2]string{m.Name, b.Name}] {
					above[[2]string{a.Name, b.Name}] = true
				}
			}
		}
	}
	return !slices.ContainsFunc(l, func(a api.Attr) bool { return above[[2]string{a.Name, a.Name}] })
}

// modelLine is the Line of a name, of types that may be.
func modelLine(l []api.Attr, name string) []string {
	for _, a := range l {
		if a.Name == name {
			return append([]string{name}, modelLine(l, a.Above)...)
		}
	}
	return nil
}

// modelBelow is Below of some names, of types that may be.
func modelBelow(l []api.Attr, names ...string) []string {
	var below []string
	for _, a := range l {
		up := modelLine(l, a.Name)
		if slices.ContainsFunc(names, func(n string) bool { return slices.Contains(up, n) }) {
			below = append(below, a.Name)
		}
	}
	slices.Sort(below)
	return below
}

// asked is the names that types are asked for: all that stand in them, and some that do not.
func asked(l []api.Attr) []string {
	names := []string{"", "x", "zz", "A", "Name", "a ", " a", "cn\x00", "\xff", strings.Repeat("a", 17)}
	for _, a := range l {
		names = append(names, a.Name, a.Above)
	}
	slices.Sort(names)
	return slices.Compact(names)
}

// seeWrong looks that types may not be, for each call (P20.1 to P20.3).
func seeWrong(t *testing.T, l []api.Attr) {
	t.Helper()
	was := slices.Clone(l)
	if e := Check(l); e != api.ErrAttr {
		t.Errorf("Check of %s: %d", told(l), int(e))
	}
	names := asked(l[:min(len(l), 30)])
	for _, n := range names {
		if a, ok := Find(l, n); ok || a != (api.Attr{}) {
			t.Errorf("Find of %q in %s: %v %t", n, told(l), a, ok)
		}
		if m := Line(l, n); len(m) != 0 {
			t.Errorf("Line of %q in %s: %q", n, told(l), m)
		}
		if m := Below(l, n); len(m) != 0 {
			t.Errorf("Below of %q in %s: %q", n, told(l), m)
		}
		for _, above := range names {
			if Is(l, n, above) {
				t.Errorf("Is of %q and %q in %s", n, above, told(l))
			}
		}
	}
	if m := Below(l, names...); len(m) != 0 {
		t.Errorf("Below of all in %s: %q", told(l), m)
	}
	if len(Below(l)) != 0 {
		t.Errorf("Below of none in %s", told(l))
	}
	if !slices.Equal(l, was) {
		t.Errorf("%s have been changed to %s", told(was), told(l))
	}
}

// seeRight looks that types may be, and what each call answers of them (P20.1 to P20.3).
func seeRight(t *testing.T, l []api.Attr) {
	t.Helper()
	was := slices.Clone(l)
	if e := Check(l); e != api.OK {
		t.Errorf("Check of %s: %d", told(l), int(e))
	}
	names := asked(l)
	for _, n := range names {
		seeFind(t, l, n)
		up := modelLine(l, n)
		if m := Line(l, n); !slices.Equal(m, up) {
			t.Errorf("Line of %q in %s: %q, not %q", n, told(l), m, up)
		}
		for _, above := range names {
			if got, want := Is(l, n, above), slices.Contains(up, above); got != want {
				t.Errorf("Is of %q and %q in %s: %t", n, above, told(l), got)
			}
		}
		seeBelow(t, l, n)
	}
	seeBelow(t, l)
	seeBelow(t, l, names...)
	seeLines(t, l)
	seeSelf(t, l)
	if !slices.Equal(l, was) {
		t.Errorf("%s have been changed to %s", told(was), told(l))
	}
}

// seeFind looks that a type is found, with all that it has, or none.
func seeFind(t *testing.T, l []api.Attr, name string) {
	t.Helper()
	var want api.Attr
	there := false
	for _, a := range l {
		if a.Name == name {
			want, there = a, true
		}
	}
	if a, ok := Find(l, name); a != want || ok != there {
		t.Errorf("Find of %q in %s: %v %t", name, told(l), a, ok)
	}
}

// seeBelow looks that just those are Below some names that the model says.
func seeBelow(t *testing.T, l []api.Attr, names ...string) {
	t.Helper()
	want := modelBelow(l, names...)
	if m := Below(l, names...); !slices.Equal(m, want) {
		t.Errorf("Below of %q in %s: %q, not %q", names, told(l), m, want)
	}
}

// seeLines looks at what follows for the lines of types that may be (P20.4).
func seeLines(t *testing.T, l []api.Attr) {
	t.Helper()
	for _, a := range l {
		up := Line(l, a.Name)
		for i, n := range up {
			if slices.Contains(up[:i], n) {
				t.Errorf("Line of %q in %s has %q twice", a.Name, told(l), n)
			}
			if b, ok := Find(l, n); !ok || b.Syntax != a.Syntax {
				t.Errorf("Line of %q in %s has %q: %v %t", a.Name, told(l), n, b, ok)
			}
			if rest := Line(l, n); !slices.Equal(rest, up[i:]) {
				t.Errorf("Line of %q in %s: %q, but it is in the Line %q", n, told(l), rest, up)
			}
		}
	}
}

// seeSelf looks at what follows for what is below the types that may be (P20.5).
func seeSelf(t *testing.T, l []api.Attr) {
	t.Helper()
	for _, a := range l {
		up := Line(l, a.Name)
		for _, b := range l {
			below := slices.Contains(Below(l, b.Name), a.Name)
			if below != slices.Contains(up, b.Name) || below != Is(l, a.Name, b.Name) || !below && a == b {
				t.Errorf("%q is below %q: %t, in %s", a.Name, b.Name, below, told(l))
			}
		}
	}
}

// seeModel looks that types may be just as the model says.
func seeModel(t *testing.T, l []api.Attr) {
	t.Helper()
	if modelMay(l) {
		seeRight(t, l)
	} else {
		seeWrong(t, l)
	}
}

// TestRules: P20.1.
func TestRules(t *testing.T) {
	named := map[int][]int{
		api.SyntaxText:    {api.RuleNone, api.RuleExact, api.RuleFold},
		api.SyntaxIA5:     {api.RuleNone, api.RuleExact, api.RuleFold},
		api.SyntaxInteger: {api.RuleNone, api.RuleInteger},
		api.SyntaxBoolean: {api.RuleNone, api.RuleBoolean},
		api.SyntaxOctets:  {api.RuleNone, api.RuleOctets},
		api.SyntaxName:    {api.RuleNone, api.RuleName},
		api.SyntaxNumeric: {api.RuleNone, api.RuleNumeric},
		api.SyntaxPhone:   {api.RuleNone, api.RulePhone},
		api.SyntaxOid:     {api.RuleNone, api.RuleOid},
		api.SyntaxGauss:   {api.RuleNone, api.RuleGauss, api.RuleGaussNear},
	}
	for s := -1000; s <= 1000; s++ {
		got := Rules(s)
		if !slices.Equal(got, theRules[s]) || !slices.Equal(got, named[s]) {
			t.Errorf("Rules of %d: %v", s, got)
		}
		if !slices.IsSorted(got) || (len(got) > 0) != (s >= 1 && s <= 10) {
			t.Errorf("Rules of %d: %v", s, got)
		}
	}
	for _, s := range strange {
		if l := Rules(s); len(l) != 0 {
			t.Errorf("Rules of %d: %v", s, l)
		}
	}
	// Each single bit from 16 on, and all that lie just beside it.
	for i := 4; i < 64; i++ {
		for by := -1; by <= 1; by++ {
			if n := int(uint(1)<<i) + by; len(Rules(n)) != 0 {
				t.Errorf("Rules of %d: %v", n, Rules(n))
			}
		}
	}
}

// TestCheckRules: P20.1, each rule against each syntax.
func TestCheckRules(t *testing.T) {
	numbers := append([]int{0, 1, 2, 3, 4, 5, 6, 7, 8, 9, 10, 11}, strange...)
	right := 0
	for _, s := range numbers {
		for _, r := range numbers {
			want := api.ErrAttr
			if slices.Contains(theRules[s], r) {
				want = api.OK
				right++
			}
			one := api.Attr{Name: "m", Syntax: s, Rule: r}
			for _, l := range [][]api.Attr{
				{one},
				{{Name: "a", Syntax: 1}, one},
				{one, {Name: "z", Syntax: 10, Rule: 11}},
				{{Name: "a", Syntax: 1}, one, {Name: "z", Syntax: 2, Rule: 2}},
			} {
				if e := Check(l); e != want {
					t.Errorf("Check of %s: %d, not %d", told(l), int(e), int(want))
				}
				seeModel(t, l)
			}
		}
	}
	if right != 23 {
		t.Errorf("%d pairs of a syntax and a rule of its own", right)
	}
	// One above has the same syntax; its rule may be another one.
	for s, rules := range theRules {
		for _, r := range rules {
			for _, q := range rules {
				seeRight(t, []api.Attr{{Name: "a", Above: "b", Syntax: s, Rule: r}, {Name: "b", Syntax: s, Rule: q}})
			}
		}
	}
}

// TestCheckCount: P20.1, no types at all, MaxTypes of them, and more.
func TestCheckCount(t *testing.T) {
	if api.MaxTypes != 24 {
		t.Fatal(api.MaxTypes)
	}
	seeRight(t, nil)
	seeRight(t, []api.Attr{})
	for n := range 25 {
		seeRight(t, numbered(n))
	}
	for _, n := range []int{25, 26, 48, 49, 99, 100} {
		seeWrong(t, numbered(n))
		l := numbered(n)
		for i := range n - 1 {
			l[i].Above = l[i+1].Name
		}
		seeWrong(t, l)
	}
	seeWrong(t, make([]api.Attr, 1<<20))
}

// TestCheckNames: P20.1, the Names are words.
func TestCheckNames(t *testing.T) {
	for _, n := range []string{"a", "z", "m", "a1", "a-", "a--", "z9", "cn", "telephone-number", strings.Repeat("a", 15), strings.Repeat("z", 16), "x" + strings.Repeat("-", 15), "a" + strings.Repeat("0", 15)} {
		seeRight(t, plain(n))
		seeModel(t, plain("a", n))
		seeModel(t, plain(n, "zzzzzzzzzzzzzzzz"))
	}
	for _, n := range []string{"", "A", "Z", "1", "-", "0a", "-a", " ", "a ", " a", "a b", "a_b", "aB", "cN", "a.b", "a=", "a;b", "2.5.4.3", "a\x00", "\x00", "\xff", "a\xff", "\u00e9", "a\u00e9", "a\u0301", "\u0430", "a\u212a", strings.Repeat("a", 17), strings.Repeat("a", 32), strings.Repeat("z", 100000), "`", "{", "a`", "a{", "a/", "a:", "a,"} {
		seeWrong(t, plain(n))
		for _, l := range [][]api.Attr{
			{{Name: n, Syntax: 1}, {Name: "zzzzzzzzzzzzzzzz", Syntax: 1}},
			{{Name: "a", Syntax: 1}, {Name: n, Syntax: 1}},
			{{Name: "a", Syntax: 1}, {Name: n, Syntax: 1}, {Name: "zzzzzzzzzzzzzzzz", Syntax: 1}},
			{{Name: "a", Above: n, Syntax: 1}, {Name: n, Syntax: 1}},
		} {
			seeWrong(t, l)
		}
	}
	// Each byte in each place.
	for b := range 256 {
		one := string([]byte{byte(b)})
		for _, n := range []string{one, "a" + one, one + "a", "a" + one + "a"} {
			seeModel(t, plain(n))
		}
	}
}

// TestCheckRising: P20.1, Names that rise, that are the same twice, that fall.
func TestCheckRising(t *testing.T) {
	for _, l := range [][]api.Attr{
		plain("a", "b"), plain("a", "a-"), plain("a-", "a0"), plain("a0", "a1"), plain("a1", "a10"), plain("a10", "a2"), plain("a9", "aa"), plain("a", "aa"), plain("az", "b"), plain("a", "b", "c"),
		plain(strings.Repeat("a", 15), strings.Repeat("a", 16)), plain(strings.Repeat("a", 15)+"y", strings.Repeat("a", 15)+"z"),
	} {
		seeRight(t, l)
		slices.Reverse(l)
		seeWrong(t, l)
	}
	for _, l := range [][]api.Attr{
		plain("a", "a"), plain("b", "a"), plain("a", "a", "b"), plain("a", "b", "b"), plain("a", "b", "a"), plain("b", "a", "c"), plain("a", "c", "b"), plain("a", "a", "a"), plain("c", "b", "a"), plain("b", "c", "a"), plain("c", "a", "b"),
		plain("a<b", "a", "b"), plain("a", "a<b", "b"), plain("a", "b<a", "b"), plain("b<a", "a"), plain("aa", "a"), plain("a0", "a-"), plain("a2", "a10"),
		{{Name: "a", Syntax: 1}, {Name: "a", Syntax: 2}},
		{{Name: "a", Syntax: 1}, {Name: "a", Syntax: 1, Single: true, Closed: true}},
	} {
		seeWrong(t, l)
	}
	// In a list of MaxTypes: two that change places, and two that are the same, wherever they stand.
	for i := range 23 {
		l := numbered(24)
		l[i], l[i+1] = l[i+1], l[i]
		seeWrong(t, l)
		l = numbered(24)
		l[i+1].Name = l[i].Name
		seeWrong(t, l)
	}
}

// TestCheckAbove: P20.1, an Above that is empty, that is the first or the last type, the type itself, nobody's Name, or one with another syntax.
func TestCheckAbove(t *testing.T) {
	for _, l := range [][]api.Attr{
		plain("a"), plain("a<b", "b"), plain("a", "b<a"), plain("a", "b<a", "c<a"), plain("a<c", "b<c", "c"), plain("a<b", "b", "c<b"), plain("a", "b<a", "c<b"), plain("a<b", "b<c", "c"), plain("a<c", "b", "c<b"), plain("a<b", "b", "c"), plain("a", "b", "c<a"),
		{{Name: "a", Syntax: 1}, {Name: "b", Syntax: 2}, {Name: "c", Above: "a", Syntax: 1}, {Name: "d", Above: "b", Syntax: 2}},
	} {
		seeRight(t, l)
	}
	for _, l := range [][]api.Attr{
		plain("a<a"), plain("a<b"), plain("a<A", "b"), plain("a<b", "c"), plain("b<a"), plain("a", "b<c"), plain("a", "b<b"), plain("a<a", "b"), plain("a", "b<b", "c"), plain("a", "b", "c<c"),
		plain("a", "b<aa"), plain("aa", "b<a"), plain("a", "b<A"), plain("a", "b<a "), plain("a", "b< a"), plain("a", "b<a\x00"), plain("a", "b< "), plain("a", "b<\xff"), plain("a", "b<"+strings.Repeat("a", 17)), plain("a", "b<"+strings.Repeat("a", 100000)),
		plain("a", "b<a", "c<d"), plain("a<x", "b<a", "c"),
	} {
		seeWrong(t, l)
	}
	for s := 1; s <= 10; s++ {
		for q := 1; q <= 10; q++ {
			seeModel(t, []api.Attr{{Name: "a", Above: "b", Syntax: s}, {Name: "b", Syntax: q}})
			seeModel(t, []api.Attr{{Name: "a", Syntax: s}, {Name: "b", Above: "a", Syntax: q}})
			l := []api.Attr{{Name: "a", Above: "b", Syntax: s}, {Name: "b", Above: "c", Syntax: s}, {Name: "c", Syntax: q}}
			if want := map[bool]api.Errno{true: api.OK, false: api.ErrAttr}[s == q]; Check(l) != want {
				t.Errorf("Check of %s: %d", told(l), int(Check(l)))
			}
		}
	}
	// The first and the last of MaxTypes are above all others.
	for _, top := range []int{0, 23} {
		l := numbered(24)
		for i := range l {
			if i != top {
				l[i].Above = l[top].Name
			}
		}
		seeRight(t, l)
		for i := range l {
			m := slices.Clone(l)
			m[i].Above = m[i].Name
			seeWrong(t, m)
			m[i].Above = "a24"
			seeWrong(t, m)
			m[i].Above = ""
			seeRight(t, m)
			m = slices.Clone(l)
			m[i].Syntax = 2
			seeWrong(t, m)
		}
	}
}

// circle makes types stand in a circle, by their numbers.
func circle(l []api.Attr, numbers ...int) []api.Attr {
	for i, n := range numbers {
		l[n].Above = l[numbers[(i+1)%len(numbers)]].Name
	}
	return l
}

// TestCheckCircles: P20.1, nobody is above itself: circles of two, of three, of all types, alone and with others that come to them.
func TestCheckCircles(t *testing.T) {
	r := rand.New(rand.NewSource(20))
	for n := 1; n <= 24; n++ {
		for size := 1; size <= n; size++ {
			l := circle(numbered(n), r.Perm(n)[:size]...)
			seeWrong(t, l)
			// All others come to the circle, wherever they stand.
			for i := range l {
				if l[i].Above == "" {
					l[i].Above = l[(i+1)%n].Name
				}
			}
			seeWrong(t, l)
			stopAtFault(t)
		}
	}
	for _, l := range [][]api.Attr{
		plain("a<b", "b<a"), plain("a<b", "b<c", "c<a"), plain("a<c", "b<a", "c<b"), plain("a<b", "b<a", "c"), plain("a", "b<c", "c<b"), plain("a<c", "b", "c<a"), plain("a<b", "b<c", "c<b"), plain("a<b", "b<a", "c<a"), plain("a<b", "b<a", "c<d", "d"), plain("a<b", "b", "c<d", "d<c"), plain("a<b", "b<c", "c<d", "d<b"),
	} {
		seeWrong(t, l)
	}
	// A circle that is cut in one place is a line through all.
	for n := 1; n <= 24; n++ {
		for range 3 {
			p := r.Perm(n)
			l := circle(numbered(n), p...)
			l[p[n-1]].Above = ""
			seeRight(t, l)
			if up := Line(l, l[p[0]].Name); len(up) != n || up[n-1] != l[p[n-1]].Name {
				t.Errorf("Line through %s: %q", told(l), up)
			}
		}
	}
}

// TestLineOfAll: P20.2, P20.3, a line through all of MaxTypes types, from the first to the last and back.
func TestLineOfAll(t *testing.T) {
	l := numbered(24)
	var names []string
	for i := range l {
		names = append(names, l[i].Name)
		if i < 23 {
			l[i].Above = l[i+1].Name
		}
	}
	seeRight(t, l)
	for i, n := range names {
		if m := Line(l, n); !slices.Equal(m, names[i:]) {
			t.Errorf("Line of %q: %q", n, m)
		}
		if m := Below(l, n); !slices.Equal(m, names[:i+1]) {
			t.Errorf("Below of %q: %q", n, m)
		}
		for j, above := range names {
			if Is(l, n, above) != (i <= j) {
				t.Errorf("Is of %q and %q", n, above)
			}
		}
	}
	l = numbered(24)
	for i := 1; i < 24; i++ {
		l[i].Above = l[i-1].Name
	}
	seeRight(t, l)
	back := slices.Clone(names)
	slices.Reverse(back)
	if m := Line(l, "a23"); !slices.Equal(m, back) {
		t.Errorf("Line of a23: %q", m)
	}
	if m := Below(l, "a00"); !slices.Equal(m, names) {
		t.Errorf("Below of a00: %q", m)
	}
	l[0].Above = "a23"
	seeWrong(t, l)
}

// TestFind: P20.2, a type is found with all that it has.
func TestFind(t *testing.T) {
	l := []api.Attr{
		{Name: "a", Above: "c", Syntax: 10, Rule: 11, Single: true},
		{Name: "b", Syntax: 5, Rule: 5, Closed: true},
		{Name: "c", Syntax: 10, Rule: 10, Single: true, Closed: true},
		{Name: "d", Above: "c", Syntax: 10},
	}
	seeRight(t, l)
	for _, want := range l {
		if a, ok := Find(l, want.Name); a != want || !ok {
			t.Errorf("Find of %q: %v %t", want.Name, a, ok)
		}
	}
	for _, n := range []string{"", "e", "A", "aa", "a ", "\x00", "a\x00", "ab", "\xff", strings.Repeat("a", 17), strings.Repeat("x", 100000)} {
		if a, ok := Find(l, n); a != (api.Attr{}) || ok {
			t.Errorf("Find of %.20q: %v %t", n, a, ok)
		}
		if a, ok := Find(nil, n); a != (api.Attr{}) || ok {
			t.Errorf("Find of %.20q in none: %v %t", n, a, ok)
		}
	}
}

// TestExample: P20.1 to P20.3, the chapter's example, and names that are there, that are not, and the empty one.
func TestExample(t *testing.T) {
	l := plain("cn<name", "name", "sn<name")
	seeRight(t, l)
	for name, want := range map[string][]string{"cn": {"cn", "name"}, "name": {"name"}, "sn": {"sn", "name"}, "": nil, "x": nil, "CN": nil} {
		if m := Line(l, name); !slices.Equal(m, want) {
			t.Errorf("Line of %q: %q, not %q", name, m, want)
		}
	}
	for name, want := range map[string][]string{"cn": {"cn"}, "name": {"cn", "name", "sn"}, "sn": {"sn"}, "": nil, "x": nil, "Name": nil} {
		if m := Below(l, name); !slices.Equal(m, want) {
			t.Errorf("Below of %q: %q, not %q", name, m, want)
		}
	}
	for pair, want := range map[[2]string]bool{
		{"cn", "cn"}: true, {"cn", "name"}: true, {"cn", "sn"}: false, {"name", "name"}: true, {"name", "cn"}: false, {"name", "sn"}: false, {"sn", "name"}: true,
		{"", ""}: false, {"cn", ""}: false, {"name", ""}: false, {"", "name"}: false, {"x", "x"}: false, {"x", "name"}: false, {"cn", "x"}: false, {"x", ""}: false, {"", "x"}: false,
	} {
		if got := Is(l, pair[0], pair[1]); got != want {
			t.Errorf("Is of %q: %t", pair, got)
		}
	}
}

// TestBelow: P20.3, of no names, of one twice, of several, and of names that are not there beside ones that are.
func TestBelow(t *testing.T) {
	l := plain("c<m", "d<c", "m", "o", "p<o", "q<p", "r")
	seeRight(t, l)
	for _, row := range []struct{ names, want string }{
		{"", ""},
		{"m", "c d m"}, {"m m", "c d m"}, {"m m m", "c d m"}, {"c", "c d"}, {"d", "d"}, {"o", "o p q"}, {"p", "p q"}, {"q", "q"}, {"r", "r"},
		{"m c", "c d m"}, {"d m", "c d m"}, {"d c m", "c d m"}, {"r d", "d r"}, {"q c", "c d q"}, {"o m", "c d m o p q"}, {"r o m", "c d m o p q r"}, {"q q d d q", "d q"},
		{"x", ""}, {"x y", ""}, {"x m", "c d m"}, {"m x", "c d m"}, {"x q y d x", "d q"}, {"M", ""}, {"M q", "q"},
		{"c d m o p q r", "c d m o p q r"}, {"r q p o m d c", "c d m o p q r"},
	} {
		names, want := strings.Fields(row.names), strings.Fields(row.want)
		if m := Below(l, names...); !slices.Equal(m, want) {
			t.Errorf("Below of %q: %q, not %q", names, m, want)
		}
	}
	for _, names := range [][]string{nil, {}, {""}, {"", ""}} {
		if m := Below(l, names...); len(m) != 0 {
			t.Errorf("Below of %q: %q", names, m)
		}
	}
	if m := Below(l, "", "q", ""); !slices.Equal(m, []string{"q"}) {
		t.Errorf("Below of q and the empty name: %q", m)
	}
	if m := Below(nil, "", "q"); len(m) != 0 {
		t.Errorf("Below in none: %q", m)
	}
	many := make([]string, 100000)
	many[99999] = "p"
	if m := Below(l, many...); !slices.Equal(m, []string{"p", "q"}) {
		t.Errorf("Below of many names: %q", m)
	}
}

// TestWrong: P20.1 to P20.3, types that may not be, for each of the reasons, and for several, asked of each call.
func TestWrong(t *testing.T) {
	right := []api.Attr{{Name: "a", Above: "b", Syntax: 1, Rule: 1}, {Name: "b", Syntax: 1, Rule: 2}, {Name: "c", Above: "b", Syntax: 1}, {Name: "d", Syntax: 3, Rule: 3}}
	seeRight(t, right)
	change := func(i int, by func(a *api.Attr)) []api.Attr {
		l := slices.Clone(right)
		by(&l[i])
		return l
	}
	faults := []func(a *api.Attr){
		func(a *api.Attr) { a.Name = "" }, func(a *api.Attr) { a.Name = strings.ToUpper(a.Name) }, func(a *api.Attr) { a.Name += strings.Repeat("x", 16) },
		func(a *api.Attr) { a.Syntax = 0 }, func(a *api.Attr) { a.Syntax = 11 }, func(a *api.Attr) { a.Syntax = -1 }, func(a *api.Attr) { a.Syntax = math.MinInt }, func(a *api.Attr) { a.Syntax = math.MaxInt },
		func(a *api.Attr) { a.Rule = -1 }, func(a *api.Attr) { a.Rule = 4 }, func(a *api.Attr) { a.Rule = 12 }, func(a *api.Attr) { a.Rule = math.MaxInt }, func(a *api.Attr) { a.Rule = math.MinInt },
		func(a *api.Attr) { a.Above = a.Name }, func(a *api.Attr) { a.Above = "x" }, func(a *api.Attr) { a.Above = " " },
	}
	for i := range right {
		for k, f := range faults {
			l := change(i, f)
			if modelMay(l) {
				t.Fatalf("fault %d of type %d is none", k, i)
			}
			seeWrong(t, l)
			for _, g := range faults {
				seeWrong(t, change(i, func(a *api.Attr) { f(a); a.Single, a.Closed = true, true }))
				m := slices.Clone(l)
				g(&m[(i+1)%len(m)])
				seeWrong(t, m)
			}
		}
	}
	for i := range right {
		for _, n := range []string{"a", "b", "c", "d"} {
			seeModel(t, change(i, func(a *api.Attr) { a.Name = n }))
			seeModel(t, change(i, func(a *api.Attr) { a.Above = n }))
		}
		// Neither Single nor Closed makes a type one that may not be.
		seeRight(t, change(i, func(a *api.Attr) { a.Single = true }))
		seeRight(t, change(i, func(a *api.Attr) { a.Closed = true }))
		seeRight(t, change(i, func(a *api.Attr) { a.Rule = 0 }))
	}
}

// TestShortLists: P20.1 to P20.5, all lists of at most three types of few names and syntaxes.
func TestShortLists(t *testing.T) {
	var one []api.Attr
	for _, name := range []string{"a", "b", "c"} {
		for _, above := range []string{"", "a", "b", "c", "d"} {
			for s := 1; s <= 2; s++ {
				one = append(one, api.Attr{Name: name, Above: above, Syntax: s})
			}
		}
	}
	right := 0
	for _, a := range one {
		seeModel(t, []api.Attr{a})
		for _, b := range one {
			seeModel(t, []api.Attr{a, b})
			for _, c := range one {
				l := []api.Attr{a, b, c}
				seeModel(t, l)
				if modelMay(l) {
					right++
				}
				stopAtFault(t)
			}
		}
	}
	// 16 forests of three of one syntax each, and of two of one beside one of the other 3 each.
	if right != 16*2+3*3*2 {
		t.Errorf("%d lists of three may be", right)
	}
}

// byChance makes types that may be: names by chance, each but the tops with an Above that stands ahead in an order by chance.
func byChance(r *rand.Rand, n int) []api.Attr {
	const letters = "abcdefghijklmnopqrstuvwxyz"
	const signs = letters + "0123456789-"
	var names []string
	for len(names) < n {
		b := []byte{letters[r.Intn(3)]}
		for range r.Intn(16) {
			b = append(b, signs[r.Intn(len(signs))])
		}
		if !slices.Contains(names, string(b)) {
			names = append(names, string(b))
		}
	}
	slices.Sort(names)
	l := make([]api.Attr, n)
	order := r.Perm(n)
	for k, i := range order {
		a := api.Attr{Name: names[i], Syntax: 1 + r.Intn(10), Single: r.Intn(2) == 0, Closed: r.Intn(2) == 0}
		if k > 0 && r.Intn(4) > 0 {
			up := l[order[r.Intn(k)]]
			a.Above, a.Syntax = up.Name, up.Syntax
		}
		own := theRules[a.Syntax]
		a.Rule = own[r.Intn(len(own))]
		l[i] = a
	}
	return l
}

// TestByChance: P20.1 to P20.5, types that may be, and the same with something changed.
func TestByChance(t *testing.T) {
	r := rand.New(rand.NewSource(2020))
	for range 120 {
		n := 1 + r.Intn(24)
		l := byChance(r, n)
		if !modelMay(l) {
			t.Fatalf("%s", told(l))
		}
		seeRight(t, l)
		for range 10 {
			var names []string
			for range r.Intn(5) {
				names = append(names, l[r.Intn(n)].Name)
			}
			seeBelow(t, l, names...)
		}
		for range 10 {
			m := slices.Clone(l)
			a := &m[r.Intn(n)]
			switch r.Intn(5) {
			case 0:
				a.Above = m[r.Intn(n)].Name
			case 1:
				a.Syntax = r.Intn(12)
			case 2:
				a.Rule = r.Intn(13) - 1
			case 3:
				a.Name = m[r.Intn(n)].Name
			case 4:
				a.Above = ""
			}
			seeModel(t, m)
		}
		seeWrong(t, append(l, numbered(25-n)...))
		stopAtFault(t)
	}
}

// TestHandedIn: what comes in stays as it was, its spare room too.
func TestHandedIn(t *testing.T) {
	room := append(plain("cn<name", "name", "sn<name"), plain("left", "behind")...)
	was := slices.Clone(room)
	names := []string{"name", "cn", "x", "left", "behind"}
	namesWere := slices.Clone(names)
	l := room[:3]
	for range 3 {
		Check(l)
		Find(l, "cn")
		Is(l, "cn", "name")
		_ = append(Line(l, "cn"), "more")
		_ = append(Below(l, names[:3]...), "more", "still more")
	}
	if !slices.Equal(room, was) || !slices.Equal(names, namesWere) {
		t.Errorf("changed: %v %q", room, names)
	}
}

// TestHandedOut: what is handed out is new memory: that it is changed changes nothing in what is answered later, nor in what was handed in.
func TestHandedOut(t *testing.T) {
	l := plain("cn<name", "name", "sn<name")
	was := slices.Clone(l)
	names := []string{"cn", "name", "sn"}
	spoil := func(m []string) {
		for i := range m[:cap(m)] {
			m[:cap(m)][i] = "spoilt"
		}
	}
	for range 3 {
		spoil(Line(l, "cn"))
		spoil(Below(l, names...))
		for s := 1; s <= 10; s++ {
			m := Rules(s)
			for i := range m[:cap(m)] {
				m[:cap(m)][i] = -7
			}
		}
	}
	for s := 1; s <= 10; s++ {
		if !slices.Equal(Rules(s), theRules[s]) {
			t.Errorf("Rules of %d: %v", s, Rules(s))
		}
	}
	if !slices.Equal(l, was) || !slices.Equal(names, []string{"cn", "name", "sn"}) {
		t.Errorf("changed: %v %q", l, names)
	}
	a, _ := Find(l, "cn")
	a.Name, a.Above, a.Syntax = "spoilt", "", 9
	seeRight(t, l)
	one, other := Line(l, "cn"), Line(l, "cn")
	spoil(one)
	if !slices.Equal(other, []string{"cn", "name"}) {
		t.Errorf("two answers share memory: %q", other)
	}
}
