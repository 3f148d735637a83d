package classes

import (
	"fmt"
	"math/rand"
	"reflect"
	"regexp"
	"slices"
	"strings"
	"testing"

	"toponym/api"
	"toponym/attrs"
)

var wordText = regexp.MustCompile(`\A[a-z][a-z0-9-]{0,15}\z`)

// told is what is told of a schema: its types by their names, its classes in short, but not too many.
func told(s api.Schema) string {
	var b strings.Builder
	for _, a := range s.Attrs[:min(len(s.Attrs), 30)] {
		fmt.Fprintf(&b, " %.20q<%.20q", a.Name, a.Above)
	}
	fmt.Fprintf(&b, "; %d classes", len(s.Classes))
	for _, c := range s.Classes[:min(len(s.Classes), 20)] {
		fmt.Fprintf(&b, " [%.20q above %.20q bare %t must %.20q may %.20q]", c.Name, c.Above, c.Bare, c.Must[:min(len(c.Must), 10)], c.May[:min(len(c.May), 10)])
	}
	return b.String()
}

// stopAtFault ends a test that goes through many schemas at its first faults: the others would tell nothing more.
func stopAtFault(t *testing.T) {
	t.Helper()
	if t.Failed() {
		t.FailNow()
	}
}

// plain is types of SyntaxText, each written as its Name, or as its Name, a < and its Above.
func plain(texts ...string) []api.Attr {
	var l []api.Attr
	for _, s := range texts {
		name, above, _ := strings.Cut(s, "<")
		l = append(l, api.Attr{Name: name, Above: above, Syntax: 1, Rule: 2})
	}
	return l
}

// theTypes is the types of most tests: nick is below cn, cn and sn are below name.
func theTypes() []api.Attr {
	return plain("cls", "cn<name", "mail", "name", "nick<cn", "phone", "sn<name")
}

// class reads a class: its Name, with a * ahead of it if it is Bare, a < and its Above, a colon and its Must, a colon and its May, whose names are parted by blanks.
func class(text string) api.Class {
	fields := append(strings.Split(text, ":"), "", "")
	name, above, _ := strings.Cut(fields[0], "<")
	c := api.Class{Name: strings.TrimPrefix(name, "*"), Above: above, Bare: strings.HasPrefix(name, "*")}
	c.Must, c.May = strings.Fields(fields[1]), strings.Fields(fields[2])
	return c
}

// schema is a schema of theTypes and of some classes.
func schema(texts ...string) api.Schema {
	s := api.Schema{Attrs: theTypes()}
	for _, text := range texts {
		s.Classes = append(s.Classes, class(text))
	}
	return s
}

// numbered is a schema of theTypes and of so many classes without an Above: c00, c01, and so on.
func numbered(n int) api.Schema {
	s := api.Schema{Attrs: theTypes()}
	for i := range n {
		s.Classes = append(s.Classes, api.Class{Name: fmt.Sprintf("c%02d", i)})
	}
	return s
}

// copied is a schema that shares no memory with another one.
func copied(s api.Schema) api.Schema {
	s.Attrs, s.Classes = slices.Clone(s.Attrs), slices.Clone(s.Classes)
	for i := range s.Classes {
		c := &s.Classes[i]
		c.Must, c.May = slices.Clone(c.Must), slices.Clone(c.May)
	}
	return s
}

// modelCheck is Check, written anew out of the chapter's words: who is above whom is worked out for all at once.
func modelCheck(s api.Schema) api.Errno {
	if attrs.Check(s.Attrs) != api.OK {
		return api.ErrAttr
	}
	if len(s.Classes) > 12 {
		return api.ErrClass
	}
	above := map[[2]string]bool{}
	for i, c := range s.Classes {
		if !wordText.MatchString(c.Name) || i > 0 && strings.Compare(s.Classes[i-1].Name, c.Name) != -1 {
			return api.ErrClass
		}
		if !modelNames(s, c.Must) || !modelNames(s, c.May) {
			return api.ErrClass
		}
		if c.Above == "" {
			continue
		}
		j := slices.IndexFunc(s.Classes, func(b api.Class) bool { return b.Name == c.Above })
		if j < 0 || j == i {
			return api.ErrClass
		}
		above[[2]string{c.Name, c.Above}] = true
	}
	for _, m := range s.Classes {
		for _, a := range s.Classes {
			for _, b := range s.Classes {
				if above[[2]string{a.Name, m.Name}] && above[[2]string{m.Name, b.Name}] {
					above[[2]string{a.Name, b.Name}] = true
				}
			}
		}
	}
	for _, c := range s.Classes {
		if above[[2]string{c.Name, c.Name}] {
			return api.ErrClass
		}
	}
	return api.OK
}

// modelNames tells whether names may be a Must or a May.
func modelNames(s api.Schema, names []string) bool {
	once := map[string]bool{}
	for _, n := range names {
		once[n] = true
		if _, ok := attrs.Find(s.Attrs, n); !ok {
			return false
		}
	}
	return len(names) <= 8 && len(once) == len(names) && slices.IsSorted(names)
}

// modelLine is the Line of a name, of a schema that may be.
func modelLine(s api.Schema, name string) []string {
	for _, c := range s.Classes {
		if c.Name == name {
			return append([]string{name}, modelLine(s, c.Above)...)
		}
	}
	return nil
}

// modelNeeds is Needs of a schema that may be: type by type, class by class.
func modelNeeds(s api.Schema, names []string) ([]string, []string, api.Errno) {
	whole := false
	in := map[string]bool{}
	for _, n := range names {
		line := modelLine(s, n)
		if len(line) == 0 {
			return nil, nil, api.ErrClass
		}
		for _, up := range line {
			in[up] = true
		}
		for _, c := range s.Classes {
			if c.Name == n && !c.Bare {
				whole = true
			}
		}
	}
	if !whole {
		return nil, nil, api.ErrClass
	}
	var must, may []string
	for _, a := range s.Attrs {
		inMust, inMay := false, false
		for _, c := range s.Classes {
			inMust = inMust || in[c.Name] && slices.Contains(c.Must, a.Name)
			inMay = inMay || in[c.Name] && slices.Contains(c.May, a.Name)
		}
		if inMust {
			must = append(must, a.Name)
		} else if inMay {
			may = append(may, a.Name)
		}
	}
	return must, may, api.OK
}

// modelFit is Fit of a schema that may be: by attrs' Is, each against each.
func modelFit(s api.Schema, names, has []string) api.Errno {
	must, may, e := modelNeeds(s, names)
	if e != api.OK {
		return e
	}
	for _, h := range has {
		if !slices.ContainsFunc(s.Attrs, func(a api.Attr) bool { return a.Name == h }) {
			return api.ErrAttr
		}
	}
	for _, m := range must {
		if !slices.ContainsFunc(has, func(h string) bool { return attrs.Is(s.Attrs, h, m) }) {
			return api.ErrClass
		}
	}
	for _, h := range has {
		is := func(m string) bool { return attrs.Is(s.Attrs, h, m) }
		if !slices.ContainsFunc(must, is) && !slices.ContainsFunc(may, is) {
			return api.ErrClass
		}
	}
	return api.OK
}

// asked is the names that a schema is asked for: all of its classes, and some that nobody has.
func asked(s api.Schema) []string {
	names := []string{"", "x", "zz", "A", "name", "top ", "top\x00", "\xff", strings.Repeat("a", 17)}
	for _, c := range s.Classes[:min(len(s.Classes), 20)] {
		names = append(names, c.Name, c.Above)
	}
	slices.Sort(names)
	return slices.Compact(names)
}

// typeNames is the names of a schema's types.
func typeNames(s api.Schema) []string {
	var names []string
	for _, a := range s.Attrs {
		names = append(names, a.Name)
	}
	return names
}

// seeWrong looks that a schema may not be, for each call (P21.1 to P21.4).
func seeWrong(t *testing.T, s api.Schema, want api.Errno) {
	t.Helper()
	was := copied(s)
	if e := Check(s); e != want {
		t.Errorf("Check of %s: %d, not %d", told(s), int(e), int(want))
	}
	names := asked(s)
	lists := [][]string{nil, {}, names}
	for _, n := range names {
		lists = append(lists, []string{n}, []string{n, n})
		if m := Line(s, n); len(m) != 0 {
			t.Errorf("Line of %q in %s: %q", n, told(s), m)
		}
	}
	for _, l := range lists {
		if must, may, e := Needs(s, l...); len(must) != 0 || len(may) != 0 || e != want {
			t.Errorf("Needs of %q in %s: %q %q %d, not %d", l, told(s), must, may, int(e), int(want))
		}
		for _, has := range [][]string{nil, {"cls"}, {"x"}, {"cls", "name"}} {
			if e := Fit(s, l, has); e != want {
				t.Errorf("Fit of %q and %q in %s: %d, not %d", l, has, told(s), int(e), int(want))
			}
		}
	}
	if !reflect.DeepEqual(s, was) {
		t.Errorf("%s has been changed to %s", told(was), told(s))
	}
}

// seeRight looks that a schema may be, and what each call answers of it (P21.1 to P21.4).
func seeRight(t *testing.T, s api.Schema) {
	t.Helper()
	was := copied(s)
	if e := Check(s); e != api.OK {
		t.Errorf("Check of %s: %d", told(s), int(e))
	}
	names := asked(s)
	for _, n := range names {
		want := modelLine(s, n)
		if m := Line(s, n); !slices.Equal(m, want) {
			t.Errorf("Line of %q in %s: %q, not %q", n, told(s), m, want)
		}
		seeNeeds(t, s, n)
		seeNeeds(t, s, n, n)
	}
	seeNeeds(t, s)
	seeNeeds(t, s, names...)
	var own []string
	for _, c := range s.Classes {
		own = append(own, c.Name)
	}
	seeNeeds(t, s, own...)
	if !reflect.DeepEqual(s, was) {
		t.Errorf("%s has been changed to %s", told(was), told(s))
	}
}

// seeNeeds looks that Needs answers what the model says, and Fit of what must be, of what must and may be, and of all.
func seeNeeds(t *testing.T, s api.Schema, names ...string) {
	t.Helper()
	wantMust, wantMay, want := modelNeeds(s, names)
	must, may, e := Needs(s, names...)
	if !slices.Equal(must, wantMust) || !slices.Equal(may, wantMay) || e != want {
		t.Errorf("Needs of %q in %s: %q %q %d, not %q %q %d", names, told(s), must, may, int(e), wantMust, wantMay, int(want))
	}
	if e := Fit(s, names, wantMust); e != want {
		t.Errorf("Fit of %q and their Must %q in %s: %d", names, wantMust, told(s), int(e))
	}
	if e := Fit(s, names, slices.Concat(wantMay, wantMust)); e != want {
		t.Errorf("Fit of %q and all that they may have in %s: %d", names, told(s), int(e))
	}
	seeFit(t, s, names, typeNames(s))
	seeFit(t, s, names, nil)
}

// seeFit looks that Fit answers what the model says.
func seeFit(t *testing.T, s api.Schema, names, has []string) {
	t.Helper()
	if e, want := Fit(s, names, has), modelFit(s, names, has); e != want {
		t.Errorf("Fit of %q and %q in %s: %d, not %d", names, has, told(s), int(e), int(want))
	}
}

// seeModel looks that a schema may be just as the model says.
func seeModel(t *testing.T, s api.Schema) {
	t.Helper()
	if want := modelCheck(s); want == api.OK {
		seeRight(t, s)
	} else {
		seeWrong(t, s, want)
	}
}

// TestCheckCount: P21.1, no classes at all, MaxClasses of them, and more.
func TestCheckCount(t *testing.T) {
	if api.MaxClasses != 12 {
		t.Fatal(api.MaxClasses)
	}
	for _, s := range []api.Schema{{}, {Attrs: []api.Attr{}, Classes: []api.Class{}}, {Attrs: theTypes()}, {Classes: []api.Class{{Name: "a"}}}} {
		seeRight(t, s)
	}
	for n := range 13 {
		seeRight(t, numbered(n))
	}
	for _, n := range []int{13, 14, 24, 25, 99} {
		s := numbered(n)
		seeWrong(t, s, api.ErrClass)
		for i := range n - 1 {
			s.Classes[i].Above = s.Classes[i+1].Name
		}
		seeWrong(t, s, api.ErrClass)
	}
	seeWrong(t, api.Schema{Classes: make([]api.Class, 1<<18)}, api.ErrClass)
}

// TestCheckNames: P21.1, the Names are words: of one sign, of the longest word, of one sign more.
func TestCheckNames(t *testing.T) {
	for _, n := range []string{"a", "z", "m", "a1", "a-", "a--", "z9", "inet-org-person1", strings.Repeat("a", 15), strings.Repeat("z", 16), "x" + strings.Repeat("-", 15), "a" + strings.Repeat("0", 15)} {
		seeRight(t, schema(n))
		seeModel(t, schema("a", n))
		seeModel(t, schema(n, "zzzzzzzzzzzzzzzz"))
	}
	for _, n := range []string{"", "A", "Z", "1", "-", "0a", "-a", " ", "a ", " a", "a b", "a_b", "aB", "a.b", "a=", "a;b", "2.5.6.6", "a\x00", "\x00", "\xff", "a\xff", "\u00e9", "a\u00e9", "a\u0301", "\u0430", "a\u212a", strings.Repeat("a", 17), strings.Repeat("a", 32), strings.Repeat("z", 100000), "`", "{", "a`", "a{", "a/", "a,"} {
		for _, l := range [][]api.Class{
			{{Name: n}},
			{{Name: n}, {Name: "zzzzzzzzzzzzzzzz"}},
			{{Name: "a"}, {Name: n}},
			{{Name: "a"}, {Name: n}, {Name: "zzzzzzzzzzzzzzzz"}},
			{{Name: "a", Above: n}, {Name: n}},
		} {
			seeWrong(t, api.Schema{Attrs: theTypes(), Classes: l}, api.ErrClass)
		}
	}
	// Each byte in each place.
	for b := range 256 {
		one := string([]byte{byte(b)})
		for _, n := range []string{one, "a" + one, one + "a", "a" + one + "a"} {
			seeModel(t, api.Schema{Classes: []api.Class{{Name: n}}})
		}
	}
	// A class may have the name of a type.
	seeRight(t, schema("cls::cn", "cn<cls:name"))
}

// TestCheckRising: P21.1, Names that rise, that are the same twice, that fall.
func TestCheckRising(t *testing.T) {
	for _, s := range []api.Schema{
		schema("a", "b"), schema("a", "a-"), schema("a-", "a0"), schema("a0", "a1"), schema("a1", "a10"), schema("a10", "a2"), schema("a9", "aa"), schema("a", "aa"), schema("az", "b"), schema("a", "b", "c"),
		schema(strings.Repeat("a", 15), strings.Repeat("a", 16)), schema(strings.Repeat("a", 15)+"y", strings.Repeat("a", 15)+"z"),
	} {
		seeRight(t, s)
		slices.Reverse(s.Classes)
		seeWrong(t, s, api.ErrClass)
	}
	for _, s := range []api.Schema{
		schema("a", "a"), schema("b", "a"), schema("a", "a", "b"), schema("a", "b", "b"), schema("a", "b", "a"), schema("b", "a", "c"), schema("a", "c", "b"), schema("a", "a", "a"), schema("c", "b", "a"), schema("b", "c", "a"), schema("c", "a", "b"),
		schema("a<b", "a", "b"), schema("a", "a<b", "b"), schema("a", "b<a", "b"), schema("b<a", "a"), schema("aa", "a"), schema("a0", "a-"), schema("a2", "a10"), schema("a", "*a"), schema("a:cls", "a:mail"),
	} {
		seeWrong(t, s, api.ErrClass)
	}
	// In a list of MaxClasses: two that change places, and two that are the same, wherever they stand.
	for i := range 11 {
		s := numbered(12)
		s.Classes[i], s.Classes[i+1] = s.Classes[i+1], s.Classes[i]
		seeWrong(t, s, api.ErrClass)
		s = numbered(12)
		s.Classes[i+1].Name = s.Classes[i].Name
		seeWrong(t, s, api.ErrClass)
	}
}

// TestCheckAbove: P21.1, an Above that is empty, that is the first or the last class, the class itself, or nobody's Name.
func TestCheckAbove(t *testing.T) {
	for _, s := range []api.Schema{
		schema("a"), schema("a<b", "b"), schema("a", "b<a"), schema("a", "b<a", "c<a"), schema("a<c", "b<c", "c"), schema("a<b", "b", "c<b"), schema("a", "b<a", "c<b"), schema("a<b", "b<c", "c"), schema("a<c", "b", "c<b"), schema("a<b", "b", "c"), schema("a", "b", "c<a"),
		schema("*a", "*b<a", "c<b"), schema("a", "*b<a"),
	} {
		seeRight(t, s)
	}
	for _, s := range []api.Schema{
		schema("a<a"), schema("a<b"), schema("a<A", "b"), schema("a<b", "c"), schema("b<a"), schema("a", "b<c"), schema("a", "b<b"), schema("a<a", "b"), schema("a", "b<b", "c"), schema("a", "b", "c<c"),
		schema("a", "b<aa"), schema("aa", "b<a"), schema("a", "b<A"), schema("a", "b<a "), schema("a", "b< a"), schema("a", "b<a\x00"), schema("a", "b< "), schema("a", "b<\xff"), schema("a", "b<"+strings.Repeat("a", 17)), schema("a", "b<"+strings.Repeat("a", 100000)),
		schema("a", "b<a", "c<d"), schema("a<x", "b<a", "c"), schema("a<cls"), schema("a<name", "b"),
	} {
		seeWrong(t, s, api.ErrClass)
	}
	// The first and the last of MaxClasses are above all others.
	for _, top := range []int{0, 11} {
		s := numbered(12)
		for i := range s.Classes {
			if i != top {
				s.Classes[i].Above = s.Classes[top].Name
			}
		}
		seeRight(t, s)
		for i := range s.Classes {
			m := copied(s)
			m.Classes[i].Above = m.Classes[i].Name
			seeWrong(t, m, api.ErrClass)
			m.Classes[i].Above = "c12"
			seeWrong(t, m, api.ErrClass)
			m.Classes[i].Above = ""
			seeRight(t, m)
		}
	}
}

// circle makes classes stand in a circle, by their numbers.
func circle(s api.Schema, numbers ...int) api.Schema {
	for i, n := range numbers {
		s.Classes[n].Above = s.Classes[numbers[(i+1)%len(numbers)]].Name
	}
	return s
}

// TestCheckCircles: P21.1, nobody is above itself: circles of two, of three, of all classes, alone and with others that come to them.
func TestCheckCircles(t *testing.T) {
	r := rand.New(rand.NewSource(21))
	for n := 1; n <= 12; n++ {
		for size := 1; size <= n; size++ {
			s := circle(numbered(n), r.Perm(n)[:size]...)
			seeWrong(t, s, api.ErrClass)
			// All others come to the circle, wherever they stand.
			for i := range s.Classes {
				if s.Classes[i].Above == "" {
					s.Classes[i].Above = s.Classes[(i+1)%n].Name
				}
			}
			seeWrong(t, s, api.ErrClass)
		}
	}
	for _, s := range []api.Schema{
		schema("a<b", "b<a"), schema("a<b", "b<c", "c<a"), schema("a<c", "b<a", "c<b"), schema("a<b", "b<a", "c"), schema("a", "b<c", "c<b"), schema("a<c", "b", "c<a"), schema("a<b", "b<c", "c<b"), schema("a<b", "b<a", "c<a"), schema("a<b", "b<a", "c<d", "d"), schema("a<b", "b", "c<d", "d<c"), schema("a<b", "b<c", "c<d", "d<b"), schema("*a<b", "*b<a"),
	} {
		seeWrong(t, s, api.ErrClass)
	}
	// A circle that is cut in one place is a line through all.
	for n := 1; n <= 12; n++ {
		for range 5 {
			p := r.Perm(n)
			s := circle(numbered(n), p...)
			s.Classes[p[n-1]].Above = ""
			seeRight(t, s)
			if up := Line(s, s.Classes[p[0]].Name); len(up) != n || up[n-1] != s.Classes[p[n-1]].Name {
				t.Errorf("Line through %s: %q", told(s), up)
			}
		}
	}
}

// TestLineOfAll: P21.2, P21.3, a line through all of MaxClasses classes, from the first to the last and back.
func TestLineOfAll(t *testing.T) {
	s := api.Schema{}
	var names, types []string
	for i := range 12 {
		types = append(types, fmt.Sprintf("t%02d", i))
		names = append(names, fmt.Sprintf("c%02d", i))
		s.Attrs = append(s.Attrs, api.Attr{Name: types[i], Syntax: 1})
		s.Classes = append(s.Classes, api.Class{Name: names[i], Must: []string{types[i]}})
		if i > 0 {
			s.Classes[i-1].Above = names[i]
		}
	}
	seeRight(t, s)
	for i, n := range names {
		if m := Line(s, n); !slices.Equal(m, names[i:]) {
			t.Errorf("Line of %q: %q", n, m)
		}
		if must, may, e := Needs(s, n); !slices.Equal(must, types[i:]) || len(may) != 0 || e != api.OK {
			t.Errorf("Needs of %q: %q %q %d", n, must, may, int(e))
		}
	}
	for i := range s.Classes {
		s.Classes[i].Above = ""
		if i > 0 {
			s.Classes[i].Above = names[i-1]
		}
		s.Classes[i].Must, s.Classes[i].May = nil, s.Classes[i].Must
	}
	seeRight(t, s)
	back := slices.Clone(names)
	slices.Reverse(back)
	if m := Line(s, "c11"); !slices.Equal(m, back) {
		t.Errorf("Line of c11: %q", m)
	}
	if must, may, e := Needs(s, "c11"); len(must) != 0 || !slices.Equal(may, types) || e != api.OK {
		t.Errorf("Needs of c11: %q %q %d", must, may, int(e))
	}
	s.Classes[0].Above = "c11"
	seeWrong(t, s, api.ErrClass)
}

// TestLine: P21.2, names that are there, that are not, and the empty one; no class is in a Line twice, and each has the rest as its own.
func TestLine(t *testing.T) {
	s := schema("*org<top::phone", "person<top:name:phone", "staff<person:phone:mail", "*top:cls")
	for name, want := range map[string][]string{
		"org": {"org", "top"}, "person": {"person", "top"}, "staff": {"staff", "person", "top"}, "top": {"top"},
		"": nil, "x": nil, "Top": nil, "top ": nil, "to": nil, "topp": nil, "cls": nil, "name": nil, "\xff": nil, strings.Repeat("x", 100000): nil,
	} {
		if m := Line(s, name); !slices.Equal(m, want) {
			t.Errorf("Line of %.20q: %q, not %q", name, m, want)
		}
		if m := Line(api.Schema{Attrs: s.Attrs}, name); len(m) != 0 {
			t.Errorf("Line of %.20q in none: %q", name, m)
		}
	}
}

// TestCheckMustMay: P21.1, Must and May with no names, with 8 and with 9, that rise, that have one twice, that fall, with a name that no type has.
func TestCheckMustMay(t *testing.T) {
	types := plain("t0", "t1", "t2", "t3", "t4", "t5", "t6", "t7", "t8", "t9")
	all := typeNames(api.Schema{Attrs: types})
	put := func(names ...string) []api.Schema {
		return []api.Schema{
			{Attrs: types, Classes: []api.Class{{Name: "a", Must: names}}},
			{Attrs: types, Classes: []api.Class{{Name: "a", May: names}}},
			{Attrs: types, Classes: []api.Class{{Name: "a", Bare: true, Must: names, May: []string{"t3"}}}},
			{Attrs: types, Classes: []api.Class{{Name: "a", Must: []string{"t3"}, May: names}, {Name: "b", Above: "a"}}},
			{Attrs: types, Classes: []api.Class{{Name: "a", Above: "b"}, {Name: "b", May: names}, {Name: "c"}}},
			{Attrs: types, Classes: []api.Class{{Name: "a"}, {Name: "b"}, {Name: "c", Must: names}}},
		}
	}
	right := func(names ...string) {
		t.Helper()
		for _, s := range put(names...) {
			seeRight(t, s)
		}
	}
	wrong := func(names ...string) {
		t.Helper()
		for _, s := range put(names...) {
			seeWrong(t, s, api.ErrClass)
		}
	}
	right()
	right([]string{}...)
	for n := 1; n <= 8; n++ {
		right(all[:n]...)
		right(all[10-n:]...)
	}
	wrong(all[:9]...)
	wrong(all[1:]...)
	wrong(all...)
	right("t0", "t9")
	right("t1", "t3", "t5")
	for _, l := range [][]string{{"t0", "t0"}, {"t1", "t0"}, {"t0", "t1", "t1"}, {"t0", "t0", "t1"}, {"t0", "t2", "t1"}, {"t1", "t0", "t2"}, {"t0", "t1", "t0"}, {"t9", "t0"}, {"t0", "t1", "t2", "t3", "t4", "t5", "t7", "t6"}, {"t0", "t1", "t2", "t3", "t4", "t5", "t6", "t6"}} {
		wrong(l...)
	}
	for _, n := range []string{"", "x", "t", "t00", "T0", "t0 ", "a", "b", "cls", "\xff", "tz", strings.Repeat("t", 17), strings.Repeat("x", 100000)} {
		wrong(n)
		wrong("t0", n)
		l := []string{n, "t4"}
		slices.Sort(l)
		wrong(l...)
	}
	wrong(make([]string, 1000)...)
	// Without types nobody can have a Must or a May.
	seeWrong(t, api.Schema{Classes: []api.Class{{Name: "a", Must: []string{"t0"}}}}, api.ErrClass)
	seeWrong(t, api.Schema{Classes: []api.Class{{Name: "a", May: []string{"t0"}}}}, api.ErrClass)
	// The whole of MaxClasses classes with 8 and 8, of MaxTypes types.
	s := api.Schema{}
	for i := range 24 {
		s.Attrs = append(s.Attrs, api.Attr{Name: fmt.Sprintf("t%02d", i), Syntax: 1})
	}
	names := typeNames(s)
	for i := range 12 {
		s.Classes = append(s.Classes, api.Class{Name: fmt.Sprintf("c%02d", i), Must: names[i : i+8], May: names[16-i : 24-i]})
	}
	seeRight(t, s)
}

// TestNeeds: P21.3, of one name and of several, in each order, of one twice, of a class and one of its Line.
func TestNeeds(t *testing.T) {
	s := schema("*a:cls", "b<a:name:phone", "c<b:phone:mail", "d::cls mail", "*e:mail:name phone", "f<e", "*g<b:sn")
	seeRight(t, s)
	for _, row := range []struct{ names, must, may string }{
		{"b", "cls name", "phone"}, {"b b", "cls name", "phone"}, {"b b b", "cls name", "phone"}, {"b a", "cls name", "phone"}, {"a b", "cls name", "phone"}, {"a b a", "cls name", "phone"},
		{"c", "cls name phone", "mail"}, {"c b", "cls name phone", "mail"}, {"b c", "cls name phone", "mail"}, {"a c", "cls name phone", "mail"}, {"c b a", "cls name phone", "mail"}, {"a b c", "cls name phone", "mail"}, {"b a c b", "cls name phone", "mail"},
		{"d", "", "cls mail"}, {"d d", "", "cls mail"}, {"a d", "cls", "mail"}, {"d a", "cls", "mail"}, {"d b", "cls name", "mail phone"}, {"b d", "cls name", "mail phone"}, {"d c", "cls name phone", "mail"},
		{"f", "mail", "name phone"}, {"e f", "mail", "name phone"}, {"f e", "mail", "name phone"}, {"f b", "cls mail name", "phone"}, {"b f", "cls mail name", "phone"}, {"f c", "cls mail name phone", ""}, {"c f", "cls mail name phone", ""}, {"f d", "mail", "cls name phone"}, {"d e", "mail", "cls name phone"},
		{"g b", "cls name sn", "phone"}, {"b g", "cls name sn", "phone"}, {"g d", "cls name sn", "mail phone"}, {"g c a f d", "cls mail name phone sn", ""},
		{"a b c d e f g", "cls mail name phone sn", ""}, {"g f e d c b a", "cls mail name phone sn", ""},
	} {
		names := strings.Fields(row.names)
		must, may, e := Needs(s, names...)
		if !slices.Equal(must, strings.Fields(row.must)) || !slices.Equal(may, strings.Fields(row.may)) || e != api.OK {
			t.Errorf("Needs of %q: %q %q %d", names, must, may, int(e))
		}
	}
	// No names; Bare ones alone, whatever is above them; names that no class has, wherever they stand.
	for _, l := range [][]string{nil, {}, {"a"}, {"e"}, {"g"}, {"a", "a"}, {"a", "e"}, {"g", "a"}, {"g", "e", "a", "g"}, {""}, {"x"}, {"cls"}, {"B"}, {"b "}, {"b", "x"}, {"x", "b"}, {"b", ""}, {"", "b"}, {"b", "c", "x"}, {"b", "x", "c"}, {"a", "x"}, {"b", "\xff"}, {"b", strings.Repeat("b", 17)}} {
		if must, may, e := Needs(s, l...); len(must) != 0 || len(may) != 0 || e != api.ErrClass {
			t.Errorf("Needs of %q: %q %q %d", l, must, may, int(e))
		}
		for _, has := range [][]string{nil, {"cls"}, {"cls", "name"}, {"x"}, {""}} {
			if e := Fit(s, l, has); e != api.ErrClass {
				t.Errorf("Fit of %q and %q: %d", l, has, int(e))
			}
		}
	}
	many := slices.Repeat([]string{"a", "c", "b"}, 100000)
	if must, may, e := Needs(s, many...); !slices.Equal(must, []string{"cls", "name", "phone"}) || !slices.Equal(may, []string{"mail"}) || e != api.OK {
		t.Errorf("Needs of many names: %q %q %d", must, may, int(e))
	}
	many[len(many)-1] = "x"
	if must, may, e := Needs(s, many...); len(must) != 0 || len(may) != 0 || e != api.ErrClass {
		t.Errorf("Needs of many names and x: %q %q %d", must, may, int(e))
	}
}

// TestMustAndMay: P21.3, one name in both a Must and a May, of one class and of two, is of the Must alone.
func TestMustAndMay(t *testing.T) {
	for _, row := range []struct {
		s         api.Schema
		names     string
		must, may string
	}{
		{schema("a:cn:cn"), "a", "cn", ""},
		{schema("a:cn mail:cls cn"), "a", "cn mail", "cls"},
		{schema("a<b:cn", "b::cn"), "a", "cn", ""},
		{schema("a<b:cn", "b::cn"), "b", "", "cn"},
		{schema("a<b::cn", "b:cn"), "a", "cn", ""},
		{schema("a:cn", "b::cn"), "a b", "cn", ""},
		{schema("a:cn", "b::cn"), "b a", "cn", ""},
		{schema("a:cn", "b::cn"), "b", "", "cn"},
		{schema("a:cn:mail", "b:mail:cn"), "a b", "cn mail", ""},
		{schema("a:cn:mail", "b:cn:mail"), "a b", "cn", "mail"},
		{schema("a::cn mail", "b::cls mail"), "b a", "", "cls cn mail"},
		{schema("a:cn mail", "b:cls mail"), "b a", "cls cn mail", ""},
		// One below another is a name of its own.
		{schema("a:name:cn name sn"), "a", "name", "cn sn"},
		{schema("a:cn:name"), "a", "cn", "name"},
	} {
		seeRight(t, row.s)
		must, may, e := Needs(row.s, strings.Fields(row.names)...)
		if !slices.Equal(must, strings.Fields(row.must)) || !slices.Equal(may, strings.Fields(row.may)) || e != api.OK {
			t.Errorf("Needs of %s in %s: %q %q %d", row.names, told(row.s), must, may, int(e))
		}
	}
}

// TestFit: P21.4, of no attributes, of one twice, of what must be, of what is below and above it, of what is none of what must or may be, of what no type has.
func TestFit(t *testing.T) {
	s := schema("a:cn:phone", "b<a:mail", "c", "d::cls name", "e:cn name", "*f::sn")
	seeRight(t, s)
	for _, row := range []struct {
		names, has string
		want       api.Errno
	}{
		{"a", "", api.ErrClass}, {"a", "cn", api.OK}, {"a", "cn cn", api.OK}, {"a", "nick", api.OK}, {"a", "nick nick", api.OK}, {"a", "cn nick", api.OK}, {"a", "nick cn", api.OK}, {"a", "name", api.ErrClass}, {"a", "sn", api.ErrClass}, {"a", "name cn", api.ErrClass}, {"a", "cn sn", api.ErrClass},
		{"a", "phone", api.ErrClass}, {"a", "cn phone", api.OK}, {"a", "phone cn", api.OK}, {"a", "phone phone nick", api.OK}, {"a", "cn mail", api.ErrClass}, {"a", "mail cn phone", api.ErrClass}, {"a", "cn phone mail", api.ErrClass}, {"a", "cls cn", api.ErrClass},
		{"a", "x", api.ErrAttr}, {"a", "cn x", api.ErrAttr}, {"a", "x cn", api.ErrAttr}, {"a", "mail x", api.ErrAttr}, {"a", "a", api.ErrAttr}, {"a", "CN", api.ErrAttr}, {"a", "cn cn\x00", api.ErrAttr}, {"a", "cn \xff", api.ErrAttr},
		{"b", "cn", api.ErrClass}, {"b", "mail", api.ErrClass}, {"b", "cn mail", api.OK}, {"b", "mail phone nick", api.OK}, {"b a", "mail cn", api.OK}, {"a b", "cn", api.ErrClass}, {"b", "cn mail sn", api.ErrClass},
		{"c", "", api.OK}, {"c", "cls", api.ErrClass}, {"c", "cn", api.ErrClass}, {"c", "x", api.ErrAttr}, {"c a", "cn", api.OK}, {"c a", "", api.ErrClass},
		{"d", "", api.OK}, {"d", "cls", api.OK}, {"d", "cls cls", api.OK}, {"d", "name", api.OK}, {"d", "cn", api.OK}, {"d", "nick sn cls", api.OK}, {"d", "phone", api.ErrClass}, {"d a", "cn", api.OK}, {"d a", "name", api.ErrClass}, {"a d", "name cn", api.OK}, {"a d", "name nick sn phone cls", api.OK},
		// One below both does for both; one above does not.
		{"e", "cn", api.OK}, {"e", "nick", api.OK}, {"e", "name", api.ErrClass}, {"e", "sn", api.ErrClass}, {"e", "name sn", api.ErrClass}, {"e", "sn cn", api.OK}, {"e", "name nick", api.OK}, {"e", "cn name sn nick", api.OK}, {"e", "cn phone", api.ErrClass}, {"e a", "cn phone", api.OK},
		{"f", "sn", api.ErrClass}, {"f c", "sn", api.OK}, {"f c", "", api.OK}, {"f a", "sn cn", api.OK}, {"f a", "sn", api.ErrClass}, {"f a", "cn name", api.ErrClass},
		{"", "", api.ErrClass}, {"x", "cn", api.ErrClass}, {"a x", "cn", api.ErrClass}, {"x", "x", api.ErrClass}, {"f", "x", api.ErrClass}, {"", "x", api.ErrClass},
	} {
		names, has := strings.Fields(row.names), strings.Fields(row.has)
		if e := Fit(s, names, has); e != row.want {
			t.Errorf("Fit of %q and %q: %d, not %d", names, has, int(e), int(row.want))
		}
		seeFit(t, s, names, has)
	}
	for _, has := range [][]string{{""}, {"cn", ""}, {"", "cn"}, {strings.Repeat("c", 17)}, {strings.Repeat("c", 100000)}} {
		if e := Fit(s, []string{"a"}, has); e != api.ErrAttr {
			t.Errorf("Fit of %.20q: %d", has, int(e))
		}
	}
	many := slices.Repeat([]string{"phone"}, 200000)
	many[199999] = "nick"
	if e := Fit(s, []string{"a"}, many); e != api.OK {
		t.Errorf("Fit of many: %d", int(e))
	}
	many[199998] = "mail"
	if e := Fit(s, []string{"a"}, many); e != api.ErrClass {
		t.Errorf("Fit of many and mail: %d", int(e))
	}
	many[199999] = "x"
	if e := Fit(s, []string{"a"}, many); e != api.ErrAttr {
		t.Errorf("Fit of many and x: %d", int(e))
	}
}

// TestExample: the chapter's example.
func TestExample(t *testing.T) {
	s := schema("person<top:name:phone", "*top:cls")
	seeRight(t, s)
	must, may, e := Needs(s, "person")
	if !slices.Equal(must, []string{"cls", "name"}) || !slices.Equal(may, []string{"phone"}) || e != api.OK {
		t.Errorf("Needs of person: %q %q %d", must, may, int(e))
	}
	if e := Fit(s, []string{"person"}, []string{"cls", "cn"}); e != api.OK {
		t.Errorf("Fit of cls, cn: %d", int(e))
	}
}

// TestWrong: P21.1 to P21.4, schemas that may not be, for each of the reasons and for two of them, and types that may not be ahead of all, asked of each call.
func TestWrong(t *testing.T) {
	right := schema("a<b:cn mail:phone", "*b:cls:cn mail", "c<b::name", "d:sn")
	seeRight(t, right)
	faults := []func(c *api.Class){
		func(c *api.Class) { c.Name = "" }, func(c *api.Class) { c.Name = strings.ToUpper(c.Name) }, func(c *api.Class) { c.Name += strings.Repeat("x", 16) },
		func(c *api.Class) { c.Above = c.Name }, func(c *api.Class) { c.Above = "x" }, func(c *api.Class) { c.Above = " " }, func(c *api.Class) { c.Above = "cls" },
		func(c *api.Class) { c.Must = []string{"x"} }, func(c *api.Class) { c.Must = []string{""} }, func(c *api.Class) { c.Must = []string{"cn", "cn"} }, func(c *api.Class) { c.Must = []string{"mail", "cn"} }, func(c *api.Class) { c.Must = make([]string, 9) },
		func(c *api.Class) { c.May = []string{"cn", "x"} }, func(c *api.Class) { c.May = []string{""} }, func(c *api.Class) { c.May = []string{"sn", "sn"} }, func(c *api.Class) { c.May = []string{"sn", "cls"} }, func(c *api.Class) { c.May = make([]string, 9) },
	}
	badTypes := [][]api.Attr{{{}}, plain("a", "a"), plain("b", "a"), plain("a<a"), plain("a<b", "b<a"), plain("a<x"), plain("A"), {{Name: "cls", Syntax: 11}}, {{Name: "cls", Syntax: 1, Rule: 3}}, make([]api.Attr, 25)}
	for _, l := range badTypes {
		m := copied(right)
		m.Attrs = l
		seeWrong(t, m, api.ErrAttr)
		seeWrong(t, api.Schema{Attrs: l}, api.ErrAttr)
	}
	for i := range right.Classes {
		for k, f := range faults {
			s := copied(right)
			f(&s.Classes[i])
			if modelCheck(s) != api.ErrClass {
				t.Fatalf("fault %d of class %d is none", k, i)
			}
			seeWrong(t, s, api.ErrClass)
			for _, g := range faults {
				m := copied(s)
				g(&m.Classes[(i+1)%4])
				if e := Check(m); e != api.ErrClass {
					t.Errorf("Check of %s: %d", told(m), int(e))
				}
			}
			s.Attrs = badTypes[k%len(badTypes)]
			seeWrong(t, s, api.ErrAttr)
		}
	}
	for i := range right.Classes {
		for _, n := range []string{"a", "b", "c", "d", ""} {
			s, u := copied(right), copied(right)
			s.Classes[i].Name = n
			seeModel(t, s)
			u.Classes[i].Above = n
			seeModel(t, u)
		}
		// To be Bare makes no class one that may not be.
		s := copied(right)
		s.Classes[i].Bare = !s.Classes[i].Bare
		seeRight(t, s)
	}
	// What is above a class may be Bare or not, and may ask for the same.
	seeRight(t, schema("*a<b:cn:cn", "b<c:cn:cn", "*c:cn:cn"))
	// A type that is not there any more is missed by all classes that have it.
	for i := range right.Attrs {
		s := copied(right)
		s.Attrs = slices.Delete(s.Attrs, i, i+1)
		seeModel(t, s)
	}
}

// TestShortSchemas: P21.1 to P21.4, all lists of at most three classes of few names, with a Must or a May or none, Bare or not.
func TestShortSchemas(t *testing.T) {
	types := plain("t", "u<t")
	var one []api.Class
	for _, name := range []string{"a", "b", "c"} {
		for _, above := range []string{"", "a", "b", "c", "d"} {
			one = append(one, api.Class{Name: name, Above: above, Must: []string{"t"}, Bare: true}, api.Class{Name: name, Above: above, May: []string{"t", "u"}, Must: []string{"u"}})
		}
	}
	right := 0
	for _, a := range one {
		seeModel(t, api.Schema{Attrs: types, Classes: []api.Class{a}})
		for _, b := range one {
			seeModel(t, api.Schema{Attrs: types, Classes: []api.Class{a, b}})
			for _, c := range one {
				s := api.Schema{Attrs: types, Classes: []api.Class{a, b, c}}
				if e := Check(s); e != modelCheck(s) {
					t.Errorf("Check of %s: %d", told(s), int(e))
				}
				if a.Name <= b.Name && b.Name <= c.Name {
					seeModel(t, s)
				}
				if Check(s) == api.OK {
					right++
				}
				stopAtFault(t)
			}
		}
	}
	// 16 forests of three, each class in two forms.
	if right != 16*8 {
		t.Errorf("%d lists of three may be", right)
	}
}

// TestAllFits: P21.4, P21.6, each set of types against classes that ask for each, in each way.
func TestAllFits(t *testing.T) {
	types := plain("p", "q<p", "r<q", "s", "t<p")
	all := typeNames(api.Schema{Attrs: types})
	pick := func(bits int) []string {
		var l []string
		for i, n := range all {
			if bits>>i&1 == 1 {
				l = append(l, n)
			}
		}
		return l
	}
	fits := 0
	for must := range 32 {
		for may := range 32 {
			s := api.Schema{Attrs: types, Classes: []api.Class{{Name: "c", Must: pick(must), May: pick(may)}}}
			for has := range 32 {
				l := pick(has)
				e := Fit(s, []string{"c"}, l)
				if want := modelFit(s, []string{"c"}, l); e != want {
					t.Errorf("Fit of %q in %s: %d, not %d", l, told(s), int(e), int(want))
				}
				if e == api.OK {
					fits++
				}
			}
			stopAtFault(t)
		}
	}
	if fits == 0 || fits == 32*32*32 {
		t.Errorf("%d fit", fits)
	}
}

// byChance makes a schema that may be: types and classes of names by chance, each but the tops with an Above that stands ahead in an order by chance.
func byChance(r *rand.Rand) api.Schema {
	var s api.Schema
	types := words(r, 1+r.Intn(24))
	for i, n := range types {
		a := api.Attr{Name: n, Syntax: 1, Rule: r.Intn(3)}
		if i > 0 && r.Intn(2) > 0 {
			a.Above = types[r.Intn(i)]
		}
		s.Attrs = append(s.Attrs, a)
	}
	some := func() []string {
		var l []string
		for _, n := range types {
			if len(l) < 8 && r.Intn(1+len(types)/2) == 0 {
				l = append(l, n)
			}
		}
		return l
	}
	names := words(r, 1+r.Intn(12))
	order := r.Perm(len(names))
	s.Classes = make([]api.Class, len(names))
	for k, i := range order {
		c := api.Class{Name: names[i], Bare: r.Intn(3) == 0, Must: some(), May: some()}
		if k > 0 && r.Intn(4) > 0 {
			c.Above = names[order[r.Intn(k)]]
		}
		s.Classes[i] = c
	}
	return s
}

// words is so many words by chance, rising.
func words(r *rand.Rand, n int) []string {
	const letters = "abcdefghijklmnopqrstuvwxyz"
	const signs = letters + "0123456789-"
	var names []string
	for len(names) < n {
		b := []byte{letters[r.Intn(5)]}
		for range r.Intn(16) {
			b = append(b, signs[r.Intn(len(signs))])
		}
		if !slices.Contains(names, string(b)) {
			names = append(names, string(b))
		}
	}
	slices.Sort(names)
	return names
}

// someOf is some names of a list, by chance, perhaps one twice.
func someOf(r *rand.Rand, l []string, most int) []string {
	var some []string
	for range r.Intn(most + 1) {
		some = append(some, l[r.Intn(len(l))])
	}
	return some
}

// TestByChance: P21.1 to P21.4, schemas that may be, and the same with something changed.
func TestByChance(t *testing.T) {
	r := rand.New(rand.NewSource(2121))
	for range 150 {
		s := byChance(r)
		if modelCheck(s) != api.OK {
			t.Fatalf("%s", told(s))
		}
		seeRight(t, s)
		var names []string
		for _, c := range s.Classes {
			names = append(names, c.Name)
		}
		types := typeNames(s)
		for range 20 {
			l := someOf(r, names, 4)
			seeNeeds(t, s, l...)
			seeFit(t, s, l, someOf(r, types, 6))
			must, may, _ := modelNeeds(s, l)
			if len(may) > 0 {
				seeFit(t, s, l, append(must, someOf(r, may, 3)...))
			}
		}
		for range 10 {
			m := copied(s)
			c := &m.Classes[r.Intn(len(m.Classes))]
			switch r.Intn(5) {
			case 0:
				c.Above = names[r.Intn(len(names))]
			case 1:
				c.Name = names[r.Intn(len(names))]
			case 2:
				c.Must = someOf(r, types, 2)
			case 3:
				c.May = someOf(r, append(types, "x1x"), 2)
			case 4:
				m.Attrs = slices.Delete(m.Attrs, 0, 1)
			}
			seeModel(t, m)
		}
		stopAtFault(t)
	}
}

// isPart tells whether all of a list is in another one.
func isPart(l, all []string) bool {
	return !slices.ContainsFunc(l, func(n string) bool { return !slices.Contains(all, n) })
}

// TestMoreNames: P21.5, more names need no less; their order, and names twice, are of no matter; a class of the Line of another one adds nothing to it.
func TestMoreNames(t *testing.T) {
	r := rand.New(rand.NewSource(215))
	rows := 0
	for range 300 {
		s := byChance(r)
		var all []string
		for _, c := range s.Classes {
			all = append(all, c.Name)
		}
		names := append(someOf(r, all, 3), all[r.Intn(len(all))])
		must, may, e := Needs(s, names...)
		if e != api.OK {
			continue
		}
		rows++
		more := append(slices.Clone(names), someOf(r, all, 3)...)
		m, y, e := Needs(s, more...)
		if e != api.OK || !isPart(must, m) || !isPart(may, slices.Concat(m, y)) {
			t.Errorf("Needs of %q: %q %q, but of %q: %q %q %d", names, must, may, more, m, y, int(e))
		}
		same := append(slices.Clone(names), names[r.Intn(len(names))])
		for _, n := range names {
			up := Line(s, n)
			same = append(same, up[r.Intn(len(up))])
		}
		r.Shuffle(len(same), func(i, j int) { same[i], same[j] = same[j], same[i] })
		m, y, e = Needs(s, same...)
		if e != api.OK || !slices.Equal(m, must) || !slices.Equal(y, may) {
			t.Errorf("Needs of %q: %q %q, but of %q: %q %q %d", names, must, may, same, m, y, int(e))
		}
		stopAtFault(t)
	}
	if rows < 100 {
		t.Errorf("%d rows alone", rows)
	}
}

// TestFitsStill: P21.6, what fits still fits with the same names in another order; without one that alone is, or is below, what must be, it does not.
func TestFitsStill(t *testing.T) {
	r := rand.New(rand.NewSource(216))
	rows, alone := 0, 0
	for range 600 {
		s := byChance(r)
		c := s.Classes[r.Intn(len(s.Classes))]
		must, may, e := Needs(s, c.Name)
		if e != api.OK || len(must) == 0 {
			continue
		}
		has := slices.Clone(must)
		for i, n := range has {
			below := attrs.Below(s.Attrs, n)
			has[i] = below[r.Intn(len(below))]
		}
		if len(may) > 0 {
			has = append(has, someOf(r, may, 3)...)
		}
		rows++
		names := append(Line(s, c.Name), c.Name)
		for range 3 {
			r.Shuffle(len(names), func(i, j int) { names[i], names[j] = names[j], names[i] })
			r.Shuffle(len(has), func(i, j int) { has[i], has[j] = has[j], has[i] })
			if e := Fit(s, names, has); e != api.OK {
				t.Errorf("Fit of %q and %q in %s: %d", names, has, told(s), int(e))
			}
		}
		for _, m := range must {
			is := func(n string) bool { return attrs.Is(s.Attrs, n, m) }
			i := slices.IndexFunc(has, is)
			if rest := slices.Delete(slices.Clone(has), i, i+1); !slices.ContainsFunc(rest, is) {
				alone++
				if e := Fit(s, names, rest); e != api.ErrClass {
					t.Errorf("Fit of %q and %q in %s, without %q: %d", names, rest, told(s), has[i], int(e))
				}
			}
		}
		stopAtFault(t)
	}
	if rows < 100 || alone < 100 {
		t.Errorf("%d rows, %d without one", rows, alone)
	}
}

// TestHandedIn: what comes in stays as it was, its spare room too.
func TestHandedIn(t *testing.T) {
	roomy := func(l ...string) ([]string, []string) {
		room := append(slices.Clone(l), "left", "behind")
		return room[:len(l)], room
	}
	person, personRoom := roomy("cn", "name")
	may, mayRoom := roomy("phone")
	top, topRoom := roomy("cls")
	names, namesRoom := roomy("top", "person", "top")
	has, hasRoom := roomy("sn", "cls", "nick", "sn")
	classRoom := []api.Class{{Name: "person", Above: "top", Must: person, May: may}, {Name: "top", Bare: true, Must: top}, {Name: "left"}, {Name: "behind"}}
	typeRoom := append(theTypes(), plain("left", "behind")...)
	s := api.Schema{Attrs: typeRoom[:7], Classes: classRoom[:2]}
	was := copied(api.Schema{Attrs: typeRoom, Classes: classRoom})
	for range 3 {
		if e := Check(s); e != api.OK {
			t.Errorf("Check: %d", int(e))
		}
		_ = append(Line(s, "person"), "more", "still more")
		must, mays, e := Needs(s, names...)
		if e != api.OK {
			t.Errorf("Needs: %d", int(e))
		}
		_, _ = append(must, "more"), append(mays, "more")
		if e := Fit(s, names, has); e != api.OK {
			t.Errorf("Fit: %d", int(e))
		}
		Fit(s, names, []string{"x"})
		Needs(s, "x")
	}
	if !reflect.DeepEqual(api.Schema{Attrs: typeRoom, Classes: classRoom}, was) {
		t.Errorf("changed: %s", told(api.Schema{Attrs: typeRoom, Classes: classRoom}))
	}
	for _, row := range []struct {
		room []string
		was  string
	}{{personRoom, "cn name"}, {mayRoom, "phone"}, {topRoom, "cls"}, {namesRoom, "top person top"}, {hasRoom, "sn cls nick sn"}} {
		if want := append(strings.Fields(row.was), "left", "behind"); !slices.Equal(row.room, want) {
			t.Errorf("changed: %q, not %q", row.room, want)
		}
	}
}

// TestHandedOut: what is handed out is new memory: that it is changed changes nothing in what was handed in, nor in the other lists.
func TestHandedOut(t *testing.T) {
	s := schema("person:cn name:phone", "staff<person::mail", "*top:cls")
	was := copied(s)
	spoil := func(m []string) {
		for i := range m[:cap(m)] {
			m[:cap(m)][i] = "spoilt"
		}
	}
	names := []string{"person", "staff", "top"}
	for _, l := range [][]string{{"person"}, {"staff"}, names} {
		for range 2 {
			spoil(Line(s, l[0]))
			must, _, _ := Needs(s, l...)
			spoil(must)
			_, may, _ := Needs(s, l...)
			spoil(may)
			if !reflect.DeepEqual(s, was) || !slices.Equal(names, []string{"person", "staff", "top"}) {
				t.Fatalf("changed: %s %q", told(s), names)
			}
		}
		must, may, _ := Needs(s, l...)
		wantMust, wantMay := slices.Clone(must), slices.Clone(may)
		spoil(must)
		if !slices.Equal(may, wantMay) {
			t.Errorf("two lists of one answer share memory: %q", may)
		}
		must, may, _ = Needs(s, l...)
		spoil(may)
		if !slices.Equal(must, wantMust) {
			t.Errorf("two lists of one answer share memory: %q", must)
		}
	}
	one, other := Line(s, "staff"), Line(s, "staff")
	spoil(one)
	if !slices.Equal(other, []string{"staff", "person"}) {
		t.Errorf("two answers share memory: %q", other)
	}
	seeRight(t, s)
}
