package filter

import (
	"fmt"
	"math"
	"math/rand"
	"regexp"
	"slices"
	"strings"
	"sync"
	"testing"

	"toponym/api"
)

// told is what is told of a text: its beginning, and its length.
func told(s string) string {
	return fmt.Sprintf("%q (%d bytes)", s[:min(len(s), 160)], len(s))
}

// plain tells a filter field by field, without telling nil lists from empty ones, so that filters can be held against each other without Same.
func plain(f api.Filter) string {
	var b strings.Builder
	p := f.Pieces
	fmt.Fprintf(&b, "{%d %q %q %q %q %q %t %t %q %t", f.Kind, f.Name, f.Value, p.Initial, p.Any, p.Final, p.HasInitial, p.HasFinal, f.Rule, f.Dn)
	for _, k := range f.Kids {
		b.WriteString(plain(k))
	}
	return b.String() + "}"
}

// nothing is what is told beside an error.
var nothing = plain(api.Filter{})

// group is a filter of others.
func group(kind int, kids ...api.Filter) api.Filter { return api.Filter{Kind: kind, Kids: kids} }

// equals is the filter that asks whether a value is this.
func equals(name, value string) api.Filter {
	return api.Filter{Kind: api.Equal, Name: name, Value: value}
}

// sub is a filter of pieces: the first and the last are asked where they are not empty.
func sub(name string, l ...string) api.Filter {
	last := len(l) - 1
	p := api.Pieces{Initial: l[0], Any: l[1:last], Final: l[last], HasInitial: l[0] != "", HasFinal: l[last] != ""}
	return api.Filter{Kind: api.Substring, Name: name, Pieces: p}
}

// extension is an Extended.
func extension(name string, own bool, rule, value string) api.Filter {
	return api.Filter{Kind: api.Extended, Name: name, Dn: own, Rule: rule, Value: value}
}

// chain is a filter that is so deep: Nots around one that has no Kids.
func chain(deep int) api.Filter {
	f := equals("cn", "a")
	for range deep - 1 {
		f = group(api.Not, f)
	}
	return f
}

// wide is a filter of so many parts, two deep.
func wide(parts int) api.Filter {
	f := group(api.Or)
	for range parts - 1 {
		f.Kids = append(f.Kids, equals("a", "b"))
	}
	return f
}

// allTexts is all texts of at most so many of some words.
func allTexts(most int, words ...string) []string {
	all := []string{""}
	for from, size := 0, 1; size <= most; size++ {
		upTo := len(all)
		for _, s := range all[from:upTo] {
			for _, w := range words {
				all = append(all, s+w)
			}
		}
		from = upTo
	}
	return all
}

// The model: what the chapter says, written anew, by regular expressions and brackets that are counted.

const (
	modelWord  = `([A-Za-z][A-Za-z0-9-]{0,15})`
	modelValue = `((?:[^\x00()*\\]|\\[0-9A-Fa-f]{2})*)`
)

var (
	smallWord = regexp.MustCompile(`\A[a-z][a-z0-9-]{0,15}\z`)
	holds     = regexp.MustCompile(`(?s)\A` + modelWord + `(=|>=|<=|~=)` + modelValue + `\z`)
	presents  = regexp.MustCompile(`(?s)\A` + modelWord + `=\*\z`)
	subs      = regexp.MustCompile(`(?s)\A` + modelWord + `=(` + modelValue + `(\*` + modelValue + `)+)\z`)
	extends4  = regexp.MustCompile(`(?s)\A` + modelWord + `?(:[dD][nN])?(?::` + modelWord + `)?:=` + modelValue + `\z`)
	escaped   = regexp.MustCompile(`\\[0-9A-Fa-f]{2}`)
	small26   = strings.NewReplacer(strings.Split("A a B b C c D d E e F f G g H h I i J j K k L l M m N n O o P p Q q R r S s T t U u V v W w X x Y y Z z", " ")...)
	kindsOf   = map[string]int{"=": api.Equal, ">=": api.AtLeast, "<=": api.AtMost, "~=": api.Approx}
)

// modelBytes is the value of a text.
func modelBytes(s string) string {
	return escaped.ReplaceAllStringFunc(s, func(e string) string {
		var b byte
		fmt.Sscanf(e[1:], "%02x", &b)
		return string([]byte{b})
	})
}

// modelItem is the filter without Kids whose text, without its brackets, this is.
func modelItem(s string) (api.Filter, bool) {
	if m := presents.FindStringSubmatch(s); m != nil {
		return api.Filter{Kind: api.Present, Name: small26.Replace(m[1])}, true
	}
	if m := holds.FindStringSubmatch(s); m != nil {
		return api.Filter{Kind: kindsOf[m[2]], Name: small26.Replace(m[1]), Value: modelBytes(m[3])}, true
	}
	if m := subs.FindStringSubmatch(s); m != nil {
		l := strings.Split(m[2], "*")
		for i := range l {
			l[i] = modelBytes(l[i])
		}
		return sub(small26.Replace(m[1]), l...), true
	}
	if m := extends4.FindStringSubmatch(s); m != nil {
		return extension(small26.Replace(m[1]), m[2] != "", small26.Replace(m[3]), modelBytes(m[4])), true
	}
	return api.Filter{}, false
}

// modelCut parts what stands between brackets into texts, each of which begins with a bracket and ends where as many were closed.
func modelCut(s string) ([]string, bool) {
	var l []string
	open, from := 0, 0
	for i, c := range []byte(s) {
		switch {
		case c == '(':
			open++
		case c == ')':
			open--
		case open == 0:
			return nil, false
		}
		if open < 0 {
			return nil, false
		}
		if open == 0 {
			l, from = append(l, s[from:i+1]), i+1
		}
	}
	return l, open == 0
}

// modelRead is the filter whose text this is, if it were that any may be.
func modelRead(s string) (api.Filter, bool) {
	if len(s) < 2 || s[0] != '(' || s[len(s)-1] != ')' {
		return api.Filter{}, false
	}
	s = s[1 : len(s)-1]
	kind := strings.Index("&|!", s[:min(len(s), 1)])
	if s == "" || kind < 0 {
		return modelItem(s)
	}
	l, ok := modelCut(s[1:])
	if !ok {
		return api.Filter{}, false
	}
	f := group(kind)
	for _, t := range l {
		k, ok := modelRead(t)
		if !ok {
			return api.Filter{}, false
		}
		f.Kids = append(f.Kids, k)
	}
	return f, true
}

// modelParse is what Parse answers.
func modelParse(s string) (api.Filter, api.Errno) {
	if len(s) > 4000 {
		return api.Filter{}, api.ErrBig
	}
	if f, ok := modelRead(s); ok && modelMay(f) {
		return f, api.OK
	}
	return api.Filter{}, api.ErrFilter
}

// modelDeep and modelCount are how deep a filter is and how many parts it has, however many these are.
func modelDeep(f api.Filter) int {
	n := 0
	for _, k := range f.Kids {
		n = max(n, modelDeep(k))
	}
	return n + 1
}

func modelCount(f api.Filter) int {
	n := 1
	for _, k := range f.Kids {
		n += modelCount(k)
	}
	return n
}

// modelMay is whether a filter may be.
func modelMay(f api.Filter) bool {
	return modelDeep(f) <= 8 && modelCount(f) <= 60 && modelFits(f)
}

// modelFits is whether a filter has what its Kind asks for and nothing else, and so have its Kids.
func modelFits(f api.Filter) bool {
	kids, named, value, cut, rule := len(f.Kids) > 0, f.Name != "", f.Value != "", plain(api.Filter{Pieces: f.Pieces}) != nothing, f.Rule != ""
	word, long := smallWord.MatchString(f.Name), len(f.Value) > 400
	for _, k := range f.Kids {
		if !modelFits(k) {
			return false
		}
	}
	switch f.Kind {
	case 0, 1:
		return !named && !value && !cut && !rule && !f.Dn
	case 2:
		return !named && !value && !cut && !rule && !f.Dn && len(f.Kids) == 1
	case 3, 5, 6, 8:
		return word && !long && !cut && !rule && !f.Dn && !kids
	case 4:
		return word && !value && modelPieces(f.Pieces) && !rule && !f.Dn && !kids
	case 7:
		return word && !value && !cut && !rule && !f.Dn && !kids
	case 9:
		return (word || !named) && !long && !cut && (!rule || smallWord.MatchString(f.Rule) && f.Rule != "dn") && (named || rule) && !kids
	}
	return false
}

// modelPieces is whether pieces may be (chapter 13), and none has more than 400 bytes.
func modelPieces(p api.Pieces) bool {
	if !p.HasInitial && !p.HasFinal && len(p.Any) == 0 || p.HasInitial != (p.Initial != "") || p.HasFinal != (p.Final != "") || len(p.Any) > 6 {
		return false
	}
	for _, s := range p.Any {
		if s == "" || len(s) > 400 {
			return false
		}
	}
	return len(p.Initial) <= 400 && len(p.Final) <= 400
}

// modelText is the text of a value.
func modelText(s string) string {
	t := ""
	for i := range len(s) {
		if b := s[i]; b < 0x20 || b == 0x7f || b == '(' || b == ')' || b == '*' || b == '\\' {
			t += fmt.Sprintf("\\%02x", b)
		} else {
			t += s[i : i+1]
		}
	}
	return t
}

// modelShow is the text of a filter that may be.
func modelShow(f api.Filter) string {
	kids := ""
	for _, k := range f.Kids {
		kids += modelShow(k)
	}
	own, rule := "", ""
	if f.Dn {
		own = ":dn"
	}
	if f.Rule != "" {
		rule = ":" + f.Rule
	}
	any := ""
	for _, s := range f.Pieces.Any {
		any += modelText(s) + "*"
	}
	return "(" + []string{
		"&" + kids, "|" + kids, "!" + kids,
		f.Name + "=" + modelText(f.Value),
		f.Name + "=" + modelText(f.Pieces.Initial) + "*" + any + modelText(f.Pieces.Final),
		f.Name + ">=" + modelText(f.Value), f.Name + "<=" + modelText(f.Value), f.Name + "=*", f.Name + "~=" + modelText(f.Value),
		f.Name + own + rule + ":=" + modelText(f.Value),
	}[f.Kind] + ")"
}

// seeMade looks that Check, Show, Deep and Count of a filter are what the chapter says, that it is the same as itself, and that Parse of what is shown is it again.
func seeMade(t *testing.T, f api.Filter) {
	t.Helper()
	deep, count := min(modelDeep(f), 9), min(modelCount(f), 61)
	if deep == 9 {
		count = 61
	}
	if d, n := Deep(f), Count(f); d != deep || n != count {
		t.Errorf("Deep, Count of %s: %d %d, not %d %d", told(plain(f)), d, n, deep, count)
	}
	if !Same(f, f) {
		t.Errorf("Same of %s and itself: false", told(plain(f)))
	}
	want, e := "", api.ErrFilter
	if modelMay(f) {
		want, e = modelShow(f), api.OK
	}
	if x := Check(f); x != e {
		t.Errorf("Check of %s: %d, not %d", told(plain(f)), int(x), int(e))
	}
	s, x := Show(f)
	if s != want || x != e {
		t.Errorf("Show of %s: %s %d, not %s %d", told(plain(f)), told(s), int(x), told(want), int(e))
	}
	if e == api.OK && x == api.OK && len(want) <= 4000 {
		seeRead(t, s, f)
	}
	stopAtFault(t)
}

// seeRead looks that a text is read as a filter, which may be, and is read again out of its own text.
func seeRead(t *testing.T, s string, want api.Filter) {
	t.Helper()
	f, x := Parse(s)
	if plain(f) != plain(want) || x != api.OK {
		t.Errorf("Parse of %s: %s %d, not %s", told(s), told(plain(f)), int(x), told(plain(want)))
	}
	if !Same(f, want) || Check(f) != api.OK {
		t.Errorf("Parse of %s: what is read is not the same, or may not be", told(s))
	}
	u, x := Show(f)
	if u != modelShow(want) || x != api.OK {
		t.Errorf("Show of what is read of %s: %s %d", told(s), told(u), int(x))
	}
	if len(u) <= 4000 {
		if g, x := Parse(u); plain(g) != plain(want) || x != api.OK {
			t.Errorf("Parse of Show of %s: %s %d", told(s), told(plain(g)), int(x))
		}
	}
}

// seeNone looks that a text is read as none, with this error.
func seeNone(t *testing.T, s string, e api.Errno) {
	t.Helper()
	if f, x := Parse(s); plain(f) != nothing || x != e {
		t.Errorf("Parse of %s: %s %d, not %d", told(s), told(plain(f)), int(x), int(e))
	}
}

// seeText looks that Parse of a text is what the chapter says.
func seeText(t *testing.T, s string) {
	t.Helper()
	if f, e := modelParse(s); e == api.OK {
		seeRead(t, s, f)
	} else {
		seeNone(t, s, e)
	}
	stopAtFault(t)
}

// stopAtFault ends a test that goes through many at its first faults: the others would tell nothing more.
func stopAtFault(t *testing.T) {
	t.Helper()
	if t.Failed() {
		t.FailNow()
	}
}

// rows is filters with their texts, written by hand.
var rows = []struct {
	text string
	f    api.Filter
}{
	{"(&)", group(api.And)},
	{"(|)", group(api.Or)},
	{"(&(|)(&))", group(api.And, group(api.Or), group(api.And))},
	{"(!(|))", group(api.Not, group(api.Or))},
	{"(&(cn=a))", group(api.And, equals("cn", "a"))},
	{"(|(cn=a)(cn=b))", group(api.Or, equals("cn", "a"), equals("cn", "b"))},
	{"(!(cn=a))", group(api.Not, equals("cn", "a"))},
	{"(!(!(cn=a)))", group(api.Not, group(api.Not, equals("cn", "a")))},
	{"(cn=a)", equals("cn", "a")},
	{"(cn=)", equals("cn", "")},
	{"(dn=dn)", equals("dn", "dn")},
	{"(cn= )", equals("cn", " ")},
	{"(cn= a )", equals("cn", " a ")},
	{"(cn==)", equals("cn", "=")},
	{"(cn=>=a)", equals("cn", ">=a")},
	{"(cn=:=&|!~<#+,;\")", equals("cn", ":=&|!~<#+,;\"")},
	{"(cn=\u00e9\xff\x80)", equals("cn", "\u00e9\xff\x80")},
	{"(cn=\\00\\28\\29\\2a\\5c\\1f\\7f)", equals("cn", "\x00()*\\\x1f\x7f")},
	{"(cn=\\2a)", equals("cn", "*")},
	{"(abcdefghijklmnop=a)", equals("abcdefghijklmnop", "a")},
	{"(a-1=a)", equals("a-1", "a")},
	{"(age>=7)", api.Filter{Kind: api.AtLeast, Name: "age", Value: "7"}},
	{"(age>=)", api.Filter{Kind: api.AtLeast, Name: "age"}},
	{"(age>==)", api.Filter{Kind: api.AtLeast, Name: "age", Value: "="}},
	{"(age<=7)", api.Filter{Kind: api.AtMost, Name: "age", Value: "7"}},
	{"(age<=<=)", api.Filter{Kind: api.AtMost, Name: "age", Value: "<="}},
	{"(cn~=a)", api.Filter{Kind: api.Approx, Name: "cn", Value: "a"}},
	{"(cn~=~)", api.Filter{Kind: api.Approx, Name: "cn", Value: "~"}},
	{"(cn=*)", api.Filter{Kind: api.Present, Name: "cn"}},
	{"(cn=a*)", sub("cn", "a", "")},
	{"(cn=*a)", sub("cn", "", "a")},
	{"(cn=a*b)", sub("cn", "a", "b")},
	{"(cn=*a*)", sub("cn", "", "a", "")},
	{"(cn=a*b*)", sub("cn", "a", "b", "")},
	{"(cn=*a*b)", sub("cn", "", "a", "b")},
	{"(cn=a*b*c)", sub("cn", "a", "b", "c")},
	{"(cn=*1*2*3*4*5*6*)", sub("cn", "", "1", "2", "3", "4", "5", "6", "")},
	{"(cn=\\2a*\\29 * \\28*\\5c)", sub("cn", "*", ") ", " (", "\\")},
	{"(cn:=a)", extension("cn", false, "", "a")},
	{"(cn:dn:=a)", extension("cn", true, "", "a")},
	{"(cn:fold:=a)", extension("cn", false, "fold", "a")},
	{"(cn:dn:fold:=a)", extension("cn", true, "fold", "a")},
	{"(:fold:=a)", extension("", false, "fold", "a")},
	{"(:dn:fold:=a)", extension("", true, "fold", "a")},
	{"(dn:=a)", extension("dn", false, "", "a")},
	{"(dn:dn:=a)", extension("dn", true, "", "a")},
	{"(:dnx:=)", extension("", false, "dnx", "")},
	{"(cn:d:=:=)", extension("cn", false, "d", ":=")},
	{"(cn:=dn:=a)", extension("cn", false, "", "dn:=a")},
	{"(cn:=\\2a)", extension("cn", false, "", "*")},
	{"(&(cn=a*b)(!(o:dn:=c))(age>=7))", group(api.And, sub("cn", "a", "b"), group(api.Not, extension("o", true, "", "c")), api.Filter{Kind: api.AtLeast, Name: "age", Value: "7"})},
}

// TestRows: P24.1 to P24.6, rows written by hand: each Kind there and back, each sign, stars, Extended with what it may have, the chapter's example.
func TestRows(t *testing.T) {
	for _, r := range rows {
		seeMade(t, r.f)
		if s, x := Show(r.f); s != r.text || x != api.OK {
			t.Errorf("Show of %s: %s %d", r.text, told(s), int(x))
		}
		seeRead(t, r.text, r.f)
	}
	example := rows[len(rows)-1].f
	if Deep(example) != 3 || Count(example) != 5 {
		t.Errorf("the example: %d deep, %d parts", Deep(example), Count(example))
	}
}

// TestRead: P24.3, P24.6, texts that are read though no filter is shown so: great letters, digits, bytes as they are.
func TestRead(t *testing.T) {
	for _, r := range []struct{ text, shown string }{
		{"(CN=A)", "(cn=A)"},
		{"(aZ-9>=aZ)", "(az-9>=aZ)"},
		{"(ABCDEFGHIJKLMNOP<=ABC)", "(abcdefghijklmnop<=ABC)"},
		{"(QRSTUVWXYZ~=XYZ)", "(qrstuvwxyz~=XYZ)"},
		{"(Cn=*)", "(cn=*)"},
		{"(cN=A*B*C)", "(cn=A*B*C)"},
		{"(CN:DN:FOLD:=A)", "(cn:dn:fold:=A)"},
		{"(Cn:dN:=DN)", "(cn:dn:=DN)"},
		{"(cn:Dn:Fold:=a)", "(cn:dn:fold:=a)"},
		{"(:DN:Near:=a)", "(:dn:near:=a)"},
		{"(:NEAR:=a)", "(:near:=a)"},
		{"(DN=DN)", "(dn=DN)"},
		{`(cn=\41\2A\2a\fF\Ff\FF\ff\5C)`, "(cn=A\\2a\\2a\xff\xff\xff\xff\\5c)"},
		{`(cn=\30\28\29\20)`, `(cn=0\28\29 )`},
		{"(cn=\x01\x1f\x7f\n)", `(cn=\01\1f\7f\0a)`},
		{`(cn=\41*\42*\43)`, "(cn=A*B*C)"},
		{`(cn=\2a*)`, `(cn=\2a*)`},
		{`(cn:=\4a\4B)`, "(cn:=JK)"},
		{`(cn=\414)`, "(cn=A4)"},
		{`(cn=\5c41)`, `(cn=\5c41)`},
		{"(|(CN=\t*)(!(O:Dn:=\\c3\\A9)))", "(|(cn=\\09*)(!(o:dn:=\u00e9)))"},
	} {
		f, x := Parse(r.text)
		if s, y := Show(f); s != r.shown || x != api.OK || y != api.OK {
			t.Errorf("Show of Parse of %s: %s %d %d, not %s", told(r.text), told(s), int(x), int(y), told(r.shown))
		}
		seeText(t, r.text)
	}
}

// noFilters is texts that are no filter's, each by the words of the chapter.
var noFilters = []string{
	// brackets, and what stands around them
	"", "(", ")", "()", "(()", "())", "(())", ")(", "((", "))", "cn=a", "(cn=a", "cn=a)", "(cn=a))", "((cn=a)", "((cn=a))", "(cn=a)(cn=b)", "(cn=a)x", "x(cn=a)",
	"(cn=a)(", "(cn=(a)", "(cn=a(b))", "(cn=(a))", "(cn(=a)", "(cn)=a)", "(cn)(a=b)", "(cn=a)\x00", "(cn=a)\n",
	// blanks
	" ", " (cn=a)", "(cn=a) ", "( cn=a)", "(cn =a)", "(& (cn=a))", "(&(cn=a) (cn=b))", "(&(cn=a) )", "( &(cn=a))", "(! (cn=a))", "(cn: dn:=a)", "(cn> =a)",
	// Kids
	"(!)", "(!(cn=a)(cn=b))", "(&", "(|", "(!", "&", "(&cn=a)", "(!cn=a)", "(&(cn=a)", "(&(cn=a)x)", "(&&)", "(&|)", "(&())", "(&(cn))", "(|(cn=a)(!))", "(&)(|)", "&(cn=a)", "(&(cn=a)))", "(&(cn=a)(cn=b)", "(^(cn=a))", "(cn=a&(o=b))",
	// Names
	"(=a)", "(1=a)", "(-a=b)", "(c n=a)", "(c_n=a)", "(cn.=a)", "(c\u00e9=a)", "(\u212an=a)", "(cn\x00=a)", "(abcdefghijklmnopq=a)", "(abcdefghijklmnopq=*)", "(abcdefghijklmnopq=*a)", "(=*)", "(=a*)", "(=)", "(*=a)", "(c*=a)", `(\63n=a)`, `(c\6e=a)`, "(1=*)", "(1=a*)", "(>=a)", "(<=a)", "(~=a)", "(1>=a)", "(1<=a)", "(1~=a)", "(cn;x=a)",
	// signs, and parts of them
	"(cn)", "(cn>a)", "(cn<a)", "(cn~a)", "(cn:a)", "(cn>)", "(cn<)", "(cn~)", "(cn:)", "(cn!=a)", "(cn>>=a)", "(cn<>=a)", "(cn~~=a)", "(cn>:=a)", "(cn:>=a)", "(cn:dn=a)", "(cn:dn>=a)", "(cn:fold=*)", "(>)", "(:)", "(a)", "(dn)",
	// values
	`(cn=\)`, `(cn=\4)`, `(cn=\4`, `(cn=\`, `(cn=\41`, `(cn=\4g)`, `(cn=\g4)`, `(cn=\gg)`, `(cn=\\)`, `(cn=\\41)`, `(cn=\(28)`, `(cn=a\)b)`, `(cn=a\*b)`, `(cn=\ 4)`, `(cn=\4 )`, `(cn=\+4)`, `(cn=\-4)`, `(cn=\0x41)`, `(cn=\x4)`, `(cn=\_4)`, `(cn=\4_)`, `(cn=a\`, `(cn=a\)`, `(cn=a\4)`, "(cn=\x00)", "(cn=a\x00b)", "(cn=(", "(cn=a*\x00)", `(cn=a*\4)`, `(cn=\4*a)`, "(cn:=\x00)", "(cn:=()", `(cn:=\4)`, "(cn>=\x00)",
	// stars
	"(cn=**)", "(cn=***)", "(cn=a**)", "(cn=**a)", "(cn=a**b)", "(cn=a*b**)", "(cn=**b*)", "(cn=*1*2*3*4*5*6*7*)", "(cn=1*2*3*4*5*6*7*8*9)", "(cn>=*)", "(cn>=a*)", "(cn>=*a)", "(cn<=*)", "(cn<=a*b)", "(cn~=*)", "(cn~=*a*)", "(cn:=*)", "(cn:=a*)", "(cn:=*a)", "(cn:dn:=a*b)", "(cn:=**)", "(cn=*", "(cn=a*", "(*)", "(cn*)", "*",
	// Extended
	"(:=a)", "(:dn:=a)", "(:DN:=a)", "(:dn:dn:=a)", "(cn::=a)", "(cn:::=a)", "(::=a)", "(:::=a)", "(::fold:=a)", "(cn::fold:=a)", "(cn:dn::=a)", "(cn:fold::=a)", "(cn:dn:fold::=a)", "(cn:a:b:=c)", "(cn:fold:dn:=c)", "(cn:dn:dn:=c)", "(cn:dn:DN:=c)", "(cn:dn:dn:fold:=c)", "(cn:dn:a:b:=c)", "(1:=a)", "(1:fold:=a)", "(cn:1:=a)", "(cn:-a:=a)", "(:1:=a)", "(cn:dn:1:=a)", "(cn:abcdefghijklmnopq:=a)", "(abcdefghijklmnopq:=a)", "(cn:f_d:=a)", "(cn:\u212a:=a)", "(:dn=a)", "(:=)", "(cn:dn)", "(cn:dn:)", "(cn:dn:fold)", "(cn:2.5.13.2:=a)",
}

// TestNone: P24.3, texts that are none's: brackets, blanks, Kids, Names, signs, values, stars, Extended.
func TestNone(t *testing.T) {
	for _, s := range noFilters {
		seeNone(t, s, api.ErrFilter)
		seeText(t, s)
		seeNone(t, "(&"+s+"x)", api.ErrFilter)
	}
}

// TestShortTexts: P24.3, P24.5, P24.6, all short texts of what means something where it stands.
func TestShortTexts(t *testing.T) {
	for _, r := range []struct {
		ahead, behind string
		most          int
		words         []string
	}{
		{"", "", 7, []string{"(", ")", "&", "!", "a=b"}},
		{"", "", 4, []string{"(", ")", "&", "|", "!", "a", "=", "*", "\\", ":", " "}},
		{"(", ")", 5, []string{"a", "Z", "1", "-", "=", ">", "<", "~", ":"}},
		{"(a=", ")", 6, []string{"a", "*", "\\", "2", "A"}},
		{"(a=", ")", 3, []string{"*", "\\", "2", "g", "F", "f", "(", ")", "\x00", "\x1f", "0", " ", "=", "\xff"}},
		{"(a:=", ")", 3, []string{"*", "\\", "2", "g", "F", "f", "(", ")", "\x00", "\x1f", "0", " ", "=", "\xff"}},
		{"(", "=v)", 6, []string{"cn", "dn", "Dn", ":", "f"}},
		{"(", ":=v)", 5, []string{"cn", "dn", "DN", ":", "x", "*"}},
	} {
		for _, s := range allTexts(r.most, r.words...) {
			seeText(t, r.ahead+s+r.behind)
		}
	}
}

// TestBytes: P24.2, P24.3, P24.5, each byte in each text of a value: shown as two digits or as it is; read as it is or not; and all two digits.
func TestBytes(t *testing.T) {
	for i := range 256 {
		c := string([]byte{byte(i)})
		shown := c
		if i < 0x20 || i == 0x7f || c == "(" || c == ")" || c == "*" || c == "\\" {
			shown = fmt.Sprintf("\\%02x", i)
		}
		raw := c != "\x00" && c != "(" && c != ")" && c != "*" && c != "\\"
		for _, r := range []struct {
			f             api.Filter
			ahead, behind string
		}{
			{equals("cn", c), "(cn=", ")"},
			{equals("cn", "a"+c+"b"), "(cn=a", "b)"},
			{api.Filter{Kind: api.AtLeast, Name: "cn", Value: c}, "(cn>=", ")"},
			{api.Filter{Kind: api.AtMost, Name: "cn", Value: c}, "(cn<=", ")"},
			{api.Filter{Kind: api.Approx, Name: "cn", Value: c}, "(cn~=", ")"},
			{extension("cn", true, "x", c), "(cn:dn:x:=", ")"},
			{sub("cn", c, ""), "(cn=", "*)"},
			{sub("cn", "", c, ""), "(cn=*", "*)"},
			{sub("cn", "", c), "(cn=*", ")"},
		} {
			if s, x := Show(r.f); s != r.ahead+shown+r.behind || x != api.OK {
				t.Errorf("Show of byte %02x: %s %d", i, told(s), int(x))
			}
			for _, digits := range []string{fmt.Sprintf("\\%02x", i), fmt.Sprintf("\\%02X", i)} {
				seeRead(t, r.ahead+digits+r.behind, r.f)
			}
			if raw {
				seeRead(t, r.ahead+c+r.behind, r.f)
			} else {
				seeText(t, r.ahead+c+r.behind)
			}
			stopAtFault(t)
		}
	}
	for i := range 1 << 16 {
		s := `(cn=\` + string([]byte{byte(i >> 8), byte(i)}) + ")"
		f, x := Parse(s)
		if want, e := modelParse(s); plain(f) != plain(want) || x != e {
			t.Fatalf("Parse of %s: %s %d", told(s), plain(f), int(x))
		}
	}
}

// The values that TestFields puts into fields.
var (
	someNames  = []string{"", "cn", "dn", "Cn", "1"}
	someValues = []string{"", "v", strings.Repeat("v", 401)}
	somePieces = []api.Pieces{
		{}, {Any: []string{}}, {Any: []string{"a"}}, {Initial: "a", HasInitial: true}, {Final: "a", HasFinal: true},
		{HasInitial: true}, {HasFinal: true}, {Initial: "a"}, {Final: "a"}, {Any: []string{""}},
	}
	someKids = [][]api.Filter{nil, {}, {equals("cn", "a")}, {equals("cn", "a"), equals("cn", "b")}, {equals("", "a")}}
)

// TestFields: P24.1, P24.2, P24.5, each Kind, and those that are none, with what it must have, may have and may not have, in all fields together.
func TestFields(t *testing.T) {
	for _, kind := range []int{math.MinInt, -1, 0, 1, 2, 3, 4, 5, 6, 7, 8, 9, 10, 11, math.MaxInt} {
		for _, name := range someNames {
			for _, value := range someValues {
				for _, p := range somePieces {
					for _, rule := range []string{"", "fold", "dn", "Fold", "1"} {
						for _, kids := range someKids {
							seeMade(t, api.Filter{Kind: kind, Name: name, Value: value, Pieces: p, Rule: rule, Kids: kids})
							seeMade(t, api.Filter{Kind: kind, Name: name, Value: value, Pieces: p, Rule: rule, Kids: kids, Dn: true})
						}
					}
				}
			}
		}
	}
}

// goods is a filter of each Kind, with all that it may have.
var goods = []api.Filter{
	group(api.And, equals("cn", "a"), equals("cn", "b")), group(api.Or, equals("cn", "a"), equals("cn", "b")), group(api.Not, equals("cn", "a")),
	equals("cn", "a"), sub("cn", "a", "b", "c"),
	{Kind: api.AtLeast, Name: "cn", Value: "a"}, {Kind: api.AtMost, Name: "cn", Value: "a"}, {Kind: api.Present, Name: "cn"}, {Kind: api.Approx, Name: "cn", Value: "a"},
	extension("cn", true, "fold", "a"),
}

// changed is filters with one field put to something else each, by the field's name.
func changed(f api.Filter) map[string]api.Filter {
	all := map[string]api.Filter{}
	change := func(field string, with func(*api.Filter)) {
		g := f
		g.Kids = slices.Clone(f.Kids)
		g.Pieces.Any = slices.Clone(f.Pieces.Any)
		with(&g)
		all[field] = g
	}
	change("Kind", func(g *api.Filter) { g.Kind += 20 })
	change("Name", func(g *api.Filter) { g.Name += "x" })
	change("Value", func(g *api.Filter) { g.Value += "x" })
	change("Initial", func(g *api.Filter) { g.Pieces.Initial += "x" })
	change("Any, one more", func(g *api.Filter) { g.Pieces.Any = append(g.Pieces.Any, "x") })
	change("Any, an empty one more", func(g *api.Filter) { g.Pieces.Any = append(g.Pieces.Any, "") })
	change("Final", func(g *api.Filter) { g.Pieces.Final += "x" })
	change("HasInitial", func(g *api.Filter) { g.Pieces.HasInitial = !g.Pieces.HasInitial })
	change("HasFinal", func(g *api.Filter) { g.Pieces.HasFinal = !g.Pieces.HasFinal })
	change("Rule", func(g *api.Filter) { g.Rule += "x" })
	change("Dn", func(g *api.Filter) { g.Dn = !g.Dn })
	change("Kids, one more", func(g *api.Filter) { g.Kids = append(g.Kids, api.Filter{}) })
	if len(f.Kids) > 0 {
		change("Kids, one less", func(g *api.Filter) { g.Kids = g.Kids[1:] })
		change("a Kid", func(g *api.Filter) { g.Kids[0].Value += "x" })
		change("a Kid's Kid", func(g *api.Filter) { g.Kids[0].Kids = []api.Filter{{}} })
	}
	if len(f.Kids) > 1 {
		change("Kids, the other way round", func(g *api.Filter) { slices.Reverse(g.Kids) })
	}
	if len(f.Pieces.Any) > 0 {
		change("an Any", func(g *api.Filter) { g.Pieces.Any[0] += "x" })
		change("Any, one less", func(g *api.Filter) { g.Pieces.Any = nil })
	}
	return all
}

// TestJustThis: P24.1, what each Kind may not have besides, and what it lacks, one field at a time, written by hand.
func TestJustThis(t *testing.T) {
	mayBe := map[string]string{
		"Name":           "3 4 5 6 7 8 9",
		"Value":          "3 5 6 8 9",
		"Initial":        "4",
		"Any, one more":  "4",
		"an Any":         "4",
		"Any, one less":  "4",
		"Final":          "4",
		"Rule":           "9",
		"Dn":             "9",
		"Kids, one less": "0 1", "a Kid": "0 1 2", "Kids, the other way round": "0 1",
		"Kids, one more": "0 1",
	}
	for kind, f := range goods {
		if x := Check(f); x != api.OK {
			t.Errorf("Check of the Kind %d: %d", kind, int(x))
		}
		for field, g := range changed(f) {
			e := api.ErrFilter
			if slices.Contains(strings.Fields(mayBe[field]), fmt.Sprint(kind)) {
				e = api.OK
			}
			if x := Check(g); x != e {
				t.Errorf("Check of the Kind %d, changed %s: %d, not %d", kind, field, int(x), int(e))
			}
			seeMade(t, g)
		}
	}
	for kind, lacks := range []api.Filter{
		{Kind: api.Not}, {Kind: api.Equal}, {Kind: api.Substring, Name: "cn"}, {Kind: api.Substring, Pieces: sub("", "a", "").Pieces},
		{Kind: api.AtLeast, Value: "a"}, {Kind: api.AtMost, Value: "a"}, {Kind: api.Present}, {Kind: api.Approx, Value: "a"}, {Kind: api.Extended, Value: "a"}, {Kind: api.Extended, Value: "a", Dn: true},
		group(api.Not, equals("cn", "a"), equals("cn", "b")), {Kind: -1}, {Kind: 10}, {Kind: 10, Name: "cn", Value: "a"}, {Kind: math.MinInt}, {Kind: math.MaxInt},
	} {
		if x := Check(lacks); x != api.ErrFilter {
			t.Errorf("Check of what lacks something, %d: %d", kind, int(x))
		}
		seeMade(t, lacks)
		for _, around := range []api.Filter{group(api.Not, lacks), group(api.And, equals("cn", "a"), lacks), group(api.Or, group(api.Not, lacks), equals("cn", "a"))} {
			seeMade(t, around)
		}
	}
}

// TestWords: P24.1, Names and Rules that are words, and that are none.
func TestWords(t *testing.T) {
	for _, r := range []struct {
		word string
		ok   bool
	}{
		{"a", true}, {"z9", true}, {"a-", true}, {"abcdefghijklmnop", true}, {"dnx", true}, {"d", true},
		{"", false}, {"abcdefghijklmnopq", false}, {"A", false}, {"aB", false}, {"1", false}, {"-", false}, {"a b", false}, {"a:b", false}, {"a=", false}, {"\u00e9", false}, {"a\x00", false}, {"2.5.13.2", false}, {strings.Repeat("a", 100000), false},
	} {
		e := api.ErrFilter
		if r.ok {
			e = api.OK
		}
		for kind := api.Equal; kind <= api.Extended; kind++ {
			f := goods[kind]
			f.Name = r.word
			want := e
			if kind == api.Extended && r.word == "" {
				want = api.OK
			}
			if x := Check(f); x != want {
				t.Errorf("Check of the Kind %d with the Name %s: %d", kind, told(r.word), int(x))
			}
			seeMade(t, f)
		}
		f := goods[api.Extended]
		f.Rule = r.word
		want := e
		if r.word == "" {
			want = api.OK
		}
		if x := Check(f); x != want {
			t.Errorf("Check of the Rule %s: %d", told(r.word), int(x))
		}
		seeMade(t, f)
	}
	for _, f := range []api.Filter{extension("cn", false, "dn", ""), extension("cn", true, "dn", ""), extension("", false, "dn", ""), extension("", true, "dn", ""), extension("", false, "", ""), extension("", true, "", "")} {
		if x := Check(f); x != api.ErrFilter {
			t.Errorf("Check of %s: %d", plain(f), int(x))
		}
	}
	for _, f := range []api.Filter{extension("dn", false, "", ""), extension("dn", true, "", ""), extension("dn", true, "fold", ""), extension("", true, "fold", ""), extension("cn", false, "", "")} {
		if x := Check(f); x != api.OK {
			t.Errorf("Check of %s: %d", plain(f), int(x))
		}
	}
}

// TestLong: P24.1 to P24.3, P24.5, values and pieces of MaxValue bytes and of one more, as they are and as two digits each.
func TestLong(t *testing.T) {
	for _, c := range []string{"a", "\x01", "\xff", "*"} {
		for size, e := range map[int]api.Errno{399: api.OK, 400: api.OK, 401: api.ErrFilter, 1000: api.ErrFilter} {
			v := strings.Repeat(c, size)
			for _, f := range []api.Filter{
				equals("cn", v), {Kind: api.AtLeast, Name: "cn", Value: v}, {Kind: api.AtMost, Name: "cn", Value: v}, {Kind: api.Approx, Name: "cn", Value: v},
				extension("cn", false, "", v), extension("", true, "x", v), sub("cn", v, ""), sub("cn", "", v), sub("cn", "", v, ""), sub("cn", "a", "b", v, "c"), sub("cn", v, "a"), sub("cn", "a", v),
				group(api.Not, equals("cn", v)),
			} {
				if x := Check(f); x != e {
					t.Errorf("Check of %d bytes in %s: %d", size, told(plain(f)), int(x))
				}
				seeMade(t, f)
				if text := modelShow(f); len(text) <= 4000 {
					seeText(t, text)
				}
			}
		}
	}
	all := strings.Repeat("a", 400)
	seeMade(t, sub("cn", all, all, all, all, all, all, all, all))
	seeMade(t, sub("cn", all, all, all, all, all, all, all, all, all))
}

// TestPieces: P24.1 to P24.3, pieces that may be and that may not, and how many.
func TestPieces(t *testing.T) {
	for n := range 9 {
		p := api.Pieces{HasInitial: true, Initial: "i"}
		for i := range n {
			p.Any = append(p.Any, fmt.Sprint(i))
		}
		e := api.OK
		if n > 6 {
			e = api.ErrFilter
		}
		f := api.Filter{Kind: api.Substring, Name: "cn", Pieces: p}
		if x := Check(f); x != e {
			t.Errorf("Check of %d Any: %d", n, int(x))
		}
		seeMade(t, f)
		seeText(t, "(cn=i*"+strings.Repeat("x*", n)+")")
		seeText(t, "(cn=*"+strings.Repeat("x*", n)+"f)")
		seeText(t, "(cn=*"+strings.Repeat("x*", n)+")")
	}
	for _, p := range somePieces {
		for _, any := range [][]string{nil, {"a"}, {"a", ""}, {"", "a"}} {
			p.Any = any
			seeMade(t, api.Filter{Kind: api.Substring, Name: "cn", Pieces: p})
		}
	}
	seeNone(t, "(cn="+strings.Repeat("*", 3995)+")", api.ErrFilter)
	seeNone(t, "(cn="+strings.Repeat("a*", 1997)+")", api.ErrFilter)
}

// TestDeep: P24.1 to P24.3, filters that are MaxDeep deep and deeper, of MaxParts parts and of more, of any Kind, and texts of them.
func TestDeep(t *testing.T) {
	for deep := 1; deep <= 12; deep++ {
		want, e := deep, api.OK
		if deep > 8 {
			want, e = 9, api.ErrFilter
		}
		f := chain(deep)
		if d, x := Deep(f), Check(f); d != want || x != e {
			t.Errorf("Deep, Check of what is %d deep: %d %d", deep, d, int(x))
		}
		seeMade(t, f)
		seeMade(t, group(api.And, equals("a", "b"), f, equals("a", "b")))
		seeMade(t, group(api.Or, f, chain(3)))
		seeMade(t, api.Filter{Kind: api.Equal, Name: "cn", Kids: []api.Filter{f}})
		seeText(t, strings.Repeat("(!", deep-1)+"(cn=a)"+strings.Repeat(")", deep-1))
		seeText(t, strings.Repeat("(&", deep)+strings.Repeat(")", deep))
		seeText(t, strings.Repeat("(|(cn=a)", deep)+strings.Repeat(")", deep))
	}
	for parts := 1; parts <= 64; parts++ {
		want, e := parts, api.OK
		if parts > 60 {
			want, e = 61, api.ErrFilter
		}
		f := wide(parts)
		if n, x := Count(f), Check(f); n != want || x != e {
			t.Errorf("Count, Check of %d parts: %d %d", parts, n, int(x))
		}
		seeMade(t, f)
		for _, deep := range []int{1, 2, 6, 7, 8} {
			seeMade(t, group(api.And, f, chain(deep)))
			seeMade(t, group(api.And, chain(deep), f))
		}
		seeText(t, "(&"+strings.Repeat("(a=b)", parts-1)+")")
		seeText(t, "(!(|"+strings.Repeat("(a=*)", parts-1)+"))")
		seeText(t, "(|"+strings.Repeat("(&)", parts/2)+strings.Repeat("(!(a=b))", parts/3)+")")
	}
	if d, n := Deep(wide(1000)), Count(wide(1000)); d != 2 || n != 61 {
		t.Errorf("Deep, Count of 1000 parts: %d %d", d, n)
	}
	if d, n := Deep(chain(1<<16)), Count(chain(1<<16)); d != 9 || n != 61 {
		t.Errorf("Deep, Count of what is 2^16 deep: %d %d", d, n)
	}
	seeNone(t, strings.Repeat("(!", 1990)+"(a=b)", api.ErrFilter)
	seeNone(t, strings.Repeat("(!", 1331)+"(a=b)"+strings.Repeat(")", 1331), api.ErrFilter)
	seeNone(t, strings.Repeat("(", 4000), api.ErrFilter)
	seeNone(t, "(&"+strings.Repeat("(a=b)", 799)+")", api.ErrFilter)
}

// TestRing: P24.1, P24.2, filters that are their own Kids end nowhere: too deep, too many.
func TestRing(t *testing.T) {
	for size := range 5 {
		kids := make([]api.Filter, size+1)
		for i := range kids {
			kids[i] = group(api.Not, kids...)
			kids[i].Kids = kids
		}
		f := group(api.And, kids...)
		f.Kids = kids
		s, x := Show(f)
		if d, n, y := Deep(f), Count(f), Check(f); d != 9 || n != 61 || y != api.ErrFilter || s != "" || x != api.ErrFilter {
			t.Errorf("a ring of %d: %d %d %d %q %d", size+1, d, n, int(y), s, int(x))
		}
	}
}

// TestBig: P24.2, P24.3, P24.5, texts of MaxPdu bytes and of one more; what is shown may be longer.
func TestBig(t *testing.T) {
	f := group(api.And)
	for range 9 {
		f.Kids = append(f.Kids, equals("cn", strings.Repeat("a", 400)))
	}
	for size, e := range map[int]api.Errno{3999: api.OK, 4000: api.OK, 4001: api.ErrBig, 4002: api.ErrBig} {
		g := f
		g.Kids = append(slices.Clone(f.Kids), equals("cn", strings.Repeat("b", size-len("(&)")-9*len("(cn=)")-9*400-len("(cn=)"))))
		s, x := Show(g)
		if len(s) != size || x != api.OK {
			t.Fatalf("Show: %d bytes %d, not %d bytes", len(s), int(x), size)
		}
		want := nothing
		if e == api.OK {
			want = plain(g)
		}
		if r, x := Parse(s); x != e || plain(r) != want {
			t.Errorf("Parse of %s: %s %d, not %d", told(s), told(plain(r)), int(x), int(e))
		}
		seeMade(t, g)
	}
	for size, e := range map[int]api.Errno{3999: api.ErrFilter, 4000: api.ErrFilter, 4001: api.ErrBig, 4002: api.ErrBig, 100000: api.ErrBig} {
		for _, c := range []string{"(", ")", "a", "\x00", "\\", "*", " "} {
			seeNone(t, strings.Repeat(c, size), e)
		}
	}
	full := group(api.Or)
	for range 59 {
		full.Kids = append(full.Kids, extension("abcdefghijklmnop", true, "abcdefghijklmnop", strings.Repeat("\x00", 400)))
	}
	seeMade(t, full)
	if s, x := Show(full); len(s) != 3+59*(2+16+3+17+2+1200) || x != api.OK {
		t.Errorf("Show of the longest: %d bytes %d", len(s), int(x))
	}
}

// TestSame: P24.4, filters that are the same but for one field each; nil and empty lists; filters that may not be.
func TestSame(t *testing.T) {
	for kind, f := range append(slices.Clone(goods), api.Filter{}, api.Filter{Kind: -1, Name: "\x00", Rule: "?", Dn: true, Kids: []api.Filter{{}, {Kind: 5}}}) {
		all := changed(f)
		all["nothing"] = f
		for a, g := range all {
			for b, h := range all {
				if s := Same(g, h); s != (plain(g) == plain(h)) {
					t.Errorf("Same, %d: %s, %s: %t", kind, a, b, s)
				}
			}
		}
		for a, g := range all {
			if Same(f, g) != (a == "nothing") || Same(g, f) != (a == "nothing") || Same(group(api.Or, f), group(api.Or, g)) != (a == "nothing") {
				t.Errorf("Same, %d, changed %s", kind, a)
			}
		}
	}
	for i, f := range goods {
		for j, g := range goods {
			if Same(f, g) != (i == j) {
				t.Errorf("Same of the Kinds %d, %d", i, j)
			}
		}
	}
	a, b := api.Filter{Kids: []api.Filter{}, Pieces: api.Pieces{Any: []string{}}}, api.Filter{}
	if !Same(a, b) || !Same(b, a) || !Same(group(0, a), group(0, b)) {
		t.Error("Same: nil lists, and empty ones")
	}
	if !Same(chain(1<<16), chain(1<<16)) || Same(chain(1<<16), chain(1<<16-1)) {
		t.Error("Same of what is 2^16 deep")
	}
}

// chance makes filters by chance.
type chance struct{ *rand.Rand }

// text is a text by chance, out of bytes that mean something and of any.
func (c chance) text(least, most int) string {
	b := make([]byte, least+c.Intn(most-least+1))
	for i := range b {
		b[i] = "()*\\&|!=:<>~ aZ09\x00\x1f\x7f\x80\xff"[c.Intn(22)]
		if c.Intn(3) == 0 {
			b[i] = byte(c.Intn(256))
		}
	}
	return string(b)
}

// word is a word by chance, or nothing.
func (c chance) word() string {
	return []string{"cn", "dn", "o", "x-1", "abcdefghijklmnop", "fold", ""}[c.Intn(7)]
}

// filter is a filter by chance, most of which may be.
func (c chance) filter(deep int) api.Filter {
	kind := c.Intn(10)
	if deep == 0 {
		kind = 3 + c.Intn(7)
	}
	f := api.Filter{Kind: kind}
	switch kind {
	case api.And, api.Or, api.Not:
		n := c.Intn(5)
		if kind == api.Not && c.Intn(20) > 0 {
			n = 1
		}
		for range n {
			f.Kids = append(f.Kids, c.filter(deep-1))
		}
	case api.Substring:
		f.Name = "cn"
		l := []string{c.text(0, 3)}
		for range c.Intn(4) {
			l = append(l, c.text(1, 3))
		}
		f = sub("cn", append(l, c.text(0, 3))...)
	case api.Present:
		f.Name = "o"
	case api.Extended:
		f = extension(c.word(), c.Intn(2) == 0, c.word(), c.text(0, 6))
	default:
		f.Name, f.Value = "age", c.text(0, 6)
	}
	return f
}

// TestByChance: P24.1 to P24.3, P24.5, P24.6, filters by chance there and back; texts of them in which something was changed, some letters made great.
func TestByChance(t *testing.T) {
	c := chance{rand.New(rand.NewSource(24))}
	read := 0
	for range 12000 {
		f := c.filter(1 + c.Intn(7))
		seeMade(t, f)
		s, x := Show(f)
		if x != api.OK || len(s) > 3900 {
			continue
		}
		if c.Intn(2) == 0 {
			s = strings.ToUpper(s)
		}
		b := []byte(s)
		at := c.Intn(len(b))
		switch c.Intn(4) {
		case 0:
			b = slices.Delete(b, at, at+1)
		case 1:
			b = slices.Insert(b, at, "()*\\=:&! a\x00"[c.Intn(11)])
		case 2:
			b[at] = "()*\\=:&! a\x00"[c.Intn(11)]
		}
		seeText(t, string(b))
		if _, x := Parse(string(b)); x == api.OK {
			read++
		}
	}
	if read < 1000 {
		t.Errorf("%d texts were read: too few to tell anything", read)
	}
}

// roomy is a filter like this, each list of which has room behind it, where something stands.
func roomy(f api.Filter) api.Filter {
	kids := make([]api.Filter, 0, len(f.Kids)+2)
	for _, k := range f.Kids {
		kids = append(kids, roomy(k))
	}
	f.Kids = append(kids, equals("room", "room"), equals("room", "room"))[:len(kids)]
	f.Pieces.Any = append(slices.Clone(f.Pieces.Any), "room", "room")[:len(f.Pieces.Any)]
	return f
}

// whole tells a filter with the room behind its lists.
func whole(f api.Filter) string {
	s := plain(f) + fmt.Sprintf("%q", f.Pieces.Any[:cap(f.Pieces.Any)])
	for _, k := range f.Kids[:cap(f.Kids)] {
		s += whole(k)
	}
	return s
}

// TestArguments: what comes in stays as it was, its spare room too; what goes out is new memory.
func TestArguments(t *testing.T) {
	for _, r := range append(rows[:len(rows):len(rows)], struct {
		text string
		f    api.Filter
	}{"", group(api.Not, sub("cn", "a", "", "b"), group(api.And, sub("cn", "", "a", "b", "")))}) {
		f, g := roomy(r.f), roomy(r.f)
		before := whole(f)
		Check(f)
		Show(f)
		Deep(f)
		Count(f)
		Same(f, g)
		Same(g, f)
		if whole(f) != before || whole(g) != before {
			t.Errorf("%s was changed", told(plain(r.f)))
		}
	}
	text := "(&(cn=a*b*c*d)(|(cn=*x*y)(!(o=z))))"
	a, _ := Parse(text)
	b, _ := Parse(text)
	before := plain(b)
	spoil(a)
	if c, _ := Parse(text); plain(b) != before || plain(c) != before {
		t.Error("what was read shares its memory")
	}
	f, _ := Parse("(|(cn=a*b*c)(cn=d*e*f))")
	any := append(f.Kids[0].Pieces.Any, "spoiled", "spoiled")
	any[0] = "spoiled"
	if s, x := Show(group(api.Not, f.Kids[1])); s != "(!(cn=d*e*f))" || x != api.OK || f.Kids[0].Pieces.Final != "c" {
		t.Errorf("two lists of what was read share their memory: %q", s)
	}
}

// spoil overwrites all lists of a filter.
func spoil(f api.Filter) {
	for i := range f.Pieces.Any {
		f.Pieces.Any[i] = "spoiled"
	}
	for i := range f.Kids {
		spoil(f.Kids[i])
		f.Kids[i] = api.Filter{}
	}
}

// TestManyAtOnce: what a call answers hangs on its arguments alone, whoever calls at the same time.
func TestManyAtOnce(t *testing.T) {
	var wait sync.WaitGroup
	for range 8 {
		wait.Go(func() {
			for range 20 {
				for _, r := range rows {
					f, x := Parse(r.text)
					s, y := Show(r.f)
					if x != api.OK || y != api.OK || !Same(f, r.f) || s != r.text || Deep(f) != modelDeep(r.f) || Count(f) != modelCount(r.f) {
						t.Errorf("%s: %s %s", r.text, plain(f), s)
						return
					}
				}
				for _, s := range noFilters[:40] {
					if f, x := Parse(s); x != api.ErrFilter || plain(f) != nothing {
						t.Errorf("%q: %s %d", s, plain(f), int(x))
						return
					}
				}
			}
		})
	}
	wait.Wait()
}
