package rules

import (
	"cmp"
	"fmt"
	"math"
	"math/big"
	"math/rand"
	"reflect"
	"regexp"
	"slices"
	"strconv"
	"strings"
	"sync"
	"testing"

	"toponym/api"
	"toponym/attrs"
	"toponym/dn"
	"toponym/gauss"
	"toponym/pieces"
	"toponym/prep"
)

// strange is numbers that are no rule.
var strange = []int{math.MinInt, math.MinInt + 1, math.MinInt32, -256, -12, -11, -2, -1, 0, 12, 13, 16, 100, 256, 257, 258, 261, 1<<32 + 1, 1<<32 + 5, math.MaxInt32, math.MaxInt - 1, math.MaxInt}

// all is the eleven rules, by the numbers that the document's api gives them.
var all = []int{1, 2, 3, 4, 5, 6, 7, 8, 9, 10, 11}

// The texts of the values that have a form, as the document's words say them.
var (
	wholeText = regexp.MustCompile(`\A(?:0|-?[1-9][0-9]{0,17})\z`)
	wordText  = regexp.MustCompile(`\A[a-z][a-z0-9-]{0,15}\z`)
	arcText   = `(?:0|[1-9][0-9]{0,4})`
	oidText   = regexp.MustCompile(`\A(?:[01]\.(?:[0-9]|[12][0-9]|3[0-9])|2\.` + arcText + `)(?:\.` + arcText + `){0,10}\z`)
	oneText   = `[1-9][0-9]{0,5}`
	realText  = regexp.MustCompile(`\A(?:0|-?` + oneText + `)\z`)
	imagText  = regexp.MustCompile(`\A(-?` + oneText + `)i\z`)
	bothText  = regexp.MustCompile(`\A(-?` + oneText + `)(?:\+?(` + oneText + `)|(-` + oneText + `))i\z`)
)

// told is what is told of a text: its length, and its beginning.
func told(s string) string {
	return fmt.Sprintf("%q (%d bytes)", s[:min(len(s), 60)], len(s))
}

// stopAtFault ends a test that goes through many values at its first faults: the others would tell nothing more.
func stopAtFault(t *testing.T) {
	t.Helper()
	if t.Failed() {
		t.FailNow()
	}
}

// theSchema is the schema of most tests: a type of each rule, by a name of that rule's beginning; memo has RuleNone, kin and ref names as values.
func theSchema() api.Schema {
	return api.Schema{Attrs: []api.Attr{
		{Name: "age", Syntax: 3, Rule: 3},
		{Name: "alive", Syntax: 4, Rule: 4},
		{Name: "cn", Above: "name", Syntax: 1, Rule: 2},
		{Name: "id", Syntax: 9, Rule: 9},
		{Name: "kin", Syntax: 6, Rule: 6},
		{Name: "memo", Syntax: 1},
		{Name: "name", Syntax: 1, Rule: 1},
		{Name: "near", Syntax: 10, Rule: 11},
		{Name: "num", Syntax: 7, Rule: 7},
		{Name: "o", Syntax: 1, Rule: 2},
		{Name: "phone", Syntax: 8, Rule: 8},
		{Name: "place", Syntax: 10, Rule: 10},
		{Name: "raw", Syntax: 5, Rule: 5},
		{Name: "ref", Syntax: 6, Rule: 6},
	}}
}

// wrongSchemas is schemas whose types may not be.
func wrongSchemas() []api.Schema {
	var many []api.Attr
	for i := range 25 {
		many = append(many, api.Attr{Name: fmt.Sprintf("t%02d", i), Syntax: 1, Rule: 2})
	}
	return []api.Schema{
		{Attrs: []api.Attr{{Name: "o", Syntax: 1, Rule: 2}, {Name: "cn", Syntax: 1, Rule: 2}}},
		{Attrs: []api.Attr{{Name: "cn", Syntax: 1, Rule: 2}, {Name: "cn", Syntax: 1, Rule: 2}, {Name: "o", Syntax: 1, Rule: 2}}},
		{Attrs: []api.Attr{{Name: "CN", Syntax: 1, Rule: 2}}},
		{Attrs: []api.Attr{{Syntax: 1, Rule: 2}}},
		{Attrs: []api.Attr{{Name: "cn", Rule: 2}}},
		{Attrs: []api.Attr{{Name: "cn", Syntax: 11, Rule: 2}}},
		{Attrs: []api.Attr{{Name: "cn", Syntax: 1, Rule: 3}}},
		{Attrs: []api.Attr{{Name: "cn", Syntax: 1, Rule: 12}}},
		{Attrs: []api.Attr{{Name: "cn", Syntax: 1, Rule: -1}}},
		{Attrs: []api.Attr{{Name: "cn", Above: "cn", Syntax: 1, Rule: 2}}},
		{Attrs: []api.Attr{{Name: "cn", Above: "x", Syntax: 1, Rule: 2}, {Name: "o", Syntax: 1, Rule: 2}}},
		{Attrs: []api.Attr{{Name: "cn", Above: "o", Syntax: 1, Rule: 2}, {Name: "o", Above: "cn", Syntax: 1, Rule: 2}}},
		{Attrs: many},
	}
}

// pair reads a pair: its Name, =, and its Value, byte by byte.
func pair(text string) api.Pair {
	name, value, _ := strings.Cut(text, "=")
	return api.Pair{Name: name, Value: value}
}

// part is a part of pairs that are texts.
func part(texts ...string) api.Rdn {
	r := api.Rdn{}
	for _, s := range texts {
		r = append(r, pair(s))
	}
	return r
}

// copied is a name that shares no memory with another one.
func copied(n api.Name) api.Name {
	var m api.Name
	for _, r := range n {
		m = append(m, slices.Clone(r))
	}
	return m
}

// modelKey is Key, written anew out of the chapter's words.
func modelKey(s api.Schema, rule int, v string) (string, api.Errno) {
	if !slices.Contains(all, rule) {
		return "", api.ErrRule
	}
	if len(v) > 400 {
		return "", api.ErrBig
	}
	switch rule {
	case 1:
		return prep.Value(api.PrepExact, v)
	case 2:
		return prep.Value(api.PrepFold, v)
	case 7:
		return prep.Value(api.PrepNumeric, v)
	case 8:
		return prep.Value(api.PrepPhone, v)
	case 3:
		if wholeText.MatchString(v) {
			return modelWhole(v), api.OK
		}
	case 4:
		if v == "TRUE" || v == "FALSE" {
			return v, api.OK
		}
	case 5:
		return v, api.OK
	case 6:
		if n, e := dn.Parse(v); e == api.OK {
			return modelName(s, n)
		}
	case 9:
		if wordText.MatchString(v) || oidText.MatchString(v) {
			return v, api.OK
		}
	case 10, 11:
		if re, im, ok := modelPlace(v); ok {
			k := fmt.Sprintf("%013d%07d%07d", re*re+im*im, re+1000000, im+1000000)
			return k[:map[int]int{10: 27, 11: 13}[rule]], api.OK
		}
	}
	return "", api.ErrSyntax
}

// modelWhole is the key of a whole number, worked out with numbers of any size.
func modelWhole(v string) string {
	n, _ := new(big.Int).SetString(v, 10)
	n.Add(n, new(big.Int).Exp(big.NewInt(10), big.NewInt(18), nil))
	return fmt.Sprintf("%019s", n.String())
}

// modelPlace reads the parts of a number of two parts.
func modelPlace(v string) (int, int, bool) {
	number := func(s string) int {
		n, _ := strconv.Atoi(s)
		return n
	}
	if realText.MatchString(v) {
		return number(v), 0, true
	}
	if m := imagText.FindStringSubmatch(v); m != nil {
		return 0, number(m[1]), true
	}
	m := bothText.FindStringSubmatch(v)
	if m == nil || m[2] != "" && !strings.Contains(v, "+") {
		return 0, 0, false
	}
	return number(m[1]), number(m[2] + m[3]), true
}

// modelName is NameKey, written anew out of the chapter's words.
func modelName(s api.Schema, n api.Name) (string, api.Errno) {
	if attrs.Check(s.Attrs) != api.OK {
		return "", api.ErrAttr
	}
	if dn.Check(n) != api.OK {
		return "", api.ErrName
	}
	key := ""
	for i := range n {
		k, e := modelPart(s, n[len(n)-1-i])
		if e != api.OK {
			return "", e
		}
		key += k
	}
	return key, api.OK
}

// modelPart is the key of a part that may be, by types that may be.
func modelPart(s api.Schema, r api.Rdn) (string, api.Errno) {
	values := map[string]string{}
	var names []string
	for _, p := range r {
		values[p.Name] = p.Value
		names = append(names, p.Name)
	}
	if len(values) < len(r) {
		return "", api.ErrName
	}
	slices.Sort(names)
	for i, n := range names {
		a, ok := attrs.Find(s.Attrs, n)
		if !ok {
			return "", api.ErrAttr
		}
		if a.Rule == api.RuleNone {
			return "", api.ErrRule
		}
		k, e := modelKey(s, a.Rule, values[n])
		if e != api.OK {
			return "", e
		}
		names[i] = n + "=" + strings.NewReplacer("\x00", "\x01\x03", "\x01", "\x01\x04", "\x02", "\x01\x05").Replace(k)
	}
	return strings.Join(names, "\x02") + "\x00", api.OK
}

// seeKey looks that a value has this key, or this error.
func seeKey(t *testing.T, s api.Schema, rule int, v, want string, e api.Errno) {
	t.Helper()
	if k, x := Key(s, rule, v); k != want || x != e {
		t.Errorf("Key by %d of %s: %s %d, not %s %d", rule, told(v), told(k), int(x), told(want), int(e))
	}
}

// seeModel looks that a value has the key, or the error, that the model says, by each rule.
func seeModel(t *testing.T, s api.Schema, v string) {
	t.Helper()
	for _, rule := range append([]int{0, 12}, all...) {
		k, e := modelKey(s, rule, v)
		seeKey(t, s, rule, v, k, e)
	}
}

// seeName looks that a name has this key, or this error, that the model says so, too, and that nothing in it is changed, its spare room neither.
func seeName(t *testing.T, s api.Schema, n api.Name, want string, e api.Errno) {
	t.Helper()
	if k, x := modelName(s, n); k != want || x != e {
		t.Errorf("the model of %.200q: %s %d, not %s %d", n, told(k), int(x), told(want), int(e))
	}
	spare := api.Pair{Name: "spare", Value: "room"}
	var given, was api.Name
	for _, r := range n {
		roomy := append(slices.Grow(slices.Clone(r), 2), spare, spare)
		given, was = append(given, roomy[:len(r)]), append(was, slices.Clone(roomy))
	}
	given = append(given, part("spare=room"))
	if k, x := NameKey(s, given[:len(n)]); k != want || x != e {
		t.Errorf("NameKey of %.200q: %s %d, not %s %d", n, told(k), int(x), told(want), int(e))
	}
	if len(n) == 1 {
		if k, x := PartKey(s, given[0]); k != want || x != e {
			t.Errorf("PartKey of %.200q: %s %d, not %s %d", n, told(k), int(x), told(want), int(e))
		}
	}
	for i := range n {
		if !slices.Equal(given[i][:len(was[i])], was[i]) {
			t.Errorf("part %d of %.200q has been changed to %.200q", i, n, given[i][:len(was[i])])
		}
	}
	if !slices.Equal(given[len(n)], part("spare=room")) {
		t.Errorf("behind %.200q something has been changed", n)
	}
}

// seeModelName looks that a name has the key, or the error, that the model says.
func seeModelName(t *testing.T, s api.Schema, n api.Name) {
	t.Helper()
	k, e := modelName(s, n)
	seeName(t, s, n, k, e)
}

// TestWords: P22.1, each rule, RuleNone, the numbers below the first rule and beyond the last one; each word, the empty one, words that no rule has.
func TestWords(t *testing.T) {
	for _, row := range []struct {
		rule    int
		word    string
		ordered bool
		way     int
	}{
		{api.RuleExact, "exact", true, api.PrepExact},
		{api.RuleFold, "fold", true, api.PrepFold},
		{api.RuleInteger, "integer", true, 0},
		{api.RuleBoolean, "boolean", false, 0},
		{api.RuleOctets, "octets", true, 0},
		{api.RuleName, "name", false, 0},
		{api.RuleNumeric, "numeric", true, api.PrepNumeric},
		{api.RulePhone, "phone", false, api.PrepPhone},
		{api.RuleOid, "oid", false, 0},
		{api.RuleGauss, "gauss", true, 0},
		{api.RuleGaussNear, "near", false, 0},
	} {
		if w := Word(row.rule); w != row.word {
			t.Errorf("Word of %d: %q", row.rule, w)
		}
		if r := Named(row.word); r != row.rule {
			t.Errorf("Named of %q: %d", row.word, r)
		}
		if o := Ordered(row.rule); o != row.ordered {
			t.Errorf("Ordered of %d: %t", row.rule, o)
		}
		if w := Way(row.rule); w != row.way {
			t.Errorf("Way of %d: %d", row.rule, w)
		}
	}
	for _, rule := range strange {
		if Word(rule) != "" || Ordered(rule) || Way(rule) != 0 {
			t.Errorf("of %d: %q %t %d", rule, Word(rule), Ordered(rule), Way(rule))
		}
	}
	for rule := -1000; rule <= 1000; rule++ {
		if there := rule >= 1 && rule <= 11; (Word(rule) != "") != there || !there && (Ordered(rule) || Way(rule) != 0) {
			t.Errorf("of %d: %q %t %d", rule, Word(rule), Ordered(rule), Way(rule))
		}
	}
	for _, w := range []string{"", " ", "\x00", "x", "none", "Exact", "EXACT", "exact ", " exact", "exac", "exactt", "exact\x00", "folds", "int", "bool", "octet", "dn", "names", "number", "gaussnear", "gauss near", "gauss ", "nea", "near\n", "1", "0", "11", "rule", "exactfold", "\xff", strings.Repeat("exact", 100000)} {
		if r := Named(w); r != api.RuleNone {
			t.Errorf("Named of %s: %d", told(w), r)
		}
	}
}

// TestKeyWrongRule: P22.2, ErrRule of what is no rule, ahead of all else.
func TestKeyWrongRule(t *testing.T) {
	for _, s := range append(wrongSchemas(), theSchema(), api.Schema{}) {
		for _, rule := range strange {
			for _, v := range []string{"", "a", "1", "TRUE", "cn=a", "\xff", "\ue000", strings.Repeat("1", 400), strings.Repeat("1", 401), strings.Repeat("\xff", 100000)} {
				seeKey(t, s, rule, v, "", api.ErrRule)
				if same, e := Equal(s, rule, v, "a"); same || e != api.ErrRule {
					t.Errorf("Equal by %d of %s: %t %d", rule, told(v), same, int(e))
				}
				if c, e := Cmp(s, rule, v, "a"); c != 0 || e != api.ErrRule {
					t.Errorf("Cmp by %d of %s: %d %d", rule, told(v), c, int(e))
				}
				for _, p := range []api.Pieces{{}, {Any: []string{"a"}}, {Any: []string{""}}, {Final: "x"}} {
					if found, e := Sub(rule, v, p); found || e != api.ErrRule {
						t.Errorf("Sub by %d of %s: %t %d", rule, told(v), found, int(e))
					}
				}
			}
		}
	}
}

// TestKeyLength: P22.2, values of no bytes, of MaxValue bytes, and of one more, by each rule.
func TestKeyLength(t *testing.T) {
	s := theSchema()
	blank := map[int]string{1: "  ", 2: "  "}
	for _, rule := range all {
		e := api.OK
		if slices.Contains([]int{3, 4, 9, 10, 11}, rule) {
			e = api.ErrSyntax
		}
		seeKey(t, s, rule, "", blank[rule], e)
	}
	for _, row := range []struct {
		rule      int
		long, key string
		e         api.Errno
	}{
		{1, strings.Repeat("A", 400), " " + strings.Repeat("A", 400) + " ", api.OK},
		{1, strings.Repeat("\u00c4", 200), " " + strings.Repeat("\u00c4", 200) + " ", api.OK},
		{2, strings.Repeat("A", 400), " " + strings.Repeat("a", 400) + " ", api.OK},
		{2, strings.Repeat("a ", 200), " " + strings.Repeat("a  ", 199) + "a ", api.OK},
		{2, strings.Repeat("A", 399) + "\xff", "", api.ErrUTF},
		{3, strings.Repeat("1", 400), "", api.ErrSyntax},
		{3, "-" + strings.Repeat("0", 399), "", api.ErrSyntax},
		{4, "TRUE" + strings.Repeat(" ", 396), "", api.ErrSyntax},
		{5, strings.Repeat("\x00", 400), strings.Repeat("\x00", 400), api.OK},
		{5, strings.Repeat("\xff", 400), strings.Repeat("\xff", 400), api.OK},
		{6, "cn=" + strings.Repeat("A", 397), "cn= " + strings.Repeat("a", 397) + " \x00", api.OK},
		{6, "raw=" + strings.Repeat(`\00`, 132), "raw=" + strings.Repeat("\x01\x03", 132) + "\x00", api.OK},
		{7, strings.Repeat("1 ", 200), strings.Repeat("1", 200), api.OK},
		{7, strings.Repeat("1", 400), strings.Repeat("1", 400), api.OK},
		{8, strings.Repeat("-", 399) + "1", "1", api.OK},
		{8, strings.Repeat("1A", 200), strings.Repeat("1a", 200), api.OK},
		{9, "2.5" + strings.Repeat(".0", 198) + "0", "", api.ErrSyntax},
		{9, strings.Repeat("a", 400), "", api.ErrSyntax},
		{10, strings.Repeat("1", 399) + "i", "", api.ErrSyntax},
		{11, strings.Repeat("1", 399) + "i", "", api.ErrSyntax},
	} {
		if len(row.long) > 400 || len(row.long) < 399 && row.rule != 6 {
			t.Fatalf("%s is of another length", told(row.long))
		}
		seeKey(t, s, row.rule, row.long, row.key, row.e)
		seeModel(t, s, row.long)
		more := row.long + strings.Repeat("1", 401-len(row.long))
		for _, v := range []string{more, more + "1", strings.Repeat(more, 3), strings.Repeat(more, 300)} {
			seeKey(t, s, row.rule, v, "", api.ErrBig)
			for _, m := range wrongSchemas() {
				seeKey(t, m, row.rule, v, "", api.ErrBig)
			}
		}
	}
	for n := range 410 {
		seeModel(t, s, strings.Repeat("7", n))
		seeModel(t, s, "o="+strings.Repeat("Q", n))
		seeModel(t, s, strings.Repeat("\x01", n))
	}
}

// TestKeyTexts: P22.2, of a rule with a Way what prep's Value makes of a value, or its error; the chapter's example.
func TestKeyTexts(t *testing.T) {
	s := theSchema()
	for _, row := range []struct {
		value                       string
		exact, fold, numeric, phone string
	}{
		{"A  b", " A  b ", " a  b ", "Ab", "ab"},
		{"A b", " A  b ", " a  b ", "Ab", "ab"},
		{" ", "  ", "  ", "", ""},
		{"a", " a ", " a ", "a", "a"},
		{"\u00c9", " \u00c9 ", " \u00e9 ", "\u00c9", "\u00e9"},
		{"E\u0301", " \u00c9 ", " \u00e9 ", "\u00c9", "\u00e9"},
		{"\uff21", " A ", " a ", "A", "a"},
		{"\ufb01", " fi ", " fi ", "fi", "fi"},
		{"Fu\u00dfg\u00e4nger\u00a0 Zone", " Fu\u00dfg\u00e4nger  Zone ", " fussg\u00e4nger  zone ", "Fu\u00dfg\u00e4ngerZone", "fussg\u00e4ngerzone"},
		{"+49 30-12A", " +49  30-12A ", " +49  30-12a ", "+4930-12A", "+493012a"},
		{"1 2", " 1  2 ", " 1  2 ", "12", "12"},
		{"1-2", " 1-2 ", " 1-2 ", "1-2", "12"},
	} {
		seeKey(t, s, api.RuleExact, row.value, row.exact, api.OK)
		seeKey(t, s, api.RuleFold, row.value, row.fold, api.OK)
		seeKey(t, s, api.RuleNumeric, row.value, row.numeric, api.OK)
		seeKey(t, s, api.RulePhone, row.value, row.phone, api.OK)
		seeModel(t, s, row.value)
	}
	for _, rule := range []int{1, 2, 7, 8} {
		for _, v := range []string{"\xff", "a\xc3", "\xed\xa0\x80", "\xc0\x80", "\ue000\xff"} {
			seeKey(t, s, rule, v, "", api.ErrUTF)
		}
		for _, v := range []string{"\ue000", "a\u0370", "12\ufffd"} {
			seeKey(t, s, rule, v, "", api.ErrChar)
		}
	}
	seeKey(t, s, api.RuleOctets, "\xff\ue000", "\xff\ue000", api.OK)
}

// TestKeyWhole: P22.2, 0, -1, 1, the least and the greatest whole number, and what is none.
func TestKeyWhole(t *testing.T) {
	s := theSchema()
	for v, want := range map[string]string{
		"0": "1000000000000000000", "1": "1000000000000000001", "-1": "0999999999999999999", "9": "1000000000000000009", "10": "1000000000000000010", "-10": "0999999999999999990",
		"999999999999999999": "1999999999999999999", "-999999999999999999": "0000000000000000001", "999999999999999998": "1999999999999999998", "-999999999999999998": "0000000000000000002",
		"-900000000000000000": "0100000000000000000", "-999999999999999990": "0000000000000000010", "123456789": "1000000000123456789", "-123456789012345678": "0876543210987654322",
	} {
		seeKey(t, s, api.RuleInteger, v, want, api.OK)
		seeModel(t, s, v)
	}
	for _, v := range []string{"", "x", "-", "+", "+1", "01", "-01", "00", "-0", "+0", " 1", "1 ", "1.0", "1e3", "0x1", "1_000", "--1", "1-", "i", "\x00", "1\x00", "\u0661", "\uff11", "\xff", "1000000000000000000", "-1000000000000000000", "9223372036854775807", "-9223372036854775808", "9223372036854775808", "18446744073709551616", strings.Repeat("9", 19), strings.Repeat("9", 400)} {
		seeKey(t, s, api.RuleInteger, v, "", api.ErrSyntax)
		seeModel(t, s, v)
	}
}

// TestKeyTruthsAndIdentifiers: P22.2, TRUE, FALSE and what is neither; object identifiers, words and what is neither.
func TestKeyTruthsAndIdentifiers(t *testing.T) {
	s := theSchema()
	for _, v := range []string{"TRUE", "FALSE"} {
		seeKey(t, s, api.RuleBoolean, v, v, api.OK)
		seeKey(t, s, api.RuleOid, v, "", api.ErrSyntax)
	}
	for _, v := range []string{"", "true", "false", "True", "TRUE ", " TRUE", "TRUEFALSE", "TRU", "T", "1", "0", "YES", "\xff", "\x00", "TRUE\x00", "\uff34RUE"} {
		seeKey(t, s, api.RuleBoolean, v, "", api.ErrSyntax)
	}
	for _, v := range []string{"2.5", "2.5.4.3", "0.0", "1.39", "0.39.99999", "2.99999", "2.40", "1.2.3.4.5.6.7.8.9.10.11.12", "a", "cn", "a-", "a1", "abcdefghijklmnop"} {
		seeKey(t, s, api.RuleOid, v, v, api.OK)
		seeKey(t, s, api.RuleBoolean, v, "", api.ErrSyntax)
		seeModel(t, s, v)
	}
	for _, v := range []string{"", "2", "2.", ".5", "2..5", "3.1", "1.40", "0.40", "1.02", "01.2", "2.100000", "2.-5", "2.5 ", " 2.5", "2.5.x", "A", "CN", "1a", "-a", "a.b", "a b", "abcdefghijklmnopq", "1.2.3.4.5.6.7.8.9.10.11.12.13", "\xff", "a\x00", "\u00e9"} {
		seeKey(t, s, api.RuleOid, v, "", api.ErrSyntax)
		seeModel(t, s, v)
	}
}

// TestKeyOctets: P22.2, by RuleOctets each value is its own key.
func TestKeyOctets(t *testing.T) {
	var b []byte
	for i := range 256 {
		b = append(b, byte(i))
		seeKey(t, theSchema(), api.RuleOctets, string(b[i:]), string(b[i:]), api.OK)
		seeKey(t, api.Schema{}, api.RuleOctets, string(b), string(b), api.OK)
	}
}

// TestKeyPlaces: P22.2, numbers of two parts with either part 0, below 0, the least and the greatest, and what is none.
func TestKeyPlaces(t *testing.T) {
	s := theSchema()
	for v, want := range map[string]string{
		"0": "0000000000000 1000000 1000000", "1": "0000000000001 1000001 1000000", "-1": "0000000000001 0999999 1000000", "1i": "0000000000001 1000000 1000001", "-1i": "0000000000001 1000000 0999999",
		"3+4i": "0000000000025 1000003 1000004", "3-4i": "0000000000025 1000003 0999996", "-3+4i": "0000000000025 0999997 1000004", "-3-4i": "0000000000025 0999997 0999996", "4+3i": "0000000000025 1000004 1000003", "5": "0000000000025 1000005 1000000", "-3": "0000000000009 0999997 1000000",
		"999999": "0999998000001 1999999 1000000", "-999999": "0999998000001 0000001 1000000", "999999i": "0999998000001 1000000 1999999", "-999999i": "0999998000001 1000000 0000001",
		"999999+999999i": "1999996000002 1999999 1999999", "-999999-999999i": "1999996000002 0000001 0000001", "-999999+999999i": "1999996000002 0000001 1999999", "999999-999999i": "1999996000002 1999999 0000001", "-999999+1i": "0999998000002 0000001 1000001", "100000-999990i": "1009980000100 1100000 0000010",
	} {
		whole := strings.ReplaceAll(want, " ", "")
		seeKey(t, s, api.RuleGauss, v, whole, api.OK)
		seeKey(t, s, api.RuleGaussNear, v, whole[:13], api.OK)
		seeModel(t, s, v)
	}
	for _, v := range []string{"", "i", "-i", "+1", "+1i", "01", "-0", "0i", "1+0i", "0+1i", "1-i", "1+i", "1+-1i", "1--1i", "1+01i", "1i+1", "1+1", "1 + 1i", "1+1i ", " 1", "1+1j", "(1+1i)", "1.0", "1e3", "1000000", "-1000000", "1000000i", "1+1000000i", "1-1000000i", "1000000+1i", "NaN", "Inf", "\xff", "1\x00", "1+1ii", strings.Repeat("9", 400)} {
		seeKey(t, s, api.RuleGauss, v, "", api.ErrSyntax)
		seeKey(t, s, api.RuleGaussNear, v, "", api.ErrSyntax)
		seeModel(t, s, v)
	}
}

// TestKeyName: P22.2, ErrSyntax of what is no name's text, ahead of the schema's error; else NameKey, and its error.
func TestKeyName(t *testing.T) {
	s := theSchema()
	for v, want := range map[string]string{
		"": "", "cn=A,o=B": "o= b \x00cn= a \x00", "cn=a+o=b": "cn= a \x02o= b \x00", "O=b+CN=a": "cn= a \x02o= b \x00", `cn=a\,b`: "cn= a,b \x00", `cn=\20a\20`: "cn= a \x00",
		`age=-1,place=3\+4i`: "place=000000000002510000031000004\x00age=0999999999999999999\x00", `near=3\+4i`: "near=0000000000025\x00", "id=2.5,alive=TRUE": "alive=TRUE\x00id=2.5\x00", "num=1 2,phone=1-2": "phone=12\x00num=12\x00",
		`raw=\00\01\02\03`: "raw=\x01\x03\x01\x04\x01\x05\x03\x00",
		"cn=a,cn=a,cn=a":   "cn= a \x00cn= a \x00cn= a \x00",
		`ref=CN\=A,o=x`:    "o= x \x00ref=cn= a \x01\x03\x00",
	} {
		seeKey(t, s, api.RuleName, v, want, api.OK)
		seeModel(t, s, v)
	}
	wrong := []string{"cn", "cn=", "=a", "cn=a,", ",cn=a", "cn=a+", "cn= a", "cn=a ", "cn=#a", `cn=\4`, "cn=a=b", "c n=a", "1=a", "zz", "a+b", "place=3+4i", "cn=a,cn=a,cn=a,cn=a,cn=a,cn=a,cn=a", "cn=a+id=a+num=1+o=a", "abcdefghijklmnopq=a", " ", "\xff"}
	for _, v := range wrong {
		seeKey(t, s, api.RuleName, v, "", api.ErrSyntax)
		for _, m := range wrongSchemas() {
			seeKey(t, m, api.RuleName, v, "", api.ErrSyntax)
		}
	}
	for v, e := range map[string]api.Errno{
		"zz=a": api.ErrAttr, "zz=a,cn=a": api.ErrAttr, "memo=a": api.ErrRule, "cn=a,memo=a": api.ErrRule, "cn=a+cn=b": api.ErrName, "CN=a+cn=a": api.ErrName, "age=x": api.ErrSyntax, "alive=true": api.ErrSyntax, "id=2.": api.ErrSyntax, "place=i": api.ErrSyntax, "near=i": api.ErrSyntax, "ref=x": api.ErrSyntax, "cn=\xff": api.ErrUTF, "cn=\ue000": api.ErrChar, `ref=zz\=a`: api.ErrAttr, `ref=memo\=a`: api.ErrRule, `ref=cn\=a\+cn\=b`: api.ErrName, "ref=cn\\=\xff": api.ErrUTF, `kin=ref\=age\\\=x`: api.ErrSyntax,
	} {
		seeKey(t, s, api.RuleName, v, "", e)
		seeModel(t, s, v)
		for _, m := range wrongSchemas() {
			seeKey(t, m, api.RuleName, v, "", api.ErrAttr)
		}
	}
	for _, m := range wrongSchemas() {
		seeKey(t, m, api.RuleName, "", "", api.ErrAttr)
	}
}

// TestKeySchema: P22.2, by the rules but RuleName a key hangs on the value alone, whatever the schema.
func TestKeySchema(t *testing.T) {
	values := []string{"", "a", "A  b", "12", "TRUE", "2.5", "3+4i", "-1", "\x00\x01\x02", "\xff", "\ue000", "cn=a"}
	for _, m := range append(wrongSchemas(), api.Schema{}, api.Schema{Classes: []api.Class{{Name: "X"}, {Name: "A", Above: "A"}}}) {
		for _, rule := range all {
			if rule == api.RuleName {
				continue
			}
			for _, v := range values {
				k, e := modelKey(theSchema(), rule, v)
				seeKey(t, m, rule, v, k, e)
			}
		}
	}
	// Classes are of no matter for names, neither.
	s := theSchema()
	s.Classes = []api.Class{{Name: "X"}, {Name: "A", Above: "A", Must: []string{"zz"}}}
	seeKey(t, s, api.RuleName, "cn=A,o=B", "o= b \x00cn= a \x00", api.OK)
	seeName(t, s, api.Name{part("cn=A")}, "cn= a \x00", api.OK)
}

// TestPartKey: P22.3, parts of one pair, of two and of 3, that rise and that fall, of each rule; bytes 0, 1 and 2 in a key.
func TestPartKey(t *testing.T) {
	s := theSchema()
	for _, row := range []struct {
		r    api.Rdn
		want string
	}{
		{part("cn=A  b"), "cn= a  b \x00"},
		{part("name=A  b"), "name= A  b \x00"},
		{part("age=-1"), "age=0999999999999999999\x00"},
		{part("alive=TRUE"), "alive=TRUE\x00"},
		{part("id=2.5.4"), "id=2.5.4\x00"},
		{part("num=1 2"), "num=12\x00"},
		{part("phone=+1-2 A"), "phone=+12a\x00"},
		{part("place=-3"), "place=000000000000909999971000000\x00"},
		{part("near=-3"), "near=0000000000009\x00"},
		{part("ref=cn=A,o=B"), "ref=o= b \x01\x03cn= a \x01\x03\x00"},
		{part("num= "), "num=\x00"},
		{part("cn= "), "cn=  \x00"},
		{part("cn=a", "o=b"), "cn= a \x02o= b \x00"},
		{part("o=b", "cn=a"), "cn= a \x02o= b \x00"},
		{part("age=1", "cn=a", "o=b"), "age=1000000000000000001\x02cn= a \x02o= b \x00"},
		{part("o=b", "cn=a", "age=1"), "age=1000000000000000001\x02cn= a \x02o= b \x00"},
		{part("cn=a", "o=b", "age=1"), "age=1000000000000000001\x02cn= a \x02o= b \x00"},
		{part("cn=z", "o=a"), "cn= z \x02o= a \x00"},
		{part("name=a", "num=1"), "name= a \x02num=1\x00"},
		{part("ref=cn=a+o=b", "kin=o=b+cn=a"), "kin=cn= a \x01\x05o= b \x01\x03\x02ref=cn= a \x01\x05o= b \x01\x03\x00"},
		{part("raw=\x00"), "raw=\x01\x03\x00"},
		{part("raw=\x01"), "raw=\x01\x04\x00"},
		{part("raw=\x02"), "raw=\x01\x05\x00"},
		{part("raw=\x03\x04\x05"), "raw=\x03\x04\x05\x00"},
		{part("raw=\x01\x03"), "raw=\x01\x04\x03\x00"},
		{part("raw=\x00\x00\x01\x01\x02\x02=\xff"), "raw=\x01\x03\x01\x03\x01\x04\x01\x04\x01\x05\x01\x05=\xff\x00"},
		{part("raw=a\x00b\x02c", "cn=a"), "cn= a \x02raw=a\x01\x03b\x01\x05c\x00"},
	} {
		seeName(t, s, api.Name{row.r}, row.want, api.OK)
	}
	for b := range 256 {
		seeModelName(t, s, api.Name{part("raw=" + string([]byte{byte(b)}))})
		seeModelName(t, s, api.Name{part("raw="+string([]byte{'a', byte(b), 1, byte(b)}), "o=x")})
		seeModelName(t, s, api.Name{part("cn=" + string([]byte{'a', byte(b), 'c'}))})
		seeModelName(t, s, api.Name{part("ref=raw=\\" + fmt.Sprintf("%02x", b))})
	}
}

// TestPartErrors: P22.3, ErrName of a Name that comes twice ahead of what is wrong with a pair; then the first error of the pairs, by their Names rising.
func TestPartErrors(t *testing.T) {
	s := theSchema()
	for _, row := range []struct {
		r api.Rdn
		e api.Errno
	}{
		{part("zz=a"), api.ErrAttr}, {part("a=a"), api.ErrAttr}, {part("memo=a"), api.ErrRule}, {part("age=x"), api.ErrSyntax}, {part("cn=\xff"), api.ErrUTF}, {part("cn=\ue000"), api.ErrChar}, {part("ref=x"), api.ErrSyntax}, {part("ref=zz=a"), api.ErrAttr}, {part("ref=memo=a"), api.ErrRule}, {part("ref=cn=a+cn=a"), api.ErrName}, {part("num=\xff"), api.ErrUTF}, {part("phone=\ue000"), api.ErrChar}, {part("alive=x"), api.ErrSyntax}, {part("id=X"), api.ErrSyntax}, {part("near=x"), api.ErrSyntax}, {part("place=x"), api.ErrSyntax},
		// One Name twice, wherever, with the same value and with another one, ahead of errors in pairs.
		{part("cn=a", "cn=a"), api.ErrName}, {part("cn=a", "cn=b"), api.ErrName}, {part("cn=a", "o=a", "cn=b"), api.ErrName}, {part("cn=a", "cn=b", "o=a"), api.ErrName}, {part("o=a", "cn=a", "cn=b"), api.ErrName}, {part("cn=a", "o=b", "o=a"), api.ErrName}, {part("cn=a", "cn=b", "cn=c"), api.ErrName},
		{part("zz=a", "zz=b"), api.ErrName}, {part("memo=a", "memo=a"), api.ErrName}, {part("age=x", "o=a", "o=a"), api.ErrName}, {part("a=x", "o=a", "o=a"), api.ErrName}, {part("o=a", "a=x", "o=a"), api.ErrName}, {part("o=\xff", "o=a"), api.ErrName},
		// Two pairs are wrong: the first by the Names.
		{part("age=x", "zz=a"), api.ErrSyntax}, {part("zz=a", "age=x"), api.ErrSyntax}, {part("memo=a", "zz=a"), api.ErrRule}, {part("zz=a", "memo=a"), api.ErrRule}, {part("cn=\xff", "memo=a"), api.ErrUTF}, {part("memo=a", "cn=\xff"), api.ErrUTF}, {part("memo=a", "o=\xff"), api.ErrRule}, {part("o=\xff", "memo=a"), api.ErrRule}, {part("a=a", "age=x"), api.ErrAttr}, {part("age=x", "a=a"), api.ErrAttr}, {part("o=\ue000", "cn=\xff"), api.ErrUTF}, {part("o=\xff", "cn=\ue000"), api.ErrChar},
		{part("zz=a", "memo=a", "age=x"), api.ErrSyntax}, {part("zz=a", "memo=a", "cn=a"), api.ErrRule}, {part("zz=a", "cn=a", "age=1"), api.ErrAttr}, {part("ref=cn=a+cn=b", "memo=a", "o=a"), api.ErrRule}, {part("ref=cn=a+cn=b", "o=a", "zz=a"), api.ErrName},
	} {
		seeName(t, s, api.Name{row.r}, "", row.e)
		// With parts that are right about it the error is the same.
		seeName(t, s, api.Name{part("cn=a"), row.r, part("o=b")}, "", row.e)
		for _, m := range wrongSchemas() {
			seeName(t, m, api.Name{row.r}, "", api.ErrAttr)
		}
		// Without types there is none of a pair.
		if e := modelTwice(row.r); e == api.OK {
			seeName(t, api.Schema{}, api.Name{row.r}, "", api.ErrAttr)
		} else {
			seeName(t, api.Schema{}, api.Name{row.r}, "", e)
		}
	}
}

// modelTwice is ErrName, if one Name comes twice in a part.
func modelTwice(r api.Rdn) api.Errno {
	for i, p := range r {
		for _, q := range r[:i] {
			if p.Name == q.Name {
				return api.ErrName
			}
		}
	}
	return api.OK
}

// TestNameKey: P22.3, names with no part, with one and with MaxRdns parts; the parts from the last one to the first.
func TestNameKey(t *testing.T) {
	s := theSchema()
	seeName(t, s, nil, "", api.OK)
	seeName(t, s, api.Name{}, "", api.OK)
	seeName(t, api.Schema{}, nil, "", api.OK)
	seeName(t, api.Schema{}, api.Name{part("cn=a")}, "", api.ErrAttr)
	n, want := api.Name{}, ""
	for i := range 6 {
		n = append(n, part(fmt.Sprintf("cn=P%d", i), fmt.Sprintf("age=%d", i)))
		want = fmt.Sprintf("age=100000000000000000%d\x02cn= p%d \x00", i, i) + want
		seeName(t, s, n, want, api.OK)
	}
	seeName(t, s, append(n, part("o=a")), "", api.ErrName)
	for _, row := range []struct {
		n    api.Name
		want string
	}{
		{api.Name{part("cn=a"), part("o=b")}, "o= b \x00cn= a \x00"},
		{api.Name{part("o=b"), part("cn=a")}, "cn= a \x00o= b \x00"},
		{api.Name{part("cn=a"), part("cn=a")}, "cn= a \x00cn= a \x00"},
		{api.Name{part("raw=\x00"), part("raw=\x02")}, "raw=\x01\x05\x00raw=\x01\x03\x00"},
		{api.Name{part("cn=a", "age=1", "o=c"), part("o=b", "cn=z")}, "cn= z \x02o= b \x00age=1000000000000000001\x02cn= a \x02o= c \x00"},
		{api.Name{part("cn=" + strings.Repeat("A", 400))}, "cn= " + strings.Repeat("a", 400) + " \x00"},
	} {
		seeName(t, s, row.n, row.want, api.OK)
	}
	// Each part of MaxRdns has 3 pairs, each of them a value of MaxValue bytes, all of which are told by two.
	long := strings.Repeat("\x01", 400)
	full := api.Schema{Attrs: []api.Attr{{Name: "a", Syntax: 5, Rule: 5}, {Name: "b", Syntax: 5, Rule: 5}, {Name: "c", Syntax: 5, Rule: 5}}}
	n, two := nil, strings.Repeat("\x01\x04", 400)
	for range 6 {
		n = append(n, part("c="+long, "a="+long, "b="+long))
	}
	seeName(t, full, n, strings.Repeat("a="+two+"\x02b="+two+"\x02c="+two+"\x00", 6), api.OK)
}

// TestNameErrors: P22.3, errors in two parts: that of the higher one, whatever it is.
func TestNameErrors(t *testing.T) {
	s := theSchema()
	wrong := map[api.Errno]api.Rdn{api.ErrName: part("cn=a", "cn=b"), api.ErrAttr: part("zz=a"), api.ErrRule: part("memo=a"), api.ErrSyntax: part("age=x"), api.ErrUTF: part("cn=\xff"), api.ErrChar: part("cn=\ue000")}
	right := part("o=b")
	for high, r := range wrong {
		for low, q := range wrong {
			seeName(t, s, api.Name{q, r}, "", high)
			seeName(t, s, api.Name{q, right, r, right}, "", high)
			seeName(t, s, api.Name{right, r, q}, "", low)
			seeName(t, s, api.Name{q, q, q, q, q, r}, "", high)
			seeName(t, s, api.Name{r, right, right, right, right, right}, "", high)
		}
	}
}

// TestWrongNames: P22.3, ErrName of names that dn's Check refuses, ahead of what is wrong with their pairs; the types' error ahead of that.
func TestWrongNames(t *testing.T) {
	s := theSchema()
	names := []api.Name{
		{nil}, {part()}, {part("cn=a"), part()}, {part(), part("cn=a")}, {part("zz=a"), part()}, {part(), part("age=x")},
		{part("cn=a", "id=a", "num=1", "o=a")}, {part("cn=a", "cn=a", "cn=a", "cn=a")}, {part("a=a", "b=b", "c=c", "d=d")}, {make(api.Rdn, 1000)},
		{part("cn=")}, {part("=a")}, {part("CN=a")}, {part("c n=a")}, {part("1cn=a")}, {part("cn =a")}, {part("\xff=a")}, {part(strings.Repeat("a", 17) + "=a")}, {part("zz=")}, {part("memo=")}, {part("cn=a", "zz=")}, {part("zz=a", "CN=a")}, {part("age=x", "cn=")},
		{part("cn=" + strings.Repeat("a", 401))}, {part("zz=" + strings.Repeat("a", 401))}, {part("age=" + strings.Repeat("1", 100000))}, {part("cn=a"), part("cn=" + strings.Repeat("a", 401))}, {part("memo=a"), part("cn=")}, {part("cn="), part("memo=a")},
		slices.Repeat(api.Name{part("cn=a")}, 7), slices.Repeat(api.Name{part("zz=a")}, 7), slices.Repeat(api.Name{part("cn=a")}, 1000), make(api.Name, 7),
	}
	for _, n := range names {
		seeName(t, s, n, "", api.ErrName)
		seeName(t, api.Schema{}, n, "", api.ErrName)
		for _, m := range wrongSchemas() {
			seeName(t, m, n, "", api.ErrAttr)
		}
	}
	for _, m := range wrongSchemas() {
		for _, n := range []api.Name{nil, {}, {part("cn=a")}, {part("o=a"), part("cn=a")}, {part("zz=a")}, {part("cn=a", "cn=a")}} {
			seeName(t, m, n, "", api.ErrAttr)
		}
		if k, e := PartKey(m, nil); k != "" || e != api.ErrAttr {
			t.Errorf("PartKey of no pairs, wrong types: %q %d", k, int(e))
		}
	}
	if k, e := PartKey(s, nil); k != "" || e != api.ErrName {
		t.Errorf("PartKey of no pairs: %q %d", k, int(e))
	}
}

// nested is the text of a name in a name, so many deep.
func nested(t *testing.T, deep int) string {
	t.Helper()
	text := "raw=\\00\\02"
	for range deep {
		s, e := dn.Show(api.Name{{{Name: "ref", Value: text}}})
		if e != api.OK {
			t.Fatalf("Show of %s: %d", told(text), int(e))
		}
		text = s
	}
	return text
}

// TestNested: P22.2, P22.3, names as values of names, as deep as MaxValue lets them: what is in a key in a key is told apart at each level.
func TestNested(t *testing.T) {
	s := theSchema()
	deep := 0
	for ; len(nested(t, deep)) <= 400; deep++ {
		seeModel(t, s, nested(t, deep))
		seeModelName(t, s, api.Name{{{Name: "kin", Value: nested(t, deep)}}})
	}
	if deep < 5 {
		t.Errorf("no more than %d deep", deep)
	}
	seeKey(t, s, api.RuleName, nested(t, 1), "ref=raw=\x01\x04\x03\x01\x04\x05\x01\x03\x00", api.OK)
	// Wide and deep at once: all parts have all of the types that there are.
	wide := "kin=o\\=a+ref=o\\=a\\,cn\\=b"
	v := strings.Join(slices.Repeat([]string{wide}, 6), ",")
	if len(v) > 400 {
		t.Fatalf("%s is too long", told(v))
	}
	seeModel(t, s, v)
	seeModelName(t, s, slices.Repeat(api.Name{{{Name: "ref", Value: v}, {Name: "kin", Value: v}}}, 6))
}

// TestEqual: P22.4, P22.6, the keys' being the same; Key's error of the first value, then of the second one.
func TestEqual(t *testing.T) {
	s := theSchema()
	for _, row := range []struct {
		rule int
		a, b string
		same bool
	}{
		{1, "A b", "A  b", true}, {1, "A", "a", false}, {1, "", " ", true}, {1, "a", "", false}, {2, "A", "a", true}, {2, "Caf\u00e9", "CAFE\u0301", true}, {2, "a", "b", false}, {2, "stra\u00dfe", "STRASSE", true},
		{3, "1", "1", true}, {3, "1", "-1", false}, {3, "0", "0", true}, {4, "TRUE", "TRUE", true}, {4, "TRUE", "FALSE", false}, {5, "A", "a", false}, {5, "a ", "a", false}, {5, "\x00", "\x00", true}, {5, "\xff", "\xfe", false},
		{6, "cn=A,o=b", "CN=a,O=B", true}, {6, "cn=a+o=b", "o=B+cn=A", true}, {6, "cn=a,o=b", "o=b,cn=a", false}, {6, "", "", true}, {6, "", "o=a", false}, {6, "cn=a", "cn=a,o=b", false},
		{7, "1 2", "12", true}, {7, "1", "2", false}, {8, "1-2", "1 2", true}, {8, "+1", "1", false}, {9, "2.5", "2.5", true}, {9, "2.5", "cn", false},
		{10, "3+4i", "3+4i", true}, {10, "3+4i", "4+3i", false}, {10, "5", "-5", false}, {11, "3+4i", "4+3i", true}, {11, "3+4i", "-5i", true}, {11, "5", "6", false}, {11, "7+1i", "5-5i", true},
	} {
		for _, l := range [][2]string{{row.a, row.b}, {row.b, row.a}} {
			if same, e := Equal(s, row.rule, l[0], l[1]); same != row.same || e != api.OK {
				t.Errorf("Equal by %d of %q: %t %d", row.rule, l, same, int(e))
			}
		}
		for _, v := range []string{row.a, row.b} {
			if same, e := Equal(s, row.rule, v, v); !same || e != api.OK {
				t.Errorf("Equal by %d of %q and itself: %t %d", row.rule, v, same, int(e))
			}
		}
	}
}

// someValues is values for each rule: some that it has a key for, some that it refuses.
func someValues() []string {
	return []string{"", " ", "a", "A", "a b", "A  B", "\u00e9", "E\u0301", "0", "1", "-1", "10", "9", "1 0", "999999999999999999", "-999999999999999999", "TRUE", "FALSE", "true", "\x00", "\x01", "\x02", "\xff", "\ue000", "cn=a", "cn=A", "o=b,cn=a", "cn=a+o=b", "o=b+cn=a", "cn=a+cn=a", "zz=a", "memo=a", "cn=\xff", "cn=\ue000", "2.5", "2.05", "3+4i", "4+3i", "5", "-5i", "i", strings.Repeat("1", 400), strings.Repeat("1", 401), strings.Repeat("\xff", 401)}
}

// TestEqualAndCmpErrors: P22.4, P22.6, each two of some values, by each rule: the error of the first value, of the second one, or what their keys say; Cmp's ErrRule of what is not Ordered ahead of all.
func TestEqualAndCmpErrors(t *testing.T) {
	for _, s := range []api.Schema{theSchema(), {}, wrongSchemas()[0]} {
		for _, rule := range append([]int{-1, 0, 12}, all...) {
			for _, a := range someValues() {
				for _, b := range someValues() {
					seeBoth(t, s, rule, a, b)
				}
			}
		}
	}
}

// seeBoth looks that Equal and Cmp of two values answer what the model's keys say.
func seeBoth(t *testing.T, s api.Schema, rule int, a, b string) {
	t.Helper()
	x, e := modelKey(s, rule, a)
	y, second := modelKey(s, rule, b)
	if e == api.OK {
		e = second
	}
	if same, got := Equal(s, rule, a, b); same != (e == api.OK && x == y) || got != e {
		t.Errorf("Equal by %d of %s and %s: %t %d, not %d", rule, told(a), told(b), same, int(got), int(e))
	}
	want := 0
	switch {
	case !slices.Contains([]int{1, 2, 3, 5, 7, 10}, rule):
		e = api.ErrRule
	case e == api.OK:
		want = strings.Compare(x, y)
	}
	if c, got := Cmp(s, rule, a, b); c != want || got != e {
		t.Errorf("Cmp by %d of %s and %s: %d %d, not %d %d", rule, told(a), told(b), c, int(got), want, int(e))
	}
}

// TestCmp: P22.4, by each rule that is Ordered; ErrRule by all others, whatever the values.
func TestCmp(t *testing.T) {
	s := theSchema()
	for _, row := range []struct {
		rule int
		a, b string
		want int
	}{
		{1, "a", "b", -1}, {1, "A", "a", -1}, {1, "a b", "a  b", 0}, {1, "", "a", -1}, {2, "A", "a", 0}, {2, "b", "A", 1}, {2, "Z", "\u00e9", -1}, {3, "10", "9", 1}, {3, "-10", "9", -1}, {3, "-10", "-9", -1}, {3, "0", "0", 0}, {3, "-1", "0", -1}, {5, "", "\x00", -1}, {5, "\xff", "a", 1}, {5, "a", "a", 0}, {7, "1 2", "12", 0}, {7, "10", "9", -1}, {10, "3+4i", "4+3i", -1}, {10, "-3", "2", 1}, {10, "0", "0", 0}, {10, "5", "6i", -1},
	} {
		if c, e := Cmp(s, row.rule, row.a, row.b); c != row.want || e != api.OK {
			t.Errorf("Cmp by %d of %q and %q: %d %d", row.rule, row.a, row.b, c, int(e))
		}
		if c, e := Cmp(s, row.rule, row.b, row.a); c != -row.want || e != api.OK {
			t.Errorf("Cmp by %d of %q and %q: %d %d", row.rule, row.b, row.a, c, int(e))
		}
	}
	for _, rule := range []int{4, 6, 8, 9, 11} {
		for _, v := range someValues() {
			if c, e := Cmp(s, rule, v, v); c != 0 || e != api.ErrRule {
				t.Errorf("Cmp by %d of %s: %d %d", rule, told(v), c, int(e))
			}
		}
	}
}

// seeSub looks that Sub answers this of a value and pieces, and that the pieces stay as they were, their spare room, too.
func seeSub(t *testing.T, rule int, v string, p api.Pieces, found bool, e api.Errno) {
	t.Helper()
	roomy := append(slices.Grow(slices.Clone(p.Any), 2), "spare", "room")
	was := slices.Clone(roomy)
	given := p
	given.Any = roomy[:len(p.Any)]
	if f, x := Sub(rule, v, given); f != found || x != e {
		t.Errorf("Sub by %d of %s, %.100v: %t %d, not %t %d", rule, told(v), p, f, int(x), found, int(e))
	}
	if !slices.Equal(roomy, was) {
		t.Errorf("Sub by %d of %s has changed the pieces %q to %q", rule, told(v), was, roomy)
	}
}

// modelSub is Sub, written anew out of the chapter's words.
func modelSub(rule int, v string, p api.Pieces) (bool, api.Errno) {
	way, ok := map[int]int{1: api.PrepExact, 2: api.PrepFold, 7: api.PrepNumeric, 8: api.PrepPhone}[rule]
	if !ok && rule != 5 {
		return false, api.ErrRule
	}
	if !ok {
		e := pieces.Check(p)
		return e == api.OK && pieces.Match(v, p), e
	}
	if len(v) > 400 {
		return false, api.ErrBig
	}
	v, e := prep.Value(way, v)
	if e != api.OK {
		return false, e
	}
	p, e = pieces.Prepare(way, p)
	return e == api.OK && pieces.Match(v, p), e
}

// begins, has and finishes are pieces that ask for one thing.
func begins(s string) api.Pieces     { return api.Pieces{HasInitial: true, Initial: s} }
func has(texts ...string) api.Pieces { return api.Pieces{Any: texts} }
func finishes(s string) api.Pieces   { return api.Pieces{HasFinal: true, Final: s} }
func around(a, b string) api.Pieces {
	return api.Pieces{HasInitial: true, Initial: a, HasFinal: true, Final: b}
}
func wrongPieces() (l []api.Pieces) {
	return append(l, api.Pieces{}, api.Pieces{Any: []string{}}, begins(""), finishes(""), has(""), has("a", "", "b"), has("a", ""), api.Pieces{Initial: "a"}, api.Pieces{Final: "a"}, api.Pieces{Initial: "a", Any: []string{"a"}}, api.Pieces{Final: "a", Any: []string{"a"}}, api.Pieces{HasInitial: true, Initial: "a", Final: "b"}, api.Pieces{HasFinal: true, Initial: "a", Final: "b"}, around("a", ""), around("", "a"), has("a", "a", "a", "a", "a", "a", "a"), has(slices.Repeat([]string{"a"}, 1000)...))
}

// TestSub: P22.5, by each rule that has a Way, and by RuleOctets, pieces that are found and that are not.
func TestSub(t *testing.T) {
	for _, row := range []struct {
		value                               string
		p                                   api.Pieces
		exact, fold, octets, numeric, phone bool
	}{
		{"abc", begins("ab"), true, true, true, true, true},
		{"abc", begins("AB"), false, true, false, false, true},
		{"ABC", begins("ab"), false, true, false, false, true},
		{"abc", begins("bc"), false, false, false, false, false},
		{"abc", finishes("bc"), true, true, true, true, true},
		{"abc", finishes("ab"), false, false, false, false, false},
		{"abc", has("b"), true, true, true, true, true},
		{"abc", has("d"), false, false, false, false, false},
		{"abc", has("a", "b", "c"), true, true, true, true, true},
		{"abc", has("c", "b"), false, false, false, false, false},
		{"abc", has("ab", "bc"), false, false, false, false, false},
		{"abcabc", api.Pieces{HasInitial: true, Initial: "ab", Any: []string{"ca"}, HasFinal: true, Final: "c"}, true, true, true, true, true},
		{"abcabc", has("bc", "bc"), true, true, true, true, true},
		{"abcabc", has("bc", "bc", "bc"), false, false, false, false, false},
		{"aba", around("ab", "ba"), false, false, false, false, false},
		{"abba", around("ab", "ba"), true, true, true, true, true},
		{"abcdef", has("a", "b", "c", "d", "e", "f"), true, true, true, true, true},
		{"a b", has("a  b"), true, true, false, true, true},
		{"a  b", has("a b"), true, true, false, true, true},
		{"1 2 3", has("23"), false, false, false, true, true},
		{"1-2-3", has("23"), false, false, false, false, true},
		{"123", has("2-3"), false, false, false, false, true},
		{"E\u0301t\u00e9", begins("\u00c9"), true, true, false, true, true},
		{"E\u0301t\u00e9", begins("\u00e9"), false, true, false, false, true},
		{"\uff21", has("A"), true, true, false, true, true},
		{"A", has("\uff21"), true, true, false, true, true},
		{"stra\u00dfe", has("SS"), false, true, false, false, true},
		{" abc ", begins("a"), true, true, false, true, true},
		{"", has("a"), false, false, false, false, false},
		{"", has(" "), true, true, false, true, true},
		{"a\x00b", has("\x00"), true, true, true, true, true},
	} {
		for rule, found := range map[int]bool{1: row.exact, 2: row.fold, 5: row.octets, 7: row.numeric, 8: row.phone} {
			if f, e := modelSub(rule, row.value, row.p); f != found || e != api.OK {
				t.Errorf("the model by %d of %q, %+v: %t %d", rule, row.value, row.p, f, int(e))
			}
			seeSub(t, rule, row.value, row.p, found, api.OK)
		}
	}
	// What is no UTF-8 is found byte by byte.
	seeSub(t, 5, "a\xff\x00\xfe", around("a\xff", "\xfe"), true, api.OK)
	seeSub(t, 5, "\u00e9", begins("\xc3"), true, api.OK)
	seeSub(t, 5, "\u00e9", finishes("\xc3"), false, api.OK)
}

// TestSubErrors: P22.5, ErrRule of the rules that have no Way, but RuleOctets, ahead of all; ErrBig of a value ahead of its error, and that ahead of the pieces' one; of RuleOctets pieces' error alone.
func TestSubErrors(t *testing.T) {
	some := append(wrongPieces(), begins("a"), has("1"), finishes("\xff"), has("\ue000"), has("a", "\xff"), has("\ue000", "\xff"), has("\xff", "\ue000"), has(strings.Repeat("a", 1202)), has(strings.Repeat("a", 1203)), has(strings.Repeat("\xff", 1203)), around(strings.Repeat("1", 2000), "\xff"))
	for _, p := range some {
		for _, v := range someValues() {
			for _, rule := range []int{3, 4, 6, 9, 10, 11} {
				seeSub(t, rule, v, p, false, api.ErrRule)
			}
			for _, rule := range []int{1, 2, 5, 7, 8} {
				f, e := modelSub(rule, v, p)
				seeSub(t, rule, v, p, f, e)
			}
		}
	}
	for _, p := range wrongPieces() {
		for _, rule := range []int{1, 2, 7, 8} {
			seeSub(t, rule, "a", p, false, api.ErrArg)
			seeSub(t, rule, "\xff", p, false, api.ErrUTF)
			seeSub(t, rule, "\ue000", p, false, api.ErrChar)
			seeSub(t, rule, strings.Repeat("\xff", 401), p, false, api.ErrBig)
		}
		for _, v := range []string{"", "a", "\xff", "\ue000", strings.Repeat("a", 401)} {
			seeSub(t, 5, v, p, false, api.ErrArg)
		}
	}
	for _, rule := range []int{1, 2, 7, 8} {
		seeSub(t, rule, "a", has("\xff"), false, api.ErrUTF)
		seeSub(t, rule, "a", has("\ue000", "\xff"), false, api.ErrChar)
		seeSub(t, rule, "a", has("a", strings.Repeat("a", 1203)), false, api.ErrBig)
		seeSub(t, rule, strings.Repeat("a", 400), begins(strings.Repeat("a", 400)), true, api.OK)
		seeSub(t, rule, strings.Repeat("a", 400), begins(strings.Repeat("a", 401)), false, api.OK)
		seeSub(t, rule, strings.Repeat("a", 401), begins("a"), false, api.ErrBig)
		seeSub(t, rule, strings.Repeat("a", 1203), begins("a"), false, api.ErrBig)
	}
	// The chapter sets values of RuleOctets no limit here.
	for _, n := range []int{400, 401, 1203, 100000} {
		seeSub(t, 5, strings.Repeat("a", n), around(strings.Repeat("a", n-1), "a"), true, api.OK)
		seeSub(t, 5, strings.Repeat("a", n), around(strings.Repeat("a", n), "a"), false, api.OK)
	}
}

// someWholes is whole numbers: the edges, those about powers of ten, and some by chance.
func someWholes(source *rand.Rand) []int64 {
	const most = 999999999999999999
	l := []int64{0, most, -most, most - 1, 1 - most}
	for power := int64(1); power <= most; power *= 10 {
		l = append(l, power, -power, power-1, 1-power, power+1, -power-1)
	}
	for range 200 {
		l = append(l, (source.Int63n(2*most+1)-most)>>source.Intn(60))
	}
	slices.Sort(l)
	return slices.Compact(l)
}

// TestWholesOrdered: P22.6, whole numbers are ordered by their keys as by themselves.
func TestWholesOrdered(t *testing.T) {
	s := theSchema()
	numbers := someWholes(rand.New(rand.NewSource(22)))
	for i, n := range numbers {
		v := strconv.FormatInt(n, 10)
		seeModel(t, s, v)
		for j, m := range numbers {
			w := strconv.FormatInt(m, 10)
			if c, e := Cmp(s, api.RuleInteger, v, w); c != cmp.Compare(i, j) || e != api.OK {
				t.Fatalf("Cmp of %s and %s: %d %d", v, w, c, int(e))
			}
			if same, e := Equal(s, api.RuleInteger, v, w); same != (i == j) || e != api.OK {
				t.Fatalf("Equal of %s and %s: %t %d", v, w, same, int(e))
			}
		}
	}
}

// somePlaces is numbers of two parts: the edges, and some by chance, many of the same Norm.
func somePlaces(source *rand.Rand) []complex128 {
	var l []complex128
	parts := []float64{0, 1, -1, 3, -3, 4, -4, 5, -5, 9, 10, 999998, 999999, -999999}
	for _, re := range parts {
		for _, im := range parts {
			l = append(l, complex(re, im))
		}
	}
	for range 40 {
		re, im := float64(source.Intn(1999999)-999999), float64(source.Intn(1999999)-999999)
		l = append(l, complex(re, im), complex(im, re), complex(-re, im))
	}
	return l
}

// TestPlacesOrdered: P22.6, numbers of two parts are ordered by their keys as by themselves; by RuleGaussNear they are the same just if their Norms are.
func TestPlacesOrdered(t *testing.T) {
	s := theSchema()
	places := somePlaces(rand.New(rand.NewSource(22)))
	for _, z := range places {
		v, _ := gauss.Show(z)
		seeModel(t, s, v)
		for _, y := range places {
			w, _ := gauss.Show(y)
			if c, e := Cmp(s, api.RuleGauss, v, w); c != gauss.Cmp(z, y) || e != api.OK {
				t.Fatalf("Cmp of %s and %s: %d %d", v, w, c, int(e))
			}
			if same, e := Equal(s, api.RuleGauss, v, w); same != (z == y) || e != api.OK {
				t.Fatalf("Equal of %s and %s: %t %d", v, w, same, int(e))
			}
			if same, e := Equal(s, api.RuleGaussNear, v, w); same != (gauss.Norm(z) == gauss.Norm(y)) || e != api.OK {
				t.Fatalf("Equal of %s and %s, near: %t %d", v, w, same, int(e))
			}
		}
	}
}

// somePart is a part by chance, of 1 to 3 pairs with Names that differ; now and then one that has an error.
func somePart(source *rand.Rand) api.Rdn {
	texts := []string{"age=-1", "age=1", "alive=TRUE", "cn=a", "cn=A b", "cn=\x00", "id=2.5", "kin=cn=A,o=b", "kin=raw=\\00", "name=A", "near=5", "num=1 2", "o=b", "o=E\u0301", "phone=1-2", "place=3+4i", "raw=\x00", "raw=\x01\x03", "raw=\x02", "raw=a\x00b", "raw==", "ref=cn=a+o=b"}
	if source.Intn(8) == 0 {
		texts = append(texts, "memo=a", "zz=a", "age=x", "cn=\xff", "cn=\ue000", "cn=", "ref=zz=a", "X=a")
	}
	var r api.Rdn
	for want := 1 + source.Intn(3); len(r) < want; {
		p := pair(texts[source.Intn(len(texts))])
		if source.Intn(50) > 0 && slices.ContainsFunc(r, func(q api.Pair) bool { return q.Name == p.Name }) {
			continue
		}
		r = append(r, p)
	}
	return r
}

// someName is a name of parts by chance.
func someName(source *rand.Rand) api.Name {
	var n api.Name
	for range source.Intn(7) {
		n = append(n, somePart(source))
	}
	return n
}

// TestSomeNames: P22.3, P22.7, names by chance have the model's key, or its error; their key begins with that of each name above; the schema stays as it was.
func TestSomeNames(t *testing.T) {
	s, was := theSchema(), theSchema()
	source := rand.New(rand.NewSource(22))
	right := 0
	for range 3000 {
		n := someName(source)
		seeModelName(t, s, n)
		stopAtFault(t)
		k, e := NameKey(s, n)
		if e != api.OK {
			continue
		}
		right++
		for above := n; len(above) > 0; {
			above = above[1:]
			high, e := NameKey(s, above)
			if e != api.OK || !strings.HasPrefix(k, high) || len(high) >= len(k) {
				t.Fatalf("the key of %.200q is %q, that of %.200q above is %q %d", n, k, above, high, int(e))
			}
		}
		// Its text has the same key as itself.
		if text, e := dn.Show(n); e == api.OK && len(text) <= api.MaxValue {
			seeKey(t, s, api.RuleName, text, k, api.OK)
		}
	}
	if right < 1000 {
		t.Errorf("no more than %d names that may be", right)
	}
	if !reflect.DeepEqual(s, was) {
		t.Errorf("the schema has been changed")
	}
}

// TestPairsInAnyOrder: P22.7, pairs of a part in another order have the same key, in each part of a name.
func TestPairsInAnyOrder(t *testing.T) {
	s := theSchema()
	source := rand.New(rand.NewSource(7))
	for range 500 {
		n := someName(source)
		k, e := NameKey(s, n)
		for i, r := range n {
			if len(r) == 3 && modelTwice(r) == api.OK {
				for _, order := range [][3]int{{0, 1, 2}, {0, 2, 1}, {1, 0, 2}, {1, 2, 0}, {2, 0, 1}, {2, 1, 0}} {
					other := copied(n)
					other[i] = api.Rdn{r[order[0]], r[order[1]], r[order[2]]}
					seeName(t, s, other, k, e)
				}
			}
			if len(r) == 2 {
				other := copied(n)
				slices.Reverse(other[i])
				seeName(t, s, other, k, e)
			}
			stopAtFault(t)
		}
	}
}

// TestKeysApart: P22.6, P22.7, names have the same key just if they have as many parts, each with the same Names, and keys of values that are the same; a name whose key begins with that of another is below it.
func TestKeysApart(t *testing.T) {
	s := theSchema()
	var names []api.Name
	for _, texts := range [][]string{{"raw=\x00"}, {"raw=\x01"}, {"raw=\x02"}, {"raw=\x03"}, {"raw=\x01\x03"}, {"raw=\x01\x04"}, {"raw=\x00raw=\x00"}, {"raw=a"}, {"raw=a\x00raw=a"}, {"raw=a\x02ref=o= b "}, {"raw=a", "ref=o=b"}, {"raw=a\x02ref=o= b \x00"}, {"num=1"}, {"num=1", "raw=a"}, {"num=1", "raw=\x02raw=a"}, {"cn=a"}, {"cn=a\x00cn=a"}, {"cn=a", "o=a"}, {"cn=a \x02o= a"}, {"name=a"}, {"name=A"}} {
		names = append(names, api.Name{part(texts...)}, api.Name{part(texts...), part("raw=a")}, api.Name{part("raw=a"), part(texts...)}, api.Name{part("raw=a"), part(texts...), part("cn=a")})
	}
	names = append(names, nil)
	for i, n := range names {
		k, e := NameKey(s, n)
		if e != api.OK {
			t.Fatalf("NameKey of %q: %d", n, int(e))
		}
		for j, m := range names {
			o, _ := NameKey(s, m)
			if same := reflect.DeepEqual(n, m); same != (k == o) && i != j {
				t.Errorf("%q and %q: %q and %q", n, m, k, o)
			}
			below := len(n) >= len(m) && (len(m) == 0 || reflect.DeepEqual(n[len(n)-len(m):], m))
			if strings.HasPrefix(k, o) != below {
				t.Errorf("%q and %q: %q and %q", n, m, k, o)
			}
		}
	}
}

// TestSomeValues: P22.2, P22.4, P22.5, values by chance, by each rule.
func TestSomeValues(t *testing.T) {
	s := theSchema()
	source := rand.New(rand.NewSource(5))
	bits := []string{"a", "B", " ", "1", "0", "-", "+", "i", ".", ",", "=", "cn=", "o=", "ref=", "TRUE", "2.5", "\\", "\\00", "\x00", "\x01", "\x02", "\u00e9", "E\u0301", "\uff21", "\u00ad", "\u00a0", "\xff", "\ue000"}
	text := func(most int) string {
		v := ""
		for range source.Intn(most) {
			v += bits[source.Intn(len(bits))]
		}
		return v
	}
	for range 3000 {
		v, w := text(7), text(7)
		seeModel(t, s, v)
		p := api.Pieces{HasInitial: source.Intn(2) > 0, HasFinal: source.Intn(3) == 0}
		for range source.Intn(3) {
			p.Any = append(p.Any, text(3))
		}
		if p.HasInitial || source.Intn(20) == 0 {
			p.Initial = text(3)
		}
		if p.HasFinal || source.Intn(20) == 0 {
			p.Final = text(3)
		}
		for _, rule := range all {
			seeBoth(t, s, rule, v, w)
			f, e := modelSub(rule, v, p)
			seeSub(t, rule, v, p, f, e)
		}
		stopAtFault(t)
	}
}

// TestManyAtOnce: what is answered hangs on nothing that another call could change.
func TestManyAtOnce(t *testing.T) {
	s := theSchema()
	n := api.Name{part("o=b", "cn=a", "age=1"), part("ref=cn=A,o=B", "kin=o=x")}
	p := api.Pieces{HasInitial: true, Initial: "A", Any: []string{"B", "c"}}
	want, _ := modelName(s, n)
	var all sync.WaitGroup
	for range 8 {
		all.Go(func() {
			for range 50 {
				if k, e := NameKey(s, n); k != want || e != api.OK {
					t.Errorf("NameKey: %q %d", k, int(e))
				}
				if f, e := Sub(api.RuleFold, "abc", p); !f || e != api.OK {
					t.Errorf("Sub: %t %d", f, int(e))
				}
			}
		})
	}
	all.Wait()
}
