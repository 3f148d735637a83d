package dn

import (
	"encoding/hex"
	"fmt"
	"math/rand"
	"reflect"
	"regexp"
	"slices"
	"strings"
	"testing"

	"toponym/api"
)

// one is a part of one pair.
func one(name, value string) api.Rdn { return api.Rdn{{Name: name, Value: value}} }

// part is a part of the pairs whose Names and Values stand in turn.
func part(l ...string) api.Rdn {
	var r api.Rdn
	for i := 0; i+1 < len(l); i += 2 {
		r = append(r, api.Pair{Name: l[i], Value: l[i+1]})
	}
	return r
}

// row is a name of so many parts of one pair.
func row(parts int) api.Name {
	var n api.Name
	for i := range parts {
		n = append(n, one("a", fmt.Sprint(i)))
	}
	return n
}

// plain tells a name without its nil lists, so that names can be held against each other without Same.
func plain(n api.Name) string {
	if len(n) > 10 {
		return fmt.Sprintf("%d parts", len(n))
	}
	var b strings.Builder
	for _, r := range n {
		b.WriteString("[")
		if len(r) > 10 {
			fmt.Fprintf(&b, "%d pairs", len(r))
			r = nil
		}
		for _, p := range r {
			fmt.Fprintf(&b, "%q:%q ", p.Name, p.Value)
		}
		b.WriteString("]")
	}
	return b.String()
}

// cut is what is told of a text: its beginning.
func cut(s string) string {
	return s[:min(len(s), 120)]
}

// stopAtFault ends a test that goes through many texts at its first faults: the others would tell nothing more.
func stopAtFault(t *testing.T) {
	t.Helper()
	if t.Failed() {
		t.FailNow()
	}
}

// seeRead looks that a text is read as a name, and as a part where it has just one.
func seeRead(t *testing.T, s string, want api.Name) {
	t.Helper()
	if got, x := Parse(s); plain(got) != plain(want) || x != api.OK {
		t.Errorf("Parse of %q: %s %d, not %s", cut(s), cut(plain(got)), int(x), cut(plain(want)))
	}
	r, x := Rdn(s)
	switch {
	case len(want) == 1 && (plain(api.Name{r}) != plain(want) || x != api.OK):
		t.Errorf("Rdn of %q: %q %d", cut(s), cut(fmt.Sprint(r)), int(x))
	case len(want) != 1 && (len(r) != 0 || x != api.ErrName):
		t.Errorf("Rdn of %q, of %d parts: %q %d", cut(s), len(want), cut(fmt.Sprint(r)), int(x))
	}
}

// seeUnread looks that a text is refused with this error.
func seeUnread(t *testing.T, s string, want api.Errno) {
	t.Helper()
	if got, x := Parse(s); len(got) != 0 || x != want {
		t.Errorf("Parse of %q: %s %d, not %d", cut(s), cut(plain(got)), int(x), int(want))
	}
	if got, x := Rdn(s); len(got) != 0 || x != want {
		t.Errorf("Rdn of %q: %q %d, not %d", cut(s), cut(fmt.Sprint(got)), int(x), int(want))
	}
}

// seeShown looks that a name may be, and has this text.
func seeShown(t *testing.T, n api.Name, want string) {
	t.Helper()
	if x := Check(n); x != api.OK {
		t.Errorf("Check of %s: %d", cut(plain(n)), int(x))
	}
	if got, x := Show(n); got != want || x != api.OK {
		t.Errorf("Show of %s: %q %d, not %q", cut(plain(n)), cut(got), int(x), cut(want))
	}
}

// seeWrong looks that a name may not be, for each call that asks it.
func seeWrong(t *testing.T, n api.Name) {
	t.Helper()
	if x := Check(n); x != api.ErrName {
		t.Errorf("Check of %s: %d", cut(plain(n)), int(x))
	}
	if got, x := Show(n); got != "" || x != api.ErrName {
		t.Errorf("Show of %s: %q %d", cut(plain(n)), cut(got), int(x))
	}
	if got, ok := Above(n); len(got) != 0 || ok {
		t.Errorf("Above of %s: %s %t", cut(plain(n)), cut(plain(got)), ok)
	}
	if got, x := Below(n, one("cn", "a")); len(got) != 0 || x != api.ErrName {
		t.Errorf("Below of %s: %s %d", cut(plain(n)), cut(plain(got)), int(x))
	}
	if len(n) == 1 {
		for _, m := range []api.Name{nil, {one("o", "b")}} {
			if got, x := Below(m, n[0]); len(got) != 0 || x != api.ErrName {
				t.Errorf("Below with %s: %s %d", cut(plain(n)), cut(plain(got)), int(x))
			}
		}
	}
	if !Same(n, n) {
		t.Errorf("Same of %s and itself", cut(plain(n)))
	}
}

// modelText is a text of a name, as the chapter's words about what is read say it, but for how long values and texts are.
var modelText = func() *regexp.Regexp {
	name := `[a-zA-Z][a-zA-Z0-9-]{0,15}`
	escape := `\\(?:[,+"\\<>;=# ]|[0-9a-fA-F][0-9a-fA-F])`
	first := `(?:[^,+"\\<>;= #]|` + escape + `)`
	midst := `(?:[^,+"\\<>;=]|` + escape + `)`
	last := `(?:[^,+"\\<>;= ]|` + escape + `)`
	pair := name + `=` + first + `(?:` + midst + `*` + last + `)?`
	rdn := pair + `(?:\+` + pair + `){0,2}`
	return regexp.MustCompile(`(?s)^(?:` + rdn + `(?:,` + rdn + `){0,5})?$`)
}()

// modelPair is a pair of such a text, with what stands behind it; modelEscape a byte that has a \.
var (
	modelPair   = regexp.MustCompile(`(?s)([a-zA-Z0-9-]+)=((?:[^,+\\]|\\.)*)([,+]|$)`)
	modelEscape = regexp.MustCompile(`\\(?:[0-9a-fA-F][0-9a-fA-F]|[^0-9a-fA-F])`)
)

// modelParse reads a text as the chapter says.
func modelParse(s string) (api.Name, api.Errno) {
	if len(s) > 3000 {
		return nil, api.ErrBig
	}
	if !modelText.MatchString(s) {
		return nil, api.ErrName
	}
	var n api.Name
	behind := ","
	for _, m := range modelPair.FindAllStringSubmatch(s, -1) {
		if behind == "," {
			n = append(n, nil)
		}
		behind = m[3]
		value := modelEscape.ReplaceAllStringFunc(m[2], func(e string) string {
			if len(e) == 3 {
				b, _ := hex.DecodeString(e[1:])
				return string(b)
			}
			return e[1:]
		})
		if len(value) > 400 {
			return nil, api.ErrName
		}
		n[len(n)-1] = append(n[len(n)-1], api.Pair{Name: strings.ToLower(m[1]), Value: value})
	}
	return n, api.OK
}

// modelValue writes a value as the chapter says.
func modelValue(v string) string {
	var b strings.Builder
	for i := range len(v) {
		switch c := v[i : i+1]; {
		case c < " " || c == "\x7f":
			fmt.Fprintf(&b, `\%02x`, c)
		case strings.Contains(`,+"\<>;=`, c), c == " " && i == 0, c == " " && i+1 == len(v), c == "#" && i == 0:
			b.WriteString(`\` + c)
		default:
			b.WriteString(c)
		}
	}
	return b.String()
}

// modelShow writes a name that may be as the chapter says.
func modelShow(n api.Name) string {
	var parts []string
	for _, r := range n {
		var pairs []string
		for _, p := range r {
			pairs = append(pairs, p.Name+"="+modelValue(p.Value))
		}
		parts = append(parts, strings.Join(pairs, "+"))
	}
	return strings.Join(parts, ",")
}

// seeModel holds what is read out of a text against the model; what is read may be, and is read again out of its text.
func seeModel(t *testing.T, s string) {
	t.Helper()
	want, x := modelParse(s)
	if x != api.OK {
		seeUnread(t, s, x)
		return
	}
	seeRead(t, s, want)
	text := modelShow(want)
	seeShown(t, want, text)
	if len(text) <= 3000 {
		seeRead(t, text, want)
	} else {
		seeUnread(t, text, api.ErrBig)
	}
}

// P18.2, P18.3, P18.5: names and their texts, written by hand.
func TestTexts(t *testing.T) {
	for s, n := range map[string]api.Name{
		"":                        nil,
		"cn=a":                    {one("cn", "a")},
		"a=b":                     {one("a", "b")},
		"cn=a,o=b":                {one("cn", "a"), one("o", "b")},
		"cn=a+sn=b":               {part("cn", "a", "sn", "b")},
		"a=1+b=2+c=3":             {part("a", "1", "b", "2", "c", "3")},
		"a=1+b=2,c=3":             {part("a", "1", "b", "2"), one("c", "3")},
		"a=1,b=2+c=3":             {one("a", "1"), part("b", "2", "c", "3")},
		"a=1+a=1,a=1":             {part("a", "1", "a", "1"), one("a", "1")},
		"b=2+a=1":                 {part("b", "2", "a", "1")},
		"a=1,b=2,c=3,d=4,e=5,f=6": {one("a", "1"), one("b", "2"), one("c", "3"), one("d", "4"), one("e", "5"), one("f", "6")},
		"a=1+b=2+c=3,a=1+b=2+c=3,a=1+b=2+c=3,a=1+b=2+c=3,a=1+b=2+c=3,a=1+b=2+c=3": slices.Repeat(api.Name{part("a", "1", "b", "2", "c", "3")}, 6),
		"abcdefghijklmnop=x":             {one("abcdefghijklmnop", "x")},
		"a-1--=x":                        {one("a-1--", "x")},
		"z0123456789-----=x":             {one("z0123456789-----", "x")},
		`cn=\ a\ `:                       {one("cn", " a ")},
		`cn=\ `:                          {one("cn", " ")},
		`cn=\ \ `:                        {one("cn", "  ")},
		`cn=\  \ `:                       {one("cn", "   ")},
		`cn=a  b`:                        {one("cn", "a  b")},
		`cn=\#`:                          {one("cn", "#")},
		`cn=\#a#`:                        {one("cn", "#a#")},
		`cn=\##`:                         {one("cn", "##")},
		`cn=\ #`:                         {one("cn", " #")},
		`cn=\#\ `:                        {one("cn", "# ")},
		`cn=a#`:                          {one("cn", "a#")},
		`cn=a\,b\+c\=d\\`:                {one("cn", `a,b+c=d\`)},
		`cn=\,\+\"\\\<\>\;\=`:            {one("cn", `,+"\<>;=`)},
		`cn=\\,o=\\+p=\\\,`:              {one("cn", `\`), part("o", `\`, "p", `\,`)},
		`cn=\00\7f\1f\0a`:                {one("cn", "\x00\x7f\x1f\n")},
		`cn=41`:                          {one("cn", "41")},
		`cn=\\41`:                        {one("cn", `\41`)},
		`cn=\\\ `:                        {one("cn", `\ `)},
		"cn=\u00e9\xff":                  {one("cn", "\u00e9\xff")},
		"cn=\x80\xff\xc3":                {one("cn", "\x80\xff\xc3")},
		"cn=A-Z!$%&'()*/:?@[]^`":         {one("cn", "A-Z!$%&'()*/:?@[]^`")},
		"cn={|}~_.":                      {one("cn", "{|}~_.")},
		"cn=" + strings.Repeat("x", 400): {one("cn", strings.Repeat("x", 400))},
	} {
		seeRead(t, s, n)
		seeShown(t, n, s)
	}
}

// P18.3, P18.6: texts that are read, but are not as they would be shown.
func TestForms(t *testing.T) {
	for s, want := range map[string]string{
		"CN=A":                        "cn=A",
		"cN=A,O=B+Sn=C":               "cn=A,o=B+sn=C",
		"ABCDEFGHIJKLMNOP=x":          "abcdefghijklmnop=x",
		"QRSTUVWXYZ-0=x":              "qrstuvwxyz-0=x",
		`cn=\41\2C\20`:                `cn=A\,\ `,
		`cn=\20`:                      `cn=\ `,
		`cn=\20\20`:                   `cn=\ \ `,
		`cn=\20\20\20`:                `cn=\  \ `,
		`cn=\ \ \ `:                   `cn=\  \ `,
		`cn=a\#b`:                     "cn=a#b",
		`cn=a\ b`:                     "cn=a b",
		`cn=\23`:                      `cn=\#`,
		`cn=a\23`:                     `cn=a#`,
		`cn=a\#`:                      `cn=a#`,
		`cn=a\20b`:                    `cn=a b`,
		`cn=a \20`:                    `cn=a \ `,
		`cn=a \ `:                     `cn=a \ `,
		`cn=\2c\2B\22\5C\3c\3E\3b\3d`: `cn=\,\+\"\\\<\>\;\=`,
		`cn=\2c,o=\2b+p=\3d`:          `cn=\,,o=\++p=\=`,
		`cn=\5c41`:                    `cn=\\41`,
		`cn=\5c\` + ` `:               `cn=\\\ `,
		`cn=\aF\Fa\ff\FF`:             "cn=\xaf\xfa\xff\xff",
		`cn=\c3\A9`:                   "cn=\u00e9",
		`cn=\411`:                     "cn=A1",
		"cn=\x00":                     `cn=\00`,
		"cn=\n":                       `cn=\0a`,
		"cn=a\x1f\x7f":                `cn=a\1f\7f`,
		`cn=\0A\1F\7F`:                `cn=\0a\1f\7f`,
		"cn=\ta":                      `cn=\09a`,
	} {
		n, x := Parse(s)
		if x != api.OK || Check(n) != api.OK {
			t.Errorf("Parse of %q: %s %d", s, plain(n), int(x))
		}
		seeShown(t, n, want)
		seeRead(t, want, n)
		seeModel(t, s)
	}
}

// P18.3: texts that are no name's, written by hand.
func TestNoTexts(t *testing.T) {
	for _, s := range []string{
		"cn", "a", "-", "1", "=", "==", "cn=", "=a", "=a,cn=b", "cn=a,=b", "cn=a+=b", "cn=,o=b", "cn=+o=b", "cn=a,o=", "cn=a+o=", "cn==a", "cn=a=", "cn=a=b",
		",", "+", ",cn=a", "+cn=a", "cn=a,", "cn=a+", "cn=a,,o=b", "cn=a++o=b", "cn=a,+o=b", "cn=a+,o=b", ",,", "++", "cn=a,,", "cn=a++", "cn=a,o=b,", "cn=a,o=b+", ",cn=a,o=b",
		"cn=a,b", "cn=a+b", "cn,o=a", "cn+o=a", "cn=a,o", "cn=a+o",
		"cn= a", "cn=a ", "cn= ", "cn=  ", "cn= a ", "cn=a  ", "cn= ,o=b", "cn=a ,o=b", "cn=a +o=b", "cn=a, o=b", "cn=a+ o=b", "cn= a,o=b", `cn= \ `, `cn=\  `, `cn= \20`, `cn=\20 `, `cn=a\ b `, `cn=a,o=b `,
		"cn=#", "cn=#a", "cn=##", "cn=#,o=a", "cn=a,o=#b", "cn=a+o=#b", `cn=#\#`, `cn=#\20`, "cn=#04",
		`cn="`, `cn=a"b`, `cn="a"`, `cn=a"`, "cn=<", "cn=a<b", "cn=>", "cn=a>", "cn=;", "cn=a;b", "cn=a;o=b", "cn=a=b,o=c", `cn=\,=`, `cn=\==`,
		`\`, `cn=\`, `cn=a\`, `cn=\\\`, `cn=\4`, `cn=a\4`, `cn=\4g`, `cn=\g4`, `cn=\4,o=a`, `cn=\4+o=a`, `cn=\4\1`, `cn=\g`, `cn=\a`, `cn=\F`, `cn=\fg`, `cn=\x41`, `cn=\0x4`, `cn=\-4`, `cn=\_4`, `cn=\4_`, `cn=\4 `, `cn=\4\ `, `cn=\n`, `cn=\é`, "cn=\\\x00", "cn=\\\xff", `cn=\!`, `cn=\:1`, `cn=\1:`, `cn=\/1`, `cn=\1/`, `cn=\@1`, `cn=\1@`, "cn=\\`1", "cn=\\1`", `cn=\G1`, `cn=\1G`, `cn=\,o=b`, `cn=a\,o=b`, `cn=a\+o=b`,
		"1cn=a", "-cn=a", "9=a", "-=a", "c_n=a", "cn =a", " cn=a", "c n=a", "c.n=a", "2.5.4.3=a", "cn;x=a", `c\n=a`, `\63n=a`, `cn\=a`, `cn\==a`, "c\x00n=a", "\u00e9=a", "c\u00e9=a", "\xe9=a", "CN =a", "1CN=A", "-CN=A", "@=a", "[=a", "`=a", "{=a", "a@=a", "a[=a", "a`=a", "a{=a", "a/=a", "a:=a", "a,=b",
		"\u212an=a", "c\u212a=a", "\u0130=a", "\uff43\uff4e=a", "\u017f=a",
		"abcdefghijklmnopq=a", "ABCDEFGHIJKLMNOPQ=a", "cn=a,abcdefghijklmnopq=a",
		"a=1+b=2+c=3+d=4", "a=1,a=1+b=2+c=3+d=4", "a=1+b=2+c=3+d=4,a=1", "a=1+a=1+a=1+a=1+a=1",
		"a=1,a=1,a=1,a=1,a=1,a=1,a=1", "a=1,a=1,a=1,a=1,a=1,a=1,a=1,a=1", "a=1,a=1,a=1,a=1,a=1,a=1,", "a=1+b=2+c=3,a=1,a=1,a=1,a=1,a=1,a=1",
		"cn=" + strings.Repeat("x", 401), "cn=a,o=" + strings.Repeat("x", 401), "cn=a+o=" + strings.Repeat("x", 401), "cn=" + strings.Repeat(`\41`, 401), "cn=" + strings.Repeat(`\,`, 401), "cn=" + strings.Repeat("x", 2997),
	} {
		seeUnread(t, s, api.ErrName)
		if _, x := modelParse(s); x != api.ErrName {
			t.Errorf("the model reads %q", cut(s))
		}
	}
}

// P18.1, P18.2, P18.4: names that may not be, written by hand.
func TestWrongNames(t *testing.T) {
	for _, n := range []api.Name{
		row(7), row(8), row(100), make(api.Name, 7), make(api.Name, 100000),
		{nil}, {{}}, {one("a", "1"), nil}, {nil, one("a", "1")}, {one("a", "1"), {}, one("b", "2")}, append(row(5), nil), append(row(6), nil),
		{part("a", "1", "b", "2", "c", "3", "d", "4")}, {one("a", "1"), part("a", "1", "b", "2", "c", "3", "d", "4")}, {slices.Repeat(one("a", "1"), 4)}, {slices.Repeat(one("a", "1"), 100000)},
		{one("", "1")}, {one("A", "1")}, {one("cN", "1")}, {one("Cn", "1")}, {one("1a", "1")}, {one("-a", "1")}, {one("1", "1")}, {one("-", "1")}, {one("a_b", "1")}, {one("a b", "1")}, {one(" a", "1")}, {one("a ", "1")}, {one("a=", "1")}, {one("\u00e9", "1")}, {one("a\x00", "1")},
		{one("abcdefghijklmnopq", "1")}, {one(strings.Repeat("a", 17), "1")}, {one(strings.Repeat("a", 5000), "1")},
		{one("a", "")}, {one("a", strings.Repeat("x", 401))}, {one("a", strings.Repeat("x", 5000))}, {one("", "")}, {{{}}},
		{part("a", "1", "", "2")}, {part("a", "1", "B", "2")}, {part("a", "1", "b", "")}, {part("a", "", "b", "1")}, {part("a", "1", "b", "2", "c", "")}, {part("a", "1", "b", "2", "c", strings.Repeat("x", 401))}, {part("a", "1", "b", "2", "C", "3")}, {part("a", "1", "b", strings.Repeat("x", 401), "c", "3")},
		{one("a", "1"), one("b", "")}, {one("a", "1"), one("B", "2")}, {one("a", ""), one("b", "1")}, {one("A", "1"), one("b", "1")}, append(row(5), one("a", "")), append(row(5), one("1", "a")), append(row(5), part("a", "1", "b", "2", "c", "3", "d", "4")),
	} {
		seeWrong(t, n)
	}
}

// P18.1, P18.2: the limits, each at its end.
func TestLimits(t *testing.T) {
	for parts := range 10 {
		for pairs := range 6 {
			n := make(api.Name, parts)
			for i := range n {
				n[i] = slices.Repeat(one("a", "1"), pairs)
			}
			if parts == 0 || parts <= 6 && pairs >= 1 && pairs <= 3 {
				seeShown(t, n, modelShow(n))
				seeRead(t, modelShow(n), n)
			} else {
				seeWrong(t, n)
			}
		}
	}
	for length := range 420 {
		v := strings.Repeat("\xe9", length)
		w := strings.Repeat("a", length)
		fits := length >= 1 && length <= 400
		if n := (api.Name{part("a", "1", "b", v)}); fits {
			seeShown(t, n, "a=1+b="+v)
			seeRead(t, "a=1+b="+v, n)
			seeRead(t, "a=1+b="+strings.Repeat(`\E9`, length), n)
		} else {
			seeWrong(t, n)
			seeUnread(t, "a=1+b="+v, api.ErrName)
			seeUnread(t, "a=1+b="+strings.Repeat(`\E9`, length), api.ErrName)
		}
		if got := Word(w); got != (length >= 1 && length <= 16) {
			t.Errorf("Word of %d bytes: %t", length, got)
		}
		if length > 16 {
			seeUnread(t, w+"=1", api.ErrName)
			seeUnread(t, strings.ToUpper(w)+"=1", api.ErrName)
		}
	}
}

// P18.1, P18.3: each byte in each place of a word, and of a Name that is read.
func TestWords(t *testing.T) {
	model := regexp.MustCompile(`^[a-z][a-z0-9-]{0,15}$`)
	for _, w := range []string{"a", "ab", "cn", "z9", "a-", "abc", "a-1", "m0-z", "abcdefghijklmno", "abcdefghijklmnop", "a--------------9", "a00000000000000-"} {
		if !Word(w) {
			t.Errorf("%q is no word", w)
		}
		for at := range len(w) {
			for c := range 256 {
				s := w[:at] + string([]byte{byte(c)}) + w[at+1:]
				want := model.MatchString(s)
				if got := Word(s); got != want {
					t.Errorf("Word of %q: %t", s, got)
				}
				if x := Check(api.Name{one(s, "x")}); (x == api.OK) != want || !want && x != api.ErrName {
					t.Errorf("Check of %q: %d", s, int(x))
				}
				seeModel(t, s+"=x")
				stopAtFault(t)
			}
		}
	}
	for _, w := range []string{"", "-", "1", "1a", "-a", "A", "Ab", "aB", "a_", "a b", " a", "a ", "a=", "a\x00", "a\n", "\na", "\u00e9", "a\u00e9", "\u212a", "a\xff", "abcdefghijklmnopq", "abcdefghijklmnop\n", strings.Repeat("a", 100000)} {
		if Word(w) {
			t.Errorf("%q is a word", cut(w))
		}
	}
}

// P18.2, P18.3, P18.5: each byte alone, first, last, between others, and next to those that mean something.
func TestEachByte(t *testing.T) {
	for c := range 256 {
		b := string([]byte{byte(c)})
		for _, ahead := range []string{"", "a", " ", "#", `\`, "4", "\xff", "ab c", ",", " a", "a "} {
			for _, behind := range []string{"", "a", " ", "#", `\`, "4", "\xff", "b cd", "=", " a", "a "} {
				v := ahead + b + behind
				n := api.Name{part("a", "1", "b", v), one("c", v)}
				seeShown(t, n, modelShow(n))
				seeRead(t, modelShow(n), n)
				seeModel(t, "a="+v)
				seeModel(t, "a="+v+",b=c")
				seeModel(t, "a="+v+"+b=c")
				seeModel(t, "a=1,b="+v)
				seeModel(t, v)
				stopAtFault(t)
			}
		}
	}
}

// P18.3: a \ ahead of each byte, and of each two.
func TestSlashes(t *testing.T) {
	for c := range 256 {
		b := string([]byte{byte(c)})
		for _, s := range []string{`a=\` + b, `a=x\` + b, `a=\` + b + `x`, `a=x\` + b + `x`, `a= \` + b, `a=\` + b + " ", `a=#\` + b, `a=\` + b + `#`, `a=\` + b + `,b=c`, `a=\` + b + `+b=c`, `a=\\` + b, `a=\\\` + b, `a=4\` + b + `4`, `\` + b, `a\` + b + `=1`, `a=1\` + b + `\`} {
			seeModel(t, s)
		}
		for d := range 256 {
			seeModel(t, `a=\`+b+string([]byte{byte(d)}))
			seeModel(t, `a=x\`+b+string([]byte{byte(d)})+`y`)
			stopAtFault(t)
		}
	}
}

// each goes through all texts of up to so many of the letters.
func each(letters []string, most int, f func(string)) {
	var grow func(string, int)
	grow = func(s string, left int) {
		f(s)
		if left == 0 {
			return
		}
		for _, l := range letters {
			grow(s+l, left-1)
		}
	}
	grow("", most)
}

// P18.3, P18.5, P18.6: all short texts out of what matters.
func TestShortTexts(t *testing.T) {
	each([]string{"a", "=", ",", "+", `\`, " ", "#"}, 6, func(s string) {
		seeModel(t, s)
		stopAtFault(t)
	})
	each([]string{"a", "4", "=", ",", "+", `\`, " ", "#", `"`, "\x00", "G"}, 4, func(s string) {
		seeModel(t, "A="+s)
		stopAtFault(t)
	})
	each([]string{"a=1", "B-=2", ",", "+", `\,`, `\+`, " "}, 6, func(s string) {
		seeModel(t, s)
		stopAtFault(t)
	})
}

// P18.2, P18.5: all short values out of what matters.
func TestShortValues(t *testing.T) {
	each([]string{"a", "=", ",", "+", `\`, " ", "#", "\x00", "\x7f", "4"}, 4, func(v string) {
		if v != "" {
			n := api.Name{one("a", v)}
			seeShown(t, n, modelShow(n))
			seeRead(t, modelShow(n), n)
			stopAtFault(t)
		}
	})
}

// ofLength is a text of a name of four parts, of so many bytes.
func ofLength(length int) string {
	s := "abcdefghijklmnop=" + strings.Repeat(`\41`, 300)
	s += "+b=" + strings.Repeat("x", 400) + ",c=" + strings.Repeat("y", 400) + "+d=" + strings.Repeat(`\,`, 400)
	s += ",e=" + strings.Repeat("z", 200) + ",f="
	return s + strings.Repeat("w", length-len(s))
}

// P18.3: texts of 3000 bytes and of one more, those of no name too; ErrBig stands first.
func TestLongTexts(t *testing.T) {
	for length := 2990; length <= 3000; length++ {
		s := ofLength(length)
		if n, x := Parse(s); len(s) != length || len(n) != 4 || x != api.OK {
			t.Errorf("%d bytes: %d parts, %d", length, len(n), int(x))
		}
		seeModel(t, s)
		seeUnread(t, strings.Repeat(",", length), api.ErrName)
		seeUnread(t, strings.Repeat("a=1,", length/4), api.ErrName)
		seeUnread(t, strings.Repeat("a=1+", length/4)+"a=1"[:length%4], api.ErrName)
		seeUnread(t, strings.Repeat("a", length), api.ErrName)
		seeUnread(t, strings.Repeat("=", length), api.ErrName)
		seeUnread(t, strings.Repeat(`\`, length), api.ErrName)
		seeUnread(t, "a="+strings.Repeat(" ", length-2), api.ErrName)
	}
	for _, length := range []int{3001, 3002, 3003, 4000, 5000, 100000, 1 << 22} {
		if length <= 3003 {
			seeUnread(t, ofLength(length), api.ErrBig)
		}
		for _, b := range []string{",", "a", "=", `\`, " ", "\x00", "\xff"} {
			seeUnread(t, strings.Repeat(b, length), api.ErrBig)
		}
	}
	// One part can be as long, too.
	s := "a=" + strings.Repeat(`\41`, 400) + "+b=" + strings.Repeat(`\42`, 400) + "+c=" + strings.Repeat(`\43`, 197) + "D"
	if r, x := Rdn(s); len(s) != 3000 || len(r) != 3 || x != api.OK {
		t.Errorf("%d bytes: %d pairs, %d", len(s), len(r), int(x))
	}
	seeModel(t, s)
	seeUnread(t, s+"D", api.ErrBig)
}

// P18.2, P18.3: a name may be longer, as a text, than what is read.
func TestShownLong(t *testing.T) {
	v := strings.Repeat("\x01,", 200)
	w := "abcdefghijklmnop"
	n := slices.Repeat(api.Name{part(w, v, w, v, w, v)}, 6)
	seeShown(t, n, modelShow(n))
	seeUnread(t, modelShow(n), api.ErrBig)
	m := slices.Repeat(api.Name{one("a", strings.Repeat("x", 400))}, 6)
	seeShown(t, m, modelShow(m))
	seeRead(t, modelShow(m), m)
	seeModel(t, "a="+strings.Repeat("\x01", 400)+"+b="+strings.Repeat("\x02", 400)+",a="+strings.Repeat("\x01", 400))
}

// someValue is a value that may be, by chance.
func someValue(r *rand.Rand) string {
	length := 1 + r.Intn(6)
	if r.Intn(10) == 0 {
		length = 1 + r.Intn(400)
	}
	b := make([]byte, length)
	for i := range b {
		switch r.Intn(3) {
		case 0:
			b[i] = ` #,+"\<>;=4aF`[r.Intn(13)]
		case 1:
			b[i] = byte(r.Intn(256))
		default:
			b[i] = 'a' + byte(r.Intn(26))
		}
	}
	return string(b)
}

// someName is a name that may be, by chance.
func someName(r *rand.Rand) api.Name {
	n := make(api.Name, r.Intn(7))
	for i := range n {
		n[i] = make(api.Rdn, 1+r.Intn(3))
		for j := range n[i] {
			n[i][j] = api.Pair{Name: "a" + "bcdefgh-0123456"[:r.Intn(16)], Value: someValue(r)}
		}
	}
	return n
}

// P18.5, P18.7: names by chance: read out of their texts, and above those below them.
func TestNames(t *testing.T) {
	r := rand.New(rand.NewSource(18))
	for range 5000 {
		n := someName(r)
		s := modelShow(n)
		seeShown(t, n, s)
		if len(s) <= 3000 {
			seeRead(t, s, n)
		} else {
			seeUnread(t, s, api.ErrBig)
		}
		below := part("x", someValue(r), "y-", someValue(r))
		m, x := Below(n, below)
		if len(n) == 6 {
			if len(m) != 0 || x != api.ErrName {
				t.Errorf("Below of %s: %s %d", plain(n), plain(m), int(x))
			}
		} else {
			up, ok := Above(m)
			if x != api.OK || !ok || !Same(up, n) || plain(up) != plain(n) || plain(m[:1]) != plain(api.Name{below}) {
				t.Errorf("Below of %s: %s %d, above it %s %t", plain(n), plain(m), int(x), plain(up), ok)
			}
		}
		stopAtFault(t)
	}
}

// P18.3, P18.6: texts by chance, most of them near to a name's.
func TestSomeTexts(t *testing.T) {
	r := rand.New(rand.NewSource(36))
	for range 20000 {
		s := []byte(modelShow(someName(r)))
		for range r.Intn(3) {
			if len(s) == 0 {
				break
			}
			at := r.Intn(len(s))
			switch c := ` #,+"\<>;=4aFG-`[r.Intn(15)]; r.Intn(3) {
			case 0:
				s[at] = c
			case 1:
				s = slices.Delete(s, at, at+1)
			default:
				s = slices.Insert(s, at, c)
			}
		}
		seeModel(t, string(s))
		stopAtFault(t)
	}
}

// P18.4: Above, by hand.
func TestAbove(t *testing.T) {
	for parts := range 7 {
		n := row(parts)
		got, ok := Above(n)
		if parts == 0 {
			if len(got) != 0 || ok {
				t.Errorf("Above of none: %s %t", plain(got), ok)
			}
		} else if !ok || plain(got) != plain(n[1:]) {
			t.Errorf("Above of %s: %s %t", plain(n), plain(got), ok)
		}
	}
	if got, ok := Above(api.Name{}); len(got) != 0 || ok {
		t.Error(plain(got), ok)
	}
	n := api.Name{part("a", "1", "b", "2", "c", "3"), part("d", " 4", "e", "\x00"), one("f", "6")}
	got, ok := Above(n)
	if !ok || plain(got) != `["d":" 4" "e":"\x00" ]["f":"6" ]` {
		t.Error(plain(got), ok)
	}
	got, ok = Above(got)
	if !ok || plain(got) != `["f":"6" ]` {
		t.Error(plain(got), ok)
	}
	got, ok = Above(got)
	if !ok || len(got) != 0 {
		t.Error(plain(got), ok)
	}
	// What may not be has none above it, wherever its fault is.
	for at := range 6 {
		for _, r := range []api.Rdn{nil, one("A", "1"), one("a", ""), part("a", "1", "b", "2", "c", "3", "d", "4")} {
			n := row(6)
			n[at] = r
			if got, ok := Above(n); len(got) != 0 || ok {
				t.Errorf("Above of %s: %s %t", plain(n), plain(got), ok)
			}
		}
	}
}

// P18.4, P18.7: Below, by hand.
func TestBelow(t *testing.T) {
	r := part("x", "1", "y", "2")
	for parts := range 9 {
		n := row(parts)
		got, x := Below(n, r)
		if parts >= 6 {
			if len(got) != 0 || x != api.ErrName {
				t.Errorf("Below of %s: %s %d", plain(n), plain(got), int(x))
			}
			continue
		}
		if x != api.OK || plain(got) != plain(api.Name{r})+plain(n) {
			t.Errorf("Below of %s: %s %d", plain(n), plain(got), int(x))
		}
		if up, ok := Above(got); !ok || !Same(up, n) {
			t.Errorf("above %s: %s %t", plain(got), plain(up), ok)
		}
	}
	for _, bad := range []api.Rdn{nil, {}, one("", "1"), one("A", "1"), one("1", "1"), one("a", ""), one("a", strings.Repeat("x", 401)), one(strings.Repeat("a", 17), "1"), slices.Repeat(one("a", "1"), 4), part("a", "1", "b", "")} {
		for parts := range 8 {
			if got, x := Below(row(parts), bad); len(got) != 0 || x != api.ErrName {
				t.Errorf("Below of %d parts with %q: %s %d", parts, cut(fmt.Sprint(bad)), plain(got), int(x))
			}
		}
		for at := range 5 {
			n := row(5)
			n[at] = bad
			if got, x := Below(n, r); len(got) != 0 || x != api.ErrName {
				t.Errorf("Below of %s: %s %d", cut(plain(n)), plain(got), int(x))
			}
		}
	}
	for _, good := range []api.Rdn{one("a", "1"), one(strings.Repeat("a", 16), strings.Repeat("x", 400)), part("a", "1", "b", "2", "c", "3")} {
		if got, x := Below(row(5), good); len(got) != 6 || x != api.OK || plain(got[:1]) != plain(api.Name{good}) {
			t.Errorf("Below with %q: %s %d", cut(fmt.Sprint(good)), cut(plain(got)), int(x))
		}
	}
}

// P18.4: Same, of names that are not the same in one place alone, and of such as may not be.
func TestSame(t *testing.T) {
	again := func() api.Name {
		return api.Name{part("a", "1", "b", "2", "c", "3"), part("d", "4", "e", "5"), one("f", "6")}
	}
	if !Same(again(), again()) {
		t.Error("not the same")
	}
	differ := func(what string, n api.Name) {
		t.Helper()
		if Same(n, again()) || Same(again(), n) || !Same(n, n) {
			t.Errorf("%s: %s", what, plain(n))
		}
	}
	for i, r := range again() {
		for j := range r {
			n := again()
			n[i][j].Name += "x"
			differ("Name", n)
			n = again()
			n[i][j].Name = strings.ToUpper(n[i][j].Name)
			differ("great Name", n)
			n = again()
			n[i][j].Value += " "
			differ("Value", n)
			n = again()
			n[i][j].Value = ""
			differ("no Value", n)
			n = again()
			n[i][j].Name, n[i][j].Value = n[i][j].Value, n[i][j].Name
			differ("changed about", n)
			n = again()
			n[i] = slices.Delete(n[i], j, j+1)
			differ("without a pair", n)
			n = again()
			n[i] = append(n[i], n[i][j])
			differ("with a pair", n)
		}
		n := again()
		n = slices.Delete(n, i, i+1)
		differ("without a part", n)
		n = again()
		n[i] = nil
		differ("an empty part", n)
		n = again()
		n = append(n, n[i])
		differ("with a part", n)
	}
	n := again()
	n[0], n[1] = n[1], n[0]
	differ("parts in another order", n)
	n = again()
	n[0][0], n[0][1] = n[0][1], n[0][0]
	differ("pairs in another order", n)
	n = again()
	n[0], n[1] = n[0][:2], append(n[0][2:3:3], n[1]...)
	differ("parted elsewhere", n)
	n = api.Name{append(append(n[0], n[1]...), n[2]...)}
	differ("one part", n)
	differ("none", nil)
	for _, two := range [][2]api.Name{{nil, nil}, {nil, {}}, {{}, {}}, {{nil}, {{}}}, {{nil, nil}, {{}, {}}}, {{one("", "")}, {one("", "")}}, {row(100), row(100)}, {{one("A", "x")}, {one("A", "x")}}} {
		if !Same(two[0], two[1]) || !Same(two[1], two[0]) {
			t.Errorf("not the same: %s, %s", plain(two[0]), plain(two[1]))
		}
	}
	for _, two := range [][2]api.Name{{nil, {nil}}, {{nil}, {nil, nil}}, {{nil}, {one("", "")}}, {row(100), row(101)}, {{one("A", "x")}, {one("a", "x")}}, {{one("a", "X")}, {one("a", "x")}}, {{one("a", "e\u0301")}, {one("a", "\u00e9")}}} {
		if Same(two[0], two[1]) || Same(two[1], two[0]) {
			t.Errorf("the same: %s, %s", plain(two[0]), plain(two[1]))
		}
	}
}

// roomy is a name of two parts with spare room in each list, with the lists to their ends.
func roomy() (api.Name, []api.Rdn) {
	low := part("a", "1", "b", "2", "spare", "3", "spare", "4")
	high := part("c", "5", "spare", "6")
	all := api.Name{low[:2], high[:1], one("spare", "7"), one("spare", "8")}
	return all[:2], []api.Rdn(all)
}

// spoil changes all that a name has, and what could stand behind it.
func spoil(n api.Name) {
	n = n[:cap(n)]
	for i, r := range n {
		r = r[:cap(r)]
		for j := range r {
			r[j] = api.Pair{Name: "spoilt", Value: "spoilt"}
		}
		n[i] = nil
	}
}

// Rule 4: what comes in is not changed, its spare room neither; what is handed out is its own.
func TestInStays(t *testing.T) {
	n, all := roomy()
	low := n[0][:4]
	Check(n)
	Show(n)
	Same(n, n)
	up, _ := Above(n)
	down, _ := Below(n, n[0])
	for _, m := range []api.Name{up, down} {
		spoil(m)
	}
	other, otherAll := roomy()
	for i := range all {
		if !reflect.DeepEqual(all[i][:cap(all[i])], otherAll[i][:cap(otherAll[i])]) {
			t.Error(all[i][:cap(all[i])])
		}
	}
	if !reflect.DeepEqual(low, other[0][:4]) {
		t.Error(low)
	}
}

// Rule 4: what is handed out does not change with what came in, nor with what another call handed out.
func TestOutIsNew(t *testing.T) {
	n, _ := roomy()
	r := part("x", "9")
	up, _ := Above(n)
	down, _ := Below(n, r)
	upAgain, _ := Above(n)
	downAgain, _ := Below(n, r)
	spoil(upAgain)
	spoil(downAgain)
	n[0][0], n[0][1], n[1][0], r[0] = api.Pair{}, api.Pair{}, api.Pair{}, api.Pair{}
	n[0], n[1] = nil, nil
	if plain(up) != `["c":"5" ]` || plain(down) != `["x":"9" ]["a":"1" "b":"2" ]["c":"5" ]` {
		t.Error(plain(up), plain(down))
	}
	first, _ := Parse("a=1+b=2,c=3")
	second, _ := Parse("a=1+b=2,c=3")
	spoil(second)
	part1, _ := Rdn("a=1+b=2")
	part2, _ := Rdn("a=1+b=2")
	spoil(api.Name{part2})
	if plain(first) != `["a":"1" "b":"2" ]["c":"3" ]` || plain(api.Name{part1}) != `["a":"1" "b":"2" ]` {
		t.Error(plain(first), part1)
	}
}

// Rule 4: no list of an answer stands in the room of another one.
func TestOutApart(t *testing.T) {
	parsed, _ := Parse("a=1+b=2,c=3,d=4+e=5+f=6")
	above, _ := Above(api.Name{one("x", "0"), one("c", "3"), one("d", "4")})
	pairs := part("a", "1", "b", "2", "c", "3")
	shared := api.Name{pairs[:1], pairs[1:2], pairs[:3]}
	below, _ := Below(shared, pairs[:2])
	for _, n := range []api.Name{parsed, above, below} {
		want := plain(n)
		for i := range n {
			_ = append(n[i], api.Pair{Name: "more", Value: "more"}, api.Pair{Name: "more", Value: "more"})
		}
		if plain(n) != want {
			t.Errorf("%s, not %s", plain(n), want)
		}
	}
	below[0][0].Value, below[1][0].Value = "changed", "changed too"
	if plain(below[3:]) != `["a":"1" "b":"2" "c":"3" ]` || below[0][0].Value != "changed" {
		t.Error(plain(below))
	}
}

// The chapter's example.
func TestExample(t *testing.T) {
	n, x := Parse(`cn=a\,b+sn=\ c,o=d`)
	if x != api.OK || plain(n) != `["cn":"a,b" "sn":" c" ]["o":"d" ]` {
		t.Error(plain(n), int(x))
	}
	if s, x := Show(n); s != `cn=a\,b+sn=\ c,o=d` || x != api.OK {
		t.Error(s, int(x))
	}
}
