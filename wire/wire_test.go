package wire

import (
	"encoding/hex"
	"fmt"
	"math"
	"math/rand"
	"slices"
	"strings"
	"sync"
	"testing"

	"toponym/api"
	"toponym/ber"
	"toponym/filter"
)

// leaf is an element that is not Made.
func leaf(class, number int, contents string) api.Element {
	return api.Element{Class: class, Number: number, Contents: contents}
}

// made is an element that is Made.
func made(class, number int, l ...api.Element) api.Element {
	return api.Element{Class: class, Made: true, Number: number, Elements: l}
}

// oct is a text of Class 0 and Number 4.
func oct(s string) api.Element { return leaf(0, 4, s) }

// raw reads bytes that are written to the base 16, with blanks between.
func raw(s string) string {
	b, err := hex.DecodeString(strings.ReplaceAll(s, " ", ""))
	if err != nil {
		panic(err)
	}
	return string(b)
}

// same tells whether two elements have the same in all of their fields; lists without an element are the same.
func same(a, b api.Element) bool {
	return a.Class == b.Class && a.Made == b.Made && a.Number == b.Number && a.Contents == b.Contents && slices.EqualFunc(a.Elements, b.Elements, same)
}

// shown tells an element, field by field.
func shown(e api.Element) string {
	s := fmt.Sprintf("[%d %t %d %q", e.Class, e.Made, e.Number, e.Contents)
	for _, in := range e.Elements {
		s += shown(in)
	}
	return s + "]"
}

// plain tells a filter field by field, without telling nil lists from empty ones, so that filters can be held against each other without Same.
func plain(f api.Filter) string {
	var b strings.Builder
	p := f.Pieces
	fmt.Fprintf(&b, "{%d %q %q %q %q %q %t %t %q %t", f.Kind, f.Name, f.Value, p.Initial, p.Any, p.Final, p.HasInitial, p.HasFinal, f.Rule, f.Dn)
	for _, k := range f.Kids {
		b.WriteString(plain(k))
	}
	return b.String() + "}"
}

// nothing is what is told beside an error.
var nothing = plain(api.Filter{})

// told is what is told of a long text: its beginning, and its length.
func told(s string) string { return fmt.Sprintf("%s (%d bytes)", s[:min(len(s), 240)], len(s)) }

// joined is a filter of others.
func joined(kind int, kids ...api.Filter) api.Filter { return api.Filter{Kind: kind, Kids: kids} }

// holds is a filter of a Name and a Value.
func holds(kind int, name, value string) api.Filter {
	return api.Filter{Kind: kind, Name: name, Value: value}
}

// sub is a filter of pieces: the first and the last are asked where they are not empty.
func sub(name string, l ...string) api.Filter {
	last := len(l) - 1
	p := api.Pieces{Initial: l[0], Any: l[1:last], Final: l[last], HasInitial: l[0] != "", HasFinal: l[last] != ""}
	return api.Filter{Kind: api.Substring, Name: name, Pieces: p}
}

// presence is a Present.
func presence(name string) api.Filter { return api.Filter{Kind: api.Present, Name: name} }

// extension is an Extended.
func extension(name string, own bool, rule, value string) api.Filter {
	return api.Filter{Kind: api.Extended, Name: name, Dn: own, Rule: rule, Value: value}
}

// chain is a filter that is so deep: Nots around one that has no Kids.
func chain(deep int, lowest api.Filter) api.Filter {
	for range deep - 1 {
		lowest = joined(api.Not, lowest)
	}
	return lowest
}

// wide is a filter of so many parts, two deep.
func wide(parts int) api.Filter {
	f := joined(api.Or)
	for range parts - 1 {
		f.Kids = append(f.Kids, holds(api.Equal, "a", "b"))
	}
	return f
}

// The model: what the chapter says, written anew. An element is read as a filter that has what can be found in it, and held against the element that this one has.

const (
	greats = "ABCDEFGHIJKLMNOPQRSTUVWXYZ"
	smalls = "abcdefghijklmnopqrstuvwxyz"
)

// modelLower is a text with small letters for great ones.
func modelLower(s string) string {
	var out strings.Builder
	for i := range len(s) {
		if at := strings.IndexByte(greats, s[i]); at >= 0 {
			out.WriteByte(smalls[at])
		} else {
			out.WriteByte(s[i])
		}
	}
	return out.String()
}

// modelLay is a filter's element.
func modelLay(f api.Filter) api.Element {
	e := api.Element{Class: 2, Made: f.Kind != 7, Number: f.Kind}
	switch f.Kind {
	case 0, 1, 2:
		for _, k := range f.Kids {
			e.Elements = append(e.Elements, modelLay(k))
		}
	case 3, 5, 6, 8:
		e.Elements = []api.Element{{Number: 4, Contents: f.Name}, {Number: 4, Contents: f.Value}}
	case 4:
		l := []api.Element{}
		if f.Pieces.HasInitial {
			l = append(l, api.Element{Class: 2, Contents: f.Pieces.Initial})
		}
		for _, s := range f.Pieces.Any {
			l = append(l, api.Element{Class: 2, Number: 1, Contents: s})
		}
		if f.Pieces.HasFinal {
			l = append(l, api.Element{Class: 2, Number: 2, Contents: f.Pieces.Final})
		}
		e.Elements = []api.Element{{Number: 4, Contents: f.Name}, {Number: 16, Made: true, Elements: l}}
	case 7:
		e.Contents = f.Name
	case 9:
		if f.Rule != "" {
			e.Elements = append(e.Elements, api.Element{Class: 2, Number: 1, Contents: f.Rule})
		}
		if f.Name != "" {
			e.Elements = append(e.Elements, api.Element{Class: 2, Number: 2, Contents: f.Name})
		}
		e.Elements = append(e.Elements, api.Element{Class: 2, Number: 3, Contents: f.Value})
		if f.Dn {
			e.Elements = append(e.Elements, api.Element{Class: 2, Number: 4, Contents: "\xff"})
		}
	}
	return e
}

// guess is a filter without Kids of what can be found in an element, wherever it stands.
func guess(e api.Element) api.Filter {
	f := api.Filter{Kind: e.Number}
	at := func(i int) api.Element {
		if i < len(e.Elements) {
			return e.Elements[i]
		}
		return api.Element{}
	}
	switch e.Number {
	case 3, 5, 6, 8:
		f.Name, f.Value = modelLower(at(0).Contents), at(1).Contents
	case 4:
		f.Name = modelLower(at(0).Contents)
		for _, in := range at(1).Elements {
			switch in.Number {
			case 0:
				f.Pieces.Initial, f.Pieces.HasInitial = in.Contents, true
			case 1:
				f.Pieces.Any = append(f.Pieces.Any, in.Contents)
			case 2:
				f.Pieces.Final, f.Pieces.HasFinal = in.Contents, true
			}
		}
	case 7:
		f.Name = modelLower(e.Contents)
	case 9:
		for _, in := range e.Elements {
			switch in.Number {
			case 1:
				f.Rule = modelLower(in.Contents)
			case 2:
				f.Name = modelLower(in.Contents)
			case 3:
				f.Value = in.Contents
			case 4:
				f.Dn = true
			}
		}
	}
	return f
}

// tidy is the element of a filter without Kids, with small letters in Names and Rules, and ff for any truth of Number 4.
func tidy(e api.Element) api.Element {
	e.Elements = slices.Clone(e.Elements)
	l := e.Elements
	switch e.Number {
	case 3, 4, 5, 6, 8:
		if len(l) > 0 {
			l[0].Contents = modelLower(l[0].Contents)
		}
	case 7:
		e.Contents = modelLower(e.Contents)
	case 9:
		for i := range l {
			switch l[i].Number {
			case 1, 2:
				l[i].Contents = modelLower(l[i].Contents)
			case 4:
				if len(l[i].Contents) == 1 {
					l[i].Contents = "\xff"
				}
			}
		}
	}
	return e
}

// modelFilter is the filter whose element this is, if it were that any may be.
func modelFilter(e api.Element) (api.Filter, bool) {
	if e.Number < 0 || e.Number > 2 {
		f := guess(e)
		ok := same(modelLay(f), tidy(e))
		if ok && f.Dn {
			f.Dn = e.Elements[len(e.Elements)-1].Contents != "\x00"
		}
		return f, ok
	}
	f := api.Filter{Kind: e.Number}
	ok := e.Class == 2 && e.Made && e.Contents == ""
	for _, in := range e.Elements {
		k, is := modelFilter(in)
		f.Kids, ok = append(f.Kids, k), ok && is
	}
	return f, ok
}

// modelRead is what Read answers.
func modelRead(e api.Element) (api.Filter, api.Errno) {
	if f, ok := modelFilter(e); ok && filter.Check(f) == api.OK {
		return f, api.OK
	}
	return api.Filter{}, api.ErrWire
}

// seeLaid looks that Lay of a filter is what the chapter says, and that its element is read as the filter, also through bytes.
func seeLaid(t *testing.T, f api.Filter) {
	t.Helper()
	want, e := api.Element{}, filter.Check(f)
	if e == api.OK {
		want = modelLay(f)
	}
	got, x := Lay(f)
	if !same(got, want) || x != e {
		t.Errorf("Lay of %s: %s %d, not %s %d", told(plain(f)), told(shown(got)), int(x), told(shown(want)), int(e))
	}
	if e != api.OK {
		return
	}
	if g, x := Read(got); plain(g) != plain(f) || !filter.Same(g, f) || x != api.OK {
		t.Errorf("Read of Lay of %s: %s %d", told(plain(f)), told(plain(g)), int(x))
	}
	seeThroughBytes(t, got, f)
	stopAtFault(t)
}

// seeThroughBytes looks that an element is read as a filter when its bytes are decoded, if these are not too many.
func seeThroughBytes(t *testing.T, e api.Element, want api.Filter) {
	t.Helper()
	s, x := ber.Encode(e)
	if x == api.ErrBig {
		return
	}
	d, behind, y := ber.Decode(s, 0)
	if x != api.OK || y != api.OK || behind != len(s) {
		t.Errorf("the bytes of %s: %d %d", told(shown(e)), int(x), int(y))
	}
	if f, z := Read(d); plain(f) != plain(want) || z != api.OK {
		t.Errorf("Read of the bytes of %s: %s %d, not %s", told(shown(e)), told(plain(f)), int(z), told(plain(want)))
	}
}

// seeRead looks that an element is read as a filter, which may be, and is read again out of its own element.
func seeRead(t *testing.T, e api.Element, want api.Filter) {
	t.Helper()
	f, x := Read(e)
	if plain(f) != plain(want) || x != api.OK {
		t.Errorf("Read of %s: %s %d, not %s", told(shown(e)), told(plain(f)), int(x), told(plain(want)))
	}
	if filter.Check(f) != api.OK {
		t.Errorf("Read of %s: %s may not be", told(shown(e)), told(plain(f)))
	}
	again, x := Lay(f)
	if !same(again, modelLay(want)) || x != api.OK {
		t.Errorf("Lay of Read of %s: %s %d", told(shown(e)), told(shown(again)), int(x))
	}
	if g, x := Read(again); plain(g) != plain(want) || x != api.OK {
		t.Errorf("Read of Lay of Read of %s: %s %d", told(shown(e)), told(plain(g)), int(x))
	}
}

// seeNone looks that an element is none's.
func seeNone(t *testing.T, e api.Element) {
	t.Helper()
	if f, x := Read(e); plain(f) != nothing || x != api.ErrWire {
		t.Errorf("Read of %s: %s %d, not %d", told(shown(e)), told(plain(f)), int(x), int(api.ErrWire))
	}
}

// seeElement looks that Read of an element is what the chapter says, and tells whether it is a filter's.
func seeElement(t *testing.T, e api.Element) bool {
	t.Helper()
	f, x := modelRead(e)
	if x == api.OK {
		seeRead(t, e, f)
	} else {
		seeNone(t, e)
	}
	stopAtFault(t)
	return x == api.OK
}

// stopAtFault ends a test that goes through many at its first faults: the others would tell nothing more.
func stopAtFault(t *testing.T) {
	t.Helper()
	if t.Failed() {
		t.FailNow()
	}
}

// rows is filters with the bytes of their elements, written by hand.
var rows = []struct {
	text, bytes string
	f           api.Filter
}{
	{"(cn=a)", "a3 07 04 02 63 6e 04 01 61", holds(api.Equal, "cn", "a")},
	{"(cn=)", "a3 06 04 02 63 6e 04 00", holds(api.Equal, "cn", "")},
	{"(cn=A\\00\\ff)", "a3 09 04 02 63 6e 04 03 41 00 ff", holds(api.Equal, "cn", "A\x00\xff")},
	{"(age>=7)", "a5 08 04 03 61 67 65 04 01 37", holds(api.AtLeast, "age", "7")},
	{"(age<=7)", "a6 08 04 03 61 67 65 04 01 37", holds(api.AtMost, "age", "7")},
	{"(cn~=a)", "a8 07 04 02 63 6e 04 01 61", holds(api.Approx, "cn", "a")},
	{"(cn=*)", "87 02 63 6e", presence("cn")},
	{"(abcdefghijklmnop=*)", "87 10 61 62 63 64 65 66 67 68 69 6a 6b 6c 6d 6e 6f 70", presence("abcdefghijklmnop")},
	{"(&)", "a0 00", joined(api.And)},
	{"(|)", "a1 00", joined(api.Or)},
	{"(!(cn=*))", "a2 04 87 02 63 6e", joined(api.Not, presence("cn"))},
	{"(&(cn=*)(o=*))", "a0 07 87 02 63 6e 87 01 6f", joined(api.And, presence("cn"), presence("o"))},
	{"(|(o=*)(cn=*)(o=*))", "a1 0a 87 01 6f 87 02 63 6e 87 01 6f", joined(api.Or, presence("o"), presence("cn"), presence("o"))},
	{"(!(|))", "a2 02 a1 00", joined(api.Not, joined(api.Or))},
	{"(cn=a*)", "a4 09 04 02 63 6e 30 03 80 01 61", sub("cn", "a", "")},
	{"(cn=*a*)", "a4 09 04 02 63 6e 30 03 81 01 61", sub("cn", "", "a", "")},
	{"(cn=*a)", "a4 09 04 02 63 6e 30 03 82 01 61", sub("cn", "", "a")},
	{"(cn=a*c)", "a4 0c 04 02 63 6e 30 06 80 01 61 82 01 63", sub("cn", "a", "c")},
	{"(cn=a*b*)", "a4 0c 04 02 63 6e 30 06 80 01 61 81 01 62", sub("cn", "a", "b", "")},
	{"(cn=*b*c)", "a4 0c 04 02 63 6e 30 06 81 01 62 82 01 63", sub("cn", "", "b", "c")},
	{"(cn=a*b*c)", "a4 0f 04 02 63 6e 30 09 80 01 61 81 01 62 82 01 63", sub("cn", "a", "b", "c")},
	{"(cn=*1*2*3*4*5*6*)", "a4 18 04 02 63 6e 30 12 81 01 31 81 01 32 81 01 33 81 01 34 81 01 35 81 01 36", sub("cn", "", "1", "2", "3", "4", "5", "6", "")},
	{"(cn=A*B*C)", "a4 0f 04 02 63 6e 30 09 80 01 41 81 01 42 82 01 43", sub("cn", "A", "B", "C")},
	{"(cn:=a)", "a9 07 82 02 63 6e 83 01 61", extension("cn", false, "", "a")},
	{"(cn:=)", "a9 06 82 02 63 6e 83 00", extension("cn", false, "", "")},
	{"(cn:dn:=a)", "a9 0a 82 02 63 6e 83 01 61 84 01 ff", extension("cn", true, "", "a")},
	{"(:fold:=a)", "a9 09 81 04 66 6f 6c 64 83 01 61", extension("", false, "fold", "a")},
	{"(:dn:fold:=a)", "a9 0c 81 04 66 6f 6c 64 83 01 61 84 01 ff", extension("", true, "fold", "a")},
	{"(cn:fold:=a)", "a9 0d 81 04 66 6f 6c 64 82 02 63 6e 83 01 61", extension("cn", false, "fold", "a")},
	{"(cn:dn:fold:=a)", "a9 10 81 04 66 6f 6c 64 82 02 63 6e 83 01 61 84 01 ff", extension("cn", true, "fold", "a")},
	{"(dn:dn:=\\ff)", "a9 0a 82 02 64 6e 83 01 ff 84 01 ff", extension("dn", true, "", "\xff")},
	{"(&(cn=a*b)(!(o:dn:=c))(age>=7))", "a0 25 a4 0c 04 02 63 6e 30 06 80 01 61 82 01 62 a2 0b a9 09 82 01 6f 83 01 63 84 01 ff a5 08 04 03 61 67 65 04 01 37", joined(api.And, sub("cn", "a", "b"), joined(api.Not, extension("o", true, "", "c")), holds(api.AtLeast, "age", "7"))},
}

// TestRows: P25.1, P25.2, P25.4, rows written by hand: each Kind there and back, byte for byte, the chapter's example.
func TestRows(t *testing.T) {
	for _, r := range rows {
		if f, x := filter.Parse(r.text); plain(f) != plain(r.f) || x != api.OK {
			t.Fatalf("the row %s: %s %d", r.text, plain(f), int(x))
		}
		e, x := Lay(r.f)
		b, y := ber.Encode(e)
		if b != raw(r.bytes) || x != api.OK || y != api.OK {
			t.Errorf("Lay of %s: % x %d %d, not %s", r.text, b, int(x), int(y), r.bytes)
		}
		d, behind, x := ber.Decode(raw(r.bytes), 0)
		if x != api.OK || behind != len(raw(r.bytes)) {
			t.Fatalf("the row %s: %d", r.text, int(x))
		}
		seeRead(t, d, r.f)
		seeLaid(t, r.f)
	}
}

// TestRead: P25.2, P25.5, elements that are read though no filter is laid so: great letters in Names and Rules, truths of any byte.
func TestRead(t *testing.T) {
	for _, r := range []struct{ bytes, text string }{
		{"a3 07 04 02 43 4e 04 01 41", "(cn=A)"},
		{"a3 07 04 02 63 4e 04 01 61", "(cn=a)"},
		{"a5 07 04 02 41 5a 04 01 5a", "(az>=Z)"},
		{"a6 07 04 02 5a 39 04 01 5a", "(z9<=Z)"},
		{"a8 07 04 02 4d 2d 04 01 5a", "(m-~=Z)"},
		{"87 02 43 6e", "(cn=*)"},
		{"87 10 41 42 43 44 45 46 47 48 49 4a 4b 4c 4d 4e 4f 50", "(abcdefghijklmnop=*)"},
		{"87 0a 51 52 53 54 55 56 57 58 59 5a", "(qrstuvwxyz=*)"},
		{"a4 0f 04 02 43 4e 30 09 80 01 41 81 01 42 82 01 43", "(cn=A*B*C)"},
		{"a9 10 81 04 46 4f 4c 44 82 02 43 4e 83 01 41 84 01 ff", "(cn:dn:fold:=A)"},
		{"a9 10 81 04 46 6f 4c 64 82 02 44 4e 83 01 41 84 01 ff", "(dn:dn:fold:=A)"},
		{"a9 07 82 02 44 4e 83 01 44", "(dn:=D)"},
		{"a9 0a 82 02 63 6e 83 01 61 84 01 00", "(cn:=a)"},
		{"a9 0a 82 02 63 6e 83 01 61 84 01 01", "(cn:dn:=a)"},
		{"a9 0a 82 02 63 6e 83 01 61 84 01 80", "(cn:dn:=a)"},
		{"a9 0a 82 02 63 6e 83 01 61 84 01 fe", "(cn:dn:=a)"},
		{"a9 0c 81 04 66 6f 6c 64 83 01 61 84 01 00", "(:fold:=a)"},
		{"a2 04 87 02 43 4e", "(!(cn=*))"},
		{"a0 0b a1 09 a3 07 04 02 43 4e 04 01 41", "(&(|(cn=A)))"},
	} {
		d, _, x := ber.Decode(raw(r.bytes), 0)
		want, y := filter.Parse(r.text)
		if x != api.OK || y != api.OK {
			t.Fatalf("the row %s: %d %d", r.text, int(x), int(y))
		}
		seeRead(t, d, want)
		seeElement(t, d)
	}
}

// noFilters is bytes of elements that are no filter's, each by the words of the chapter.
var noFilters = []string{
	// the element itself
	"00 00", "04 00", "04 02 63 6e", "30 00", "31 00", "02 01 05", "80 00", "82 00", "84 00", "89 00", "8a 00", "9e 00", "aa 00", "ab 00", "be 00", "20 00", "60 00", "e0 00", "40 00", "c0 00",
	// And, Or, Not
	"80 04 87 02 63 6e", "81 00", "81 04 87 02 63 6e", "82 04 87 02 63 6e", "20 04 87 02 63 6e", "61 00", "e2 04 87 02 63 6e", "22 04 87 02 63 6e", "00 00",
	"a2 00", "a2 08 87 02 63 6e 87 02 63 6e", "a0 02 04 00", "a0 04 04 02 63 6e", "a1 08 87 02 63 6e 04 02 63 6e", "a1 08 04 02 63 6e 87 02 63 6e", "a2 02 a2 00", "a0 03 87 01 31", "a0 02 30 00", "a0 02 87 00", "a0 06 30 04 87 02 63 6e",
	// Equal, AtLeast, AtMost, Approx
	"a3 00", "a3 04 04 02 63 6e", "a3 0a 04 02 63 6e 04 01 61 04 01 61", "a3 09 04 02 63 6e 04 01 61 04 00", "83 07 04 02 63 6e 04 01 61", "63 07 04 02 63 6e 04 01 61", "e3 07 04 02 63 6e 04 01 61", "23 07 04 02 63 6e 04 01 61",
	"a3 07 0c 02 63 6e 04 01 61", "a3 07 04 02 63 6e 0c 01 61", "a3 07 84 02 63 6e 04 01 61", "a3 07 04 02 63 6e 84 01 61", "a3 07 82 02 63 6e 83 01 61", "a3 05 24 00 04 01 61", "a3 06 04 02 63 6e 24 00", "a3 09 04 02 63 6e 24 03 04 01 61", "a3 09 30 07 04 02 63 6e 04 01 61",
	"a3 07 04 02 31 6e 04 01 61", "a3 05 04 00 04 01 61", "a3 07 04 02 2d 6e 04 01 61", "a3 07 04 02 63 20 04 01 61", "a3 07 04 02 63 00 04 01 61", "a3 07 04 02 c3 a9 04 01 61", "a3 08 04 03 e2 84 aa 04 01 61", "a3 07 04 02 63 ff 04 01 61", "a3 07 04 02 63 c1 04 01 61", "a3 07 04 02 63 5b 04 01 61", "a3 07 04 02 63 40 04 01 61", "a3 07 04 02 40 63 04 01 61",
	"a5 04 04 02 63 6e", "a5 07 04 02 31 6e 04 01 61", "a5 0a 04 02 63 6e 04 01 61 04 01 61", "85 07 04 02 63 6e 04 01 61", "a5 07 04 02 63 6e 84 01 61",
	"a6 04 04 02 63 6e", "a6 07 04 02 31 6e 04 01 61", "a6 0a 04 02 63 6e 04 01 61 04 01 61", "86 07 04 02 63 6e 04 01 61", "a6 07 04 02 63 6e 84 01 61",
	"a8 04 04 02 63 6e", "a8 07 04 02 31 6e 04 01 61", "a8 0a 04 02 63 6e 04 01 61 04 01 61", "88 07 04 02 63 6e 04 01 61", "a8 07 04 02 63 6e 84 01 61",
	// Substring
	"a4 00", "a4 04 04 02 63 6e", "a4 05 30 03 80 01 61", "a4 06 04 02 63 6e 30 00", "a4 0a 04 02 63 6e 31 04 80 02 61 62", "a4 09 04 02 63 6e b0 03 80 01 61", "a4 09 04 02 63 6e 10 03 80 01 61", "a4 09 84 02 63 6e 30 03 80 01 61", "84 09 04 02 63 6e 30 03 80 01 61", "a4 09 30 03 80 01 61 04 02 63 6e", "a4 07 04 02 63 6e 80 01 61", "a4 0b 04 02 63 6e 30 03 80 01 61 30 00", "a4 0e 04 02 63 6e 30 03 80 01 61 30 03 82 01 61", "a4 0d 04 02 63 6e 04 02 63 6e 30 03 80 01 61", "a4 09 04 02 31 6e 30 03 80 01 61", "a4 07 04 00 30 03 80 01 61",
	"a4 0c 04 02 63 6e 30 06 82 01 63 81 01 62", "a4 0c 04 02 63 6e 30 06 82 01 63 80 01 61", "a4 0c 04 02 63 6e 30 06 81 01 62 80 01 61", "a4 0c 04 02 63 6e 30 06 80 01 61 80 01 61", "a4 0c 04 02 63 6e 30 06 82 01 63 82 01 63", "a4 0f 04 02 63 6e 30 09 81 01 62 80 01 61 82 01 63", "a4 0f 04 02 63 6e 30 09 80 01 61 82 01 63 81 01 62",
	"a4 08 04 02 63 6e 30 02 80 00", "a4 08 04 02 63 6e 30 02 81 00", "a4 08 04 02 63 6e 30 02 82 00", "a4 0b 04 02 63 6e 30 05 80 01 61 81 00", "a4 0b 04 02 63 6e 30 05 80 00 82 01 61", "a4 09 04 02 63 6e 30 03 83 01 61", "a4 0c 04 02 63 6e 30 06 80 01 61 83 01 61", "a4 09 04 02 63 6e 30 03 00 01 61", "a4 09 04 02 63 6e 30 03 41 01 61", "a4 09 04 02 63 6e 30 03 c2 01 61", "a4 08 04 02 63 6e 30 02 a0 00", "a4 0b 04 02 63 6e 30 05 a1 03 04 01 61", "a4 09 04 02 63 6e 30 03 04 01 61",
	"a4 1b 04 02 63 6e 30 15 81 01 31 81 01 32 81 01 33 81 01 34 81 01 35 81 01 36 81 01 37",
	// Present
	"a7 00", "a7 04 04 02 63 6e", "a7 04 87 02 63 6e", "87 00", "87 02 31 6e", "87 11 61 62 63 64 65 66 67 68 69 6a 6b 6c 6d 6e 6f 70 71", "47 02 63 6e", "07 02 63 6e", "c7 02 63 6e", "87 02 63 2a", "87 02 c3 a9", "87 03 e2 84 aa", "87 07 32 2e 35 2e 34 2e 33",
	// Extended
	"a9 00", "a9 04 82 02 63 6e", "a9 03 83 01 61", "a9 06 83 01 61 84 01 ff", "89 07 82 02 63 6e 83 01 61", "69 07 82 02 63 6e 83 01 61", "a9 07 83 01 61 82 02 63 6e", "a9 0d 82 02 63 6e 81 04 66 6f 6c 64 83 01 61", "a9 0d 82 02 63 6e 83 01 61 81 04 66 6f 6c 64", "a9 0a 84 01 ff 82 02 63 6e 83 01 61", "a9 0a 82 02 63 6e 84 01 ff 83 01 61",
	"a9 07 81 00 82 00 83 01 61", "a9 09 81 00 82 02 63 6e 83 01 61", "a9 0b 81 04 66 6f 6c 64 82 00 83 01 61", "a9 05 82 00 83 01 61", "a9 05 81 00 83 01 61", "a9 07 81 02 64 6e 83 01 61", "a9 07 81 02 44 4e 83 01 61", "a9 0b 81 02 44 6e 82 02 63 6e 83 01 61", "a9 07 82 02 31 6e 83 01 61", "a9 07 81 02 31 6e 83 01 61", "a9 07 82 02 63 6e 82 01 61", "a9 0b 82 02 63 6e 82 02 63 6e 83 01 61", "a9 0a 82 02 63 6e 83 01 61 83 01 61", "a9 0f 81 04 66 6f 6c 64 81 04 66 6f 6c 64 83 01 61",
	"a9 09 82 02 63 6e 83 01 61 84 00", "a9 0b 82 02 63 6e 83 01 61 84 02 ff ff", "a9 0b 82 02 63 6e 83 01 61 84 02 00 00", "a9 0d 82 02 63 6e 83 01 61 84 01 ff 84 01 ff", "a9 0d 82 02 63 6e 83 01 61 84 01 ff 84 01 00", "a9 0d 82 02 63 6e 83 01 61 84 01 00 84 01 00", "a9 09 82 02 63 6e 83 01 61 a4 00", "a9 0c 82 02 63 6e 83 01 61 a4 03 01 01 ff", "a9 0a 82 02 63 6e 83 01 61 04 01 ff", "a9 0a 82 02 63 6e 83 01 61 01 01 ff", "a9 0a 82 02 63 6e 83 01 61 44 01 ff", "a9 0a 82 02 63 6e 83 01 61 85 01 ff", "a9 0a 80 01 61 82 02 63 6e 83 01 61", "a9 07 02 02 63 6e 83 01 61", "a9 07 82 02 63 6e 03 01 61", "a9 07 04 02 63 6e 04 01 61", "a9 06 82 02 63 6e a3 00", "a9 05 a2 00 83 01 61", "a9 07 82 02 c3 a9 83 01 61", "a9 08 81 03 e2 84 aa 83 01 61",
}

// TestNone: P25.2, bytes of elements that are none's: of each Kind, with one thing wrong.
func TestNone(t *testing.T) {
	for _, s := range noFilters {
		e, behind, x := ber.Decode(raw(s), 0)
		if x != api.OK || behind != len(raw(s)) {
			t.Fatalf("the row %s: %d %d", s, behind, int(x))
		}
		seeNone(t, e)
		seeElement(t, e)
		seeNone(t, made(2, api.Not, e))
		seeNone(t, made(2, api.And, modelLay(presence("cn")), e))
		seeNone(t, made(2, api.Or, e, modelLay(presence("cn"))))
	}
}

// TestNoBytes: P25.2, elements that no bytes have: contents of what is Made, elements in what is not, numbers that are none.
func TestNoBytes(t *testing.T) {
	cn, a := oct("cn"), oct("a")
	with := func(e api.Element, contents string, l ...api.Element) api.Element {
		e.Contents, e.Elements = contents, append(slices.Clone(e.Elements), l...)
		return e
	}
	for _, e := range []api.Element{
		{}, {Made: true}, {Class: 2}, {Class: 2, Number: 10}, {Class: 2, Made: true, Number: 10}, {Class: 2, Made: true, Number: -1}, {Class: 2, Made: true, Number: math.MinInt}, {Class: 2, Made: true, Number: math.MaxInt},
		{Class: 2, Made: true, Number: 32 + 3, Elements: []api.Element{cn, a}}, {Class: 6, Made: true, Number: 3, Elements: []api.Element{cn, a}}, {Class: -2, Made: true, Number: 3, Elements: []api.Element{cn, a}},
		with(made(2, 0), "x"), with(made(2, 1), "\x00"), with(made(2, 2, leaf(2, 7, "cn")), "x"),
		with(made(2, 3, cn, a), "x"), with(made(2, 5, cn, a), "x"), with(made(2, 6, cn, a), "x"), with(made(2, 8, cn, a), "x"),
		made(2, 3, with(cn, "cn", a), a), made(2, 3, cn, with(a, "a", a)), made(2, 5, with(cn, "cn", a), a), made(2, 6, cn, with(a, "a", a)), made(2, 8, with(cn, "cn", a), a),
		{Class: 2, Number: 3, Elements: []api.Element{cn, a}}, {Class: 2, Number: 0, Elements: []api.Element{leaf(2, 7, "cn")}},
		with(leaf(2, 7, "cn"), "cn", a), with(leaf(2, 7, "cn"), "cn", api.Element{}), {Class: 2, Made: true, Number: 7, Contents: "cn"},
		with(made(2, 4, cn, made(0, 16, leaf(2, 0, "a"))), "x"), made(2, 4, cn, with(made(0, 16, leaf(2, 0, "a")), "x")), made(2, 4, with(cn, "cn", a), made(0, 16, leaf(2, 0, "a"))),
		made(2, 4, cn, made(0, 16, with(leaf(2, 0, "a"), "a", a))), made(2, 4, cn, made(0, 16, with(leaf(2, 1, "a"), "a", a))), made(2, 4, cn, made(0, 16, with(leaf(2, 2, "a"), "a", a))),
		{Class: 2, Made: true, Number: 4, Elements: []api.Element{cn, {Number: 16, Elements: []api.Element{leaf(2, 0, "a")}}}},
		made(2, 4, cn, made(0, 16, api.Element{Class: 2, Made: true, Contents: "a"})),
		with(made(2, 9, leaf(2, 2, "cn"), leaf(2, 3, "a")), "x"), made(2, 9, with(leaf(2, 1, "fold"), "fold", a), leaf(2, 3, "a")), made(2, 9, with(leaf(2, 2, "cn"), "cn", a), leaf(2, 3, "a")), made(2, 9, leaf(2, 2, "cn"), with(leaf(2, 3, "a"), "a", a)),
		made(2, 9, leaf(2, 2, "cn"), leaf(2, 3, "a"), with(leaf(2, 4, "\xff"), "\xff", a)), made(2, 9, leaf(2, 2, "cn"), leaf(2, 3, "a"), api.Element{Class: 2, Made: true, Number: 4, Contents: "\xff"}), made(2, 9, leaf(2, 2, "cn"), leaf(2, 3, "a"), api.Element{Class: 2, Number: 4, Elements: []api.Element{a}}),
	} {
		seeNone(t, e)
		seeElement(t, e)
		seeNone(t, made(2, api.Not, e))
	}
}

// TestEmptyLists: P25.2, lists without an element may be empty or nil.
func TestEmptyLists(t *testing.T) {
	cn := oct("cn")
	cn.Elements = []api.Element{}
	present := leaf(2, 7, "cn")
	present.Elements = []api.Element{}
	seeRead(t, made(2, 3, cn, cn), holds(api.Equal, "cn", "cn"))
	seeRead(t, present, presence("cn"))
	for _, l := range [][]api.Element{nil, {}} {
		seeRead(t, api.Element{Class: 2, Made: true, Number: 0, Elements: l}, joined(api.And))
		seeRead(t, api.Element{Class: 2, Made: true, Number: 1, Elements: l}, joined(api.Or))
	}
	for _, kids := range [][]api.Filter{nil, {}} {
		seeLaid(t, api.Filter{Kind: api.And, Kids: kids, Pieces: api.Pieces{Any: []string{}}})
		seeLaid(t, api.Filter{Kind: api.Present, Name: "cn", Kids: kids, Pieces: api.Pieces{Any: []string{}}})
	}
}

// goods is filters of each Kind, with all that they may have, and some in one another.
var goods = []api.Filter{
	joined(api.And, holds(api.Equal, "cn", "a"), presence("cn")), joined(api.Or, presence("o"), holds(api.Equal, "cn", "b")), joined(api.Not, holds(api.Equal, "cn", "a")),
	holds(api.Equal, "cn", "a"), sub("cn", "a", "b", "c"),
	holds(api.AtLeast, "cn", "a"), holds(api.AtMost, "cn", "a"), presence("cn"), holds(api.Approx, "cn", "a"),
	extension("cn", true, "fold", "a"),
	sub("cn", "", "b", "c", ""), sub("cn", "a", "c"), extension("cn", false, "", "a"), extension("", true, "fold", ""), joined(api.And), joined(api.Or),
	joined(api.Not, joined(api.And, sub("cn", "a", "b", "c"), extension("o", true, "", "x"))),
}

// changed is elements with one thing changed, in the element itself or in one within it.
func changed(e api.Element) []api.Element {
	var all []api.Element
	change := func(with func(*api.Element)) {
		g := e
		g.Elements = slices.Clone(e.Elements)
		with(&g)
		all = append(all, g)
	}
	for _, class := range []int{math.MinInt, -1, 0, 1, 2, 3, 4, math.MaxInt} {
		change(func(g *api.Element) { g.Class = class })
	}
	for number := -1; number < 32; number++ {
		change(func(g *api.Element) { g.Number = number })
	}
	change(func(g *api.Element) { g.Made = !g.Made })
	change(func(g *api.Element) { g.Made, g.Contents, g.Elements = !g.Made, "", nil })
	change(func(g *api.Element) { g.Made, g.Contents, g.Elements = true, "", []api.Element{e} })
	for _, s := range []string{"", "x", "X", "\x00", "\xff", "1", "dn", "DN", "\u212a", g401} {
		change(func(g *api.Element) { g.Contents = s })
		change(func(g *api.Element) { g.Contents += s })
		change(func(g *api.Element) { g.Contents = s + g.Contents })
	}
	change(func(g *api.Element) { g.Contents = strings.ToUpper(g.Contents) })
	for i := range len(e.Elements) + 1 {
		for _, in := range []api.Element{{}, oct("x"), leaf(2, 0, "x"), leaf(2, 1, "x"), leaf(2, 2, "x"), leaf(2, 3, "x"), leaf(2, 4, "\xff"), leaf(2, 7, "x"), made(0, 16), made(2, 0)} {
			change(func(g *api.Element) { g.Elements = slices.Insert(g.Elements, i, in) })
		}
	}
	for i := range e.Elements {
		change(func(g *api.Element) { g.Elements = slices.Delete(g.Elements, i, i+1) })
		change(func(g *api.Element) { g.Elements = slices.Insert(g.Elements, i, g.Elements[i]) })
		for j := range i {
			change(func(g *api.Element) { g.Elements[i], g.Elements[j] = g.Elements[j], g.Elements[i] })
		}
		for _, in := range changed(e.Elements[i]) {
			change(func(g *api.Element) { g.Elements[i] = in })
		}
	}
	return all
}

var g401 = strings.Repeat("a", 401)

// TestOneWrong: P25.2, the elements of filters of each Kind with one thing changed, wherever in them it stands.
func TestOneWrong(t *testing.T) {
	for _, f := range goods {
		e := modelLay(f)
		seeLaid(t, f)
		seeRead(t, e, f)
		read, none := 0, 0
		for _, g := range changed(e) {
			if seeElement(t, g) {
				read++
			} else {
				none++
			}
		}
		if read == 0 || none < 40 {
			t.Errorf("changed %s: %d were read, %d not: too few to tell anything", plain(f), read, none)
		}
	}
}

// lists is all lists of at most so many of some elements.
func lists(most int, words ...api.Element) [][]api.Element {
	all := [][]api.Element{nil}
	for from, size := 0, 1; size <= most; size++ {
		upTo := len(all)
		for _, l := range all[from:upTo] {
			for _, w := range words {
				all = append(all, append(l[:len(l):len(l)], w))
			}
		}
		from = upTo
	}
	return all
}

// TestLists: P25.2, all short lists of what may stand in an element of each Kind, and of what may not.
func TestLists(t *testing.T) {
	read := map[string]int{}
	see := func(what string, e api.Element) {
		if seeElement(t, e) {
			read[what]++
		}
	}
	for _, l := range lists(3, oct("cn"), oct("CN"), oct(""), oct("1"), leaf(2, 4, "cn"), made(0, 4, oct("cn")), leaf(2, 7, "cn"), made(2, 0), made(0, 16, leaf(2, 0, "a"))) {
		for kind := range 11 {
			see("any", made(2, kind, l...))
			see("not Made", api.Element{Class: 2, Number: kind, Contents: "cn", Elements: l})
		}
	}
	for _, l := range lists(5, leaf(2, 0, "a"), leaf(2, 1, "b"), leaf(2, 2, "c"), leaf(2, 1, ""), leaf(2, 3, "d"), oct("e"), made(2, 1)) {
		see("pieces", made(2, 4, oct("Cn"), made(0, 16, l...)))
	}
	for _, l := range lists(8, leaf(2, 0, "a"), leaf(2, 1, "b"), leaf(2, 2, "c")) {
		see("many pieces", made(2, 4, oct("cn"), made(0, 16, l...)))
	}
	for _, l := range lists(5, leaf(2, 1, "Fold"), leaf(2, 1, ""), leaf(2, 1, "dN"), leaf(2, 2, "cN"), leaf(2, 2, ""), leaf(2, 3, "A"), leaf(2, 4, "\x7f"), leaf(2, 4, "\x00"), oct("cn")) {
		see("Extended", made(2, 9, l...))
	}
	want := map[string]int{
		// And, Or of none to three of two that are filters; Not of one; four Kinds of two Names and all four texts; Substring of two Names.
		"any": 2*(1+2+4+8) + 2 + 4*2*4 + 2,
		// Present, with none.
		"not Made": 1,
		// Of at most five: one to five Any without Initial and Final; with one of these none to four; with both none to three.
		"pieces": 5 + 5 + 5 + 4,
		// Of at most eight, six of which may be Any.
		"many pieces": 6 + 7 + 7 + 7,
		// A Rule, a Name or both, and no truth or one of two.
		"Extended": 3 * 3,
	}
	for what, n := range want {
		if read[what] != n {
			t.Errorf("%s: %d were read, not %d", what, read[what], n)
		}
	}
}

// TestTruths: P25.1, P25.2, Number 4 of an Extended: each byte, no byte, two bytes, left out; it is laid as ff.
func TestTruths(t *testing.T) {
	for _, ahead := range [][]api.Element{{leaf(2, 2, "cn"), leaf(2, 3, "a")}, {leaf(2, 1, "fold"), leaf(2, 3, "a")}, {leaf(2, 1, "fold"), leaf(2, 2, "cn"), leaf(2, 3, "")}} {
		bare, x := Read(made(2, 9, ahead...))
		if bare.Dn || x != api.OK {
			t.Errorf("Read without Number 4: %s %d", plain(bare), int(x))
		}
		own := bare
		own.Dn = true
		l := func(truth api.Element) api.Element { return made(2, 9, append(slices.Clone(ahead), truth)...) }
		for b := range 256 {
			want := own
			if b == 0 {
				want = bare
			}
			seeRead(t, l(leaf(2, 4, string([]byte{byte(b)}))), want)
			seeNone(t, l(leaf(2, 4, string([]byte{byte(b), 0xff}))))
			seeNone(t, l(leaf(2, 4, string([]byte{0, byte(b)}))))
			seeNone(t, l(leaf(0, 1, string([]byte{byte(b)}))))
		}
		seeNone(t, l(leaf(2, 4, "")))
		seeNone(t, l(leaf(2, 4, strings.Repeat("\xff", 1000))))
		if e, x := Lay(own); !same(e, l(leaf(2, 4, "\xff"))) || x != api.OK {
			t.Errorf("Lay of %s: %s %d", plain(own), shown(e), int(x))
		}
		if e, x := Lay(bare); !same(e, made(2, 9, ahead...)) || x != api.OK {
			t.Errorf("Lay of %s: %s %d", plain(bare), shown(e), int(x))
		}
	}
}

// TestBytes: P25.1, P25.2, each byte in each Name, Rule, value and piece; great letters stay in values.
func TestBytes(t *testing.T) {
	for i := range 256 {
		c := string([]byte{byte(i)})
		word := modelLower("a" + c)
		fits := i >= 'a' && i <= 'z' || i >= 'A' && i <= 'Z' || i >= '0' && i <= '9' || i == '-'
		for _, r := range []struct {
			e api.Element
			f api.Filter
		}{
			{made(2, 3, oct("a"+c), oct("A")), holds(api.Equal, word, "A")},
			{made(2, 4, oct("a"+c), made(0, 16, leaf(2, 0, "A"))), sub(word, "A", "")},
			{made(2, 5, oct("a"+c), oct("A")), holds(api.AtLeast, word, "A")},
			{made(2, 6, oct("a"+c), oct("A")), holds(api.AtMost, word, "A")},
			{leaf(2, 7, "a"+c), presence(word)},
			{made(2, 8, oct("a"+c), oct("A")), holds(api.Approx, word, "A")},
			{made(2, 9, leaf(2, 1, "a"+c), leaf(2, 3, "A")), extension("", false, word, "A")},
			{made(2, 9, leaf(2, 2, "a"+c), leaf(2, 3, "A")), extension(word, false, "", "A")},
		} {
			if fits {
				seeRead(t, r.e, r.f)
			} else {
				seeNone(t, r.e)
			}
			stopAtFault(t)
		}
		for _, f := range []api.Filter{
			holds(api.Equal, "cn", c), holds(api.AtLeast, "cn", c), holds(api.AtMost, "cn", c), holds(api.Approx, "cn", c), extension("cn", true, "x", c), extension("", false, "x", "a"+c),
			sub("cn", c, ""), sub("cn", "", c, ""), sub("cn", "", c), sub("cn", "A", "B"+c, c+"C"),
		} {
			seeLaid(t, f)
			seeRead(t, modelLay(f), f)
			stopAtFault(t)
		}
	}
}

// TestWords: P25.2, Names and Rules that are words but for great letters, and that are none.
func TestWords(t *testing.T) {
	for _, r := range []struct {
		word string
		ok   bool
	}{
		{"a", true}, {"Z9", true}, {"A-", true}, {"abcdefghijklmnop", true}, {"ABCDEFGHIJKLMNOP", true}, {"dnx", true}, {"D", true},
		{"", false}, {"abcdefghijklmnopq", false}, {"ABCDEFGHIJKLMNOPQ", false}, {"1", false}, {"-A", false}, {"a b", false}, {"\u00e9", false}, {"\u00c9", false}, {"\u212a", false}, {"k\u0130", false}, {"\uff21", false}, {"A\xff", false}, {"a\x00", false}, {"2.5.13.2", false}, {strings.Repeat("A", 100000), false},
	} {
		small := modelLower(r.word)
		elements := []api.Element{made(2, 3, oct(r.word), oct("")), made(2, 4, oct(r.word), made(0, 16, leaf(2, 1, "x"))), made(2, 5, oct(r.word), oct("")), made(2, 6, oct(r.word), oct("")), leaf(2, 7, r.word), made(2, 8, oct(r.word), oct("")), made(2, 9, leaf(2, 2, r.word), leaf(2, 3, "")), made(2, 9, leaf(2, 1, r.word), leaf(2, 3, ""))}
		for i, f := range []api.Filter{holds(3, small, ""), sub(small, "", "x", ""), holds(5, small, ""), holds(6, small, ""), presence(small), holds(8, small, ""), extension(small, false, "", ""), extension("", false, small, "")} {
			if r.ok {
				seeRead(t, elements[i], f)
			} else {
				seeNone(t, elements[i])
			}
		}
	}
	// No Rule is dn, however its letters are; a Name may be.
	for _, dn := range []string{"dn", "DN", "Dn", "dN"} {
		seeNone(t, made(2, 9, leaf(2, 1, dn), leaf(2, 3, "a")))
		seeNone(t, made(2, 9, leaf(2, 1, dn), leaf(2, 2, "cn"), leaf(2, 3, "a")))
		seeRead(t, made(2, 9, leaf(2, 2, dn), leaf(2, 3, dn)), extension("dn", false, "", dn))
		seeRead(t, leaf(2, 7, dn), presence("dn"))
	}
}

// TestLong: P25.1, P25.2, values and pieces of MaxValue bytes, and of one more.
func TestLong(t *testing.T) {
	for _, c := range []string{"a", "A", "\x00", "\xff"} {
		for size, e := range map[int]api.Errno{399: api.OK, 400: api.OK, 401: api.ErrFilter, 5000: api.ErrFilter} {
			v := strings.Repeat(c, size)
			for _, f := range []api.Filter{
				holds(api.Equal, "cn", v), holds(api.AtLeast, "cn", v), holds(api.AtMost, "cn", v), holds(api.Approx, "cn", v),
				extension("cn", false, "", v), extension("", true, "x", v), sub("cn", v, ""), sub("cn", "", v), sub("cn", "", v, ""), sub("cn", "a", "b", v, "c"), sub("cn", v, "a"), sub("cn", "a", v),
				joined(api.Not, holds(api.Equal, "cn", v)),
			} {
				if got, x := Lay(f); x != e || e != api.OK && !same(got, api.Element{}) {
					t.Errorf("Lay of %d bytes in %s: %s %d", size, told(plain(f)), told(shown(got)), int(x))
				}
				if e == api.OK {
					seeRead(t, modelLay(f), f)
				} else {
					seeNone(t, modelLay(f))
				}
				seeLaid(t, f)
			}
		}
	}
	all := strings.Repeat("a", 400)
	seeLaid(t, sub("cn", all, all, all, all, all, all, all, all))
	seeLaid(t, sub("cn", all, all, all, all, all, all, all, all, all))
}

// TestDeep: P25.1, P25.2, filters that are MaxDeep deep and deeper, of MaxParts parts and of more, and their elements.
func TestDeep(t *testing.T) {
	see := func(f api.Filter, ok bool) {
		t.Helper()
		e := api.ErrFilter
		if ok {
			e = api.OK
			seeRead(t, modelLay(f), f)
		} else {
			seeNone(t, modelLay(f))
		}
		if got, x := Lay(f); x != e || !ok && !same(got, api.Element{}) {
			t.Errorf("Lay of %s: %d, not %d", told(plain(f)), int(x), int(e))
		}
		seeLaid(t, f)
		stopAtFault(t)
	}
	for deep := 1; deep <= 14; deep++ {
		for _, lowest := range append(goods[3:10:10], joined(api.And), joined(api.Or)) {
			see(chain(deep, lowest), deep <= 8)
			see(joined(api.And, presence("a"), chain(deep, lowest), presence("b")), deep < 8)
			see(joined(api.Or, chain(deep, lowest), chain(3, lowest)), deep < 8)
		}
	}
	for parts := 1; parts <= 70; parts++ {
		see(wide(parts), parts <= 60)
		for deep := 1; deep <= 8; deep++ {
			see(joined(api.And, wide(parts), chain(deep, presence("cn"))), 1+parts+deep <= 60 && deep < 8)
			see(joined(api.Or, chain(deep, presence("cn")), wide(parts)), 1+parts+deep <= 60 && deep < 8)
		}
		see(joined(api.And, wide(parts), joined(api.Not, wide(70-parts))), false)
		see(joined(api.And, wide(max(parts-35, 1)), joined(api.Not, wide(35))), max(parts-35, 1)+37 <= 60)
	}
	// The lowest pieces of what is 8 deep stand 10 deep: as bytes they are read, too.
	f := chain(8, sub("cn", "a", "b", "c"))
	e, _ := Lay(f)
	if n := ber.Deep(e); n != 10 {
		t.Errorf("ber.Deep of what is 8 deep: %d", n)
	}
	seeThroughBytes(t, e, f)
}

// TestEndless: P25.1, P25.2, elements and filters that hold themselves, are very deep, or have very many others: none's.
func TestEndless(t *testing.T) {
	for kind := range 11 {
		for size := range 4 {
			for _, made := range []bool{true, false} {
				l := make([]api.Element, size+1)
				for i := range l {
					l[i] = api.Element{Class: 2, Made: made, Number: kind, Elements: l}
				}
				seeEndless(t, l[0])
				l[size] = api.Element{Number: 16, Made: made, Elements: l}
				seeEndless(t, l[0])
				l[0] = oct("cn")
				seeEndless(t, api.Element{Class: 2, Made: true, Number: kind, Elements: l})
			}
		}
	}
	ring := make([]api.Element, 60)
	for i := range ring {
		ring[i] = made(2, i%2, ring...)
		ring[i].Elements = ring
	}
	seeEndless(t, ring[0])
	// Not a ring, but as many as if it were: each level holds all of the one below it, many times.
	level := []api.Element{leaf(2, 7, "cn")}
	for range 40 {
		next := make([]api.Element, 30)
		for i := range next {
			next[i] = api.Element{Class: 2, Made: true, Number: i % 2, Elements: level}
		}
		level = next
	}
	seeEndless(t, level[0])
	deep := leaf(2, 7, "cn")
	for range 1 << 16 {
		deep = made(2, api.Not, deep)
	}
	seeEndless(t, deep)
	many := slices.Repeat([]api.Element{leaf(2, 7, "cn")}, 1<<18)
	for kind := range 11 {
		seeEndless(t, made(2, kind, many...))
	}
	pieces := slices.Repeat([]api.Element{leaf(2, 1, "a")}, 1<<18)
	seeEndless(t, made(2, 4, oct("cn"), made(0, 16, pieces...)))

	kids := make([]api.Filter, 3)
	for i := range kids {
		kids[i] = api.Filter{Kind: i, Kids: kids}
	}
	for _, f := range []api.Filter{kids[0], kids[1], {Kind: api.Not, Kids: kids[:1]}, chain(1<<16, presence("cn")), wide(1 << 18)} {
		if e, x := Lay(f); !same(e, api.Element{}) || x != api.ErrFilter {
			t.Errorf("Lay of what has no end: %s %d", told(shown(e)), int(x))
		}
	}
}

// seeEndless looks that an element that can't be shown is none's.
func seeEndless(t *testing.T, e api.Element) {
	t.Helper()
	if f, x := Read(e); plain(f) != nothing || x != api.ErrWire {
		t.Errorf("Read of what has no end: %s %d", told(plain(f)), int(x))
	}
	if s, ok := Name(e); ok || s != "" {
		t.Errorf("Name of what has no end: %q %t", s, ok)
	}
}

// TestLayNone: P25.1, filters that may not be: filter's error, and no element.
func TestLayNone(t *testing.T) {
	for _, f := range []api.Filter{
		{Kind: -1}, {Kind: 10}, {Kind: 11}, {Kind: math.MinInt}, {Kind: math.MaxInt}, {Kind: api.Not}, {Kind: api.Equal}, {Kind: api.Substring}, {Kind: api.AtLeast}, {Kind: api.AtMost}, {Kind: api.Present}, {Kind: api.Approx}, {Kind: api.Extended},
		holds(api.Equal, "Cn", "a"), holds(api.Equal, "1", "a"), holds(api.Equal, "", "a"), holds(api.Present, "cn", "a"), presence("CN"), presence("abcdefghijklmnopq"), extension("CN", false, "", ""), extension("cn", false, "Fold", ""), extension("cn", false, "dn", ""), extension("", true, "", "a"),
		joined(api.Not, presence("a"), presence("b")), joined(api.And, presence("")), {Kind: api.And, Name: "cn"}, {Kind: api.Or, Dn: true}, {Kind: api.Equal, Name: "cn", Rule: "fold"}, {Kind: api.Equal, Name: "cn", Kids: []api.Filter{presence("cn")}},
		sub("cn", "", ""), sub("cn", "a", "", "b"), sub("cn", "", "1", "2", "3", "4", "5", "6", "7", ""), {Kind: api.Substring, Name: "cn", Pieces: api.Pieces{HasInitial: true}}, {Kind: api.Substring, Name: "cn", Pieces: api.Pieces{Initial: "a"}}, {Kind: api.Equal, Name: "cn", Pieces: api.Pieces{Any: []string{"a"}}},
		chain(9, presence("cn")), wide(61),
	} {
		for _, g := range []api.Filter{f, joined(api.Not, f), joined(api.And, presence("cn"), f)} {
			if e, x := Lay(g); !same(e, api.Element{}) || x != api.ErrFilter {
				t.Errorf("Lay of %s: %s %d", told(plain(g)), told(shown(e)), int(x))
			}
			seeLaid(t, g)
		}
	}
}

// TestFields: P25.1, P25.4, each Kind, and those that are none, with what it must have, may have and may not have.
func TestFields(t *testing.T) {
	for kind := -1; kind < 12; kind++ {
		for _, name := range []string{"", "cn", "Cn"} {
			for _, value := range []string{"", "v", "cn"} {
				for _, p := range []api.Pieces{{}, {Any: []string{"a"}}, {Initial: "a", HasInitial: true}, {Final: "a", HasFinal: true}, {HasInitial: true}, {HasFinal: true}, {Initial: "a"}, {Final: "a"}, {Any: []string{""}}} {
					for _, rule := range []string{"", "fold", "dn"} {
						for _, kids := range [][]api.Filter{nil, {presence("cn")}, {presence("cn"), holds(api.Equal, "cn", "b")}, {presence("")}} {
							seeLaid(t, api.Filter{Kind: kind, Name: name, Value: value, Pieces: p, Rule: rule, Kids: kids})
							seeLaid(t, api.Filter{Kind: kind, Name: name, Value: value, Pieces: p, Rule: rule, Kids: kids, Dn: true})
						}
					}
				}
			}
		}
	}
}

// TestBig: P25.1, P25.4, filters whose elements have MaxPdu bytes and one more, and many more: they are laid and read, but have no bytes.
func TestBig(t *testing.T) {
	for size, e := range map[int]api.Errno{3999: api.OK, 4000: api.OK, 4001: api.ErrBig, 4002: api.ErrBig} {
		f := joined(api.And)
		// Nine of 412 bytes each, and one more that fills it up, behind the four ahead of all.
		for range 9 {
			f.Kids = append(f.Kids, holds(api.Equal, "cn", strings.Repeat("a", 400)))
		}
		f.Kids = append(f.Kids, holds(api.Approx, "cn", strings.Repeat("b", size-4-9*412-12)))
		l, x := Lay(f)
		if x != api.OK {
			t.Fatalf("Lay of %s: %d", told(plain(f)), int(x))
		}
		if s, x := ber.Encode(l); x != e || e == api.OK && len(s) != size {
			t.Errorf("ber.Encode of Lay: %d bytes %d, not %d bytes %d", len(s), int(x), size, int(e))
		}
		seeLaid(t, f)
		seeRead(t, l, f)
	}
	full := joined(api.Or)
	for range 59 {
		full.Kids = append(full.Kids, sub("abcdefghijklmnop", g401[1:], g401[1:], g401[1:], g401[1:], g401[1:], g401[1:], g401[1:], g401[1:]))
	}
	seeLaid(t, full)
	seeRead(t, modelLay(full), full)
}

// TestLower: P25.3, each byte, each two bytes, letters that are not ASCII's, texts of any length.
func TestLower(t *testing.T) {
	see := func(s string) {
		t.Helper()
		if got, want := Lower(s), modelLower(s); got != want {
			t.Errorf("Lower of %s: %s, not %s", told(s), told(got), told(want))
		}
		stopAtFault(t)
	}
	for _, r := range [][2]string{
		{"", ""}, {"a", "a"}, {"A", "a"}, {"Z", "z"}, {"@AZ[", "@az["}, {"`az{", "`az{"}, {"CN", "cn"}, {"Fold", "fold"}, {"o-1", "o-1"}, {greats, smalls}, {smalls, smalls},
		{"\u00c9\u00e9", "\u00c9\u00e9"}, {"\u212aK", "\u212ak"}, {"\u0130I", "\u0130i"}, {"\uff21A", "\uff21a"}, {"\xc1A\xff\x00", "\xc1a\xff\x00"}, {"\xffZ", "\xffz"}, {" A\tB\n", " a\tb\n"}, {"\u0391A", "\u0391a"},
	} {
		if got := Lower(r[0]); got != r[1] {
			t.Errorf("Lower of %q: %q, not %q", r[0], got, r[1])
		}
		see(r[0])
	}
	for i := range 256 {
		see(string([]byte{byte(i)}))
		for j := range 256 {
			see(string([]byte{byte(i), byte(j)}))
		}
	}
	for r := rune(0x80); r < 0x3000; r++ {
		see("A" + string(r) + "Z")
	}
	for _, size := range []int{3, 100, 401, 5000} {
		see(strings.Repeat("aZ\xff", size))
		if s := Lower(strings.Repeat("Q", size)); s != strings.Repeat("q", size) || Lower(s) != s {
			t.Errorf("Lower of %d bytes: %s", size, told(s))
		}
	}
}

// TestName: P25.3, elements of each Class and Number, Made and not, with contents of all kinds.
func TestName(t *testing.T) {
	for _, class := range []int{math.MinInt, -1, 0, 1, 2, 3, 4, math.MaxInt} {
		for _, number := range []int{math.MinInt, -4, -1, 0, 1, 2, 3, 4, 5, 7, 16, 30, 31, 36, math.MaxInt} {
			for _, is := range []bool{false, true} {
				for _, s := range []string{"", "cn", "CN", "o-1", "\u212aN", "A\xff", "1", strings.Repeat("AbC", 200)} {
					for _, l := range [][]api.Element{nil, {oct("x")}} {
						want, ok := "", false
						if class == 0 && number == 4 && !is {
							want, ok = modelLower(s), true
						}
						e := api.Element{Class: class, Made: is, Number: number, Contents: s, Elements: l}
						if got, has := Name(e); got != want || has != ok {
							t.Errorf("Name of %s: %q %t, not %q %t", told(shown(e)), got, has, want, ok)
						}
					}
				}
			}
		}
	}
	for _, r := range []struct {
		bytes, name string
		ok          bool
	}{
		{"04 02 43 6e", "cn", true}, {"04 00", "", true}, {"04 03 e2 84 aa", "\u212a", true}, {"24 00", "", false}, {"84 02 63 6e", "", false}, {"44 02 63 6e", "", false}, {"c4 02 63 6e", "", false}, {"0c 02 63 6e", "", false}, {"05 02 63 6e", "", false}, {"87 02 63 6e", "", false}, {"30 04 04 02 63 6e", "", false},
	} {
		e, _, x := ber.Decode(raw(r.bytes), 0)
		if s, ok := Name(e); s != r.name || ok != r.ok || x != api.OK {
			t.Errorf("Name of %s: %q %t %d", r.bytes, s, ok, int(x))
		}
	}
}

// chance makes filters and elements by chance.
type chance struct{ *rand.Rand }

// text is a text by chance.
func (c chance) text(least, most int) string {
	b := make([]byte, least+c.Intn(most-least+1))
	for i := range b {
		b[i] = "aAzZ09-\x00\x7f\x80\xff"[c.Intn(11)]
		if c.Intn(3) == 0 {
			b[i] = byte(c.Intn(256))
		}
	}
	return string(b)
}

// word is a word by chance, or nothing.
func (c chance) word() string {
	return []string{"cn", "dn", "o", "x-1", "abcdefghijklmnop", "fold", ""}[c.Intn(7)]
}

// filter is a filter by chance, most of which may be.
func (c chance) filter(deep int) api.Filter {
	kind := c.Intn(10)
	if deep == 0 {
		kind = 3 + c.Intn(7)
	}
	switch kind {
	case api.And, api.Or, api.Not:
		n := c.Intn(5)
		if kind == api.Not && c.Intn(20) > 0 {
			n = 1
		}
		f := joined(kind)
		for range n {
			f.Kids = append(f.Kids, c.filter(deep-1))
		}
		return f
	case api.Substring:
		l := []string{c.text(0, 3)}
		for range c.Intn(4) {
			l = append(l, c.text(1, 3))
		}
		return sub("cn", append(l, c.text(0, 3))...)
	case api.Present:
		return presence("o")
	case api.Extended:
		return extension(c.word(), c.Intn(2) == 0, c.word(), c.text(0, 6))
	}
	return holds(kind, "age", c.text(0, 6))
}

// spot is one of the elements within an element, or itself, by chance.
func (c chance) spot(e *api.Element) *api.Element {
	for len(e.Elements) > 0 && c.Intn(4) > 0 {
		e = &e.Elements[c.Intn(len(e.Elements))]
	}
	return e
}

// disturb changes something in an element, by chance: of which the lists are its own.
func (c chance) disturb(e *api.Element) {
	at := c.spot(e)
	switch c.Intn(9) {
	case 0:
		at.Class = c.Intn(4)
	case 1:
		at.Number = c.Intn(11)
	case 2:
		at.Made = !at.Made
	case 3:
		at.Contents = c.text(0, 2)
	case 4:
		at.Contents = strings.ToUpper(at.Contents)
	case 5:
		*at = *c.spot(e)
		at.Elements = nil
	case 6:
		slices.Reverse(at.Elements)
	case 7:
		at.Elements = at.Elements[:len(at.Elements)/2]
	case 8:
		at.Elements = append(at.Elements, oct("a"))
	}
}

// TestByChance: P25.1, P25.2, P25.4, P25.5, filters by chance there and back, and elements of them in which something was changed.
func TestByChance(t *testing.T) {
	c := chance{rand.New(rand.NewSource(25))}
	read, none := 0, 0
	for range 20000 {
		f := c.filter(1 + c.Intn(7))
		seeLaid(t, f)
		e, x := Lay(f)
		if x != api.OK {
			continue
		}
		for range 1 + c.Intn(2) {
			c.disturb(&e)
		}
		if seeElement(t, e) {
			read++
		} else {
			none++
		}
	}
	if read < 2000 || none < 2000 {
		t.Errorf("%d elements were read, %d not: too few to tell anything", read, none)
	}
}

// TestBytesByChance: P25.2, P25.4, bytes of filters in which one was changed: what is decoded is read as the chapter says.
func TestBytesByChance(t *testing.T) {
	c := chance{rand.New(rand.NewSource(2525))}
	read := 0
	for range 20000 {
		f := c.filter(1 + c.Intn(3))
		e, x := Lay(f)
		s, y := ber.Encode(e)
		if x != api.OK || y != api.OK {
			continue
		}
		b := []byte(s)
		b[c.Intn(len(b))] ^= 1 << c.Intn(8)
		if d, _, x := ber.Decode(string(b), 0); x == api.OK && seeElement(t, d) {
			read++
		}
	}
	if read < 1000 {
		t.Errorf("%d elements were read: too few to tell anything", read)
	}
}

// roomyFilter is a filter like this, each list of which has room behind it, where something stands.
func roomyFilter(f api.Filter) api.Filter {
	var kids []api.Filter
	for _, k := range f.Kids {
		kids = append(kids, roomyFilter(k))
	}
	f.Kids = append(kids, presence("room"), presence("room"))[:len(kids)]
	f.Pieces.Any = append(slices.Clone(f.Pieces.Any), "room", "room")[:len(f.Pieces.Any)]
	return f
}

// wholeFilter tells a filter with the room behind its lists.
func wholeFilter(f api.Filter) string {
	s := plain(f) + fmt.Sprintf("%q", f.Pieces.Any[:cap(f.Pieces.Any)])
	for _, k := range f.Kids[:cap(f.Kids)] {
		s += wholeFilter(k)
	}
	return s
}

// roomy is an element like this, each list of which has room behind it, where something stands.
func roomy(e api.Element) api.Element {
	var l []api.Element
	for _, in := range e.Elements {
		l = append(l, roomy(in))
	}
	e.Elements = append(l, oct("room"), leaf(2, 4, "\xff"))[:len(l)]
	return e
}

// whole tells an element with the room behind its lists.
func whole(e api.Element) string {
	s := shown(e)
	for _, in := range e.Elements[:cap(e.Elements)] {
		s += whole(in)
	}
	return s
}

// TestArguments: what comes in stays as it was, its spare room too, and the room is not read.
func TestArguments(t *testing.T) {
	for _, r := range rows {
		f := roomyFilter(r.f)
		e := roomy(modelLay(r.f))
		filterBefore, before := wholeFilter(f), whole(e)
		seeLaid(t, f)
		seeRead(t, e, r.f)
		Name(e)
		Lower(e.Contents)
		for _, g := range changed(modelLay(r.f))[:60] {
			g = roomy(g)
			was := whole(g)
			seeElement(t, g)
			Name(g)
			if whole(g) != was {
				t.Errorf("%s was changed", was)
			}
		}
		if wholeFilter(f) != filterBefore || whole(e) != before {
			t.Errorf("%s was changed", r.text)
		}
	}
}

// spoil overwrites all lists of an element, their spare room too.
func spoil(e api.Element) {
	for i := range e.Elements {
		spoil(e.Elements[i])
		e.Elements[i] = oct("spoiled")
	}
	for i, l := len(e.Elements), e.Elements[:cap(e.Elements)]; i < len(l); i++ {
		l[i] = oct("spoiled")
	}
}

// spoilFilter overwrites all lists of a filter, their spare room too.
func spoilFilter(f api.Filter) {
	for i := range f.Pieces.Any[:cap(f.Pieces.Any)] {
		f.Pieces.Any[:cap(f.Pieces.Any)][i] = "spoiled"
	}
	for i := range f.Kids {
		spoilFilter(f.Kids[i])
	}
	for i := range f.Kids[:cap(f.Kids)] {
		f.Kids[:cap(f.Kids)][i] = presence("spoiled")
	}
}

// TestAnswers: what goes out is new memory, and so is each list in it; nothing that comes in is kept.
func TestAnswers(t *testing.T) {
	for _, r := range append(rows[:len(rows):len(rows)], rows[len(rows)-1]) {
		want := modelLay(r.f)
		f := roomyFilter(r.f)
		a, _ := Lay(f)
		b, _ := Lay(f)
		spoilFilter(f)
		spoil(a)
		if c, x := Lay(r.f); !same(b, want) || !same(c, want) || x != api.OK {
			t.Errorf("%s: what was laid shares its memory", r.text)
		}
		e := roomy(want)
		g, _ := Read(e)
		h, _ := Read(e)
		spoil(e)
		spoilFilter(g)
		if k, x := Read(modelLay(r.f)); plain(h) != plain(r.f) || plain(k) != plain(r.f) || x != api.OK {
			t.Errorf("%s: what was read shares its memory", r.text)
		}
	}
	// Lists of one answer: each is spoiled by itself, with its room.
	f := joined(api.And, sub("cn", "", "a", "b", ""), sub("cn", "", "c", "d", ""), joined(api.Or, presence("o"), presence("o")), joined(api.Or, presence("x"), presence("x")))
	for i := range f.Kids {
		e, _ := Lay(f)
		spoil(e.Elements[i])
		g, _ := Read(modelLay(f))
		spoilFilter(g.Kids[i])
		for j := range f.Kids {
			if i != j && (!same(e.Elements[j], modelLay(f.Kids[j])) || plain(g.Kids[j]) != plain(f.Kids[j])) {
				t.Errorf("two lists of one answer share their memory: %d, %d", i, j)
			}
		}
	}
	// Kids that are the same in the filter, or in the element, are not so in the answer.
	twin := []api.Filter{presence("a"), presence("b")}
	e, _ := Lay(joined(api.And, api.Filter{Kind: api.Or, Kids: twin}, api.Filter{Kind: api.Or, Kids: twin}))
	spoil(e.Elements[0])
	if !same(e.Elements[1], modelLay(api.Filter{Kind: api.Or, Kids: twin})) {
		t.Error("Lay: two lists of one answer share their memory")
	}
	one := made(2, api.Or, leaf(2, 7, "a"), leaf(2, 7, "b"))
	g, _ := Read(made(2, api.And, one, one))
	spoilFilter(g.Kids[0])
	if plain(g.Kids[1]) != plain(api.Filter{Kind: api.Or, Kids: twin}) {
		t.Error("Read: two lists of one answer share their memory")
	}
}

// TestManyAtOnce: what a call answers hangs on its arguments alone, whoever calls at the same time, and however often.
func TestManyAtOnce(t *testing.T) {
	var wait sync.WaitGroup
	for range 8 {
		wait.Go(func() {
			for range 20 {
				for _, r := range rows {
					e, x := Lay(r.f)
					f, y := Read(e)
					if x != api.OK || y != api.OK || plain(f) != plain(r.f) || !same(e, modelLay(r.f)) {
						t.Errorf("%s: %s %s", r.text, shown(e), plain(f))
						return
					}
				}
				for _, s := range noFilters[:40] {
					e, _, _ := ber.Decode(raw(s), 0)
					if f, x := Read(e); x != api.ErrWire || plain(f) != nothing {
						t.Errorf("%s: %s %d", s, plain(f), int(x))
						return
					}
				}
			}
		})
	}
	wait.Wait()
}
