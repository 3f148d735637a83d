package request

import (
	"encoding/hex"
	"fmt"
	"math"
	"math/rand"

	"reflect"
	"regexp"
	"slices"
	"strings"
	"sync"

	"testing"

	"toponym/api"
	"toponym/ber"
	"toponym/dn"
	"toponym/filter"
	"toponym/wire"
)

// raw reads bytes that are written to the base 16, with blanks between.
func raw(s string) string {
	b, err := hex.DecodeString(strings.ReplaceAll(s, " ", ""))
	if err != nil {
		panic(err)
	}
	return string(b)
}

// plainFilter tells a filter field by field, without telling nil lists from empty ones.
func plainFilter(f api.Filter) string {
	var b strings.Builder
	p := f.Pieces
	fmt.Fprintf(&b, "{%d %q %q %q %q %q %t %t %q %t", f.Kind, f.Name, f.Value, p.Initial, p.Any, p.Final, p.HasInitial, p.HasFinal, f.Rule, f.Dn)
	for _, k := range f.Kids {
		b.WriteString(plainFilter(k))
	}
	return b.String() + "}"
}

// plain tells a request likewise, so that requests can be held against each other without Same.
func plain(r api.Request) string {
	var b strings.Builder
	fmt.Fprintf(&b, "{%d %d %q bind %d %d %q search %d %d %t %s %q changes", r.Id, r.Kind, r.Name, r.Version, r.Method, r.Secret, r.Scope, r.Most, r.Types, plainFilter(r.Filter), r.Attrs)
	for _, c := range r.Changes {
		fmt.Fprintf(&b, " %d %q %q", c.Kind, c.Values.Name, c.Values.Values)
	}
	b.WriteString(" values")
	for _, v := range r.Values {
		fmt.Fprintf(&b, " %q %q", v.Name, v.Values)
	}
	fmt.Fprintf(&b, " rename %q %t %q %t pair %q %q target %d}", r.Rdn, r.Keep, r.Above, r.HasAbove, r.Pair.Name, r.Pair.Value, r.Target)
	return b.String()
}

// nothing is what is told beside an error.
var nothing = plain(api.Request{})

// told is what is told of a long text: its beginning, and its length.
func told(s string) string { return fmt.Sprintf("%s (%d bytes)", s[:min(len(s), 400)], len(s)) }

// stopAtFault ends a test that goes through many at its first faults: the others would tell nothing more.
func stopAtFault(t *testing.T) {
	t.Helper()
	if t.Failed() {
		t.FailNow()
	}
}

// text is so many bytes.
func text(size int) string { return strings.Repeat("a", size) }

// presence is a Present.
func presence(name string) api.Filter { return api.Filter{Kind: api.Present, Name: name} }

// holds is a filter of a Name and a Value.
func holds(kind int, name, value string) api.Filter {
	return api.Filter{Kind: kind, Name: name, Value: value}
}

// joined is a filter of others.
func joined(kind int, kids ...api.Filter) api.Filter { return api.Filter{Kind: kind, Kids: kids} }

// chain is a filter that is so deep.
func chain(deep int, lowest api.Filter) api.Filter {
	for range deep - 1 {
		lowest = joined(api.Not, lowest)
	}
	return lowest
}

// sub is a filter of three pieces.
func sub(name string) api.Filter {
	return api.Filter{Kind: api.Substring, Name: name, Pieces: api.Pieces{Initial: "A", Any: []string{"B"}, Final: "C", HasInitial: true, HasFinal: true}}
}

// named is a name with values.
func named(name string, l ...string) api.Values { return api.Values{Name: name, Values: l} }

// changes is a change of each of some values.
func changes(kind int, l ...api.Values) []api.Change {
	var out []api.Change
	for _, v := range l {
		out = append(out, api.Change{Kind: kind, Values: v})
	}
	return out
}

// The model: what the chapter says, written anew. Bytes are laid one by one; what is read is looked at by its form, written as a pattern.

// tlv is an element's bytes: its first one is given.
func tlv(first byte, contents ...string) string {
	s := strings.Join(contents, "")
	n := len(s)
	switch {
	case n < 0x80:
		return string([]byte{first, byte(n)}) + s
	case n < 0x100:
		return string([]byte{first, 0x81, byte(n)}) + s
	}
	return string([]byte{first, 0x82, byte(n >> 8), byte(n)}) + s
}

// modelInt is the contents of a whole number: as few bytes as it fits in.
func modelInt(n int) string {
	size := 1
	for n < -(1<<(8*size-1)) || n >= 1<<(8*size-1) {
		size++
	}
	var out string
	for i := size - 1; i >= 0; i-- {
		out += string([]byte{byte(n >> (8 * i))})
	}
	return out
}

// modelWhole is the whole number that has these contents.
func modelWhole(s string) (int, bool) {
	if len(s) < 1 || len(s) > 4 {
		return 0, false
	}
	n := 0
	for i := range len(s) {
		n = n*256 + int(s[i])
	}
	if s[0] >= 0x80 {
		n -= 1 << (8 * len(s))
	}
	return n, modelInt(n) == s
}

// has is the fields that a request of each Kind has.
var has = map[int]string{
	1:  "Name Version Method Secret",
	2:  "",
	3:  "Name Scope Most Types Filter Attrs",
	4:  "Name Changes",
	5:  "Name Values",
	6:  "Name",
	7:  "Name Rdn Keep Above HasAbove",
	8:  "Name Pair",
	9:  "Target",
	10: "Name",
}

// void tells whether something is its zero value, but for lists that are empty.
func void(v reflect.Value) bool {
	switch v.Kind() {
	case reflect.Slice:
		return v.Len() == 0
	case reflect.Struct:
		for i := range v.NumField() {
			if !void(v.Field(i)) {
				return false
			}
		}
		return true
	}
	return v.IsZero()
}

// modelValues tells whether Values may be.
func modelValues(v api.Values, least int) bool {
	ok := dn.Word(v.Name) && len(v.Values) >= least && len(v.Values) <= 8
	for _, s := range v.Values {
		ok = ok && len(s) <= 400
	}
	return ok
}

// modelMay tells whether a request may be.
func modelMay(r api.Request) bool {
	fields, known := has[r.Kind]
	if !known || r.Id < 1 || r.Id > 2147483647 {
		return false
	}
	v := reflect.ValueOf(r)
	for i := range v.NumField() {
		name := v.Type().Field(i).Name
		if name != "Id" && name != "Kind" && !slices.Contains(strings.Fields(fields), name) && !void(v.Field(i)) {
			return false
		}
	}
	ok := len(r.Name) <= 3000
	switch r.Kind {
	case 1:
		ok = ok && r.Version > 0 && r.Version < 128 && (r.Method == 0 || r.Method == 3) && len(r.Secret) < 401
	case 3:
		ok = ok && r.Scope > -1 && r.Scope < 3 && r.Most > -1 && r.Most <= 2147483647 && filter.Check(r.Filter) == api.OK && len(r.Attrs) < 25
		for _, s := range r.Attrs {
			ok = ok && (s == "*" || s == "1.1" || dn.Word(s))
		}
	case 4:
		ok = ok && len(r.Changes) > 0 && len(r.Changes) < 9
		for _, c := range r.Changes {
			least := 0
			if c.Kind == 0 {
				least = 1
			}
			ok = ok && c.Kind > -1 && c.Kind < 3 && modelValues(c.Values, least)
		}
	case 5:
		ok = ok && len(r.Values) > 0 && len(r.Values) < 13
		for _, v := range r.Values {
			ok = ok && modelValues(v, 1)
		}
	case 7:
		ok = ok && len(r.Rdn) <= 3000 && len(r.Above) <= 3000 && (r.HasAbove || r.Above == "")
	case 8:
		ok = ok && dn.Word(r.Pair.Name) && len(r.Pair.Value) <= 400
	case 9:
		ok = r.Target > -1 && r.Target <= 2147483647
	case 10:
		ok = len(r.Name) <= 100
	}
	return ok
}

// octets, integer, choice and truths are bytes of elements.
func octets(s string) string { return tlv(0x04, s) }
func integer(n int) string   { return tlv(0x02, modelInt(n)) }
func choice(n int) string    { return tlv(0x0a, modelInt(n)) }
func truths(b bool) string {
	if b {
		return "\x01\x01\xff"
	}
	return "\x01\x01\x00"
}

// modelNamed is the bytes of a name with its values.
func modelNamed(v api.Values) string {
	var l string
	for _, s := range v.Values {
		l += octets(s)
	}
	return tlv(0x30, octets(v.Name), tlv(0x31, l))
}

// modelFilter is the bytes of a filter; of an Equal also if it may not be.
func modelFilter(f api.Filter) string {
	if f.Kind == api.Equal {
		return tlv(0xa3, octets(f.Name), octets(f.Value))
	}
	e, _ := wire.Lay(f)
	s, x := ber.Encode(e)
	if x != api.OK {
		return text(4001)
	}
	return s
}

// modelKind is the bytes of what a request has by its Kind.
func modelKind(r api.Request) string {
	var l string
	switch r.Kind {
	case 1:
		who := tlv(0x80, r.Secret)
		if r.Method == 3 {
			who = tlv(0xa3, octets(r.Secret))
		}
		return tlv(0x60, integer(r.Version), octets(r.Name), who)
	case 2:
		return "\x42\x00"
	case 3:
		for _, s := range r.Attrs {
			l += octets(s)
		}
		return tlv(0x63, octets(r.Name), choice(r.Scope), "\x0a\x01\x00", integer(r.Most), "\x02\x01\x00", truths(r.Types), modelFilter(r.Filter), tlv(0x30, l))
	case 4:
		for _, c := range r.Changes {
			l += tlv(0x30, choice(c.Kind), modelNamed(c.Values))
		}
		return tlv(0x66, octets(r.Name), tlv(0x30, l))
	case 5:
		for _, v := range r.Values {
			l += modelNamed(v)
		}
		return tlv(0x68, octets(r.Name), tlv(0x30, l))
	case 6:
		return tlv(0x4a, r.Name)
	case 7:
		if r.HasAbove {
			l = tlv(0x80, r.Above)
		}
		return tlv(0x6c, octets(r.Name), octets(r.Rdn), truths(!r.Keep), l)
	case 8:
		return tlv(0x6e, octets(r.Name), tlv(0x30, octets(r.Pair.Name), octets(r.Pair.Value)))
	case 9:
		return tlv(0x50, modelInt(r.Target))
	}
	return tlv(0x77, tlv(0x80, r.Name))
}

// modelEncode is what Encode answers.
func modelEncode(r api.Request) (string, api.Errno) {
	if !modelMay(r) {
		return "", api.ErrWire
	}
	s := tlv(0x30, integer(r.Id), modelKind(r))
	if len(s) > 4000 {
		return "", api.ErrBig
	}
	return s, api.OK
}

// shape is the Classes and Numbers of an element and of those in it.
func shape(e api.Element) string {
	s := fmt.Sprintf("%d-%d", e.Class, e.Number)
	if !e.Made {
		return s + ";"
	}
	var l string
	for _, in := range e.Elements {
		l += shape(in)
	}
	return s + "<" + l + ">"
}

// forms is the shapes of the elements of each Kind.
var forms = map[int]*regexp.Regexp{
	1:  form("1-0<0-2;0-4;(2-0;|2-3<0-4;(0-4;)?>)>"),
	2:  form("1-2;"),
	3:  form("1-3<0-4;0-10;0-10;0-2;0-2;0-1;(.*)0-16<(0-4;)*>>"),
	4:  form("1-6<0-4;0-16<(0-16<0-10;0-16<0-4;0-17<(0-4;)*>>>)*>>"),
	5:  form("1-8<0-4;0-16<(0-16<0-4;0-17<(0-4;)*>>)*>>"),
	6:  form("1-10;"),
	7:  form("1-12<0-4;0-4;0-1;(2-0;)?>"),
	8:  form("1-14<0-4;0-16<0-4;0-4;>>"),
	9:  form("1-16;"),
	10: form("1-23<2-0;(2-1;)?>"),
}

// form is the pattern of a message with such an element.
func form(s string) *regexp.Regexp { return regexp.MustCompile("^0-16<0-2;" + s + ">$") }

// modelLower is a text with small letters for great ones.
func modelLower(s string) string {
	b := []byte(s)
	for i := range b {
		if at := strings.IndexByte("ABCDEFGHIJKLMNOPQRSTUVWXYZ", b[i]); at >= 0 {
			b[i] = "abcdefghijklmnopqrstuvwxyz"[at]
		}
	}
	return string(b)
}

// contents is those of elements.
func contents(l []api.Element) []string {
	var out []string
	for _, e := range l {
		out = append(out, e.Contents)
	}
	return out
}

// modelFields is the request of a Kind that an element of its form has, if its numbers and truths are some.
func modelFields(kind int, e api.Element) (api.Request, bool) {
	ok := true
	number := func(e api.Element) int {
		n, is := modelWhole(e.Contents)
		ok = ok && is
		return n
	}
	isTrue := func(e api.Element) bool {
		ok = ok && len(e.Contents) == 1
		return e.Contents != "\x00"
	}
	pair := func(l []api.Element) api.Values { return named(modelLower(l[0].Contents), contents(l[1].Elements)...) }
	r := api.Request{Id: number(e.Elements[0]), Kind: kind}
	own := e.Elements[1]
	l := own.Elements
	if len(l) > 0 {
		r.Name = l[0].Contents
	}
	switch kind {
	case 1:
		r.Version, r.Name, r.Method, r.Secret = number(l[0]), l[1].Contents, l[2].Number, l[2].Contents
		if l[2].Made {
			r.Secret = l[2].Elements[0].Contents
		}
	case 2, 6:
		r.Name = own.Contents
	case 3:
		if len(l) != 8 || len(e.Elements) != 2 {
			return r, false
		}
		aliases, seconds := number(l[2]), number(l[4])
		f, x := wire.Read(l[6])
		ok = ok && aliases >= 0 && aliases < 4 && seconds >= 0 && x == api.OK
		r.Scope, r.Most, r.Types, r.Filter = number(l[1]), number(l[3]), isTrue(l[5]), f
		for _, s := range contents(l[7].Elements) {
			r.Attrs = append(r.Attrs, modelLower(s))
		}
	case 4:
		for _, in := range l[1].Elements {
			r.Changes = append(r.Changes, api.Change{Kind: number(in.Elements[0]), Values: pair(in.Elements[1].Elements)})
		}
	case 5:
		for _, in := range l[1].Elements {
			r.Values = append(r.Values, pair(in.Elements))
		}
	case 7:
		r.Rdn, r.Keep = l[1].Contents, !isTrue(l[2])
		if len(l) > 3 {
			r.HasAbove, r.Above = true, l[3].Contents
		}
	case 8:
		r.Pair = api.Pair{Name: modelLower(l[1].Elements[0].Contents), Value: l[1].Elements[1].Contents}
	case 9:
		r.Target = number(own)
	}
	return r, ok
}

// modelDecode is what Decode answers.
func modelDecode(s string) (api.Request, api.Errno) {
	if len(s) > 4000 {
		return api.Request{}, api.ErrBig
	}
	e, behind, x := ber.Decode(s, 0)
	if x != api.OK || behind != len(s) {
		return api.Request{}, api.ErrWire
	}
	of := shape(e)
	for kind := 1; kind <= 10; kind++ {
		if !forms[kind].MatchString(of) {
			continue
		}
		if r, ok := modelFields(kind, e); ok && modelMay(r) {
			return r, api.OK
		}
	}
	return api.Request{}, api.ErrWire
}

// seeLaid looks that Check and Encode of a request are what the chapter says, and that its bytes are read as the request. It tells whether the request may be.
func seeLaid(t *testing.T, r api.Request) bool {
	t.Helper()
	may := api.OK
	if !modelMay(r) {
		may = api.ErrWire
	}
	if x := Check(r); x != may {
		t.Errorf("Check of %s: %d, not %d", told(plain(r)), int(x), int(may))
	}
	want, e := modelEncode(r)
	s, x := Encode(r)
	if s != want || x != e {
		t.Errorf("Encode of %s: % x %d, not % x %d", told(plain(r)), s, int(x), want, int(e))
	}
	if e == api.OK {
		seeRead(t, s, r)
	}
	stopAtFault(t)
	return may == api.OK
}

// seeRead looks that bytes are read as a request, which may be, and is read again out of its own bytes.
func seeRead(t *testing.T, s string, want api.Request) {
	t.Helper()
	r, x := Decode(s)
	if plain(r) != plain(want) || !Same(r, want) || x != api.OK {
		t.Errorf("Decode of % x: %s %d, not %s", s, told(plain(r)), int(x), told(plain(want)))
	}
	if x := Check(r); x != api.OK {
		t.Errorf("Decode of % x: %s may not be: %d", s, told(plain(r)), int(x))
	}
	own, e := modelEncode(want)
	again, x := Encode(r)
	if again != own || x != e {
		t.Errorf("Encode of Decode of % x: % x %d", s, again, int(x))
	}
	if q, x := Decode(again); e == api.OK && (plain(q) != plain(want) || x != api.OK) {
		t.Errorf("Decode of Encode of Decode of % x: %s %d", s, told(plain(q)), int(x))
	}
}

// seeNone looks that bytes are none's.
func seeNone(t *testing.T, s string) {
	t.Helper()
	if r, x := Decode(s); plain(r) != nothing || x != api.ErrWire {
		t.Errorf("Decode of % x: %s %d, not %d", s, told(plain(r)), int(x), int(api.ErrWire))
	}
}

// seeBytes looks that Decode of bytes is what the chapter says, and tells whether they are a request's.
func seeBytes(t *testing.T, s string) bool {
	t.Helper()
	want, e := modelDecode(s)
	r, x := Decode(s)
	if plain(r) != plain(want) || x != e {
		t.Errorf("Decode of % x: %s %d, not %s %d", s, told(plain(r)), int(x), told(plain(want)), int(e))
	}
	if e == api.OK {
		seeRead(t, s, want)
	}
	stopAtFault(t)
	return e == api.OK
}

// rows is requests of each Kind with their bytes, written by hand.
var rows = []struct {
	bytes string
	r     api.Request
}{
	{"30 05 02 01 01 42 00", api.Request{Id: 1, Kind: api.Unbind}},
	{"30 06 02 02 00 80 42 00", api.Request{Id: 128, Kind: api.Unbind}},
	{"30 08 02 04 7f ff ff ff 42 00", api.Request{Id: 2147483647, Kind: api.Unbind}},
	{"30 0f 02 01 01 60 0a 02 01 03 04 02 61 62 80 01 73", api.Request{Id: 1, Kind: api.Bind, Version: 3, Name: "ab", Secret: "s"}},
	{"30 0c 02 01 7f 60 07 02 01 02 04 00 80 00", api.Request{Id: 127, Kind: api.Bind, Version: 2}},
	{"30 0d 02 02 00 80 60 07 02 01 7f 04 00 80 00", api.Request{Id: 128, Kind: api.Bind, Version: 127}},
	{"30 0d 02 01 01 60 08 02 01 01 04 00 80 01 00", api.Request{Id: 1, Kind: api.Bind, Version: 1, Secret: "\x00"}},
	{"30 13 02 01 09 60 0e 02 01 03 04 00 a3 07 04 05 50 4c 41 49 4e", api.Request{Id: 9, Kind: api.Bind, Version: 3, Method: 3, Secret: "PLAIN"}},
	{"30 12 02 04 7f ff ff ff 60 0a 02 01 01 04 01 6e a3 02 04 00", api.Request{Id: 2147483647, Kind: api.Bind, Version: 1, Name: "n", Method: 3}},
	{"30 21 02 01 04 63 1c 04 00 0a 01 02 0a 01 00 02 01 00 02 01 00 01 01 00 a3 07 04 02 63 6e 04 01 61 30 00", api.Request{Id: 4, Kind: api.Search, Scope: 2, Filter: holds(api.Equal, "cn", "a")}},
	{"30 2c 02 01 05 63 27 04 03 6f 3d 78 0a 01 01 0a 01 00 02 02 03 e8 02 01 00 01 01 ff 87 02 63 6e 30 0c 04 02 63 6e 04 01 2a 04 03 31 2e 31", api.Request{Id: 5, Kind: api.Search, Name: "o=x", Scope: 1, Most: 1000, Types: true, Filter: presence("cn"), Attrs: []string{"cn", "*", "1.1"}}},
	{"30 1d 02 01 05 63 18 04 00 0a 01 00 0a 01 00 02 04 7f ff ff ff 02 01 00 01 01 00 a0 00 30 00", api.Request{Id: 5, Kind: api.Search, Most: 2147483647}},
	{"30 28 02 01 07 66 23 04 01 6e 30 1e 30 0a 0a 01 01 30 05 04 01 61 31 00 30 10 0a 01 00 30 0b 04 01 62 31 06 04 01 63 04 01 64", api.Request{Id: 7, Kind: api.Modify, Name: "n", Changes: []api.Change{{Kind: api.ChangeDelete, Values: named("a")}, {Kind: api.ChangeAdd, Values: named("b", "c", "d")}}}},
	{"30 16 02 01 07 66 11 04 00 30 0d 30 0b 0a 01 02 30 06 04 02 63 6e 31 00", api.Request{Id: 7, Kind: api.Modify, Changes: []api.Change{{Kind: api.ChangeReplace, Values: named("cn")}}}},
	{"30 14 02 01 08 68 0f 04 01 6e 30 0a 30 08 04 01 61 31 03 04 01 62", api.Request{Id: 8, Kind: api.Add, Name: "n", Values: []api.Values{named("a", "b")}}},
	{"30 24 02 01 08 68 1f 04 04 63 6e 3d 41 30 17 30 0b 04 02 63 6e 31 05 04 01 41 04 00 30 08 04 01 6f 31 03 04 01 ff", api.Request{Id: 8, Kind: api.Add, Name: "cn=A", Values: []api.Values{named("cn", "A", ""), named("o", "\xff")}}},
	{"30 08 02 01 03 4a 03 6f 3d 78", api.Request{Id: 3, Kind: api.Delete, Name: "o=x"}},
	{"30 05 02 01 03 4a 00", api.Request{Id: 3, Kind: api.Delete}},
	{"30 13 02 01 06 6c 0e 04 01 6e 04 03 61 3d 62 01 01 ff 80 01 6f", api.Request{Id: 6, Kind: api.Rename, Name: "n", Rdn: "a=b", Above: "o", HasAbove: true}},
	{"30 10 02 01 06 6c 0b 04 01 6e 04 03 61 3d 62 01 01 00", api.Request{Id: 6, Kind: api.Rename, Name: "n", Rdn: "a=b", Keep: true}},
	{"30 0e 02 01 06 6c 09 04 00 04 00 01 01 ff 80 00", api.Request{Id: 6, Kind: api.Rename, HasAbove: true}},
	{"30 0c 02 01 06 6c 07 04 00 04 00 01 01 ff", api.Request{Id: 6, Kind: api.Rename}},
	{"30 10 02 01 05 6e 0b 04 01 6e 30 06 04 01 61 04 01 62", api.Request{Id: 5, Kind: api.Compare, Name: "n", Pair: api.Pair{Name: "a", Value: "b"}}},
	{"30 0e 02 01 05 6e 09 04 00 30 05 04 01 61 04 00", api.Request{Id: 5, Kind: api.Compare, Pair: api.Pair{Name: "a"}}},
	{"30 06 02 01 02 50 01 05", api.Request{Id: 2, Kind: api.Abandon, Target: 5}},
	{"30 06 02 01 02 50 01 00", api.Request{Id: 2, Kind: api.Abandon}},
	{"30 07 02 01 02 50 02 00 80", api.Request{Id: 2, Kind: api.Abandon, Target: 128}},
	{"30 09 02 01 02 50 04 7f ff ff ff", api.Request{Id: 2, Kind: api.Abandon, Target: 2147483647}},
	{"30 0a 02 01 0a 77 05 80 03 31 2e 32", api.Request{Id: 10, Kind: api.Foreign, Name: "1.2"}},
	{"30 07 02 01 0a 77 02 80 00", api.Request{Id: 10, Kind: api.Foreign}},
}

// TestRows: P26.1, P26.2, P26.3, P26.5, rows written by hand: each Kind there and back, byte for byte, the chapter's example.
func TestRows(t *testing.T) {
	for _, row := range rows {
		s, x := Encode(row.r)
		if s != raw(row.bytes) || x != api.OK {
			t.Errorf("Encode of %s: % x %d, not %s", plain(row.r), s, int(x), row.bytes)
		}
		if x := Check(row.r); x != api.OK {
			t.Errorf("Check of %s: %d", plain(row.r), int(x))
		}
		r, x := Decode(raw(row.bytes))
		if plain(r) != plain(row.r) || !Same(r, row.r) || x != api.OK {
			t.Errorf("Decode of %s: %s %d", row.bytes, plain(r), int(x))
		}
		seeLaid(t, row.r)
		seeBytes(t, raw(row.bytes))
	}
}

// TestRead: P26.3, P26.6, bytes that are read though no request is laid so.
func TestRead(t *testing.T) {
	search := api.Request{Id: 4, Kind: api.Search, Filter: holds(api.Equal, "cn", "A")}
	for _, row := range []struct {
		bytes string
		r     api.Request
	}{
		// great letters in words, and in what is none
		{"30 10 02 01 05 6e 0b 04 01 4e 30 06 04 01 41 04 01 42", api.Request{Id: 5, Kind: api.Compare, Name: "N", Pair: api.Pair{Name: "a", Value: "B"}}},
		{"30 14 02 01 08 68 0f 04 01 4e 30 0a 30 08 04 01 41 31 03 04 01 42", api.Request{Id: 8, Kind: api.Add, Name: "N", Values: []api.Values{named("a", "B")}}},
		{"30 16 02 01 07 66 11 04 00 30 0d 30 0b 0a 01 02 30 06 04 02 43 6e 31 00", api.Request{Id: 7, Kind: api.Modify, Changes: changes(2, named("cn"))}},
		{"30 1a 02 01 07 66 15 04 01 4e 30 10 30 0e 0a 01 00 30 09 04 02 63 4e 31 03 04 01 5a", api.Request{Id: 7, Kind: api.Modify, Name: "N", Changes: changes(0, named("cn", "Z"))}},
		{"30 31 02 01 04 63 2c 04 00 0a 01 00 0a 01 00 02 01 00 02 01 00 01 01 ff a3 07 04 02 43 4e 04 01 41 30 10 04 02 43 6e 04 01 2a 04 03 31 2e 31 04 02 4f 2d", api.Request{Id: 4, Kind: api.Search, Types: true, Filter: holds(api.Equal, "cn", "A"), Attrs: []string{"cn", "*", "1.1", "o-"}}},
		// truths that are any
		{"30 10 02 01 06 6c 0b 04 01 6e 04 03 61 3d 62 01 01 01", api.Request{Id: 6, Kind: api.Rename, Name: "n", Rdn: "a=b"}},
		{"30 10 02 01 06 6c 0b 04 01 6e 04 03 61 3d 62 01 01 80", api.Request{Id: 6, Kind: api.Rename, Name: "n", Rdn: "a=b"}},
		{"30 21 02 01 04 63 1c 04 00 0a 01 00 0a 01 00 02 01 00 02 01 00 01 01 01 a3 07 04 02 63 6e 04 01 41 30 00", api.Request{Id: 4, Kind: api.Search, Types: true, Filter: search.Filter}},
		{"30 21 02 01 04 63 1c 04 00 0a 01 00 0a 01 00 02 01 00 02 01 00 01 01 fe a3 07 04 02 63 6e 04 01 41 30 00", api.Request{Id: 4, Kind: api.Search, Types: true, Filter: search.Filter}},
		{"30 24 02 01 04 63 1f 04 00 0a 01 00 0a 01 00 02 01 00 02 01 00 01 01 00 a9 0a 82 02 63 6e 83 01 41 84 01 07 30 00", api.Request{Id: 4, Kind: api.Search, Filter: api.Filter{Kind: api.Extended, Name: "cn", Value: "A", Dn: true}}},
		// the second E and the second I of a Search
		{"30 21 02 01 04 63 1c 04 00 0a 01 00 0a 01 01 02 01 00 02 01 00 01 01 00 a3 07 04 02 63 6e 04 01 41 30 00", search},
		{"30 21 02 01 04 63 1c 04 00 0a 01 00 0a 01 02 02 01 00 02 01 00 01 01 00 a3 07 04 02 63 6e 04 01 41 30 00", search},
		{"30 21 02 01 04 63 1c 04 00 0a 01 00 0a 01 03 02 01 00 02 01 00 01 01 00 a3 07 04 02 63 6e 04 01 41 30 00", search},
		{"30 21 02 01 04 63 1c 04 00 0a 01 00 0a 01 00 02 01 00 02 01 01 01 01 00 a3 07 04 02 63 6e 04 01 41 30 00", search},
		{"30 24 02 01 04 63 1f 04 00 0a 01 00 0a 01 03 02 01 00 02 04 7f ff ff ff 01 01 00 a3 07 04 02 63 6e 04 01 41 30 00", search},
		// more behind
		{"30 15 02 01 09 60 10 02 01 03 04 00 a3 09 04 05 50 4c 41 49 4e 04 00", api.Request{Id: 9, Kind: api.Bind, Version: 3, Method: 3, Secret: "PLAIN"}},
		{"30 16 02 01 09 60 11 02 01 03 04 00 a3 0a 04 05 50 4c 41 49 4e 04 01 ff", api.Request{Id: 9, Kind: api.Bind, Version: 3, Method: 3, Secret: "PLAIN"}},
		{"30 0c 02 01 0a 77 07 80 03 31 2e 32 81 00", api.Request{Id: 10, Kind: api.Foreign, Name: "1.2"}},
		{"30 0e 02 01 0a 77 09 80 03 31 2e 32 81 02 00 ff", api.Request{Id: 10, Kind: api.Foreign, Name: "1.2"}},
	} {
		seeRead(t, raw(row.bytes), row.r)
		seeBytes(t, raw(row.bytes))
	}
}

// noElements is bytes that are no element's, or more than one's.
var noElements = []string{
	"", "30", "30 80", "30 02 42 00 00", "30 05 02 01 01 42", "30 05 02 01 01", "30 05 02 01 01 42 00 00", "30 05 02 01 01 42 00 30 05 02 01 01 42 00", "30 04 02 01 01 42", "30 04 02 01 01 42 00", "30 06 02 01 01 42 00", "30 06 02 01 01 42 00 00", "30 05 02 02 01 42 00", "30 05 02 01 01 42 01",
	"30 81 05 02 01 01 42 00", "30 82 00 05 02 01 01 42 00", "30 83 00 00 05 02 01 01 42 00", "30 06 02 01 01 42 81 00", "30 80 02 01 01 42 00 00 00", "30 06 02 81 01 01 42 00", "3f 05 02 01 01 42 00", "30 05 02 01 01 5f 00", "30 82 0f 9d", "30 82 ff ff 02 01 01 42 00", "30 09 02 01 01 42 82 0f 9d 00 00",
}

// none is bytes of elements that are no request's, each by the words of the chapter.
var none = []string{
	// the message itself
	"30 00", "30 03 02 01 01", "30 02 42 00", "31 05 02 01 01 42 00", "70 05 02 01 01 42 00", "b0 05 02 01 01 42 00", "f0 05 02 01 01 42 00", "10 05 02 01 01 42 00", "2f 05 02 01 01 42 00", "42 00", "02 01 01", "30 05 42 00 02 01 01", "30 07 30 05 02 01 01 42 00",
	// the Id
	"30 05 02 01 00 42 00", "30 05 02 01 ff 42 00", "30 05 02 01 80 42 00", "30 04 02 00 42 00", "30 06 02 02 00 01 42 00", "30 08 02 04 80 00 00 00 42 00", "30 09 02 05 00 80 00 00 00 42 00", "30 09 02 05 01 00 00 00 00 42 00", "30 05 0a 01 01 42 00", "30 05 01 01 01 42 00", "30 05 42 01 01 42 00", "30 05 82 01 01 42 00", "30 05 03 01 01 42 00", "30 07 22 03 02 01 01 42 00", "30 08 02 01 01 02 01 01 42 00",
	// controls, and other things behind
	"30 07 02 01 01 42 00 a0 00", "30 09 02 01 01 42 00 a0 02 30 00", "30 12 02 01 01 42 00 a0 0b 30 09 04 07 31 2e 32 2e 33 2e 34", "30 07 02 01 01 42 00 42 00", "30 07 02 01 01 42 00 80 00", "30 0a 02 01 03 4a 03 6f 3d 78 a0 00", "30 08 02 01 01 42 00 50 01 01",
	// Kinds that are none
	"30 05 02 01 01 40 00", "30 05 02 01 01 41 00", "30 05 02 01 01 61 00", "30 05 02 01 01 64 00", "30 05 02 01 01 65 00", "30 05 02 01 01 67 00", "30 05 02 01 01 69 00", "30 05 02 01 01 6b 00", "30 05 02 01 01 6d 00", "30 05 02 01 01 6f 00", "30 05 02 01 01 73 00", "30 05 02 01 01 78 00", "30 05 02 01 01 79 00", "30 05 02 01 01 7e 00", "30 05 02 01 01 02 00", "30 05 02 01 01 82 00", "30 05 02 01 01 c2 00", "30 05 02 01 01 05 00", "30 05 02 01 01 30 00",
	// Unbind
	"30 06 02 01 01 42 01 61", "30 06 02 01 01 42 01 00", "30 05 02 01 01 62 00", "30 07 02 01 01 62 02 42 00",
	// Bind
	"30 05 02 01 01 60 00", "30 08 02 01 01 60 03 02 01 03", "30 0a 02 01 01 60 05 02 01 03 04 00", "30 09 02 01 01 60 04 04 00 80 00", "30 0a 02 01 01 60 05 02 01 03 80 00", "30 0c 02 01 01 60 07 04 00 02 01 03 80 00", "30 0c 02 01 01 60 07 02 01 03 80 00 04 00", "30 0c 02 01 01 60 07 02 01 00 04 00 80 00", "30 0c 02 01 01 60 07 02 01 ff 04 00 80 00", "30 0d 02 01 01 60 08 02 02 00 80 04 00 80 00", "30 0d 02 01 01 60 08 02 02 00 03 04 00 80 00", "30 0b 02 01 01 60 06 02 00 04 00 80 00", "30 0c 02 01 01 60 07 0a 01 03 04 00 80 00", "30 0c 02 01 01 60 07 02 01 03 0c 00 80 00", "30 0c 02 01 01 60 07 02 01 03 24 00 80 00", "30 0e 02 01 01 60 09 02 01 03 04 00 80 00 04 00", "30 0e 02 01 01 60 09 02 01 03 04 00 80 00 80 00",
	"30 0c 02 01 01 60 07 02 01 03 04 00 81 00", "30 0c 02 01 01 60 07 02 01 03 04 00 82 00", "30 0c 02 01 01 60 07 02 01 03 04 00 83 00", "30 0c 02 01 01 60 07 02 01 03 04 00 04 00", "30 0c 02 01 01 60 07 02 01 03 04 00 40 00", "30 0c 02 01 01 60 07 02 01 03 04 00 00 00", "30 0c 02 01 01 60 07 02 01 03 04 00 a0 00", "30 0c 02 01 01 60 07 02 01 03 04 00 a3 00", "30 0e 02 01 01 60 09 02 01 03 04 00 a0 02 04 00", "30 0e 02 01 01 60 09 02 01 03 04 00 a2 02 04 00", "30 0e 02 01 01 60 09 02 01 03 04 00 a4 02 04 00", "30 0e 02 01 01 60 09 02 01 03 04 00 a3 02 80 00", "30 0e 02 01 01 60 09 02 01 03 04 00 a3 02 0c 00", "30 12 02 01 01 60 0d 02 01 03 04 00 a3 06 04 00 04 00 04 00", "30 10 02 01 01 60 0b 02 01 03 04 00 a3 04 04 00 80 00", "30 10 02 01 01 60 0b 02 01 03 04 00 a3 04 04 00 24 00", "30 10 02 01 01 60 0b 02 01 03 04 00 a3 04 04 00 0c 00", "30 10 02 01 01 60 0b 02 01 03 04 00 a3 02 04 00 04 00", "30 0e 02 01 01 60 09 02 01 03 04 00 23 02 04 00", "30 0e 02 01 01 60 09 02 01 03 04 00 83 02 04 00", "30 0c 02 01 01 40 07 02 01 03 04 00 80 00",
	// Search
	"30 05 02 01 04 63 00", "30 1f 02 01 04 63 1a 04 00 0a 01 02 0a 01 00 02 01 00 02 01 00 01 01 00 a3 07 04 02 63 6e 04 01 61", "30 18 02 01 04 63 13 04 00 0a 01 02 0a 01 00 02 01 00 02 01 00 01 01 00 30 00", "30 1f 02 01 04 63 1a 0a 01 02 0a 01 00 02 01 00 02 01 00 01 01 00 a3 07 04 02 63 6e 04 01 61 30 00", "30 1e 02 01 04 63 19 04 00 0a 01 02 02 01 00 02 01 00 01 01 00 a3 07 04 02 63 6e 04 01 61 30 00", "30 1e 02 01 04 63 19 04 00 0a 01 02 0a 01 00 02 01 00 01 01 00 a3 07 04 02 63 6e 04 01 61 30 00", "30 1e 02 01 04 63 19 04 00 0a 01 02 0a 01 00 02 01 00 02 01 00 a3 07 04 02 63 6e 04 01 61 30 00",
	"30 1a 02 01 04 63 15 04 00 0a 01 03 0a 01 00 02 01 00 02 01 00 01 01 00 a0 00 30 00", "30 1a 02 01 04 63 15 04 00 0a 01 ff 0a 01 00 02 01 00 02 01 00 01 01 00 a0 00 30 00", "30 1a 02 01 04 63 15 04 00 0a 01 00 0a 01 04 02 01 00 02 01 00 01 01 00 a0 00 30 00", "30 1a 02 01 04 63 15 04 00 0a 01 00 0a 01 ff 02 01 00 02 01 00 01 01 00 a0 00 30 00", "30 1a 02 01 04 63 15 04 00 0a 01 00 0a 01 00 02 01 ff 02 01 00 01 01 00 a0 00 30 00", "30 1a 02 01 04 63 15 04 00 0a 01 00 0a 01 00 02 01 00 02 01 ff 01 01 00 a0 00 30 00", "30 1d 02 01 04 63 18 04 00 0a 01 00 0a 01 00 02 01 00 02 04 80 00 00 00 01 01 00 a0 00 30 00", "30 1e 02 01 04 63 19 04 00 0a 01 00 0a 01 00 02 05 00 80 00 00 00 02 01 00 01 01 00 a0 00 30 00", "30 1e 02 01 04 63 19 04 00 0a 01 00 0a 01 00 02 01 00 02 05 00 80 00 00 00 01 01 00 a0 00 30 00",
	"30 1b 02 01 04 63 16 04 00 0a 01 00 0a 01 00 02 01 00 02 01 00 01 02 00 00 a0 00 30 00", "30 1b 02 01 04 63 16 04 00 0a 01 00 0a 01 00 02 01 00 02 01 00 01 02 ff ff a0 00 30 00", "30 19 02 01 04 63 14 04 00 0a 01 00 0a 01 00 02 01 00 02 01 00 01 00 a0 00 30 00", "30 1a 02 01 04 63 15 04 00 02 01 00 0a 01 00 02 01 00 02 01 00 01 01 00 a0 00 30 00", "30 1a 02 01 04 63 15 04 00 0a 01 00 02 01 00 02 01 00 02 01 00 01 01 00 a0 00 30 00", "30 1a 02 01 04 63 15 04 00 0a 01 00 0a 01 00 0a 01 00 02 01 00 01 01 00 a0 00 30 00", "30 1a 02 01 04 63 15 04 00 0a 01 00 0a 01 00 02 01 00 0a 01 00 01 01 00 a0 00 30 00", "30 1a 02 01 04 63 15 04 00 0a 01 00 0a 01 00 02 01 00 02 01 00 02 01 00 a0 00 30 00", "30 1a 02 01 04 63 15 04 00 0a 01 00 0a 01 00 02 01 00 02 01 00 01 01 00 a2 00 30 00", "30 1a 02 01 04 63 15 04 00 0a 01 00 0a 01 00 02 01 00 02 01 00 01 01 00 80 00 30 00", "30 1a 02 01 04 63 15 04 00 0a 01 00 0a 01 00 02 01 00 02 01 00 01 01 00 04 00 30 00", "30 1a 02 01 04 63 15 04 00 0a 01 00 0a 01 00 02 01 00 02 01 00 01 01 00 a0 00 31 00", "30 1a 02 01 04 63 15 04 00 0a 01 00 0a 01 00 02 01 00 02 01 00 01 01 00 30 00 a0 00", "30 1a 02 01 04 43 15 04 00 0a 01 00 0a 01 00 02 01 00 02 01 00 01 01 00 a0 00 30 00", "30 1c 02 01 04 63 17 04 00 0a 01 00 0a 01 00 02 01 00 02 01 00 01 01 00 a0 00 30 00 30 00", "30 1c 02 01 04 63 17 04 00 0a 01 00 0a 01 00 02 01 00 02 01 00 01 01 00 a0 00 a0 00 30 00",
	"30 1c 02 01 04 63 17 04 00 0a 01 00 0a 01 00 02 01 00 02 01 00 01 01 00 a0 00 30 02 04 00", "30 1d 02 01 04 63 18 04 00 0a 01 00 0a 01 00 02 01 00 02 01 00 01 01 00 a0 00 30 03 04 01 2b", "30 1d 02 01 04 63 18 04 00 0a 01 00 0a 01 00 02 01 00 02 01 00 01 01 00 a0 00 30 03 04 01 31", "30 1e 02 01 04 63 19 04 00 0a 01 00 0a 01 00 02 01 00 02 01 00 01 01 00 a0 00 30 04 04 02 2a 2a", "30 1f 02 01 04 63 1a 04 00 0a 01 00 0a 01 00 02 01 00 02 01 00 01 01 00 a0 00 30 05 04 03 31 2e 32", "30 1d 02 01 04 63 18 04 00 0a 01 00 0a 01 00 02 01 00 02 01 00 01 01 00 a0 00 30 03 0c 01 61", "30 1d 02 01 04 63 18 04 00 0a 01 00 0a 01 00 02 01 00 02 01 00 01 01 00 a0 00 30 03 80 01 61", "30 1f 02 01 04 63 1a 04 00 0a 01 00 0a 01 00 02 01 00 02 01 00 01 01 00 a0 00 30 05 30 03 04 01 61", "30 1f 02 01 04 63 1a 04 00 0a 01 00 0a 01 00 02 01 00 02 01 00 01 01 00 a0 00 30 05 04 03 e2 84 aa",
	// Modify
	"30 05 02 01 07 66 00", "30 07 02 01 07 66 02 04 00", "30 09 02 01 07 66 04 04 00 30 00", "30 07 02 01 07 66 02 30 00", "30 0b 02 01 07 66 06 04 00 30 02 30 00", "30 16 02 01 07 66 11 04 00 30 0d 30 0b 0a 01 00 30 06 04 02 63 6e 31 00", "30 16 02 01 07 66 11 04 00 30 0d 30 0b 0a 01 03 30 06 04 02 63 6e 31 00", "30 16 02 01 07 66 11 04 00 30 0d 30 0b 0a 01 ff 30 06 04 02 63 6e 31 00", "30 16 02 01 07 66 11 04 00 30 0d 30 0b 02 01 02 30 06 04 02 63 6e 31 00", "30 16 02 01 07 66 11 04 00 31 0d 30 0b 0a 01 02 30 06 04 02 63 6e 31 00", "30 16 02 01 07 66 11 04 00 30 0d 31 0b 0a 01 02 30 06 04 02 63 6e 31 00", "30 16 02 01 07 66 11 04 00 30 0d 30 0b 0a 01 02 31 06 04 02 63 6e 31 00", "30 16 02 01 07 66 11 04 00 30 0d 30 0b 0a 01 02 30 06 04 02 63 6e 30 00", "30 16 02 01 07 66 11 04 00 30 0d 30 0b 0a 01 02 30 06 0c 02 63 6e 31 00", "30 16 02 01 07 66 11 04 00 30 0d 30 0b 0a 01 02 30 06 04 02 31 6e 31 00", "30 14 02 01 07 66 0f 04 00 30 0b 30 09 0a 01 02 30 04 04 00 31 00", "30 16 02 01 07 66 11 04 00 30 0d 30 0b 30 06 04 02 63 6e 31 00 0a 01 02", "30 16 02 01 07 66 11 04 00 30 0d 30 0b 0a 01 02 30 06 31 00 04 02 63 6e", "30 14 02 01 07 66 0f 04 00 30 0b 30 09 0a 01 02 30 04 04 02 63 6e",
	"30 18 02 01 07 66 13 04 00 30 0f 30 0d 0a 01 02 30 06 04 02 63 6e 31 00 04 00", "30 18 02 01 07 66 13 04 00 30 0f 30 0d 0a 01 02 30 08 04 02 63 6e 31 00 31 00", "30 18 02 01 07 66 13 04 00 30 0d 30 0b 0a 01 02 30 06 04 02 63 6e 31 00 04 00", "30 18 02 01 07 66 13 04 00 30 0f 30 0b 0a 01 02 30 06 04 02 63 6e 31 00 04 00", "30 19 02 01 07 66 14 04 00 30 10 30 0e 0a 01 02 30 09 04 02 63 6e 31 03 0c 01 61", "30 14 02 01 07 66 0f 04 00 30 0b 0a 01 02 30 06 04 02 63 6e 31 00",
	// Add
	"30 05 02 01 08 68 00", "30 07 02 01 08 68 02 04 00", "30 09 02 01 08 68 04 04 00 30 00", "30 11 02 01 08 68 0c 04 01 6e 30 07 30 05 04 01 61 31 00", "30 0f 02 01 08 68 0a 04 01 6e 30 05 30 03 04 01 61", "30 14 02 01 08 68 0f 04 01 6e 30 0a 30 08 04 01 61 30 03 04 01 62", "30 14 02 01 08 68 0f 04 01 6e 31 0a 30 08 04 01 61 31 03 04 01 62", "30 14 02 01 08 68 0f 04 01 6e 30 0a 31 08 04 01 61 31 03 04 01 62", "30 14 02 01 08 68 0f 04 01 6e 30 0a 30 08 04 01 31 31 03 04 01 62", "30 14 02 01 08 68 0f 04 01 6e 30 0a 30 08 04 01 61 31 03 02 01 62", "30 14 02 01 08 68 0f 04 01 6e 30 0a 30 08 31 03 04 01 62 04 01 61", "30 14 02 01 08 68 0f 80 01 6e 30 0a 30 08 04 01 61 31 03 04 01 62", "30 14 02 01 08 68 0f 30 0a 30 08 04 01 61 31 03 04 01 62 04 01 6e", "30 16 02 01 08 68 11 04 01 6e 30 0c 30 0a 04 01 61 31 03 04 01 62 31 00", "30 14 02 01 08 48 0f 04 01 6e 30 0a 30 08 04 01 61 31 03 04 01 62", "30 12 02 01 08 68 0d 04 01 6e 30 08 04 01 61 31 03 04 01 62",
	// Delete
	"30 0a 02 01 03 6a 05 04 03 6f 3d 78", "30 08 02 01 03 0a 03 6f 3d 78", "30 08 02 01 03 8a 03 6f 3d 78", "30 08 02 01 03 ca 03 6f 3d 78", "30 05 02 01 03 6a 00",
	// Rename
	"30 05 02 01 06 6c 00", "30 09 02 01 06 6c 04 04 00 04 00", "30 0a 02 01 06 6c 05 04 00 01 01 ff", "30 0c 02 01 06 6c 07 04 00 01 01 ff 04 00", "30 0c 02 01 06 6c 07 01 01 ff 04 00 04 00", "30 0e 02 01 06 6c 09 04 00 04 00 01 01 ff 04 00", "30 0e 02 01 06 6c 09 04 00 04 00 01 01 ff 81 00", "30 0e 02 01 06 6c 09 04 00 04 00 01 01 ff a0 00", "30 10 02 01 06 6c 0b 04 00 04 00 01 01 ff 80 00 80 00", "30 0e 02 01 06 6c 09 04 00 04 00 80 00 01 01 ff", "30 0d 02 01 06 6c 08 04 00 04 00 01 02 ff ff", "30 0b 02 01 06 6c 06 04 00 04 00 01 00", "30 0c 02 01 06 6c 07 04 00 04 00 02 01 ff", "30 0c 02 01 06 6c 07 04 00 04 00 81 01 ff", "30 0c 02 01 06 4c 07 04 00 04 00 01 01 ff", "30 0c 02 01 06 6c 07 04 00 0c 00 01 01 ff",
	// Compare
	"30 05 02 01 05 6e 00", "30 07 02 01 05 6e 02 04 00", "30 09 02 01 05 6e 04 04 00 30 00", "30 0b 02 01 05 6e 06 04 00 30 02 04 00", "30 0c 02 01 05 6e 07 04 00 30 03 04 01 61", "30 0d 02 01 05 6e 08 04 00 30 04 04 00 04 00", "30 0e 02 01 05 6e 09 04 00 30 05 04 01 31 04 00", "30 10 02 01 05 6e 0b 04 00 30 07 04 01 61 04 00 04 00", "30 10 02 01 05 6e 0b 04 00 30 05 04 01 61 04 00 04 00", "30 0e 02 01 05 6e 09 04 00 31 05 04 01 61 04 00", "30 0c 02 01 05 6e 07 04 00 04 01 61 04 00", "30 0e 02 01 05 6e 09 30 05 04 01 61 04 00 04 00", "30 0e 02 01 05 6e 09 04 00 30 05 0c 01 61 04 00", "30 0e 02 01 05 6e 09 04 00 30 05 04 01 61 0c 00", "30 0e 02 01 05 4e 09 04 00 30 05 04 01 61 04 00",
	// Abandon
	"30 06 02 01 01 50 01 ff", "30 05 02 01 01 50 00", "30 07 02 01 01 50 02 00 05", "30 09 02 01 01 50 04 80 00 00 00", "30 0a 02 01 01 50 05 00 80 00 00 00", "30 08 02 01 01 70 03 02 01 05", "30 05 02 01 01 70 00", "30 06 02 01 01 90 01 05",
	// Foreign
	"30 05 02 01 0a 77 00", "30 05 02 01 0a 57 00", "30 07 02 01 0a 57 02 80 00", "30 07 02 01 0a 77 02 81 00", "30 07 02 01 0a 77 02 04 00", "30 07 02 01 0a 77 02 a0 00", "30 09 02 01 0a 77 04 81 00 80 00", "30 09 02 01 0a 77 04 80 00 80 00", "30 09 02 01 0a 77 04 80 00 82 00", "30 09 02 01 0a 77 04 80 00 a1 00", "30 09 02 01 0a 77 04 80 00 04 00", "30 09 02 01 0a 77 04 80 00 01 00", "30 0b 02 01 0a 77 06 80 00 81 00 81 00", "30 0b 02 01 0a 77 06 80 00 81 00 82 00",
}

// TestNone: P26.3, bytes that are none's: those that are no element's, and elements of each Kind with one thing wrong.
func TestNone(t *testing.T) {
	for _, s := range noElements {
		if _, behind, x := ber.Decode(raw(s), 0); x == api.OK && behind == len(raw(s)) {
			t.Fatalf("%s is an element", s)
		}
		seeNone(t, raw(s))
		seeBytes(t, raw(s))
	}
	for _, s := range none {
		if _, behind, x := ber.Decode(raw(s), 0); x != api.OK || behind != len(raw(s)) {
			t.Errorf("%s is no element: %d", s, int(x))
		}
		seeNone(t, raw(s))
		seeBytes(t, raw(s))
	}
}

// goods is requests of each Kind, with all that they may have.
var goods = []api.Request{
	{Id: 1, Kind: api.Bind, Name: "cn=A,o=B", Version: 3, Secret: "s"},
	{Id: 300, Kind: api.Bind, Name: "cn=A", Version: 3, Method: 3, Secret: "PLAIN"},
	{Id: 2, Kind: api.Unbind},
	{Id: 3, Kind: api.Search, Name: "o=B", Scope: 2, Most: 300, Types: true, Filter: joined(api.And, sub("cn"), api.Filter{Kind: api.Extended, Name: "o", Rule: "fold", Value: "X", Dn: true}), Attrs: []string{"cn", "*", "1.1"}},
	{Id: 4, Kind: api.Modify, Name: "cn=A", Changes: []api.Change{{Kind: api.ChangeAdd, Values: named("cn", "A", "B")}, {Kind: api.ChangeReplace, Values: named("o")}, {Kind: api.ChangeDelete, Values: named("o", "X")}}},
	{Id: 5, Kind: api.Add, Name: "cn=A", Values: []api.Values{named("cn", "A", "B"), named("o", "X")}},
	{Id: 6, Kind: api.Delete, Name: "cn=A"},
	{Id: 7, Kind: api.Rename, Name: "cn=A", Rdn: "cn=B", Keep: true, Above: "o=B", HasAbove: true},
	{Id: 8, Kind: api.Compare, Name: "cn=A", Pair: api.Pair{Name: "cn", Value: "A"}},
	{Id: 9, Kind: api.Abandon, Target: 300},
	{Id: 10, Kind: api.Foreign, Name: "1.2"},
}

// setting is one thing that a request has, and how to give it that.
type setting struct {
	what string
	set  func(*api.Request)
}

// numbers is settings of a field with each of some numbers.
func numbers(what string, at func(*api.Request) *int, l ...int) []setting {
	var out []setting
	for _, n := range l {
		out = append(out, setting{fmt.Sprint(what, " ", n), func(r *api.Request) { *at(r) = n }})
	}
	return out
}

// strs is settings of a field with each of some texts.
func strs(what string, at func(*api.Request) *string, l ...string) []setting {
	var out []setting
	for _, s := range l {
		out = append(out, setting{fmt.Sprintf("%s %.20q (%d)", what, s, len(s)), func(r *api.Request) { *at(r) = s }})
	}
	return out
}

// valuesAt is names with values at the edges of what may be.
func valuesAt() []api.Values {
	l := []api.Values{{}, named("cn"), named("cn", ""), named("", "a"), named("Cn", "a"), named("1", "a"), named("abcdefghijklmnop", "a"), named("abcdefghijklmnopq", "a"), named("*", "a"), named("1.1", "a"), named("cn", text(400)), named("cn", text(401)), named("cn", "a", text(401)), named("cn", text(400), "\x00")}
	for _, n := range []int{7, 8, 9, 100} {
		l = append(l, named("cn", slices.Repeat([]string{"a"}, n)...))
	}
	return l
}

// settings is each field of a request with values at the edges of what may be, and beyond.
func settings() []setting {
	extremes := []int{math.MinInt, math.MinInt32 - 1, math.MinInt32, -2, -1, 0, 1, 2, 3, 4, 5, 6, 7, 8, 9, 10, 11, 12, 126, 127, 128, 255, 256, 257, 65536, math.MaxInt32 - 1, math.MaxInt32, math.MaxInt32 + 1, 1 << 32, 1<<32 + 1, 1<<32 + 3, math.MaxInt}
	names := []string{"", "a", "\xff", "cn=A", text(99), text(100), text(101), text(400), text(401), text(2999), text(3000), text(3001), text(100000)}
	var l []setting
	l = append(l, numbers("Id", func(r *api.Request) *int { return &r.Id }, extremes...)...)
	l = append(l, numbers("Kind", func(r *api.Request) *int { return &r.Kind }, extremes...)...)
	l = append(l, numbers("Version", func(r *api.Request) *int { return &r.Version }, extremes...)...)
	l = append(l, numbers("Method", func(r *api.Request) *int { return &r.Method }, extremes...)...)
	l = append(l, numbers("Scope", func(r *api.Request) *int { return &r.Scope }, extremes...)...)
	l = append(l, numbers("Most", func(r *api.Request) *int { return &r.Most }, extremes...)...)
	l = append(l, numbers("Target", func(r *api.Request) *int { return &r.Target }, extremes...)...)
	l = append(l, strs("Name", func(r *api.Request) *string { return &r.Name }, names...)...)
	l = append(l, strs("Secret", func(r *api.Request) *string { return &r.Secret }, names...)...)
	l = append(l, strs("Rdn", func(r *api.Request) *string { return &r.Rdn }, names...)...)
	l = append(l, strs("Above", func(r *api.Request) *string { return &r.Above }, names...)...)
	l = append(l, strs("the Pair's Name", func(r *api.Request) *string { return &r.Pair.Name }, "", "a", "A", "cn", "1", "a b", "abcdefghijklmnop", "abcdefghijklmnopq", "*", "1.1")...)
	l = append(l, strs("the Pair's Value", func(r *api.Request) *string { return &r.Pair.Value }, names...)...)
	for _, b := range []bool{false, true} {
		l = append(l, setting{fmt.Sprint("Types ", b), func(r *api.Request) { r.Types = b }}, setting{fmt.Sprint("Keep ", b), func(r *api.Request) { r.Keep = b }}, setting{fmt.Sprint("HasAbove ", b), func(r *api.Request) { r.HasAbove = b }})
	}
	return append(l, listSettings()...)
}

// listSettings is those of settings that are of filters and lists.
func listSettings() []setting {
	var l []setting
	for i, f := range []api.Filter{{}, joined(api.Or), presence("cn"), presence("CN"), {Kind: api.Not}, {Name: "cn"}, {Value: "a"}, {Rule: "fold"}, {Dn: true}, {Pieces: api.Pieces{HasInitial: true}}, {Pieces: api.Pieces{Any: []string{}}, Kids: []api.Filter{}}, {Kind: 10}, {Kind: -1}, sub("cn"), holds(api.Equal, "cn", text(400)), holds(api.Equal, "cn", text(401)), chain(8, sub("cn")), chain(9, sub("cn")), joined(api.And, slices.Repeat([]api.Filter{presence("a")}, 59)...), joined(api.And, slices.Repeat([]api.Filter{presence("a")}, 60)...)} {
		l = append(l, setting{fmt.Sprint("Filter ", i), func(r *api.Request) { r.Filter = f }})
	}
	for _, s := range []string{"", "a", "A", "*", "**", "+", "1.1", "1.2", "1.10", "cn", "1", "abcdefghijklmnop", "abcdefghijklmnopq", "\u212a", " ", text(4000)} {
		l = append(l, setting{fmt.Sprintf("one of Attrs %.20q", s), func(r *api.Request) { r.Attrs = []string{s} }}, setting{fmt.Sprintf("the last of Attrs %.20q", s), func(r *api.Request) { r.Attrs = []string{"cn", "*", s} }})
	}
	for _, n := range []int{0, 1, 7, 8, 9, 11, 12, 13, 23, 24, 25, 1000} {
		l = append(l,
			setting{fmt.Sprint(n, " Attrs"), func(r *api.Request) { r.Attrs = slices.Repeat([]string{"a"}, n) }},
			setting{fmt.Sprint(n, " Changes"), func(r *api.Request) { r.Changes = changes(1, slices.Repeat([]api.Values{named("a")}, n)...) }},
			setting{fmt.Sprint(n, " Values"), func(r *api.Request) { r.Values = slices.Repeat([]api.Values{named("a", "b")}, n) }})
	}
	for i, v := range valuesAt() {
		l = append(l, setting{fmt.Sprint("Values ", i), func(r *api.Request) { r.Values = []api.Values{v} }}, setting{fmt.Sprint("the last of Values ", i), func(r *api.Request) { r.Values = []api.Values{named("a", "b"), v} }})
		for _, kind := range []int{math.MinInt, -1, 0, 1, 2, 3, math.MaxInt} {
			l = append(l, setting{fmt.Sprint("Changes ", kind, " ", i), func(r *api.Request) { r.Changes = changes(kind, v) }}, setting{fmt.Sprint("the last of Changes ", kind, " ", i), func(r *api.Request) { r.Changes = append(changes(1, named("a")), changes(kind, v)...) }})
		}
	}
	return l
}

// TestSettings: P26.1, P26.2, P26.5, requests of each Kind with one field that is something else: at the edges of what may be, beyond them, and of what another Kind has.
func TestSettings(t *testing.T) {
	may, not := 0, 0
	for _, r := range append(goods[:len(goods):len(goods)], api.Request{}, api.Request{Id: 1}, api.Request{Id: 1, Kind: 11}) {
		seeLaid(t, r)
		for _, s := range settings() {
			q := r
			s.set(&q)
			if seeLaid(t, q) {
				may++
			} else {
				not++
			}
		}
	}
	if may < 600 || not < 6000 {
		t.Errorf("%d requests may be, %d may not: too few to tell anything", may, not)
	}
}

// TestTwoSettings: P26.1, P26.2, P26.5, as few fields as a Kind has, and two that are something else.
func TestTwoSettings(t *testing.T) {
	var l []setting
	for i, s := range settings() {
		if i%3 == 0 {
			l = append(l, s)
		}
	}
	for kind := range 12 {
		for i, s := range l {
			for _, o := range l[i:] {
				r := api.Request{Id: 1, Kind: kind}
				s.set(&r)
				o.set(&r)
				want := api.OK
				if !modelMay(r) {
					want = api.ErrWire
				}
				if x := Check(r); x != want {
					t.Fatalf("Check of Kind %d with %s and %s: %d, not %d", kind, s.what, o.what, int(x), int(want))
				}
			}
		}
	}
}

// TestEdges: P26.1, the limits that the chapter names, by hand.
func TestEdges(t *testing.T) {
	bind := func(version, method, secret int) api.Request {
		return api.Request{Id: 1, Kind: api.Bind, Version: version, Method: method, Secret: text(secret)}
	}
	search := func(scope, most, attrs int, selectors ...string) api.Request {
		return api.Request{Id: 1, Kind: api.Search, Scope: scope, Most: most, Attrs: append(slices.Repeat([]string{"a"}, attrs), selectors...)}
	}
	modify := func(l ...api.Change) api.Request { return api.Request{Id: 1, Kind: api.Modify, Changes: l} }
	add := func(l ...api.Values) api.Request { return api.Request{Id: 1, Kind: api.Add, Values: l} }
	one := named("a", "b")
	eight := slices.Repeat([]string{"v"}, 8)
	for _, row := range []struct {
		r   api.Request
		may bool
	}{
		{api.Request{Kind: api.Unbind}, false}, {api.Request{Id: -1, Kind: api.Unbind}, false}, {api.Request{Id: 1, Kind: api.Unbind}, true}, {api.Request{Id: 2147483647, Kind: api.Unbind}, true}, {api.Request{Id: 2147483648, Kind: api.Unbind}, false},
		{api.Request{Id: 1}, false}, {api.Request{Id: 1, Kind: 11}, false}, {api.Request{Id: 1, Kind: -1}, false},
		{bind(0, 0, 0), false}, {bind(1, 0, 0), true}, {bind(127, 0, 0), true}, {bind(128, 0, 0), false}, {bind(3, 1, 0), false}, {bind(3, 2, 0), false}, {bind(3, 3, 0), true}, {bind(3, 4, 0), false}, {bind(3, -1, 0), false}, {bind(3, 0, 400), true}, {bind(3, 0, 401), false}, {bind(3, 3, 400), true}, {bind(3, 3, 401), false},
		{search(-1, 0, 0), false}, {search(0, 0, 0), true}, {search(2, 0, 0), true}, {search(3, 0, 0), false}, {search(0, -1, 0), false}, {search(0, 2147483647, 0), true}, {search(0, 2147483648, 0), false}, {search(0, 0, 24), true}, {search(0, 0, 25), false}, {search(0, 0, 23, "*"), true}, {search(0, 0, 23, "1.1"), true}, {search(0, 0, 0, "*", "1.1", "*"), true}, {search(0, 0, 0, "1.2"), false}, {search(0, 0, 0, "+"), false}, {search(0, 0, 0, ""), false}, {search(0, 0, 0, "A"), false},
		{modify(), false}, {modify(changes(1, slices.Repeat([]api.Values{one}, 8)...)...), true}, {modify(changes(1, slices.Repeat([]api.Values{one}, 9)...)...), false},
		{modify(changes(0, named("a"))...), false}, {modify(changes(0, named("a", ""))...), true}, {modify(changes(1, named("a"))...), true}, {modify(changes(2, named("a"))...), true}, {modify(changes(3, one)...), false}, {modify(changes(-1, one)...), false},
		{modify(changes(2, named("a", eight...))...), true}, {modify(changes(2, named("a", append(eight, "v")...))...), false}, {modify(changes(2, named("a", text(400)))...), true}, {modify(changes(2, named("a", text(401)))...), false}, {modify(changes(2, named("A"))...), false},
		{add(), false}, {add(slices.Repeat([]api.Values{one}, 12)...), true}, {add(slices.Repeat([]api.Values{one}, 13)...), false}, {add(named("a")), false}, {add(one, named("a")), false}, {add(named("a", eight...)), true}, {add(named("a", append(eight, "v")...)), false}, {add(named("a", text(400))), true}, {add(named("a", text(401))), false},
		{api.Request{Id: 1, Kind: api.Delete, Name: text(3000)}, true}, {api.Request{Id: 1, Kind: api.Delete, Name: text(3001)}, false},
		{api.Request{Id: 1, Kind: api.Rename, Rdn: text(3000)}, true}, {api.Request{Id: 1, Kind: api.Rename, Rdn: text(3001)}, false}, {api.Request{Id: 1, Kind: api.Rename, Above: text(3000), HasAbove: true}, true}, {api.Request{Id: 1, Kind: api.Rename, Above: text(3001), HasAbove: true}, false}, {api.Request{Id: 1, Kind: api.Rename, Above: "a"}, false}, {api.Request{Id: 1, Kind: api.Rename, HasAbove: true}, true}, {api.Request{Id: 1, Kind: api.Rename}, true},
		{api.Request{Id: 1, Kind: api.Compare}, false}, {api.Request{Id: 1, Kind: api.Compare, Pair: api.Pair{Name: "a"}}, true}, {api.Request{Id: 1, Kind: api.Compare, Pair: api.Pair{Name: "A"}}, false}, {api.Request{Id: 1, Kind: api.Compare, Pair: api.Pair{Name: "a", Value: text(400)}}, true}, {api.Request{Id: 1, Kind: api.Compare, Pair: api.Pair{Name: "a", Value: text(401)}}, false},
		{api.Request{Id: 1, Kind: api.Abandon}, true}, {api.Request{Id: 1, Kind: api.Abandon, Target: -1}, false}, {api.Request{Id: 1, Kind: api.Abandon, Target: 2147483647}, true}, {api.Request{Id: 1, Kind: api.Abandon, Target: 2147483648}, false}, {api.Request{Id: 1, Kind: api.Abandon, Name: "a"}, false},
		{api.Request{Id: 1, Kind: api.Foreign}, true}, {api.Request{Id: 1, Kind: api.Foreign, Name: text(100)}, true}, {api.Request{Id: 1, Kind: api.Foreign, Name: text(101)}, false},
	} {
		if got := seeLaid(t, row.r); got != row.may || (Check(row.r) == api.OK) != row.may {
			t.Errorf("may %s be? %t, not %t", told(plain(row.r)), got, row.may)
		}
	}
}

// leaf is an element that is not Made.
func leaf(class, number int, s string) api.Element {
	return api.Element{Class: class, Number: number, Contents: s}
}

// made is an element that is Made.
func made(class, number int, l ...api.Element) api.Element {
	return api.Element{Class: class, Made: true, Number: number, Elements: l}
}

// bytesOf is the bytes of an element that is formed.
func bytesOf(e api.Element) string {
	first := byte(e.Class<<6 | e.Number)
	if !e.Made {
		return tlv(first, e.Contents)
	}
	var l string
	for _, in := range e.Elements {
		l += bytesOf(in)
	}
	return tlv(first|0x20, l)
}

// element is the element of bytes.
func element(t *testing.T, s string) api.Element {
	t.Helper()
	e, behind, x := ber.Decode(s, 0)
	if x != api.OK || behind != len(s) {
		t.Fatalf("% x is no element: %d", s, int(x))
	}
	return e
}

// changed is formed elements with one thing changed, in the element itself or in one within it.
func changed(e api.Element) []api.Element {
	var all []api.Element
	with := func(set func(*api.Element)) {
		g := e
		g.Elements = slices.Clone(e.Elements)
		set(&g)
		all = append(all, g)
	}
	for class := range 4 {
		with(func(g *api.Element) { g.Class = class })
	}
	for number := range 31 {
		with(func(g *api.Element) { g.Number = number })
	}
	with(func(g *api.Element) { g.Made, g.Contents, g.Elements = !g.Made, "", nil })
	with(func(g *api.Element) { g.Made, g.Contents, g.Elements = true, "", []api.Element{e} })
	if !e.Made {
		for _, s := range []string{"", "x", "X", "\x00", "\x01", "\x02", "\x03", "\x04", "\x7f", "\x80", "\xff", "\x00\x80", "\x00\x7f", "\xff\xff", "\x7f\xff\xff\xff", "\x80\x00\x00\x00", "\x00\x80\x00\x00\x00", "1", "*", "1.1", "\u212a", text(100), text(101), text(401)} {
			with(func(g *api.Element) { g.Contents = s })
			with(func(g *api.Element) { g.Contents += s })
			with(func(g *api.Element) { g.Contents = s + g.Contents })
		}
		with(func(g *api.Element) { g.Contents = strings.ToUpper(g.Contents) })
		return all
	}
	for i := range len(e.Elements) + 1 {
		for _, in := range []api.Element{leaf(0, 4, "x"), leaf(0, 2, "\x01"), leaf(0, 10, "\x01"), leaf(0, 1, "\xff"), leaf(2, 0, "x"), leaf(2, 1, "x"), made(0, 16), made(0, 17), made(2, 0), made(2, 3, leaf(0, 4, "x"))} {
			with(func(g *api.Element) { g.Elements = slices.Insert(g.Elements, i, in) })
		}
	}
	for i := range e.Elements {
		with(func(g *api.Element) { g.Elements = slices.Delete(g.Elements, i, i+1) })
		with(func(g *api.Element) { g.Elements = slices.Insert(g.Elements, i, g.Elements[i]) })
		with(func(g *api.Element) {
			g.Elements = slices.Replace(g.Elements, i, i+1, g.Elements[i].Elements...)
		})
		for j := range i {
			with(func(g *api.Element) { g.Elements[i], g.Elements[j] = g.Elements[j], g.Elements[i] })
		}
		for _, in := range changed(e.Elements[i]) {
			with(func(g *api.Element) { g.Elements[i] = in })
		}
	}
	return all
}

// more is bytes of messages in which all stands that may stand in them.
var more = []string{
	"30 16 02 01 09 60 11 02 01 03 04 00 a3 0a 04 05 50 4c 41 49 4e 04 01 ff",
	"30 0e 02 01 0a 77 09 80 03 31 2e 32 81 02 00 ff",
	"30 24 02 01 04 63 1f 04 00 0a 01 00 0a 01 03 02 01 00 02 04 7f ff ff ff 01 01 01 a3 07 04 02 43 4e 04 01 41 30 00",
}

// TestOneWrong: P26.3, P26.6, the elements of requests of each Kind with one thing changed, wherever in them it stands: Class, Number, Made or not, contents, one element more, one less, two in another order.
func TestOneWrong(t *testing.T) {
	var l []string
	for _, r := range goods {
		s, _ := modelEncode(r)
		l = append(l, s)
	}
	for _, row := range rows {
		l = append(l, raw(row.bytes))
	}
	for _, s := range more {
		l = append(l, raw(s))
	}
	read, not := 0, 0
	for _, s := range l {
		e := element(t, s)
		if bytesOf(e) != s || !seeBytes(t, s) {
			t.Fatalf("% x is no request", s)
		}
		for _, g := range changed(e) {
			if seeBytes(t, bytesOf(g)) {
				read++
			} else {
				not++
			}
		}
	}
	if read < 1000 || not < 10000 {
		t.Errorf("%d elements were read, %d not: too few to tell anything", read, not)
	}
}

// lists is all lists of at most so many of some elements.
func lists(most int, words ...api.Element) [][]api.Element {
	all := [][]api.Element{nil}
	for from, size := 0, 1; size <= most; size++ {
		upTo := len(all)
		for _, l := range all[from:upTo] {
			for _, w := range words {
				all = append(all, append(l[:len(l):len(l)], w))
			}
		}
		from = upTo
	}
	return all
}

// TestLists: P26.3, all short lists of what may stand in an element of each Kind, and of what may not.
func TestLists(t *testing.T) {
	read := map[string]int{}
	see := func(what string, e api.Element) {
		if seeBytes(t, bytesOf(made(0, 16, leaf(0, 2, "\x01"), e))) {
			read[what]++
		}
	}
	for _, l := range lists(4, leaf(0, 2, "\x03"), leaf(0, 4, "A"), leaf(0, 1, "\x01"), leaf(2, 0, "A"), leaf(2, 1, "A"), made(2, 3, leaf(0, 4, "A")), made(0, 16, leaf(0, 4, "A"), leaf(0, 4, "A")), leaf(0, 10, "\x01")) {
		for number := range 31 {
			see(fmt.Sprint(number), made(1, number, l...))
		}
	}
	for _, l := range lists(5, leaf(0, 4, "A"), leaf(0, 4, "1"), leaf(0, 5, "A"), made(0, 16)) {
		see("Method 3", made(1, 0, leaf(0, 2, "\x03"), leaf(0, 4, ""), made(2, 3, l...)))
		see("Attrs", made(1, 3, leaf(0, 4, ""), leaf(0, 10, "\x00"), leaf(0, 10, "\x00"), leaf(0, 2, "\x00"), leaf(0, 2, "\x00"), leaf(0, 1, "\x00"), made(2, 0), made(0, 16, l...)))
		see("Pair", made(1, 14, leaf(0, 4, ""), made(0, 16, l...)))
	}
	set := made(0, 17, leaf(0, 4, "A"))
	for _, l := range lists(4, leaf(0, 4, "A"), set, made(0, 17), made(0, 16), leaf(0, 10, "\x01"), made(0, 16, leaf(0, 4, "A"), set), made(0, 16, leaf(0, 4, "A"), made(0, 17))) {
		see("Values", made(1, 8, leaf(0, 4, ""), made(0, 16, l...)))
		see("one of Values", made(1, 8, leaf(0, 4, ""), made(0, 16, made(0, 16, l...))))
		see("Changes", made(1, 6, leaf(0, 4, ""), made(0, 16, l...)))
		see("one of Changes", made(1, 6, leaf(0, 4, ""), made(0, 16, made(0, 16, l...))))
		see("the Values of a change", made(1, 6, leaf(0, 4, ""), made(0, 16, made(0, 16, leaf(0, 10, "\x02"), made(0, 16, l...)))))
	}
	want := map[string]int{
		// Bind: of Method 0, and of Method 3. Rename: without Above, and with it. Compare. Foreign: without one more, and with it.
		"0": 2, "12": 2, "14": 1, "23": 2,
		// The T, and one more of two.
		"Method 3": 2 + 4,
		// None to five of one that is a word: A; the 1 is none.
		"Attrs": 6,
		// A word, and a value of two.
		"Pair": 2,
		// One to four that have a value.
		"Values": 4,
		// A name, and the S that has a value.
		"one of Values": 1,
		// A Kind, and a name with values or without.
		"one of Changes": 2,
		// A name, and one of two S.
		"the Values of a change": 2,
	}
	for what, n := range read {
		if want[what] != n {
			t.Errorf("%s: %d were read, not %d", what, n, want[what])
		}
	}
	for what := range want {
		if read[what] == 0 {
			t.Errorf("%s: none was read", what)
		}
	}
}

// TestNumbers: P26.2, P26.3, whole numbers of all kinds where they stand in messages.
func TestNumbers(t *testing.T) {
	search := func(scope, aliases, most, seconds string) string {
		return tlv(0x30, "\x02\x01\x01", tlv(0x63, "\x04\x00", tlv(0x0a, scope), tlv(0x0a, aliases), tlv(0x02, most), tlv(0x02, seconds), "\x01\x01\x00\xa0\x00\x30\x00"))
	}
	see := func(what, s string, fits bool) {
		t.Helper()
		if seeBytes(t, s) != fits {
			t.Errorf("%s: % x: %t", what, s, !fits)
		}
	}
	var all []string
	for n := -300; n < 70000; n += 1 + max(n, 0)/300 {
		all = append(all, modelInt(n))
	}
	for _, n := range []int{-1 << 50, math.MinInt32 - 1, math.MinInt32, math.MinInt32 + 1, -65536, -32769, -32768, 32767, 32768, 8388607, 8388608, math.MaxInt32 - 1, math.MaxInt32, math.MaxInt32 + 1, 1 << 32, 1 << 50} {
		all = append(all, modelInt(n))
	}
	all = append(all, "", "\x00\x00", "\x00\x01", "\x00\x7f", "\xff\xff", "\xff\x80", "\x00\x00\x01", "\x00\x00\x00\x00\x01", "\x00\x00\x00\x80")
	for _, s := range all {
		n, whole := modelWhole(s)
		see("Id", tlv(0x30, tlv(0x02, s), "\x42\x00"), whole && n > 0)
		see("Version", tlv(0x30, "\x02\x01\x01", tlv(0x60, tlv(0x02, s), "\x04\x00\x80\x00")), whole && n > 0 && n < 128)
		see("Target", tlv(0x30, "\x02\x01\x01", tlv(0x50, s)), whole && n >= 0)
		see("Scope", search(s, "\x00", "\x00", "\x00"), whole && n >= 0 && n <= 2)
		see("the second E", search("\x00", s, "\x00", "\x00"), whole && n >= 0 && n <= 3)
		see("Most", search("\x00", "\x00", s, "\x00"), whole && n >= 0)
		see("the second I", search("\x00", "\x00", "\x00", s), whole && n >= 0)
		see("the Kind of a change", tlv(0x30, "\x02\x01\x01", tlv(0x66, "\x04\x00", tlv(0x30, tlv(0x30, tlv(0x0a, s), "\x30\x08\x04\x01a\x31\x03\x04\x01b")))), whole && n >= 0 && n <= 2)
		if whole {
			seeLaid(t, api.Request{Id: n, Kind: api.Unbind})
			seeLaid(t, api.Request{Id: 1, Kind: api.Abandon, Target: n})
			seeLaid(t, api.Request{Id: 1, Kind: api.Search, Most: n})
		}
	}
}

// TestTruths: P26.2, P26.3, truths of each byte, of none, of two.
func TestTruths(t *testing.T) {
	for i := range 256 {
		b := string([]byte{byte(i)})
		search, rename := tlv(0x30, "\x02\x01\x01", tlv(0x63, "\x04\x00\x0a\x01\x00\x0a\x01\x00\x02\x01\x00\x02\x01\x00", tlv(0x01, b), "\xa0\x00\x30\x00")), tlv(0x30, "\x02\x01\x01", tlv(0x6c, "\x04\x00\x04\x00", tlv(0x01, b)))
		seeRead(t, search, api.Request{Id: 1, Kind: api.Search, Types: i > 0})
		seeRead(t, rename, api.Request{Id: 1, Kind: api.Rename, Keep: i == 0})
		for _, two := range []string{"", b + b, b + "\x00", "\xff" + b} {
			seeNone(t, strings.Replace(search, tlv(0x01, b), tlv(0x01, two), 1))
			seeNone(t, tlv(0x30, "\x02\x01\x01", tlv(0x6c, "\x04\x00\x04\x00", tlv(0x01, two))))
			seeNone(t, tlv(0x30, "\x02\x01\x01", tlv(0x63, "\x04\x00\x0a\x01\x00\x0a\x01\x00\x02\x01\x00\x02\x01\x00", tlv(0x01, two), "\xa0\x00\x30\x00")))
		}
		stopAtFault(t)
	}
	for _, b := range []bool{false, true} {
		seeLaid(t, api.Request{Id: 1, Kind: api.Search, Types: b})
		seeLaid(t, api.Request{Id: 1, Kind: api.Rename, Keep: b})
	}
}

// TestWords: P26.1, P26.3, each byte in each word; great letters stand in words of bytes alone, and stay where no word is.
func TestWords(t *testing.T) {
	with := func(word string) []api.Request {
		return []api.Request{
			{Id: 1, Kind: api.Search, Name: word, Attrs: []string{word}},
			{Id: 1, Kind: api.Search, Filter: holds(api.Equal, word, word), Attrs: []string{"a", "*", word}},
			{Id: 1, Kind: api.Modify, Name: word, Changes: changes(2, named("a"), named(word, word))},
			{Id: 1, Kind: api.Add, Name: word, Values: []api.Values{named("a", "b"), named(word, word)}},
			{Id: 1, Kind: api.Compare, Name: word, Pair: api.Pair{Name: word, Value: word}},
		}
	}
	see := func(word string) {
		small := modelLower(word)
		for i, r := range with(word) {
			want := with(small)[i]
			want.Name, want.Pair.Value, want.Filter.Value = r.Name, r.Pair.Value, r.Filter.Value
			for j := range want.Changes {
				want.Changes[j].Values.Values = r.Changes[j].Values.Values
			}
			for j := range want.Values {
				want.Values[j].Values = r.Values[j].Values
			}
			if got := Check(r) == api.OK; got != (dn.Word(word) || (word == "*" || word == "1.1") && i == 0) {
				t.Errorf("Check of %s: %t", plain(r), got)
			}
			if s := tlv(0x30, "\x02\x01\x01", modelKind(r)); modelMay(want) {
				seeRead(t, s, want)
			} else {
				seeNone(t, s)
			}
			seeLaid(t, r)
		}
	}
	for i := range 256 {
		c := string([]byte{byte(i)})
		for _, word := range []string{c, "a" + c, c + "a", "A" + c + "z"} {
			see(word)
		}
	}
	for _, word := range []string{"", "abcdefghijklmnop", "ABCDEFGHIJKLMNOP", "QRSTUVWXYZ", "abcdefghijklmnopq", "ABCDEFGHIJKLMNOPQ", "1.1", "*", "1.10", "1.1.1", "**", "a*", "+", "2.5.4.3", "\u00e9", "\u00c9", "\u212a", "k\u0130", "\uff21", "cn;lang-de", "o-1", "O-", text(17), text(400)} {
		see(word)
	}
}

// TestSame: P26.4, each field by itself, at all its values, against all others; lists without an element may be nil or empty.
func TestSame(t *testing.T) {
	var l []api.Request
	for _, base := range []api.Request{{}, goods[0], goods[3], goods[4], goods[5], goods[7]} {
		for i, s := range settings() {
			if i%5 == 0 || len(l) < 400 && i%2 == 0 {
				q := base
				s.set(&q)
				l = append(l, q)
			}
		}
	}
	var as []string
	for _, r := range l {
		as = append(as, plain(r))
	}
	same := 0
	for i, a := range l {
		for j, b := range l {
			got := Same(a, b)
			if got != (as[i] == as[j]) {
				t.Fatalf("Same of %s and %s: %t", told(as[i]), told(as[j]), got)
			}
			if got && i != j {
				same++
			}
		}
	}
	if same < 100 {
		t.Errorf("%d are the same: too few to tell anything", same)
	}
}

// TestSameOne: P26.4, two that differ in one field alone, written by hand, and lists that are nil, empty and in another order.
func TestSameOne(t *testing.T) {
	whole := api.Request{
		Id: 1, Kind: 2, Name: "n", Version: 3, Method: 4, Secret: "s", Scope: 5, Most: 6, Types: true, Filter: joined(api.And, sub("cn"), presence("o")), Attrs: []string{"a", "b"},
		Changes: []api.Change{{Kind: 1, Values: named("a", "b", "c")}, {Kind: 2, Values: named("d")}}, Values: []api.Values{named("a", "b", "c"), named("d")},
		Rdn: "r", Keep: true, Above: "u", HasAbove: true, Pair: api.Pair{Name: "p", Value: "v"}, Target: 7,
	}
	if !Same(whole, whole) || !Same(api.Request{}, api.Request{}) || Same(whole, api.Request{}) {
		t.Error("Same of requests, and themselves")
	}
	for i, set := range []func(*api.Request){
		func(r *api.Request) { r.Id = 2 }, func(r *api.Request) { r.Kind = 1 }, func(r *api.Request) { r.Name = "N" }, func(r *api.Request) { r.Version = 0 }, func(r *api.Request) { r.Method = 0 }, func(r *api.Request) { r.Secret = "" }, func(r *api.Request) { r.Scope = 4 }, func(r *api.Request) { r.Most = -6 }, func(r *api.Request) { r.Types = false },
		func(r *api.Request) { r.Filter = api.Filter{} }, func(r *api.Request) { r.Filter.Kind = api.Or }, func(r *api.Request) { r.Filter.Kids = r.Filter.Kids[:1] }, func(r *api.Request) { r.Filter.Kids = []api.Filter{sub("cn"), presence("p")} }, func(r *api.Request) { r.Filter.Rule = "x" }, func(r *api.Request) { r.Filter.Dn = true }, func(r *api.Request) { r.Filter.Pieces.Any = []string{""} },
		func(r *api.Request) { r.Attrs = nil }, func(r *api.Request) { r.Attrs = []string{"b", "a"} }, func(r *api.Request) { r.Attrs = []string{"a", "b", ""} }, func(r *api.Request) { r.Attrs = []string{"ab"} }, func(r *api.Request) { r.Attrs = []string{"a", "B"} },
		func(r *api.Request) { r.Changes = nil }, func(r *api.Request) { r.Changes = r.Changes[:1] }, func(r *api.Request) { r.Changes = []api.Change{r.Changes[1], r.Changes[0]} }, func(r *api.Request) { r.Changes = []api.Change{{Kind: 0, Values: named("a", "b", "c")}, r.Changes[1]} }, func(r *api.Request) { r.Changes = []api.Change{{Kind: 1, Values: named("x", "b", "c")}, r.Changes[1]} }, func(r *api.Request) { r.Changes = []api.Change{{Kind: 1, Values: named("a", "c", "b")}, r.Changes[1]} }, func(r *api.Request) { r.Changes = []api.Change{r.Changes[0], {Kind: 2, Values: named("d", "")}} },
		func(r *api.Request) { r.Values = nil }, func(r *api.Request) { r.Values = r.Values[1:] }, func(r *api.Request) { r.Values = []api.Values{r.Values[1], r.Values[0]} }, func(r *api.Request) { r.Values = []api.Values{named("a", "b"), r.Values[1]} }, func(r *api.Request) { r.Values = []api.Values{named("a", "b", "C"), r.Values[1]} }, func(r *api.Request) { r.Values = []api.Values{r.Values[0], named("e")} },
		func(r *api.Request) { r.Rdn = "" }, func(r *api.Request) { r.Keep = false }, func(r *api.Request) { r.Above = "" }, func(r *api.Request) { r.HasAbove = false }, func(r *api.Request) { r.Pair.Name = "q" }, func(r *api.Request) { r.Pair.Value = "" }, func(r *api.Request) { r.Target = 0 },
	} {
		other := whole
		set(&other)
		if Same(whole, other) || Same(other, whole) || !Same(other, other) {
			t.Errorf("Same of %s and %s, by the setting %d", plain(whole), plain(other), i)
		}
	}
	empty := api.Request{Attrs: []string{}, Changes: []api.Change{}, Values: []api.Values{}, Filter: api.Filter{Kids: []api.Filter{}, Pieces: api.Pieces{Any: []string{}}}}
	if !Same(empty, api.Request{}) || !Same(api.Request{}, empty) {
		t.Error("Same of lists that are empty, and nil")
	}
	a, b := whole, whole
	a.Changes, b.Changes = changes(1, api.Values{Name: "a"}), changes(1, api.Values{Name: "a", Values: []string{}})
	a.Values, b.Values = []api.Values{{Name: "a", Values: []string{}}}, []api.Values{{Name: "a"}}
	if !Same(a, b) || !Same(b, a) {
		t.Error("Same of values that are empty, and nil")
	}
}

// TestEmptyLists: P26.1, P26.2, lists without an element may be empty or nil, also where a Kind has none.
func TestEmptyLists(t *testing.T) {
	for _, r := range goods {
		want, _ := Encode(r)
		if len(r.Attrs) == 0 {
			r.Attrs = []string{}
		}
		if len(r.Changes) == 0 {
			r.Changes = []api.Change{}
		}
		if len(r.Values) == 0 {
			r.Values = []api.Values{}
		}
		if r.Kind != api.Search {
			r.Filter = api.Filter{Kids: []api.Filter{}, Pieces: api.Pieces{Any: []string{}}}
		}
		if s, x := Encode(r); s != want || s == "" || x != api.OK || Check(r) != api.OK {
			t.Errorf("Encode of %s with empty lists: % x %d", plain(r), s, int(x))
		}
	}
	none := api.Request{Id: 1, Kind: api.Modify, Changes: changes(2, api.Values{Name: "a", Values: []string{}})}
	if !seeLaid(t, none) {
		t.Errorf("%s may be", plain(none))
	}
}

// TestBig: P26.2, P26.3, P26.5, messages of MaxPdu bytes and of one more, requests with far more, and bytes that are too many to be looked at.
func TestBig(t *testing.T) {
	// Ahead of the Rdn, and behind it, stand 3022 bytes of such a message.
	rename := func(size int) api.Request {
		return api.Request{Id: 1, Kind: api.Rename, Name: text(3000), Rdn: text(size - 3022)}
	}
	// Eight values of 404 bytes each, and one more name of 400, with what stands around them.
	add := func(size int) api.Request {
		l := []api.Values{named("a", slices.Repeat([]string{text(400)}, 8)...), named("b", text(400))}
		r := api.Request{Id: 1, Kind: api.Add, Values: l}
		r.Name = text(size - len(tlv(0x30, integer(1), modelKind(r))) - 2)
		return r
	}
	for size, want := range map[int]api.Errno{3990: api.OK, 3999: api.OK, 4000: api.OK, 4001: api.ErrBig, 4002: api.ErrBig, 4500: api.ErrBig} {
		for _, r := range []api.Request{rename(size), add(size)} {
			long := tlv(0x30, integer(1), modelKind(r))
			if len(long) != size {
				t.Fatalf("%d bytes, not %d", len(long), size)
			}
			seeLaid(t, r)
			s, x := Encode(r)
			if x != want || x == api.OK && s != long || x != api.OK && s != "" || Check(r) != api.OK {
				t.Errorf("Encode to %d bytes: %d bytes %d, not %d", size, len(s), int(x), int(want))
			}
			q, x := Decode(long)
			if x != want || x == api.OK && !Same(q, r) || x != api.OK && plain(q) != nothing {
				t.Errorf("Decode of %d bytes: %d, not %d", size, int(x), int(want))
			}
		}
	}
	for _, c := range []string{"\x00", "0", "x", "\xff"} {
		seeNone(t, strings.Repeat(c, 3999))
		seeNone(t, strings.Repeat(c, 4000))
		for _, size := range []int{4001, 4002, 100000} {
			if r, x := Decode(strings.Repeat(c, size)); plain(r) != nothing || x != api.ErrBig {
				t.Errorf("Decode of %d bytes: %s %d", size, told(plain(r)), int(x))
			}
		}
	}
	// A message that may be, with so many bytes behind it.
	for _, size := range []int{4000, 4001} {
		s := raw(rows[0].bytes)
		seeBytes(t, s+strings.Repeat("\x00", size-len(s)))
	}
	// As much as may be in a request, which is far more than a message takes.
	full := named("a", slices.Repeat([]string{text(400)}, 8)...)
	for _, r := range []api.Request{
		{Id: 1, Kind: api.Add, Name: text(3000), Values: slices.Repeat([]api.Values{full}, 12)},
		{Id: 1, Kind: api.Modify, Name: text(3000), Changes: changes(0, slices.Repeat([]api.Values{full}, 8)...)},
		{Id: 1, Kind: api.Rename, Name: text(3000), Rdn: text(3000), Above: text(3000), HasAbove: true},
		{Id: 1, Kind: api.Search, Name: text(3000), Filter: joined(api.And, slices.Repeat([]api.Filter{holds(api.Equal, "cn", text(400))}, 59)...)},
	} {
		seeLaid(t, r)
		if s, x := Encode(r); s != "" || x != api.ErrBig || Check(r) != api.OK {
			t.Errorf("Encode of %s: %d bytes %d", told(plain(r)), len(s), int(x))
		}
	}
}

// TestDeep: P26.2, P26.3, P26.5, filters as deep as may be, of which the lowest pieces are the 12th element around another.
func TestDeep(t *testing.T) {
	for deep := 1; deep < 14; deep++ {
		for _, lowest := range []api.Filter{sub("cn"), presence("cn"), joined(api.And), holds(api.Equal, "cn", "a")} {
			r := api.Request{Id: 1, Kind: api.Search, Filter: chain(deep, lowest)}
			if got := seeLaid(t, r); got != (deep <= 8) {
				t.Errorf("a filter that is %d deep may be: %t", deep, got)
			}
		}
	}
	s, _ := Encode(api.Request{Id: 1, Kind: api.Search, Filter: chain(8, sub("cn"))})
	if n := ber.Deep(element(t, s)); n != 12 {
		t.Errorf("%d deep", n)
	}
}

// TestEachByte: P26.3, P26.6, messages in which any byte is any other, that end too early, or that go on.
func TestEachByte(t *testing.T) {
	l := more
	for _, row := range rows {
		l = append(l[:len(l):len(l)], row.bytes)
	}
	for _, row := range l {
		s := raw(row)
		for i := range len(s) {
			seeNone(t, s[:i])
			seeNone(t, s[i+1:])
			for c := range 256 {
				seeBytes(t, s[:i]+string([]byte{byte(c)})+s[i+1:])
			}
			seeBytes(t, s[:i]+s[i+1:])
		}
		for c := range 256 {
			seeNone(t, s+string([]byte{byte(c)}))
			seeBytes(t, string([]byte{byte(c)})+s)
		}
		seeNone(t, s+s)
	}
}

// chance makes requests and elements by chance.
type chance struct{ *rand.Rand }

// text is a text by chance.
func (c chance) text(most int) string {
	b := make([]byte, c.Intn(most+1))
	for i := range b {
		b[i] = byte(c.Intn(256))
	}
	return string(b)
}

// number is a number by chance, from 0 on.
func (c chance) number() int { return c.Intn(1 << c.Intn(32)) }

// yes is a truth by chance.
func (c chance) yes() bool { return c.Intn(2) == 0 }

// word is a word by chance; now and then it is none.
func (c chance) word() string {
	if c.Intn(60) == 0 {
		return c.text(3)
	}
	return []string{"cn", "o", "x-1", "abcdefghijklmnop", "dn"}[c.Intn(5)]
}

// values is a name with values by chance.
func (c chance) values(least int) api.Values {
	v := api.Values{Name: c.word()}
	for range least + c.Intn(4) {
		v.Values = append(v.Values, c.text(6))
	}
	return v
}

// filter is a filter by chance.
func (c chance) filter(deep int) api.Filter {
	if deep == 0 || c.yes() {
		return []api.Filter{holds(api.Equal, c.word(), c.text(5)), holds(api.AtLeast, "o", c.text(5)), sub(c.word()), presence(c.word()), {Kind: api.Extended, Name: "o", Value: c.text(5), Dn: c.yes()}}[c.Intn(5)]
	}
	f := joined(c.Intn(2))
	for range c.Intn(4) {
		f.Kids = append(f.Kids, c.filter(deep-1))
	}
	return f
}

// request is a request by chance, most of which may be.
func (c chance) request() api.Request {
	r := api.Request{Id: 1 + c.number(), Kind: 1 + c.Intn(10), Name: c.text(30)}
	switch r.Kind {
	case api.Bind:
		r.Version, r.Method, r.Secret = 1+c.Intn(127), 3*c.Intn(2), c.text(9)
	case api.Unbind:
		r.Name = ""
	case api.Search:
		r.Scope, r.Most, r.Types, r.Filter = c.Intn(3), c.number(), c.yes(), c.filter(4)
		for range c.Intn(5) {
			r.Attrs = append(r.Attrs, []string{c.word(), "*", "1.1"}[c.Intn(3)])
		}
	case api.Modify:
		for range 1 + c.Intn(4) {
			r.Changes = append(r.Changes, api.Change{Kind: c.Intn(3), Values: c.values(c.Intn(2))})
		}
	case api.Add:
		for range 1 + c.Intn(4) {
			r.Values = append(r.Values, c.values(1))
		}
	case api.Rename:
		r.Rdn, r.Keep, r.HasAbove = c.text(9), c.yes(), c.yes()
		if r.HasAbove {
			r.Above = c.text(9)
		}
	case api.Compare:
		r.Pair = api.Pair{Name: c.word(), Value: c.text(9)}
	case api.Abandon:
		r.Name, r.Target = "", c.number()
	}
	return r
}

// spot is one of the elements within an element, or itself, by chance.
func (c chance) spot(e *api.Element) *api.Element {
	for len(e.Elements) > 0 && c.Intn(4) > 0 {
		e = &e.Elements[c.Intn(len(e.Elements))]
	}
	return e
}

// disturb changes something in an element that stays formed, by chance: of which the lists are its own.
func (c chance) disturb(e *api.Element) {
	at := c.spot(e)
	switch c.Intn(8) {
	case 0:
		at.Class = c.Intn(4)
	case 1:
		at.Number = c.Intn(24)
	case 2:
		at.Made, at.Contents, at.Elements = !at.Made, "", nil
	case 3:
		if !at.Made {
			at.Contents = c.text(2)
		}
	case 4:
		at.Contents = strings.ToUpper(at.Contents)
	case 5:
		slices.Reverse(at.Elements)
	case 6:
		at.Elements = at.Elements[:len(at.Elements)/2]
	case 7:
		if at.Made {
			at.Elements = append(at.Elements, leaf(0, 4, "a"))
		}
	}
}

// TestByChance: P26.1, P26.2, P26.3, P26.5, P26.6, requests by chance there and back, elements of them in which something was changed, and bytes of them of which one was.
func TestByChance(t *testing.T) {
	c := chance{rand.New(rand.NewSource(26))}
	may, read, not := 0, 0, 0
	for range 20000 {
		r := c.request()
		if !seeLaid(t, r) {
			continue
		}
		may++
		s, x := Encode(r)
		if x != api.OK {
			continue
		}
		e := element(t, s)
		for range 1 + c.Intn(2) {
			c.disturb(&e)
		}
		b := []byte(s)
		b[c.Intn(len(b))] ^= 1 << c.Intn(8)
		for _, odd := range []string{bytesOf(e), string(b)} {
			if seeBytes(t, odd) {
				read++
			} else {
				not++
			}
		}
	}
	if may < 10000 || read < 2000 || not < 5000 {
		t.Errorf("%d requests may be; %d elements were read, %d not: too few to tell anything", may, read, not)
	}
}

// roomyTexts is texts with room behind them, where something stands.
func roomyTexts(l []string) []string {
	return append(slices.Clone(l), "room", "more")[:len(l)]
}

// roomyValues is names with values, each list of which has room behind it.
func roomyValues(l []api.Values) []api.Values {
	var out []api.Values
	for _, v := range l {
		out = append(out, api.Values{Name: v.Name, Values: roomyTexts(v.Values)})
	}
	return append(out, named("room", "more"))[:len(l)]
}

// roomyFilter is a filter like this, each list of which has room behind it.
func roomyFilter(f api.Filter) api.Filter {
	var kids []api.Filter
	for _, k := range f.Kids {
		kids = append(kids, roomyFilter(k))
	}
	f.Kids = append(kids, presence("room"), presence("more"))[:len(kids)]
	f.Pieces.Any = roomyTexts(f.Pieces.Any)
	return f
}

// roomy is a request like this, each list of which has room behind it, where something stands.
func roomy(r api.Request) api.Request {
	var l []api.Change
	for _, c := range r.Changes {
		l = append(l, api.Change{Kind: c.Kind, Values: roomyValues([]api.Values{c.Values})[0]})
	}
	r.Changes = append(l, api.Change{Kind: 1, Values: named("room", "more")})[:len(l)]
	r.Attrs, r.Values, r.Filter = roomyTexts(r.Attrs), roomyValues(r.Values), roomyFilter(r.Filter)
	return r
}

// wholeFilter tells a filter with the room behind its lists.
func wholeFilter(f api.Filter) string {
	s := plainFilter(f) + fmt.Sprintf("%q", f.Pieces.Any[:cap(f.Pieces.Any)])
	for _, k := range f.Kids[:cap(f.Kids)] {
		s += wholeFilter(k)
	}
	return s
}

// whole tells a request with the room behind its lists.
func whole(r api.Request) string {
	s := plain(r) + wholeFilter(r.Filter) + fmt.Sprintf("%q", r.Attrs[:cap(r.Attrs)])
	for _, c := range r.Changes[:cap(r.Changes)] {
		s += fmt.Sprintf("%d %q %q", c.Kind, c.Values.Name, c.Values.Values[:cap(c.Values.Values)])
	}
	for _, v := range r.Values[:cap(r.Values)] {
		s += fmt.Sprintf("%q %q", v.Name, v.Values[:cap(v.Values)])
	}
	return s
}

// TestArguments: what comes in stays as it was, its spare room too, and the room is not read.
func TestArguments(t *testing.T) {
	l := slices.Clone(goods)
	for _, row := range rows {
		l = append(l, row.r)
	}
	// None of these may be.
	for _, r := range goods {
		for _, kind := range []int{0, 1, 3, 4, 5, 11} {
			r.Kind = kind
			l = append(l, r)
		}
	}
	for _, r := range l {
		q := roomy(r)
		before := whole(q)
		seeLaid(t, q)
		if !Same(q, r) || !Same(r, q) {
			t.Errorf("Same of %s and itself with room", plain(r))
		}
		if whole(q) != before {
			t.Errorf("%s was changed", before)
		}
	}
}

// spoilFilter overwrites all lists of a filter, their spare room too.
func spoilFilter(f api.Filter) {
	for i := range f.Pieces.Any[:cap(f.Pieces.Any)] {
		f.Pieces.Any[:cap(f.Pieces.Any)][i] = "spoiled"
	}
	for i := range f.Kids {
		spoilFilter(f.Kids[i])
	}
	for i := range f.Kids[:cap(f.Kids)] {
		f.Kids[:cap(f.Kids)][i] = presence("spoiled")
	}
}

// spoilTexts overwrites texts, their spare room too.
func spoilTexts(l []string) {
	for i := range l[:cap(l)] {
		l[:cap(l)][i] = "spoiled"
	}
}

// spoil overwrites all lists of a request, their spare room too.
func spoil(r api.Request) {
	spoilFilter(r.Filter)
	spoilTexts(r.Attrs)
	for i := range r.Changes[:cap(r.Changes)] {
		spoilTexts(r.Changes[:cap(r.Changes)][i].Values.Values)
		r.Changes[:cap(r.Changes)][i] = api.Change{Kind: 9}
	}
	for i := range r.Values[:cap(r.Values)] {
		spoilTexts(r.Values[:cap(r.Values)][i].Values)
		r.Values[:cap(r.Values)][i] = named("spoiled")
	}
}

// TestAnswers: what goes out is new memory, and so is each list in it; nothing that comes in is kept.
func TestAnswers(t *testing.T) {
	for _, r := range goods {
		q := roomy(r)
		s, _ := Encode(q)
		spoil(q)
		a, _ := Decode(s)
		b, _ := Decode(s)
		spoil(a)
		c, x := Decode(s)
		if plain(b) != plain(r) || plain(c) != plain(r) || x != api.OK {
			t.Errorf("%s: what was read shares its memory", plain(r))
		}
		if again, x := Encode(r); again != s || x != api.OK {
			t.Errorf("%s: what was laid is kept", plain(r))
		}
	}
	// Lists of one answer: each is spoiled by itself, with its room.
	v := named("a", "b", "c", "d")
	modify, _ := Encode(api.Request{Id: 1, Kind: api.Modify, Changes: changes(0, v, v, v)})
	add, _ := Encode(api.Request{Id: 1, Kind: api.Add, Values: []api.Values{v, v, v}})
	for i := range 3 {
		m, _ := Decode(modify)
		a, _ := Decode(add)
		spoilTexts(m.Changes[i].Values.Values)
		spoilTexts(a.Values[i].Values)
		for j := range 3 {
			if got := fmt.Sprint(m.Changes[j].Values, a.Values[j]); i != j && got != fmt.Sprint(v, v) {
				t.Errorf("two lists of one answer share their memory: %s", got)
			}
		}
	}
}

// TestEndless: P26.1, P26.2, filters that hold themselves, or are very deep, and very long lists: no request has them; and none that has them is one that has nothing.
func TestEndless(t *testing.T) {
	ring := make([]api.Filter, 3)
	for i := range ring {
		ring[i] = api.Filter{Kind: i % 2, Kids: ring}
	}
	one := make([]api.Filter, 1)
	one[0] = api.Filter{Kind: api.Not, Kids: one}
	long := slices.Repeat([]string{"a"}, 1<<20)
	for kind := -1; kind < 12; kind++ {
		for i, set := range []func(*api.Request){
			func(r *api.Request) { r.Filter = ring[0] }, func(r *api.Request) { r.Filter = ring[1] }, func(r *api.Request) { r.Filter = one[0] }, func(r *api.Request) { r.Filter = chain(1<<16, presence("cn")) }, func(r *api.Request) { r.Filter = joined(api.And, slices.Repeat([]api.Filter{presence("a")}, 1<<18)...) },
			func(r *api.Request) { r.Attrs = long }, func(r *api.Request) { r.Changes = changes(1, named("a", long...)) }, func(r *api.Request) { r.Values = []api.Values{named("a", long...)} },
			func(r *api.Request) { r.Changes = make([]api.Change, 1<<18) }, func(r *api.Request) { r.Values = make([]api.Values, 1<<18) },
			func(r *api.Request) { r.Name = text(1 << 24) }, func(r *api.Request) { r.Secret = text(1 << 24) }, func(r *api.Request) { r.Rdn = text(1 << 24) }, func(r *api.Request) { r.Above, r.HasAbove = text(1<<24), true }, func(r *api.Request) { r.Pair = api.Pair{Name: text(1 << 24)} }, func(r *api.Request) { r.Pair = api.Pair{Name: "a", Value: text(1 << 24)} },
		} {
			r := api.Request{Id: 1, Kind: kind, Name: "n", Version: 3}
			if kind == api.Modify {
				r.Changes = changes(1, named("a"))
			}
			set(&r)
			if s, x := Encode(r); s != "" || x != api.ErrWire || Check(r) != api.ErrWire {
				t.Errorf("Encode of Kind %d with what has no end %d: %d bytes %d", kind, i, len(s), int(x))
			}
			if Same(r, api.Request{Id: 1, Kind: kind, Name: "n", Version: 3}) {
				t.Errorf("Same of Kind %d with what has no end %d", kind, i)
			}
		}
	}
}

// TestManyAtOnce: what a call answers hangs on its arguments alone, whoever calls at the same time, and however often.
func TestManyAtOnce(t *testing.T) {
	var wait sync.WaitGroup
	for range 8 {
		wait.Go(func() {
			for range 20 {
				for _, row := range rows {
					s, x := Encode(row.r)
					r, y := Decode(s)
					if s != raw(row.bytes) || x != api.OK || y != api.OK || !Same(r, row.r) || Check(r) != api.OK {
						t.Errorf("%s: % x %s", row.bytes, s, plain(r))
						return
					}
				}
				for _, s := range none[:60] {
					if r, x := Decode(raw(s)); x != api.ErrWire || plain(r) != nothing {
						t.Errorf("%s: %s %d", s, plain(r), int(x))
						return
					}
				}
			}
		})
	}
	wait.Wait()
}
