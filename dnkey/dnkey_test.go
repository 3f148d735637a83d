package dnkey

import (
	"fmt"
	"math/rand"
	"reflect"
	"slices"
	"sort"
	"strings"
	"sync"
	"testing"

	"toponym/api"
	"toponym/attrs"
	"toponym/dn"
	"toponym/rules"
)

// told is what is told of a text: its beginning, and its length.
func told(s string) string {
	return fmt.Sprintf("%q (%d bytes)", s[:min(len(s), 60)], len(s))
}

// points writes a key as the chapter's example does: with points for bytes 0.
func points(s string) string { return strings.ReplaceAll(s, ".", "\x00") }

// allTexts is all texts of at most so many bytes out of some, rising.
func allTexts(bytes string, most int) []string {
	all := []string{""}
	for from, size := 0, 1; size <= most; size++ {
		upTo := len(all)
		for _, s := range all[from:upTo] {
			for i := range len(bytes) {
				all = append(all, s+bytes[i:i+1])
			}
		}
		from = upTo
	}
	slices.Sort(all)
	return all
}

// allKeys is those of allTexts that are keys.
func allKeys(bytes string, most int) []string {
	return slices.DeleteFunc(allTexts(bytes, most), func(s string) bool { _, ok := modelParts(s); return !ok })
}

// modelParts is the parts of a key, without the bytes 0 that end them, and whether it is one: written anew out of the chapter's words.
func modelParts(s string) ([]string, bool) {
	if s == "" {
		return nil, true
	}
	if s[0] == 0 || s[len(s)-1] != 0 || strings.Contains(s, "\x00\x00") {
		return nil, false
	}
	return strings.Split(s[:len(s)-1], "\x00"), true
}

// joined is the key of some parts.
func joined(parts []string) string {
	if len(parts) == 0 {
		return ""
	}
	return strings.Join(parts, "\x00") + "\x00"
}

// modelUnder is whether both are keys, and the first parts of the one are those of the other; and how many more it has.
func modelUnder(a, b string) (bool, int) {
	p, ok := modelParts(a)
	q, too := modelParts(b)
	if !ok || !too || len(p) < len(q) || !slices.Equal(p[:len(q)], q) {
		return false, 0
	}
	return true, len(p) - len(q)
}

// seeAlone looks that Check, Depth, Above and Behind of a text are what the chapter says.
func seeAlone(t *testing.T, s string) {
	t.Helper()
	parts, ok := modelParts(s)
	e, depth, up, has, behind := api.OK, len(parts), "", false, "\xff"
	if !ok {
		e, depth = api.ErrName, -1
	}
	if len(parts) > 0 {
		up, has, behind = joined(parts[:len(parts)-1]), true, joined(parts[:len(parts)-1])+parts[len(parts)-1]+"\x01"
	}
	seeRow(t, s, e, depth, up, has, behind)
}

// seeRow looks that Check, Depth, Above and Behind of a text are these.
func seeRow(t *testing.T, s string, e api.Errno, depth int, up string, has bool, behind string) {
	t.Helper()
	if x := Check(s); x != e {
		t.Errorf("Check of %s: %d, not %d", told(s), int(x), int(e))
	}
	if d := Depth(s); d != depth {
		t.Errorf("Depth of %s: %d, not %d", told(s), d, depth)
	}
	if u, ok := Above(s); u != up || ok != has {
		t.Errorf("Above of %s: %s %t, not %s %t", told(s), told(u), ok, told(up), has)
	}
	if b := Behind(s); b != behind {
		t.Errorf("Behind of %s: %s, not %s", told(s), told(b), told(behind))
	}
}

// seeTwo looks that Under and Next of two texts are these.
func seeTwo(t *testing.T, a, b string, under, next bool) {
	t.Helper()
	if u := Under(a, b); u != under {
		t.Errorf("Under of %s and %s: %t", told(a), told(b), u)
	}
	if n := Next(a, b); n != next {
		t.Errorf("Next of %s and %s: %t", told(a), told(b), n)
	}
}

// seeMove looks that Move of three texts is this, or this error.
func seeMove(t *testing.T, key, from, to, want string, e api.Errno) {
	t.Helper()
	if k, x := Move(key, from, to); k != want || x != e {
		t.Errorf("Move of %s from %s to %s: %s %d, not %s %d", told(key), told(from), told(to), told(k), int(x), told(want), int(e))
	}
}

// noKeys is texts that are no keys, each by the words of the chapter.
var noKeys = []string{
	"\x00", "\x00\x00", "\x00a\x00", "\x00\x00a\x00", "a\x00\x00", "a\x00\x00b\x00", "a\x00b\x00\x00", "a\x00\x00\x00",
	"a", "ab", "a\x00b", "a\x00b\x00c", "\x01", "a\x01", "a\x00\x01", "\xff", "a\xff", "a\x00\xff", "\xff\x00\xff", " ", "0", "a0", "a\x00 ",
	strings.Repeat("a", 100000), strings.Repeat("\x00", 100000), strings.Repeat("a\x00", 100000) + "\x00", strings.Repeat("a\x00", 100000) + "a",
}

// TestAlone: P23.1, P23.3, P23.5, rows written by hand: the empty key, keys of one part, of two, of many; what is no key.
func TestAlone(t *testing.T) {
	seeRow(t, "", api.OK, 0, "", false, "\xff")
	for _, s := range noKeys {
		seeRow(t, s, api.ErrName, -1, "", false, "\xff")
		seeAlone(t, s)
	}
	many := strings.Repeat("b\x00", 100000)
	long := strings.Repeat("b", 200000)
	for _, row := range []struct {
		key    string
		depth  int
		up     string
		behind string
	}{
		{"a\x00", 1, "", "a\x01"},
		{"abc\x00", 1, "", "abc\x01"},
		{"\x01\x00", 1, "", "\x01\x01"},
		{"\x02\x01\x03\x00", 1, "", "\x02\x01\x03\x01"},
		{"\xff\x00", 1, "", "\xff\x01"},
		{"\xffa\x00", 1, "", "\xffa\x01"},
		{"a\xff\x00", 1, "", "a\xff\x01"},
		{"a\xffb\x00", 1, "", "a\xffb\x01"},
		{"\xff\xff\xff\x00", 1, "", "\xff\xff\xff\x01"},
		{"a\x00b\x00", 2, "a\x00", "a\x00b\x01"},
		{"a\x00a\x00", 2, "a\x00", "a\x00a\x01"},
		{"ab\x00ab\x00", 2, "ab\x00", "ab\x00ab\x01"},
		{"ba\x00a\x00", 2, "ba\x00", "ba\x00a\x01"},
		{"a\x00\x01\x00", 2, "a\x00", "a\x00\x01\x01"},
		{"a\x00\xff\x00", 2, "a\x00", "a\x00\xff\x01"},
		{"\xff\x00a\x00", 2, "\xff\x00", "\xff\x00a\x01"},
		{"a\xff\x00\xffb\x00", 2, "a\xff\x00", "a\xff\x00\xffb\x01"},
		{"a\x00b\x00c\x00", 3, "a\x00b\x00", "a\x00b\x00c\x01"},
		{"o= b \x00cn= a \x00", 2, "o= b \x00", "o= b \x00cn= a \x01"},
		{"1\x002\x003\x004\x005\x006\x00", 6, "1\x002\x003\x004\x005\x00", "1\x002\x003\x004\x005\x006\x01"},
		{"1\x002\x003\x004\x005\x006\x007\x00", 7, "1\x002\x003\x004\x005\x006\x00", "1\x002\x003\x004\x005\x006\x007\x01"},
		{many, 100000, many[2:], many[:len(many)-1] + "\x01"},
		{long + "\x00", 1, "", long + "\x01"},
		{long + "\x00a\x00" + long + "\x00", 3, long + "\x00a\x00", long + "\x00a\x00" + long + "\x01"},
	} {
		seeRow(t, row.key, api.OK, row.depth, row.up, true, row.behind)
		seeAlone(t, row.key)
	}
}

// TestAllAlone: P23.1, P23.3, P23.5, all short texts out of the bytes that matter, and each byte in each place of a key.
func TestAllAlone(t *testing.T) {
	for _, s := range append(allTexts("\x00\x01a\xff", 7), allTexts("\x00a", 14)...) {
		seeAlone(t, s)
	}
	for b := range 256 {
		c := string([]byte{byte(b)})
		for _, key := range []string{"", "a\x00", "ab\x00c\x00", "ab\x00c\x00def\x00"} {
			for at := range len(key) + 1 {
				seeAlone(t, key[:at]+c+key[at:])
				seeAlone(t, key[:at]+c+c+key[at:])
				if at < len(key) {
					seeAlone(t, key[:at]+c+key[at+1:])
				}
			}
		}
	}
}

// TestUnderAndNext: P23.3, rows written by hand.
func TestUnderAndNext(t *testing.T) {
	many := strings.Repeat("a\x00", 50000)
	for _, row := range []struct {
		a, b        string
		under, next bool
	}{
		// A key and itself, with the empty one too.
		{"", "", true, false},
		{"a.", "a.", true, false},
		{"a.b.", "a.b.", true, false},
		// By one part, by two, by many.
		{"a.", "", true, true},
		{"a.b.", "", true, false},
		{"a.b.", "a.", true, true},
		{"a.b.c.", "a.", true, false},
		{"a.b.c.", "a.b.", true, true},
		{"a.a.", "a.", true, true},
		{"a.a.a.", "a.a.", true, true},
		{"1.2.3.4.5.6.", "1.2.", true, false},
		{"\xff.", "", true, true},
		{"a.\xff.", "a.", true, true},
		{"\xff.\xff.", "\xff.", true, true},
		{many, "a.", true, false},
		{many + "a.", many, true, true},
		{many + "a.a.", many, true, false},
		// The other way round.
		{"", "a.", false, false},
		{"a.", "a.b.", false, false},
		{many, many + "a.", false, false},
		// Just a beginning of a part is the same.
		{"ab.", "a.", false, false},
		{"ab.c.", "a.", false, false},
		{"a.bc.", "a.b.", false, false},
		{"a.bc.d.", "a.b.", false, false},
		{"a\xff.", "a.", false, false},
		{"a\x01.", "a.", false, false},
		// Another part, or the same ones elsewhere.
		{"a.b.", "b.", false, false},
		{"b.a.", "a.", false, false},
		{"a.b.", "a.c.", false, false},
		{"a.b.c.", "a.c.", false, false},
		{"b.", "a.", false, false},
		// What is no key, on either side and on both.
		{"a", "", false, false},
		{"a", "a", false, false},
		{"a.b", "a.", false, false},
		{"a..", "a.", false, false},
		{"a..b.", "a.", false, false},
		{"a.b..", "a.b.", false, false},
		{"ab.", "a", false, false},
		{"a.", "a", false, false},
		{"a.b.", "a.b", false, false},
		{"a.b.", ".", false, false},
		{".a.", ".", false, false},
		{".a.", "", false, false},
		{".", "", false, false},
		{".", ".", false, false},
		{"..", ".", false, false},
		{"a..b.", "a..", false, false},
		{"\xff", "", false, false},
		{"\xff\x00", "\xff", false, false},
		{many + "a", many, false, false},
		{many + ".", many, false, false},
	} {
		a, b := points(row.a), points(row.b)
		seeTwo(t, a, b, row.under, row.next)
		if under, more := modelUnder(a, b); under != row.under || (more == 1) != row.next {
			t.Errorf("the model of %s and %s: %t %d", told(a), told(b), under, more)
		}
	}
	for _, s := range noKeys {
		for _, key := range []string{"", "a\x00", "a\x00b\x00", s} {
			seeTwo(t, s, key, false, false)
			seeTwo(t, key, s, false, false)
			seeTwo(t, key+s, key, false, false)
		}
	}
}

// TestAllTwo: P23.3, each two of all short texts out of the bytes that matter.
func TestAllTwo(t *testing.T) {
	texts := append(allTexts("\x00\x01a\xff", 3), allTexts("\x00ab", 5)...)
	texts = append(texts, allKeys("\x00a", 8)...)
	for _, a := range texts {
		for _, b := range texts {
			under, more := modelUnder(a, b)
			seeTwo(t, a, b, under, more == 1)
		}
		if t.Failed() {
			t.FailNow()
		}
	}
}

// TestMove: P23.4, rows written by hand, with the chapter's example.
func TestMove(t *testing.T) {
	many := strings.Repeat("a\x00", 50000)
	for _, row := range []struct {
		key, from, to, want string
	}{
		{"o=a.cn=b.", "o=a.", "o=c.", "o=c.cn=b."},
		{"o=a.", "o=a.", "o=c.", "o=c."},
		{"a.b.", "", "c.", "c.a.b."},
		{"a.b.", "a.", "", "b."},
		{"a.b.", "a.b.", "", ""},
		{"a.b.", "", "", "a.b."},
		{"", "", "", ""},
		{"", "", "a.", "a."},
		{"", "", "a.b.", "a.b."},
		{"a.b.c.", "a.", "a.b.", "a.b.b.c."},
		{"a.b.c.", "a.b.", "a.", "a.c."},
		{"a.b.c.", "a.b.", "a.b.", "a.b.c."},
		{"a.b.c.", "a.b.", "x.y.z.", "x.y.z.c."},
		{"a.a.a.", "a.", "b.", "b.a.a."},
		{"a.a.", "a.a.", "a.", "a."},
		{"\xff.a.", "\xff.", "\x01.", "\x01.a."},
		{"a.\xff.", "a.", "\xff\xff.", "\xff\xff.\xff."},
		{"1.2.3.4.5.6.", "", "1.2.3.4.5.6.", "1.2.3.4.5.6.1.2.3.4.5.6."},
		{many, "a.", "b.", "b." + many[2:]},
		{many, many, "b.", "b."},
		{many, "", many, many + many},
	} {
		seeMove(t, points(row.key), points(row.from), points(row.to), points(row.want), api.OK)
	}
	// Keys that are not Under from.
	for _, row := range [][2]string{{"", "a."}, {"a.", "b."}, {"a.", "a.b."}, {"ab.", "a."}, {"a.bc.", "a.b."}, {"b.a.", "a."}, {"a.b.c.", "a.c."}, {many, many + "a."}} {
		for _, to := range []string{"", "a.", "b.", "a.b.", row[0], row[1]} {
			seeMove(t, points(row[0]), points(row[1]), points(to), "", api.ErrName)
		}
	}
	// Each of the three no key, and two of them, and all.
	for _, s := range noKeys {
		for _, key := range []string{"", "a\x00", "a\x00b\x00"} {
			for _, row := range [][3]string{{s, key, key}, {key, s, key}, {key, key, s}, {key, "", s}, {s, s, key}, {s, key, s}, {key, s, s}, {s, s, s}, {key + s, key, key}, {s, "", ""}} {
				seeMove(t, row[0], row[1], row[2], "", api.ErrName)
			}
		}
	}
}

// TestAllMoves: P23.4, each three of all short texts out of the bytes that matter.
func TestAllMoves(t *testing.T) {
	texts := append(allTexts("\x00a\xff", 3), allKeys("\x00ab", 5)...)
	for _, key := range texts {
		for _, from := range texts {
			for _, to := range texts {
				want, e := "", api.ErrName
				under, more := modelUnder(key, from)
				if l, ok := modelParts(to); ok && under {
					parts, _ := modelParts(key)
					want, e = joined(l)+joined(parts[len(parts)-more:]), api.OK
				}
				seeMove(t, key, from, to, want, e)
			}
		}
		if t.Failed() {
			t.FailNow()
		}
	}
}

// TestBehind: P23.5, what stands just ahead of Behind, and just behind it, by the order of texts.
func TestBehind(t *testing.T) {
	ff := strings.Repeat("\xff", 1000)
	for _, key := range []string{"a\x00", "a\x00b\x00", "\x01\x00", "\xff\x00", "a\xff\x00", "a\x00\xff\x00", ff + "\x00", "o= b \x00cn= a \x00"} {
		behind := Behind(key)
		bare := key[:len(key)-1]
		for _, below := range []string{key, key + "\x01\x00", key + "a\x00", key + "\xff\x00", key + ff + "\x00", key + ff + "\x00" + ff + "\x00"} {
			if below >= behind || !Under(below, key) {
				t.Errorf("%s is not ahead of %s, or not Under %s", told(below), told(behind), told(key))
			}
		}
		for _, other := range []string{bare + "\x01\x00", bare + "\x01\x01\x00", bare + "\x01a\x00", bare + "\x02\x00", bare + "a\x00", bare + "\xff\x00", bare + ff + "\x00"} {
			if other <= behind || other <= key || Under(other, key) || Check(other) != api.OK {
				t.Errorf("%s is not behind %s, or Under %s", told(other), told(behind), told(key))
			}
		}
		// No key is Behind itself: nothing hangs on whether that one is taken in.
		if Check(behind) != api.ErrName {
			t.Errorf("%s, Behind of %s, is a key", told(behind), told(key))
		}
	}
	for _, key := range []string{"a\x00", "\x01\x00", "\xfe\x00", "\xfe" + ff + "\x00", strings.Repeat("\xfe", 1000) + "\x00" + ff + "\x00"} {
		if key >= Behind("") || !Under(key, "") {
			t.Errorf("%s is not ahead of Behind of the empty key", told(key))
		}
	}
	// The chapter's words leave these out: of the empty key alone they are Under, and not ahead of Behind.
	for _, key := range []string{"\xff\x00", "\xffa\x00", ff + "\x00"} {
		if key <= Behind("") || !Under(key, "") {
			t.Errorf("%s is ahead of Behind of the empty key", told(key))
		}
	}
}

// TestOrder: P23.5, P23.6, all short keys, rising: those Under one of them are just those from it on, up to Behind it, so that all between two of which one is Under the other are Under that, too.
func TestOrder(t *testing.T) {
	for _, keys := range [][]string{allKeys("\x00\x01a\xff", 5), allKeys("\x00ab", 7), allKeys("\x00\x01\x02\xfe\xff", 4), allKeys("\x00a", 12)} {
		for i, key := range keys {
			from := sort.SearchStrings(keys, key)
			upTo := sort.SearchStrings(keys, Behind(key))
			if from != i || upTo <= i {
				t.Fatalf("%q stands at %d, Behind it at %d", key, from, upTo)
			}
			for j, other := range keys {
				want := i <= j && j < upTo || key == "" && other[0] == 0xff
				if Under(other, key) != want {
					t.Fatalf("Under of %q and %q: %t; Behind is %q", other, key, !want, Behind(key))
				}
			}
		}
	}
}

// TestBetween: P23.6, a key that is Under another one is not ahead of it, and all keys between are Under it, too.
func TestBetween(t *testing.T) {
	keys := allKeys("\x00\x01ab\xff", 4)
	for i, low := range keys {
		for j, high := range keys {
			if !Under(high, low) {
				continue
			}
			if j < i {
				t.Fatalf("%q is Under %q, and ahead of it", high, low)
			}
			for _, between := range keys[i : j+1] {
				if !Under(between, low) {
					t.Fatalf("%q, between %q and %q, is not Under %q", between, low, high, low)
				}
			}
		}
	}
}

// TestLines: P23.3, P23.6, a key is Under itself, all that is Above it, and Above that, and under no others.
func TestLines(t *testing.T) {
	keys := allKeys("\x00ab", 7)
	for _, key := range keys {
		line := map[string]int{key: 0}
		steps := 0
		for up, ok := Above(key); ok && steps <= len(key); up, ok = Above(up) {
			steps++
			line[up] = steps
			if Depth(up) != Depth(key)-steps {
				t.Errorf("Depth of %q, %d above %q: %d", up, steps, key, Depth(up))
			}
		}
		if _, ok := line[""]; !ok || steps != Depth(key) {
			t.Errorf("%q goes up by %d steps", key, steps)
		}
		for _, other := range keys {
			at, ok := line[other]
			seeTwo(t, key, other, ok, at == 1)
		}
		if t.Failed() {
			t.FailNow()
		}
	}
}

// TestThereAndBack: P23.7, what is moved there and back is what it was; what is Under, is moved to be Under, and what is not, is not.
func TestThereAndBack(t *testing.T) {
	keys := allKeys("\x00ab\xff", 4)
	for _, from := range keys {
		below := slices.DeleteFunc(slices.Clone(keys), func(key string) bool { return !Under(key, from) })
		for _, to := range keys {
			var moved []string
			for _, key := range below {
				there, e := Move(key, from, to)
				if e != api.OK || !Under(there, to) || Depth(there)-Depth(to) != Depth(key)-Depth(from) {
					t.Fatalf("%q from %q to %q: %q %d", key, from, to, there, int(e))
				}
				if back, e := Move(there, to, from); back != key || e != api.OK {
					t.Fatalf("%q from %q to %q and back: %q, then %q %d", key, from, to, there, back, int(e))
				}
				moved = append(moved, there)
			}
			for i, a := range below {
				for j, b := range below {
					if Under(moved[i], moved[j]) != Under(a, b) || Next(moved[i], moved[j]) != Next(a, b) {
						t.Fatalf("%q and %q from %q to %q: %q and %q", a, b, from, to, moved[i], moved[j])
					}
				}
			}
		}
	}
}

// theSchema is types by some of the rules; memo has none.
func theSchema() api.Schema {
	return api.Schema{Attrs: []api.Attr{
		{Name: "age", Syntax: api.SyntaxInteger, Rule: api.RuleInteger},
		{Name: "cn", Above: "name", Syntax: api.SyntaxText, Rule: api.RuleFold},
		{Name: "memo", Syntax: api.SyntaxText},
		{Name: "name", Syntax: api.SyntaxText, Rule: api.RuleExact},
		{Name: "o", Syntax: api.SyntaxText, Rule: api.RuleFold},
		{Name: "raw", Syntax: api.SyntaxOctets, Rule: api.RuleOctets},
		{Name: "ref", Syntax: api.SyntaxName, Rule: api.RuleName},
	}}
}

// wrongSchemas is schemas whose types may not be.
func wrongSchemas() []api.Schema {
	many := make([]api.Attr, api.MaxTypes+1)
	for i := range many {
		many[i] = api.Attr{Name: fmt.Sprintf("t%02d", i), Syntax: api.SyntaxText, Rule: api.RuleFold}
	}
	return []api.Schema{
		{Attrs: []api.Attr{{Name: "o", Syntax: 1, Rule: 2}, {Name: "cn", Syntax: 1, Rule: 2}}},
		{Attrs: []api.Attr{{Name: "cn", Syntax: 1, Rule: 2}, {Name: "cn", Syntax: 1, Rule: 2}}},
		{Attrs: []api.Attr{{Name: "cn", Syntax: 1, Rule: 3}}},
		{Attrs: []api.Attr{{Name: "CN", Syntax: 1, Rule: 2}}},
		{Attrs: []api.Attr{{Name: "cn", Above: "cn", Syntax: 1, Rule: 2}}},
		{Attrs: []api.Attr{{Name: "cn", Above: "x", Syntax: 1, Rule: 2}}},
		{Attrs: many},
	}
}

// seeText looks that a text has this key, or this error, and that the schema stays as it was, its spare room too.
func seeText(t *testing.T, s api.Schema, text, want string, e api.Errno) {
	t.Helper()
	spare := api.Attr{Name: "spare", Above: "room"}
	was := append(slices.Clone(s.Attrs), spare, spare)
	given := slices.Clone(was)
	if k, x := Text(api.Schema{Attrs: given[:len(s.Attrs)], Classes: s.Classes}, text); k != want || x != e {
		t.Errorf("Text of %s: %s %d, not %s %d", told(text), told(k), int(x), told(want), int(e))
	}
	if !slices.Equal(given, was) {
		t.Errorf("Text of %s has changed the schema to %v", told(text), given)
	}
}

// TestText: P23.2, texts that dn's Parse reads, rows written by hand.
func TestText(t *testing.T) {
	s := theSchema()
	for _, row := range []struct{ text, key string }{
		{"", ""},
		{"cn=A", "cn= a \x00"},
		{"CN=A", "cn= a \x00"},
		{"cn=a,o=B", "o= b \x00cn= a \x00"},
		{"cn=a,o=x  Y", "o= x  y \x00cn= a \x00"},
		{"name=A,cn=A", "cn= a \x00name= A \x00"},
		{"cn=\uff21", "cn= a \x00"},
		{`cn=\ef\bc\a1`, "cn= a \x00"},
		{"age=-1", "age=0999999999999999999\x00"},
		{"o=b+cn=a", "cn= a \x02o= b \x00"},
		{"cn=a+o=b", "cn= a \x02o= b \x00"},
		{"o=b+age=1+cn=a", "age=1000000000000000001\x02cn= a \x02o= b \x00"},
		{`cn=a\,b`, "cn= a,b \x00"},
		{`raw=\00`, "raw=\x01\x03\x00"},
		{`raw=\01\02\03`, "raw=\x01\x04\x01\x05\x03\x00"},
		{`raw=a\00raw\=a\00`, "raw=a\x01\x03raw=a\x01\x03\x00"},
		{"raw=\x00", "raw=\x01\x03\x00"},
		{"raw=\xff,o=b", "o= b \x00raw=\xff\x00"},
		{`ref=cn\=A\,o\=B`, "ref=o= b \x01\x03cn= a \x01\x03\x00"},
		{`ref=cn\=a\+o\=b,o=c`, "o= c \x00ref=cn= a \x01\x05o= b \x01\x03\x00"},
		{"o=1,o=2,o=3,o=4,o=5,o=6", "o= 6 \x00o= 5 \x00o= 4 \x00o= 3 \x00o= 2 \x00o= 1 \x00"},
		{"o=a,o=a", "o= a \x00o= a \x00"},
		{"raw=" + strings.Repeat("a", 400), "raw=" + strings.Repeat("a", 400) + "\x00"},
		{"raw=" + strings.Repeat(`\00`, 400), "raw=" + strings.Repeat("\x01\x03", 400) + "\x00"},
	} {
		seeText(t, s, row.text, row.key, api.OK)
		if e := Check(row.key); e != api.OK {
			t.Errorf("the key of %s: %d", told(row.text), int(e))
		}
	}
	seeText(t, api.Schema{}, "", "", api.OK)
}

// TestTextErrors: P23.2, dn's Parse's errors, ahead of each of NameKey's.
func TestTextErrors(t *testing.T) {
	s := theSchema()
	for _, text := range []string{"cn", "cn=", "=a", "=", ",", "cn=a,", ",cn=a", "cn=a,,o=b", "cn=a+", "cn= a", "cn=a ", "cn=#a", "cn=a=b", "cn=a;o=b", `cn=\`, `cn=\4`, `cn=\zz`, "c n=a", "1cn=a", "\xff=a", "cn =a", " ", "\x00", "cn= a \x00", strings.Repeat("a", 17) + "=a", "raw=" + strings.Repeat("a", 401), "cn=a+o=a+age=1+raw=a", "o=1,o=2,o=3,o=4,o=5,o=6,o=7"} {
		if _, e := dn.Parse(text); e != api.ErrName {
			t.Fatalf("dn's Parse of %s: %d", told(text), int(e))
		}
		for _, m := range append(wrongSchemas(), s, api.Schema{}) {
			seeText(t, m, text, "", api.ErrName)
		}
	}
	for _, text := range []string{strings.Repeat("a", 3001), strings.Repeat("o=a,", 800), strings.Repeat("\x00", 1000000), "raw=" + strings.Repeat(`\00`, 999)} {
		for _, m := range append(wrongSchemas(), s, api.Schema{}) {
			seeText(t, m, text, "", api.ErrBig)
		}
	}
	seeText(t, s, strings.Repeat("a", 3000), "", api.ErrName)
	// Types that may not be are told of each name that is read, of the empty one too.
	for _, m := range wrongSchemas() {
		for _, text := range []string{"", "cn=a", "cn=a,o=b", "zz=a", "cn=a+cn=b", "t00=a", "o=\xff"} {
			seeText(t, m, text, "", api.ErrAttr)
		}
	}
	for _, row := range []struct {
		text string
		e    api.Errno
	}{
		{"zz=a", api.ErrAttr},
		{"zz=a,o=b", api.ErrAttr},
		{"o=b,zz=a", api.ErrAttr},
		{"spare=a", api.ErrAttr},
		{"cn=a+cn=b", api.ErrName},
		{"cn=a+CN=a,o=b", api.ErrName},
		{"memo=a", api.ErrRule},
		{"o=b,memo=a", api.ErrRule},
		{"age=x", api.ErrSyntax},
		{"age=01,o=b", api.ErrSyntax},
		{"ref=zz", api.ErrSyntax},
		{`ref=zz\=a`, api.ErrAttr},
		{`ref=memo\=a`, api.ErrRule},
		{`ref=o\=a\+o\=b`, api.ErrName},
		{"cn=\xff", api.ErrUTF},
		{`cn=\ff,o=b`, api.ErrUTF},
		{"cn=\ue000", api.ErrChar},
		{"o=a,cn=\u0370", api.ErrChar},
		// The first one is that of the highest part.
		{"age=x,zz=a", api.ErrAttr},
		{"zz=a,age=x", api.ErrSyntax},
		{"cn=\xff,memo=a", api.ErrRule},
		{"memo=a,cn=\xff", api.ErrUTF},
	} {
		seeText(t, s, row.text, "", row.e)
	}
	seeText(t, api.Schema{}, "cn=a", "", api.ErrAttr)
}

// someName is a name by chance, of at most so many parts; now and then one that has an error.
func someName(source *rand.Rand, most int) api.Name {
	pairs := []api.Pair{{Name: "age", Value: "-1"}, {Name: "age", Value: "7"}, {Name: "cn", Value: "a"}, {Name: "cn", Value: " A, B "}, {Name: "cn", Value: "E\u0301"}, {Name: "name", Value: "#a"}, {Name: "o", Value: "a"}, {Name: "o", Value: "ab"}, {Name: "raw", Value: "\x00"}, {Name: "raw", Value: "\x01\x02"}, {Name: "raw", Value: "\xff"}, {Name: "raw", Value: "a\x00b"}, {Name: "ref", Value: "cn=a,o=b"}}
	if source.Intn(10) == 0 {
		pairs = append(pairs, api.Pair{Name: "memo", Value: "a"}, api.Pair{Name: "zz", Value: "a"}, api.Pair{Name: "age", Value: "x"}, api.Pair{Name: "cn", Value: "\xff"}, api.Pair{Name: "ref", Value: "a"})
	}
	var n api.Name
	for range source.Intn(most + 1) {
		r := api.Rdn{pairs[source.Intn(len(pairs))]}
		if p := pairs[source.Intn(len(pairs))]; p.Name != r[0].Name || source.Intn(30) == 0 {
			r = append(r, p)
		}
		n = append(n, r)
	}
	return n
}

// TestNames: P23.2, P23.3, P23.4, names by chance: Text is rules' NameKey, or its error; the key above is that of the name above, and a name is moved as its parts are.
func TestNames(t *testing.T) {
	s, was := theSchema(), theSchema()
	if e := attrs.Check(s.Attrs); e != api.OK {
		t.Fatal(int(e))
	}
	source := rand.New(rand.NewSource(23))
	right := 0
	for range 5000 {
		n := someName(source, api.MaxRdns)
		text, e := dn.Show(n)
		if e != api.OK {
			t.Fatalf("%q: %d", n, int(e))
		}
		want, e := rules.NameKey(s, n)
		seeText(t, s, text, want, e)
		if e != api.OK {
			continue
		}
		right++
		if Depth(want) != len(n) {
			t.Errorf("Depth of the key of %q: %d", n, Depth(want))
		}
		high, _ := dn.Above(n)
		up, e := rules.NameKey(s, high)
		if k, ok := Above(want); k != up || ok != (len(n) > 0) || e != api.OK || Next(want, up) != ok {
			t.Errorf("above %q: %q %t, not %q", n, k, ok, up)
		}
		low := n[:source.Intn(len(n)+1)]
		other := someName(source, api.MaxRdns-len(low))
		from, _ := rules.NameKey(s, n[len(low):])
		if to, e := rules.NameKey(s, other); e == api.OK {
			there, _ := rules.NameKey(s, append(slices.Clone(low), other...))
			seeMove(t, want, from, to, there, api.OK)
		}
		if t.Failed() {
			t.FailNow()
		}
	}
	if right < 3000 || !reflect.DeepEqual(s, was) {
		t.Errorf("%d names that may be; the schema is %v", right, s)
	}
}

// TestManyAtOnce: what is answered hangs on nothing that another call could change.
func TestManyAtOnce(t *testing.T) {
	s := theSchema()
	var all sync.WaitGroup
	for range 8 {
		all.Go(func() {
			for range 100 {
				if k, e := Text(s, "cn=a+age=1,o=b"); k != "o= b \x00age=1000000000000000001\x02cn= a \x00" || e != api.OK {
					t.Errorf("Text: %q %d", k, int(e))
				}
				if k, e := Move("a\x00b\x00c\x00", "a\x00b\x00", "d\x00"); k != "d\x00c\x00" || e != api.OK {
					t.Errorf("Move: %q %d", k, int(e))
				}
				if Depth("a\x00b\x00") != 2 || !Next("a\x00b\x00", "a\x00") || Check("a") != api.ErrName {
					t.Errorf("Depth, Next or Check")
				}
			}
		})
	}
	all.Wait()
}
