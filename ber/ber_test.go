package ber

import (
	"encoding/asn1"
	"encoding/hex"
	"fmt"
	"math"
	"math/rand"
	"slices"
	"strings"
	"testing"

	"toponym/api"
)

// leaf is an element that is not Made.
func leaf(class, number int, contents string) api.Element {
	return api.Element{Class: class, Number: number, Contents: contents}
}

// group is an element that is Made.
func group(class, number int, l ...api.Element) api.Element {
	return api.Element{Class: class, Made: true, Number: number, Elements: l}
}

// xs is a text of so many bytes.
func xs(n int) string { return strings.Repeat("x", n) }

// tower is an element that is so deep: in each one another, the lowest as given.
func tower(deep int, lowest api.Element) api.Element {
	for range deep - 1 {
		lowest = group(0, 16, lowest)
	}
	return lowest
}

// raw reads bytes that are written to the base 16, with blanks between.
func raw(s string) string {
	b, err := hex.DecodeString(strings.ReplaceAll(s, " ", ""))
	if err != nil {
		panic(err)
	}
	return string(b)
}

// rings is an element that holds itself, with others that do so, too.
func rings(wide int) api.Element {
	l := make([]api.Element, wide)
	for i := range l {
		l[i] = group(0, 16, l...)
	}
	return l[0]
}

// same tells whether two elements have the same in all of their fields; lists without an element are the same.
func same(a, b api.Element) bool {
	return a.Class == b.Class && a.Made == b.Made && a.Number == b.Number && a.Contents == b.Contents && slices.EqualFunc(a.Elements, b.Elements, same)
}

// zero tells whether an element is the zero value.
func zero(e api.Element) bool { return same(e, api.Element{}) }

// cut is a text, cut short for being told.
func cut(s string) string {
	if len(s) > 40 {
		return hex.EncodeToString([]byte(s[:40])) + ".."
	}
	return hex.EncodeToString([]byte(s))
}

// told is what is told of elements: the beginning of their fields.
func told(l ...api.Element) string {
	s := fmt.Sprintf("%#v", l)
	return s[:min(len(s), 300)]
}

func seeCheck(t *testing.T, e api.Element, want api.Errno) {
	t.Helper()
	if got := Check(e); got != want {
		t.Errorf("Check of an element of Class %d, Number %d, Made %t, with %d bytes and %d elements: %d, not %d", e.Class, e.Number, e.Made, len(e.Contents), len(e.Elements), int(got), int(want))
	}
}

func seeEncode(t *testing.T, want string, x api.Errno, l ...api.Element) {
	t.Helper()
	if got, gotX := Encode(l...); got != want || gotX != x {
		t.Errorf("Encode of %d: %s (%d bytes) %d, not %s (%d bytes) %d", len(l), cut(got), len(got), int(gotX), cut(want), len(want), int(x))
	}
}

func seeDecode(t *testing.T, s string, at int, want api.Element, behind int, x api.Errno) {
	t.Helper()
	if got, gotBehind, gotX := Decode(s, at); !same(got, want) || gotBehind != behind || gotX != x {
		t.Errorf("Decode of %s at %d: %s %d %d, not %s %d %d", cut(s), at, told(got), gotBehind, int(gotX), told(want), behind, int(x))
	}
}

// seeNone looks for an error of a whole text, alone and with others around it.
func seeNone(t *testing.T, s string, x api.Errno) {
	t.Helper()
	seeDecode(t, s, 0, api.Element{}, 0, x)
	seeDecode(t, "\x05\x00"+s, 2, api.Element{}, 0, x)
}

func seeAll(t *testing.T, s string, want []api.Element, x api.Errno) {
	t.Helper()
	if got, gotX := All(s); !slices.EqualFunc(got, want, same) || gotX != x {
		t.Errorf("All of %s (%d bytes): %s %d, not %s %d", cut(s), len(s), told(got...), int(gotX), told(want...), int(x))
	}
}

func seeDeep(t *testing.T, e api.Element, want int) {
	t.Helper()
	if got := Deep(e); got != want {
		t.Errorf("Deep: %d, not %d", got, want)
	}
}

// row is an element, and its bytes.
type row struct {
	e     api.Element
	bytes string
}

// rows are elements whose bytes are written by hand.
func rows() []row {
	return []row{
		{leaf(0, 0, ""), raw("00 00")},
		{leaf(0, 5, ""), raw("05 00")},
		{leaf(0, 1, "\xff"), raw("01 01 ff")},
		{leaf(0, 2, "\x05"), raw("02 01 05")},
		{leaf(0, 4, "abc"), raw("04 03 61 62 63")},
		{leaf(0, 30, "\x00"), raw("1e 01 00")},
		{leaf(1, 0, "a"), raw("40 01 61")},
		{leaf(1, 30, ""), raw("5e 00")},
		{leaf(2, 7, "cn"), raw("87 02 63 6e")},
		{leaf(3, 0, ""), raw("c0 00")},
		{leaf(3, 30, "\x1f\x80"), raw("de 02 1f 80")},
		{group(0, 0), raw("20 00")},
		{group(0, 16), raw("30 00")},
		{group(0, 30), raw("3e 00")},
		{group(1, 3), raw("63 00")},
		{group(2, 0), raw("a0 00")},
		{group(3, 0), raw("e0 00")},
		{group(3, 30), raw("fe 00")},
		{group(0, 16, leaf(0, 2, "\x05")), raw("30 03 02 01 05")},
		{group(0, 17, leaf(0, 4, "a"), leaf(0, 4, ""), leaf(0, 4, "b")), raw("31 08 04 01 61 04 00 04 01 62")},
		{group(2, 3, leaf(0, 4, "cn"), leaf(0, 4, "a")), raw("a3 07 04 02 63 6e 04 01 61")},
		{group(0, 16, group(0, 16), group(0, 16, group(1, 1)), leaf(3, 1, "z")), raw("30 09 30 00 30 02 61 00 c1 01 7a")},
		{group(0, 16, leaf(0, 2, "\x01"), group(1, 0, leaf(0, 2, "\x03"), leaf(0, 4, ""), leaf(2, 0, "s"))), raw("30 0d 02 01 01 60 08 02 01 03 04 00 80 01 73")},
		{leaf(0, 4, raw("30 80 1f ff 00")), raw("04 05 30 80 1f ff 00")},
		{leaf(0, 4, xs(0x7e)), raw("04 7e") + xs(0x7e)},
		{leaf(0, 4, xs(0x7f)), raw("04 7f") + xs(0x7f)},
		{leaf(0, 4, xs(0x80)), raw("04 81 80") + xs(0x80)},
		{leaf(0, 4, xs(0x81)), raw("04 81 81") + xs(0x81)},
		{leaf(0, 4, xs(0xfe)), raw("04 81 fe") + xs(0xfe)},
		{leaf(0, 4, xs(0xff)), raw("04 81 ff") + xs(0xff)},
		{leaf(0, 4, xs(0x100)), raw("04 82 01 00") + xs(0x100)},
		{leaf(0, 4, xs(0x101)), raw("04 82 01 01") + xs(0x101)},
		{leaf(1, 9, xs(0x234)), raw("49 82 02 34") + xs(0x234)},
		{leaf(0, 4, xs(3996)), raw("04 82 0f 9c") + xs(3996)},
		{group(0, 16, leaf(0, 4, xs(0x7d))), raw("30 7f 04 7d") + xs(0x7d)},
		{group(0, 16, leaf(0, 4, xs(0x7e))), raw("30 81 80 04 7e") + xs(0x7e)},
		{group(0, 16, leaf(0, 4, xs(0xfc))), raw("30 81 ff 04 81 fc") + xs(0xfc)},
		{group(0, 16, leaf(0, 4, xs(0xfd))), raw("30 82 01 00 04 81 fd") + xs(0xfd)},
		{group(0, 16, leaf(0, 4, xs(0x7f)), leaf(0, 4, xs(0x7f))), raw("30 82 01 02 04 7f") + xs(0x7f) + raw("04 7f") + xs(0x7f)},
		{group(1, 3, leaf(0, 1, "\xff"), leaf(0, 4, xs(200))), raw("63 81 ce 01 01 ff 04 81 c8") + xs(200)},
		{group(0, 16, leaf(0, 4, xs(3992))), raw("30 82 0f 9c 04 82 0f 98") + xs(3992)},
		{tower(12, group(0, 16)), raw("30 16 30 14 30 12 30 10 30 0e 30 0c 30 0a 30 08 30 06 30 04 30 02 30 00")},
		{tower(12, leaf(0, 4, "a")), raw("30 17 30 15 30 13 30 11 30 0f 30 0d 30 0b 30 09 30 07 30 05 30 03 04 01 61")},
	}
}

// P15.1, P15.2, P15.3, P15.4, P15.6: each element has its bytes, and they are its own, wherever they stand.
func TestRows(t *testing.T) {
	for _, r := range rows() {
		seeCheck(t, r.e, api.OK)
		seeEncode(t, r.bytes, api.OK, r.e)
		n := len(r.bytes)
		seeDecode(t, r.bytes, 0, r.e, n, api.OK)
		for _, tail := range []string{"\x00", "\xff\xff\xff", "\x30\x80", r.bytes} {
			seeDecode(t, r.bytes+tail, 0, r.e, n, api.OK)
			seeDecode(t, tail+r.bytes+tail, len(tail), r.e, len(tail)+n, api.OK)
		}
		seeAll(t, r.bytes, []api.Element{r.e}, api.OK)
	}
}

// P15.2, P15.4: those of two elements stand one behind the other.
func TestPairs(t *testing.T) {
	for _, a := range rows() {
		for _, b := range rows() {
			both := a.bytes + b.bytes
			if len(both) > api.MaxPdu {
				seeEncode(t, "", api.ErrBig, a.e, b.e)
				seeAll(t, both, nil, api.ErrBig)
				continue
			}
			seeEncode(t, both, api.OK, a.e, b.e)
			seeAll(t, both, []api.Element{a.e, b.e}, api.OK)
			seeDecode(t, both, len(a.bytes), b.e, len(both), api.OK)
		}
	}
}

// P15.2, P15.3, P15.7: every first byte.
func TestFirstBytes(t *testing.T) {
	for b := range 256 {
		s := string([]byte{byte(b), 0})
		if b%32 == 31 {
			seeNone(t, s, api.ErrTag)
			continue
		}
		e := api.Element{Class: b / 64, Made: b/32%2 == 1, Number: b % 32}
		seeCheck(t, e, api.OK)
		seeEncode(t, s, api.OK, e)
		seeDecode(t, s, 0, e, 2, api.OK)
	}
}

// lengthBytes are the bytes of a length, as the chapter says them.
func lengthBytes(n int) string {
	if n < 0x80 {
		return string([]byte{byte(n)})
	}
	if n < 0x100 {
		return string([]byte{0x81, byte(n)})
	}
	return string([]byte{0x82, byte(n / 256), byte(n % 256)})
}

// filling are elements that have so many bytes, and these; there are none that have 1.
func filling(n int) ([]api.Element, string) {
	if n%2 == 0 {
		return make([]api.Element, n/2), strings.Repeat("\x00\x00", n/2)
	}
	return append(make([]api.Element, (n-3)/2), leaf(0, 1, "y")), strings.Repeat("\x00\x00", (n-3)/2) + "\x01\x01y"
}

// P15.1, P15.2, P15.3: contents of every length up to beyond the greatest, of one that is Made and one that is not.
func TestEveryLength(t *testing.T) {
	for n := range 4020 {
		seeSized(t, leaf(2, 9, xs(n)), "\x89"+lengthBytes(n)+xs(n))
		if n != 1 {
			l, s := filling(n)
			seeSized(t, group(1, 2, l...), "\x62"+lengthBytes(n)+s)
		}
	}
}

// seeSized looks at an element whose bytes may be too many.
func seeSized(t *testing.T, e api.Element, s string) {
	t.Helper()
	if len(s) > 4000 {
		seeCheck(t, e, api.ErrBig)
		seeEncode(t, "", api.ErrBig, e)
		seeNone(t, s, api.ErrBig)
		seeAll(t, s, nil, api.ErrBig)
		return
	}
	seeCheck(t, e, api.OK)
	seeEncode(t, s, api.OK, e)
	seeDecode(t, s, 0, e, len(s), api.OK)
	seeAll(t, s, []api.Element{e}, api.OK)
}

// P15.1, P15.2, P15.3: elements of just MaxPdu bytes and of one more, and of far more.
func TestBig(t *testing.T) {
	for _, r := range []struct {
		e api.Element
		x api.Errno
	}{
		{leaf(0, 4, xs(3996)), api.OK}, {leaf(0, 4, xs(3997)), api.ErrBig}, {leaf(3, 30, xs(4000)), api.ErrBig}, {leaf(0, 4, xs(65535)), api.ErrBig}, {leaf(0, 4, xs(65536)), api.ErrBig}, {leaf(0, 4, xs(1<<24)), api.ErrBig},
		{group(0, 16, leaf(0, 4, xs(3992))), api.OK}, {group(0, 16, leaf(0, 4, xs(3993))), api.ErrBig}, {group(0, 16, leaf(0, 4, xs(3996))), api.ErrBig}, {group(0, 16, leaf(0, 4, xs(1<<20))), api.ErrBig},
		{group(0, 16, make([]api.Element, 1998)...), api.OK}, {group(0, 16, make([]api.Element, 1999)...), api.ErrBig}, {group(0, 16, make([]api.Element, 2000)...), api.ErrBig}, {group(0, 16, make([]api.Element, 1<<17)...), api.ErrBig},
		{group(0, 16, leaf(0, 4, xs(1994)), leaf(0, 4, xs(1994))), api.OK}, {group(0, 16, leaf(0, 4, xs(1994)), leaf(0, 4, xs(1995))), api.ErrBig}, {group(0, 16, leaf(0, 4, xs(3990)), group(0, 16)), api.OK}, {group(0, 16, leaf(0, 4, xs(3990)), leaf(0, 1, "y")), api.ErrBig},
		{tower(12, leaf(0, 4, xs(4000-12*4))), api.OK}, {tower(12, leaf(0, 4, xs(4000-12*4+1))), api.ErrBig}, {tower(12, leaf(0, 4, xs(3996))), api.ErrBig}, {tower(12, leaf(0, 4, xs(3997))), api.ErrBig},
	} {
		seeCheck(t, r.e, r.x)
		s, x := Encode(r.e)
		if x != r.x || x != api.OK && s != "" || x == api.OK && len(s) != 4000 {
			t.Errorf("Encode: %d bytes %d, not %d", len(s), int(x), int(r.x))
		}
	}
	for n := 3990; n <= 65535; n += 7 {
		s := "\x04\x82" + string([]byte{byte(n >> 8), byte(n)}) + xs(n)
		if n > 3996 {
			seeNone(t, s, api.ErrBig)
			seeNone(t, s+"\x05\x00", api.ErrBig)
			seeNone(t, s[:len(s)-1], api.ErrShort)
		}
	}
}

// P15.1: what has a Class or a Number that is none, Contents that is Made, or Elements that is not.
func wrongs() []api.Element {
	var l []api.Element
	for _, n := range []int{-1, -2, -4, -64, -256, -1 << 31, -1 << 32, math.MinInt, math.MinInt + 1, math.MaxInt, math.MaxInt - 1, 1 << 31, 1 << 32, 1<<32 + 1, 1 << 62, 64, 256, 257} {
		l = append(l, leaf(n, 0, ""), leaf(0, n, ""), group(n, 1), group(1, n), leaf(n, n, "a"))
	}
	for _, class := range []int{4, 5, 7, 8} {
		l = append(l, leaf(class, 4, "a"), group(class, 16), leaf(class, 0, ""), group(class, 30))
	}
	for _, number := range []int{31, 32, 33, 62, 63} {
		l = append(l, leaf(0, number, "a"), leaf(3, number, ""), group(0, number), group(3, number))
	}
	return append(l,
		api.Element{Made: true, Contents: "a"}, api.Element{Made: true, Contents: "\x05\x00"}, api.Element{Made: true, Contents: "a", Elements: []api.Element{{}}},
		api.Element{Elements: []api.Element{{}}}, api.Element{Contents: "a", Elements: []api.Element{{}}}, api.Element{Elements: []api.Element{group(0, 16), leaf(0, 4, "a")}},
		api.Element{Class: 3, Number: 30, Made: true, Contents: "\x00"}, api.Element{Class: 3, Number: 30, Elements: make([]api.Element, 3)},
	)
}

// P15.1, P15.2: wrong ones alone, and in others at every place and depth.
func TestWrong(t *testing.T) {
	for _, w := range wrongs() {
		seeCheck(t, w, api.ErrArg)
		seeEncode(t, "", api.ErrArg, w)
		seeEncode(t, "", api.ErrArg, leaf(0, 4, "a"), w)
		seeEncode(t, "", api.ErrArg, w, leaf(0, 4, "a"))
		for _, e := range []api.Element{group(0, 16, w), group(0, 16, w, leaf(0, 4, "a")), group(0, 16, leaf(0, 4, "a"), w), group(0, 16, leaf(0, 4, "a"), w, group(0, 16)), group(0, 16, group(0, 16, leaf(0, 4, "b")), group(0, 16, leaf(0, 4, "a"), w))} {
			seeCheck(t, e, api.ErrArg)
			seeEncode(t, "", api.ErrArg, e)
		}
		for deep := 2; deep <= 11; deep++ {
			seeCheck(t, tower(deep, w), api.ErrArg)
		}
	}
	// An empty list is none; so is an empty text.
	seeCheck(t, api.Element{Elements: []api.Element{}}, api.OK)
	seeCheck(t, api.Element{Made: true, Elements: []api.Element{}}, api.OK)
	seeEncode(t, "\x00\x00\x20\x00", api.OK, api.Element{Elements: []api.Element{}}, api.Element{Made: true, Elements: []api.Element{}})
}

// P15.1, P15.2: of several errors, too deep is told ahead of wrong, and wrong ahead of too big, wherever they stand.
func TestCheckOrder(t *testing.T) {
	deep, wrong, big := tower(13, leaf(0, 4, "a")), leaf(4, 4, "a"), leaf(0, 4, xs(4000))
	inner := tower(12, leaf(0, 4, "a"))
	for _, e := range []api.Element{
		group(4, 16, inner), group(0, 31, inner), {Made: true, Contents: "a", Elements: []api.Element{inner}}, {Elements: []api.Element{inner}}, group(0, 16, inner, wrong), group(0, 16, wrong, inner), group(0, 16, big, inner), group(0, 16, inner, big), group(0, 16, wrong, big, inner), group(0, 16, deep, wrong, big), tower(13, wrong), tower(13, big), tower(14, wrong), {Contents: xs(5000), Elements: []api.Element{inner}}, tower(5, group(0, 16, wrong, tower(8, big))),
	} {
		seeCheck(t, e, api.ErrDeep)
		seeEncode(t, "", api.ErrDeep, e)
		seeDeep(t, e, 13)
	}
	for _, e := range []api.Element{
		group(0, 16, big, wrong), group(0, 16, wrong, big), leaf(4, 4, xs(4000)), leaf(0, 31, xs(5000)), {Made: true, Contents: xs(4000)}, {Contents: xs(4000), Elements: []api.Element{{}}}, group(0, 16, append(make([]api.Element, 3000), wrong)...), group(4, 16, make([]api.Element, 3000)...), group(0, 16, big, group(0, 16, wrong)), tower(11, group(0, 16, big, wrong)), tower(12, leaf(-1, 0, xs(4000))), tower(12, wrong),
	} {
		seeCheck(t, e, api.ErrArg)
		seeEncode(t, "", api.ErrArg, e)
	}
}

// P15.2: the error of the first of them that has one; that they are too many together behind all of these.
func TestEncodeOrder(t *testing.T) {
	fine, wrong, big := leaf(0, 4, "a"), leaf(0, 31, ""), leaf(0, 4, xs(4000))
	deep, half := tower(13, fine), leaf(0, 4, xs(2500))
	seeEncode(t, "", api.ErrDeep, fine, deep, wrong, big)
	seeEncode(t, "", api.ErrDeep, deep, big, wrong)
	seeEncode(t, "", api.ErrArg, fine, wrong, deep, big)
	seeEncode(t, "", api.ErrArg, wrong, big, fine, deep)
	seeEncode(t, "", api.ErrBig, big, deep, wrong)
	seeEncode(t, "", api.ErrBig, fine, big, wrong, deep)
	seeEncode(t, "", api.ErrArg, half, half, wrong)
	seeEncode(t, "", api.ErrDeep, half, half, deep)
	seeEncode(t, "", api.ErrArg, half, half, half, wrong, deep)
	seeEncode(t, "", api.ErrBig, half, half)
	seeEncode(t, "", api.ErrDeep, append(make([]api.Element, 3000), deep)...)
}

// P15.2: none, and many that together have just MaxPdu bytes, or one more.
func TestEncodeMany(t *testing.T) {
	seeEncode(t, "", api.OK)
	seeEncode(t, "", api.OK, []api.Element{}...)
	seeEncode(t, strings.Repeat("\x00", 3998), api.OK, make([]api.Element, 1999)...)
	seeEncode(t, strings.Repeat("\x00", 4000), api.OK, make([]api.Element, 2000)...)
	seeEncode(t, "", api.ErrBig, make([]api.Element, 2001)...)
	seeEncode(t, "", api.ErrBig, make([]api.Element, 1<<18)...)
	three := leaf(0, 1, "y")
	l := append(make([]api.Element, 1998), three)
	seeEncode(t, strings.Repeat("\x00", 3996)+"\x01\x01y", api.OK, l...)
	seeEncode(t, "", api.ErrBig, append(l, api.Element{})...)
	seeEncode(t, "", api.ErrBig, append(make([]api.Element, 1999), three)...)
	seeEncode(t, "", api.ErrBig, append([]api.Element{three}, make([]api.Element, 1999)...)...)
	full := leaf(0, 4, xs(3996))
	seeEncode(t, "", api.ErrBig, full, api.Element{})
	seeEncode(t, "", api.ErrBig, api.Element{}, full)
	seeEncode(t, "", api.ErrBig, full, full, full)
	near := leaf(0, 4, xs(3994))
	seeEncode(t, "\x04\x82\x0f\x9a"+xs(3994)+"\x30\x00", api.OK, near, group(0, 16))
	seeEncode(t, "", api.ErrBig, near, three)
}

// P15.3: a place must be from 0 to the end; at the end no byte is.
func TestDecodePlaces(t *testing.T) {
	for _, s := range []string{"", "\x05", "\x05\x00", "\x30\x03\x02\x01\x05", "\x1f", xs(5000)} {
		n := len(s)
		for _, at := range []int{-1, -2, -n, -n - 1, -1 << 31, -1 << 32, math.MinInt, math.MinInt + 1, n + 1, n + 2, n + 4000, 1 << 31, 1 << 32, math.MaxInt - 1, math.MaxInt} {
			if at < 0 || at > n {
				seeDecode(t, s, at, api.Element{}, 0, api.ErrArg)
			}
		}
		seeDecode(t, s, n, api.Element{}, 0, api.ErrShort)
	}
	s := "\x30\x03\x02\x01\x05"
	seeDecode(t, s, 1, leaf(0, 3, "\x01\x05"), 5, api.OK)
	seeDecode(t, s, 2, leaf(0, 2, "\x05"), 5, api.OK)
	seeDecode(t, s, 3, api.Element{}, 0, api.ErrShort)
	seeDecode(t, s, 4, api.Element{}, 0, api.ErrShort)
	// What stands ahead of the place is not looked at, nor counted.
	ahead := strings.Repeat("\x1f\x80", 1<<19)
	full := leaf(0, 4, xs(3996))
	seeDecode(t, ahead+"\x04\x82\x0f\x9c"+full.Contents, len(ahead), full, len(ahead)+4000, api.OK)
	seeDecode(t, ahead+"\x04\x82\x0f\x9d"+xs(3997), len(ahead), api.Element{}, 0, api.ErrBig)
}

// P15.3: texts that have an error, written by hand; where several could be told, the first of the chapter.
func TestDecodeWrong(t *testing.T) {
	for _, r := range []struct {
		bytes string
		x     api.Errno
	}{
		{"", api.ErrShort}, {"00", api.ErrShort}, {"30", api.ErrShort}, {"de", api.ErrShort},
		{"1f", api.ErrTag}, {"3f", api.ErrTag}, {"5f", api.ErrTag}, {"7f", api.ErrTag}, {"9f", api.ErrTag}, {"bf", api.ErrTag}, {"df", api.ErrTag}, {"ff", api.ErrTag},
		{"1f 00", api.ErrTag}, {"1f 80", api.ErrTag}, {"1f 81", api.ErrTag}, {"1f 05 61", api.ErrTag}, {"3f 02 1f 00", api.ErrTag}, {"1f 20 00", api.ErrTag}, {"ff ff ff", api.ErrTag},
		{"04 80", api.ErrLength}, {"30 80", api.ErrLength}, {"30 80 00 00", api.ErrLength}, {"30 80 05 00 00 00", api.ErrLength},
		{"04 83", api.ErrLength}, {"04 83 00 00 01 61", api.ErrLength}, {"04 83 01 00 00", api.ErrLength}, {"30 84 00 00 00 00", api.ErrLength}, {"04 88 00 00 00 00 00 00 00 01 61", api.ErrLength}, {"04 fe", api.ErrLength}, {"04 ff", api.ErrLength}, {"30 ff 00", api.ErrLength},
		{"04 81", api.ErrShort}, {"04 82", api.ErrShort}, {"04 82 00", api.ErrShort}, {"04 82 01", api.ErrShort}, {"04 82 ff", api.ErrShort}, {"30 81", api.ErrShort}, {"30 82 0f", api.ErrShort},
		{"04 81 00", api.ErrLength}, {"04 81 01 61", api.ErrLength}, {"04 81 05 61 61 61 61 61", api.ErrLength}, {"04 81 05", api.ErrLength}, {"04 81 7f", api.ErrLength}, {"30 81 00", api.ErrLength}, {"30 81 02 05 00", api.ErrLength},
		{"04 82 00 00", api.ErrLength}, {"04 82 00 01 61", api.ErrLength}, {"04 82 00 7f", api.ErrLength}, {"04 82 00 80", api.ErrLength}, {"04 82 00 ff", api.ErrLength}, {"30 82 00 02 05 00", api.ErrLength},
		{"04 01", api.ErrShort}, {"04 02 61", api.ErrShort}, {"04 7f", api.ErrShort}, {"04 81 80", api.ErrShort}, {"04 81 ff 61", api.ErrShort}, {"04 82 01 00", api.ErrShort}, {"04 82 0f 9d 61", api.ErrShort}, {"04 82 ff ff", api.ErrShort}, {"30 82 ff ff 1f", api.ErrShort},
		{"30 01 1f", api.ErrTag}, {"30 02 1f 00", api.ErrTag}, {"30 03 1f 00", api.ErrShort}, {"30 01 05", api.ErrShort}, {"30 02 04 01", api.ErrShort}, {"30 02 04 01 61", api.ErrShort}, {"30 02 04 81 80", api.ErrShort}, {"30 03 04 82 01", api.ErrShort}, {"30 02 04 80", api.ErrLength}, {"30 02 30 80", api.ErrLength}, {"30 03 04 81 00", api.ErrLength}, {"30 04 04 82 00 01", api.ErrLength}, {"30 02 04 83", api.ErrLength},
		{"30 03 05 00 05", api.ErrShort}, {"30 03 05 00 05 00", api.ErrShort}, {"30 04 05 00 04 01 61", api.ErrShort}, {"30 04 05 00 1f 00", api.ErrTag}, {"30 04 1f 00 04 80", api.ErrTag}, {"30 04 04 80 1f 00", api.ErrLength}, {"30 04 04 05 1f 00", api.ErrShort}, {"30 05 04 01 61 04 80", api.ErrLength},
		{"30 04 30 02 1f 00", api.ErrTag}, {"30 04 30 03 05 00", api.ErrShort}, {"30 04 30 02 05 01", api.ErrShort}, {"30 05 30 03 05 00 05", api.ErrShort}, {"30 06 30 02 04 80 1f 00", api.ErrLength}, {"30 06 30 02 05 00 1f 00", api.ErrTag}, {"30 04 30 02 05 01 00", api.ErrShort},
	} {
		seeNone(t, raw(r.bytes), r.x)
		if r.bytes != "" {
			seeAll(t, raw(r.bytes), nil, r.x)
			seeAll(t, raw("05 00 "+r.bytes), nil, r.x)
		}
	}
}

// P15.3: every length of one byte, of 81 and one, and of 82 and two, with contents that are whole and that lack a byte.
func TestDecodeLengths(t *testing.T) {
	long := xs(0x10000)
	for b := range 256 {
		s := "\x04" + string([]byte{byte(b)})
		switch {
		case b < 0x80:
			seeDecode(t, s+long, 0, leaf(0, 4, xs(b)), 2+b, api.OK)
		case b != 0x81 && b != 0x82:
			for _, tail := range []string{"", "\x00", "\x01", "\x00\x00", "\x01\x00\x00", "\x00\x00\x00\x00", long} {
				seeNone(t, s+tail, api.ErrLength)
			}
		}
		s = "\x04\x81" + string([]byte{byte(b)})
		if b < 0x80 {
			seeNone(t, s, api.ErrLength)
			seeNone(t, s+long, api.ErrLength)
		} else {
			seeDecode(t, s+long, 0, leaf(0, 4, xs(b)), 3+b, api.OK)
			seeNone(t, s+xs(b-1), api.ErrShort)
		}
	}
	for n := range 0x10000 {
		s := "\x04\x82" + string([]byte{byte(n >> 8), byte(n)})
		switch {
		case n < 0x100:
			seeNone(t, s, api.ErrLength)
			seeNone(t, s+long[:n], api.ErrLength)
		case n <= 3996:
			seeDecode(t, s+long[:n+1], 0, leaf(0, 4, long[:n]), 4+n, api.OK)
			seeNone(t, s+long[:n-1], api.ErrShort)
		default:
			if _, _, x := Decode(s+long[:n], 0); x != api.ErrBig {
				t.Errorf("contents of %d bytes: %d", n, int(x))
			}
			seeDecode(t, s+long[:n-1], 0, api.Element{}, 0, api.ErrShort)
		}
	}
}

// P15.3: what is too big is told ahead of what is wrong in it, and what is not whole ahead of that.
func TestDecodeBigFirst(t *testing.T) {
	fill := strings.Repeat("\x05\x00", 1997)
	for wrong, x := range map[string]api.Errno{"\x1f\x00": api.ErrTag, "\x04\x80": api.ErrLength, "\x04\x83": api.ErrLength, "\x05\x01": api.ErrShort} {
		seeNone(t, "\x30\x82\x0f\x9c"+fill+wrong, x)
		seeNone(t, "\x30\x82\x0f\x9d"+"\x00"+fill+wrong, api.ErrBig)
		seeNone(t, "\x30\x82\x0f\x9e"+fill+wrong+"\x05\x00", api.ErrBig)
		seeNone(t, "\x30\x82\x0f\x9e"+wrong+fill+"\x05\x00", api.ErrBig)
		seeNone(t, "\x30\x82\x0f\x9e"+wrong+fill+"\x05", api.ErrShort)
	}
}

// wrap puts so many elements, one in the other, around bytes.
func wrap(n int, s string) string {
	for range n {
		s = "\x30" + lengthBytes(len(s)) + s
	}
	return s
}

// P15.3: an element may be 12 deep; the 12th may be Made, but have no contents, whatever these are.
func TestDecodeDeep(t *testing.T) {
	for deep := 1; deep <= 12; deep++ {
		for _, lowest := range []row{{group(0, 16), "\x30\x00"}, {leaf(0, 4, "a"), "\x04\x01a"}, {leaf(0, 4, xs(300)), "\x04\x82\x01\x2c" + xs(300)}} {
			s := wrap(deep-1, lowest.bytes)
			seeDecode(t, s, 0, tower(deep, lowest.e), len(s), api.OK)
		}
	}
	for around := 12; around <= 40; around++ {
		for _, s := range []string{"\x05\x00", "\x30\x00", "\x04\x01a", "\x1f\x00", "\x30\x80", "\x04\x81\x05", "\x05", "\x04\x02a", xs(700)} {
			seeNone(t, wrap(around, s), api.ErrDeep)
			seeAll(t, "\x05\x00"+wrap(around, s), nil, api.ErrDeep)
		}
	}
	// The errors of the 12th itself come ahead; so do those of what stands ahead of it.
	for s, x := range map[string]api.Errno{"\x30\x81\x01\x05": api.ErrLength, "\x30\x80": api.ErrLength, "\x3f\x02\x05\x00": api.ErrTag, "\x30\x03\x05\x00": api.ErrShort, "\x30": api.ErrShort, "\x30\x82\x01": api.ErrShort, "\x1f\x00\x30\x02\x05\x00": api.ErrTag, "\x04\x80\x30\x02\x05\x00": api.ErrLength, "\x30\x02\x05\x00\x1f\x00": api.ErrDeep, "\x30\x00\x30\x01\x05\x1f\x00": api.ErrDeep, "\x30\x00\x04\x01a\x1f\x00": api.ErrTag} {
		seeNone(t, wrap(11, s), x)
	}
	// Others beside it are not counted.
	flat := group(0, 16, tower(11, group(0, 16)), tower(11, leaf(0, 4, "a")), tower(11, group(0, 16)))
	s := mustEncode(t, flat)
	seeDecode(t, s, 0, flat, len(s), api.OK)
	seeNone(t, "\x30"+lengthBytes(len(s))+s, api.ErrDeep)
	seeAll(t, s+s+s, []api.Element{flat, flat, flat}, api.OK)
}

func mustEncode(t *testing.T, l ...api.Element) string {
	t.Helper()
	s, x := Encode(l...)
	if x != api.OK {
		t.Fatalf("Encode: %d", int(x))
	}
	return s
}

// P15.4: no element, many, just MaxPdu bytes and more; an element's error is told ahead of too many bytes.
func TestAll(t *testing.T) {
	seeAll(t, "", nil, api.OK)
	seeAll(t, raw("05 00 01 01 61"), []api.Element{leaf(0, 5, ""), leaf(0, 1, "a")}, api.OK)
	seeAll(t, raw("30 03 02 01 05 30 00 04 00"), []api.Element{group(0, 16, leaf(0, 2, "\x05")), group(0, 16), leaf(0, 4, "")}, api.OK)
	for n := 3980; n <= 4020; n++ {
		l, s := filling(n)
		if n > 4000 {
			seeAll(t, s, nil, api.ErrBig)
		} else {
			seeAll(t, s, l, api.OK)
			seeEncode(t, s, api.OK, l...)
		}
	}
	near := leaf(0, 4, xs(3994))
	s := "\x04\x82\x0f\x9a" + near.Contents
	seeAll(t, s+"\x30\x00", []api.Element{near, group(0, 16)}, api.OK)
	seeAll(t, s+"\x01\x01y", nil, api.ErrBig)
	for _, n := range []int{1999, 2000, 2001, 4000, 1 << 20} {
		fill := strings.Repeat("\x05\x00", n)
		for wrong, x := range map[string]api.Errno{"\x1f": api.ErrTag, "\x1f\x00": api.ErrTag, "\x04\x80": api.ErrLength, "\x04\x81\x7f": api.ErrLength, "\x05": api.ErrShort, "\x04\x02a": api.ErrShort, "\x30\x01\x05": api.ErrShort, "\x30\x02\x1f\x00": api.ErrTag, wrap(12, "\x05\x00"): api.ErrDeep} {
			seeAll(t, fill+wrong, nil, x)
		}
		seeAll(t, "\x1f\x00"+fill+"\x04\x80", nil, api.ErrTag)
		seeAll(t, fill+"\x04\x80"+fill+"\x1f", nil, api.ErrLength)
		seeAll(t, fill+wrap(12, "\x05\x00")+fill+"\x05", nil, api.ErrDeep)
	}
	// One that is too big by itself is told where it stands.
	big := "\x04\x82\x0f\x9d" + xs(3997)
	seeAll(t, big+"\x1f\x00", nil, api.ErrBig)
	seeAll(t, "\x1f\x00"+big, nil, api.ErrTag)
	seeAll(t, "\x04\x80"+big, nil, api.ErrLength)
}

// P15.5: by the deepest in it, Made or not, and wrong or not.
func TestDeep(t *testing.T) {
	for deep := 1; deep <= 12; deep++ {
		seeDeep(t, tower(deep, leaf(0, 4, "a")), deep)
		seeDeep(t, tower(deep, group(0, 16)), deep)
		seeDeep(t, tower(deep, leaf(-5, 99, "a")), deep)
	}
	for _, deep := range []int{13, 14, 15, 25, 26, 100, 1 << 16} {
		seeDeep(t, tower(deep, api.Element{}), 13)
		seeCheck(t, tower(deep, api.Element{}), api.ErrDeep)
		seeEncode(t, "", api.ErrDeep, tower(deep, api.Element{}))
	}
	seeDeep(t, api.Element{Elements: []api.Element{}}, 1)
	seeDeep(t, api.Element{Made: true, Contents: "\x30\x02\x30\x00"}, 1)
	seeDeep(t, api.Element{Elements: []api.Element{{}}}, 2)
	seeDeep(t, api.Element{Elements: []api.Element{{Elements: []api.Element{{}}}}}, 3)
	seeDeep(t, group(0, 16, leaf(0, 4, ""), tower(5, leaf(0, 4, "")), leaf(0, 4, "")), 6)
	for at := range 5 {
		l := []api.Element{tower(3, leaf(0, 4, "")), tower(2, leaf(0, 4, "")), {}, tower(4, group(0, 16)), group(0, 16)}
		for _, deep := range []int{5, 8, 11, 12, 13} {
			l[at] = tower(deep, leaf(0, 4, ""))
			seeDeep(t, group(0, 16, l...), min(deep+1, 13))
		}
	}
	e := leaf(0, 4, "")
	for deep := 2; deep <= 12; deep++ {
		e = group(0, 16, e, e)
		seeDeep(t, e, deep)
	}
	seeCheck(t, e, api.ErrBig)
}

// An element can hold itself; it is too deep, and each call ends.
func TestRings(t *testing.T) {
	for _, wide := range []int{1, 2, 3, 50, 1000} {
		e := rings(wide)
		seeDeep(t, e, 13)
		seeCheck(t, e, api.ErrDeep)
		seeEncode(t, "", api.ErrDeep, leaf(0, 4, "a"), e)
		seeDeep(t, group(0, 16, leaf(0, 4, "a"), e), 13)
		seeCheck(t, group(9, 99, leaf(0, 4, xs(5000)), e), api.ErrDeep)
	}
	l := make([]api.Element, 100)
	l[99].Elements = l
	seeDeep(t, l[99], 13)
	seeCheck(t, l[99], api.ErrDeep)
	seeDeep(t, l[98], 1)
}

// read reads the element that s begins with, as the chapter says it: the first of its errors.
func read(s string, around int) (e api.Element, n int, x api.Errno) {
	if len(s) < 1 {
		return e, 0, api.ErrShort
	}
	if s[0]%32 == 31 {
		return e, 0, api.ErrTag
	}
	if len(s) < 2 || s[1] == 0x81 && len(s) < 3 || s[1] == 0x82 && len(s) < 4 {
		return e, 0, api.ErrShort
	}
	if s[1] == 0x80 || s[1] > 0x82 {
		return e, 0, api.ErrLength
	}
	begin, size := 2, int(s[1])
	switch s[1] {
	case 0x81:
		begin, size = 3, int(s[2])
	case 0x82:
		begin, size = 4, int(s[2])*256+int(s[3])
	}
	if lengthBytes(size) != s[1:begin] {
		return e, 0, api.ErrLength
	}
	if len(s) < begin+size {
		return e, 0, api.ErrShort
	}
	if begin+size > 4000 {
		return e, 0, api.ErrBig
	}
	contents := s[begin : begin+size]
	made := api.Element{Class: int(s[0] / 64), Number: int(s[0] % 32), Made: s[0]/32%2 == 1}
	if !made.Made {
		made.Contents = contents
		return made, begin + size, api.OK
	}
	if around == 11 && contents != "" {
		return e, 0, api.ErrDeep
	}
	made.Elements, x = readAll(contents, around+1)
	if x != api.OK {
		return e, 0, x
	}
	return made, begin + size, api.OK
}

// readAll reads the elements of s, as the chapter says it.
func readAll(s string, around int) ([]api.Element, api.Errno) {
	var l []api.Element
	for at := 0; at < len(s); {
		e, n, x := read(s[at:], around)
		if x != api.OK {
			return nil, x
		}
		l, at = append(l, e), at+n
	}
	if around == 0 && len(s) > 4000 {
		return nil, api.ErrBig
	}
	return l, api.OK
}

// seeText holds what is read of a text against the chapter's words; what is read must be the element of its bytes.
func seeText(t *testing.T, s string) api.Errno {
	t.Helper()
	want, n, x := read(s, 0)
	seeDecode(t, s, 0, want, n, x)
	if x == api.OK {
		seeCheck(t, want, api.OK)
		seeEncode(t, s[:n], api.OK, want)
	}
	l, allX := readAll(s, 0)
	seeAll(t, s, l, allX)
	if allX == api.OK {
		seeEncode(t, s, api.OK, l...)
	}
	return x
}

// P15.3, P15.4, P15.7: all short texts of a few bytes.
func TestAllTexts(t *testing.T) {
	bytes := "\x00\x01\x02\x03\x05\x1f\x30\x7f\x80\x81\x82\xff"
	seen := map[api.Errno]int{}
	var s []byte
	var all func(left int)
	all = func(left int) {
		seen[seeText(t, string(s))]++
		if left == 0 {
			return
		}
		for i := range len(bytes) {
			s = append(s, bytes[i])
			all(left - 1)
			s = s[:len(s)-1]
		}
	}
	all(5)
	for _, x := range []api.Errno{api.OK, api.ErrShort, api.ErrTag, api.ErrLength} {
		if seen[x] < 100 {
			t.Errorf("%d texts of %d", seen[x], int(x))
		}
	}
}

// P15.3, P15.7: right bytes, one of them changed, left out or put in.
func TestNear(t *testing.T) {
	for _, r := range rows() {
		for at := range min(len(r.bytes), 30) {
			seeText(t, r.bytes[:at]+r.bytes[at+1:])
			for b := range 256 {
				c := string([]byte{byte(b)})
				seeText(t, r.bytes[:at]+c+r.bytes[at:])
				seeText(t, r.bytes[:at]+c+r.bytes[at+1:])
			}
		}
	}
}

// P15.3: the bytes of an element that end too early are short, wherever they end.
func TestCutShort(t *testing.T) {
	for _, r := range rows() {
		for n := range len(r.bytes) {
			if n > 40 && n < len(r.bytes)-10 && n%97 != 0 {
				continue
			}
			seeNone(t, r.bytes[:n], api.ErrShort)
			if n > 0 && 2+n < 128 {
				seeNone(t, "\x30"+lengthBytes(2+n)+"\x05\x00"+r.bytes[:n], api.ErrShort)
			}
		}
	}
}

// byChance gives an element that is at most so deep, with few bytes in each.
func byChance(c *rand.Rand, deep int) api.Element {
	e := api.Element{Class: c.Intn(4), Number: c.Intn(31), Made: c.Intn(3) > 0}
	if !e.Made {
		b := make([]byte, []int{0, 1, 2, 3, 126, 127, 128, 200, 255, 256, 300}[c.Intn(11)])
		c.Read(b)
		e.Contents = string(b)
		return e
	}
	if deep > 1 {
		for range c.Intn(4) {
			e.Elements = append(e.Elements, byChance(c, deep-1))
		}
	}
	return e
}

// lain are the bytes of an element, as the chapter says them.
func lain(e api.Element) string {
	first, contents := e.Class*64+e.Number, e.Contents
	if e.Made {
		first += 32
		for _, in := range e.Elements {
			contents += lain(in)
		}
	}
	return string([]byte{byte(first)}) + lengthBytes(len(contents)) + contents
}

// depth is how deep an element is, as the chapter says it.
func depth(e api.Element) int {
	deepest := 0
	for _, in := range e.Elements {
		deepest = max(deepest, depth(in))
	}
	return 1 + deepest
}

// seeForm holds the first element of bytes against the library's reading of them.
func seeForm(t *testing.T, s string, e api.Element) {
	t.Helper()
	var v asn1.RawValue
	rest, err := asn1.Unmarshal([]byte(s), &v)
	if err != nil || v.Class != e.Class || v.Tag != e.Number || v.IsCompound != e.Made || len(rest) != 0 {
		t.Fatalf("%s: %v %d %d %t, with %d left", cut(s), err, v.Class, v.Tag, v.IsCompound, len(rest))
	}
	inner := string(v.Bytes)
	if !e.Made && inner != e.Contents {
		t.Fatalf("%s: contents %s", cut(s), cut(inner))
	}
	for _, in := range e.Elements {
		n := len(lain(in))
		seeForm(t, inner[:n], in)
		inner = inner[n:]
	}
}

// P15.6, P15.7: elements by chance are read as they were laid, and what is near their bytes as the chapter says.
func TestByChance(t *testing.T) {
	c := rand.New(rand.NewSource(156))
	big, deepest := 0, 0
	for range 20000 {
		e := byChance(c, 1+c.Intn(12))
		s := lain(e)
		seeDeep(t, e, depth(e))
		if len(s) > 4000 {
			big++
			seeCheck(t, e, api.ErrBig)
			seeEncode(t, "", api.ErrBig, e)
			seeText(t, s)
			continue
		}
		deepest = max(deepest, depth(e))
		seeCheck(t, e, api.OK)
		seeEncode(t, s, api.OK, e)
		ahead := xs(c.Intn(5))
		seeDecode(t, ahead+s+xs(c.Intn(5)), len(ahead), e, len(ahead)+len(s), api.OK)
		seeAll(t, s, []api.Element{e}, api.OK)
		seeForm(t, s, e)
		b := []byte(s)
		for range 1 + c.Intn(3) {
			b[c.Intn(len(b))] = []byte{0, 1, 0x1f, 0x20, 0x30, 0x80, 0x81, 0x82, 0x83, 0xff, byte(c.Intn(256))}[c.Intn(11)]
		}
		seeText(t, string(b))
		seeText(t, string(b[:c.Intn(len(b))]))
	}
	if big < 10 || deepest < 12 {
		t.Errorf("%d are too big, and they are %d deep: too few", big, deepest)
	}
}

// P15.3, P15.7: bytes by chance, at each of their places.
func TestBytesByChance(t *testing.T) {
	c := rand.New(rand.NewSource(157))
	for range 20000 {
		b := make([]byte, c.Intn(40))
		for i := range b {
			b[i] = []byte{byte(c.Intn(256)), byte(c.Intn(6)), 0x30, 0x81}[min(c.Intn(5), 3)]
		}
		s := string(b)
		for at := range len(s) + 1 {
			want, n, x := read(s[at:], 0)
			if x == api.OK {
				n += at
			}
			seeDecode(t, s, at, want, n, x)
		}
		seeText(t, s)
	}
}

// beside gives bytes that stand beside an element: mostly none, or right ones.
func beside(c *rand.Rand) string {
	if c.Intn(25) == 0 {
		return []string{"\x1f\x00", "\x04\x80", "\x04\x7f"}[c.Intn(3)]
	}
	return []string{"", "", "\x05\x00", "\x04\x01a", "\x30\x00"}[c.Intn(5)]
}

// P15.3: towers with wrong bytes somewhere in them: too deep is told where it stands, neither ahead nor behind.
func TestTowersByChance(t *testing.T) {
	c := rand.New(rand.NewSource(158))
	seen := map[api.Errno]int{}
	for range 50000 {
		s := ""
		for range 9 + c.Intn(6) {
			s = wrap(1, beside(c)+s+beside(c))
		}
		seen[seeText(t, s)]++
	}
	for _, x := range []api.Errno{api.OK, api.ErrShort, api.ErrTag, api.ErrLength, api.ErrDeep} {
		if seen[x] < 500 {
			t.Errorf("%d towers of %d", seen[x], int(x))
		}
	}
}

// copied is an element in new memory.
func copied(e api.Element) api.Element {
	l := make([]api.Element, len(e.Elements))
	for i, in := range e.Elements {
		l[i] = copied(in)
	}
	e.Elements = l
	return e
}

// roomy is an element whose lists have spare room, in which others stand.
func roomy(e api.Element) api.Element {
	n := len(e.Elements)
	l := make([]api.Element, n+3)
	for i := range l {
		l[i] = leaf(7, 77, "spare")
	}
	for i, in := range e.Elements {
		l[i] = roomy(in)
	}
	e.Elements = l[:n]
	return e
}

// untouched tells whether an element's spare rooms are as roomy made them.
func untouched(e api.Element) bool {
	n := len(e.Elements)
	for _, in := range e.Elements[n : n+3] {
		if !same(in, leaf(7, 77, "spare")) {
			return false
		}
	}
	for _, in := range e.Elements {
		if !untouched(in) {
			return false
		}
	}
	return true
}

// What is handed in stays as it was, its spare room, too.
func TestHandedIn(t *testing.T) {
	for _, r := range rows() {
		e := roomy(r.e)
		before := copied(e)
		l := []api.Element{e, leaf(0, 31, ""), {}}
		Check(e)
		Deep(e)
		Encode(e)
		Encode(l[:1]...)
		Encode(l...)
		if !same(e, before) || !untouched(e) || !same(l[1], leaf(0, 31, "")) || !zero(l[2]) {
			t.Errorf("an element of %s was changed", cut(r.bytes))
		}
	}
}

// spoil changes an element and all lists in it, their spare room, too.
func spoil(e *api.Element) {
	l := e.Elements[:cap(e.Elements)]
	for i := range l {
		spoil(&l[i])
	}
	*e = leaf(9, 99, "spoilt")
}

// What is handed out is new: to change one list changes neither another one nor a later answer.
func TestHandedOut(t *testing.T) {
	for _, r := range rows() {
		s := r.bytes
		first, _, _ := Decode(s, 0)
		second, _, _ := Decode(s, 0)
		l, _ := All(s)
		spoil(&first)
		if !same(second, r.e) || !same(l[0], r.e) {
			t.Errorf("Decode of %s shares its memory", cut(s))
		}
		spoil(&l[0])
		if !same(second, r.e) {
			t.Errorf("All of %s shares its memory", cut(s))
		}
		seeDecode(t, s, 0, r.e, len(s), api.OK)
	}
	// Lists of one answer: what is put behind one is not seen in the others.
	want := group(0, 16, group(0, 17, leaf(0, 4, "a")), group(0, 17, leaf(0, 4, "b"), leaf(0, 4, "c"), leaf(0, 4, "d")), group(0, 17, leaf(0, 4, "e")))
	s := mustEncode(t, want)
	for at := range want.Elements {
		e, _, _ := Decode(s, 0)
		spoil(&e.Elements[at])
		for other := range want.Elements {
			if other != at && !same(e.Elements[other], want.Elements[other]) {
				t.Errorf("the lists %d and %d share their memory", at, other)
			}
		}
	}
}

// The chapter's examples.
func TestExamples(t *testing.T) {
	e := api.Element{Class: 0, Made: true, Number: 16, Elements: []api.Element{{Class: 0, Number: 2, Contents: "\x05"}}}
	seeDecode(t, raw("30 03 02 01 05"), 0, e, 5, api.OK)
	seeEncode(t, raw("30 03 02 01 05"), api.OK, e)
	seeNone(t, raw("30 80"), api.ErrLength)
	for n := range 8 {
		seeNone(t, raw("04 81 05")+xs(n), api.ErrLength)
	}
}
