package prims

import (
	"encoding/asn1"
	"encoding/hex"
	"fmt"
	"math"
	"math/big"
	"math/rand"
	"slices"
	"strings"
	"testing"

	"toponym/api"
	"toponym/ber"
)

const (
	least    = -2147483648
	greatest = 2147483647
)

// leaf is an element that is not Made.
func leaf(class, number int, contents string) api.Element {
	return api.Element{Class: class, Number: number, Contents: contents}
}

// group is an element that is Made.
func group(class, number int, l ...api.Element) api.Element {
	return api.Element{Class: class, Made: true, Number: number, Elements: l}
}

// tower is an element that is so deep: in each one another, the lowest as given.
func tower(deep int, lowest api.Element) api.Element {
	for range deep - 1 {
		lowest = group(0, 16, lowest)
	}
	return lowest
}

// raw reads bytes that are written to the base 16, with blanks between.
func raw(s string) string {
	b, err := hex.DecodeString(strings.ReplaceAll(s, " ", ""))
	if err != nil {
		panic(err)
	}
	return string(b)
}

// same tells whether two elements have the same in all of their fields; lists without an element are the same.
func same(a, b api.Element) bool {
	return a.Class == b.Class && a.Made == b.Made && a.Number == b.Number && a.Contents == b.Contents && slices.EqualFunc(a.Elements, b.Elements, same)
}

// told is what is told of an element: the beginning of its fields.
func told(e api.Element) string {
	s := fmt.Sprintf("%#v", e)
	return s[:min(len(s), 300)]
}

// seeMade looks at what a maker answered.
func seeMade(t *testing.T, what string, got api.Element, gotX api.Errno, want api.Element, x api.Errno) {
	t.Helper()
	if !same(got, want) || gotX != x {
		t.Errorf("%s: %s %d, not %s %d", what, told(got), int(gotX), told(want), int(x))
	}
}

func seeAsInt(t *testing.T, e api.Element, want int, x api.Errno) {
	t.Helper()
	if got, gotX := AsInt(e); got != want || gotX != x {
		t.Errorf("AsInt of %s: %d %d, not %d %d", told(e), got, int(gotX), want, int(x))
	}
}

func seeAsBool(t *testing.T, e api.Element, want bool, x api.Errno) {
	t.Helper()
	if got, gotX := AsBool(e); got != want || gotX != x {
		t.Errorf("AsBool of %s: %t %d, not %t %d", told(e), got, int(gotX), want, int(x))
	}
}

func seeTexts(t *testing.T, e api.Element, want []string, x api.Errno) {
	t.Helper()
	if got, gotX := Texts(e); !slices.Equal(got, want) || gotX != x {
		t.Errorf("Texts of %s: %q %d, not %q %d", told(e), got, int(gotX), want, int(x))
	}
}

func seeIs(t *testing.T, e api.Element, class, number int, made, want bool) {
	t.Helper()
	if got := Is(e, class, number, made); got != want {
		t.Errorf("Is of %s, %d, %d, %t: %t", told(e), class, number, made, got)
	}
}

// row is a whole number, and its contents.
type row struct {
	n        int
	contents string
}

// rows are whole numbers whose contents are written by hand: those of the chapter, the ends, and those around each change of the number of bytes.
func rows() []row {
	return []row{
		{127, raw("7f")}, {128, raw("00 80")}, {-128, raw("80")}, {-129, raw("ff 7f")},
		{0, raw("00")}, {1, raw("01")}, {2, raw("02")}, {5, raw("05")}, {126, raw("7e")},
		{-1, raw("ff")}, {-2, raw("fe")}, {-5, raw("fb")}, {-127, raw("81")},
		{129, raw("00 81")}, {254, raw("00 fe")}, {255, raw("00 ff")}, {256, raw("01 00")}, {257, raw("01 01")}, {1000, raw("03 e8")},
		{-130, raw("ff 7e")}, {-255, raw("ff 01")}, {-256, raw("ff 00")}, {-257, raw("fe ff")}, {-1000, raw("fc 18")},
		{32766, raw("7f fe")}, {32767, raw("7f ff")}, {32768, raw("00 80 00")}, {32769, raw("00 80 01")}, {65535, raw("00 ff ff")}, {65536, raw("01 00 00")},
		{-32767, raw("80 01")}, {-32768, raw("80 00")}, {-32769, raw("ff 7f ff")}, {-65535, raw("ff 00 01")}, {-65536, raw("ff 00 00")}, {-65537, raw("fe ff ff")},
		{8388606, raw("7f ff fe")}, {8388607, raw("7f ff ff")}, {8388608, raw("00 80 00 00")}, {8388609, raw("00 80 00 01")}, {16777215, raw("00 ff ff ff")}, {16777216, raw("01 00 00 00")},
		{-8388607, raw("80 00 01")}, {-8388608, raw("80 00 00")}, {-8388609, raw("ff 7f ff ff")}, {-16777215, raw("ff 00 00 01")}, {-16777216, raw("ff 00 00 00")}, {-16777217, raw("fe ff ff ff")},
		{0x12345678, raw("12 34 56 78")}, {-0x12345678, raw("ed cb a9 88")}, {2147483646, raw("7f ff ff fe")}, {2147483647, raw("7f ff ff ff")}, {-2147483647, raw("80 00 00 01")}, {-2147483648, raw("80 00 00 00")},
	}
}

// P16.1, P16.2, P16.4: each whole number has its contents, and they are read as it, whatever the class and the number.
func TestIntRows(t *testing.T) {
	for _, r := range rows() {
		for class := range 4 {
			for number := range 31 {
				e, x := Int(class, number, r.n)
				seeMade(t, fmt.Sprint("Int of ", r.n), e, x, leaf(class, number, r.contents), api.OK)
				seeAsInt(t, leaf(class, number, r.contents), r.n, api.OK)
			}
		}
	}
}

// kinds are numbers that are no class, no number of an element, or that are one at an end.
func kinds() []int {
	l := []int{math.MinInt, math.MinInt + 1, -1 << 32, -1<<32 + 1, -1 << 31, -256, -255, -64, 63, 64, 127, 128, 256, 257, 1 << 31, 1 << 32, 1<<32 + 1, 1 << 62, math.MaxInt - 1, math.MaxInt}
	for n := -5; n <= 36; n++ {
		l = append(l, n)
	}
	return l
}

// P16.1: each maker answers ErrArg, and nothing else, unless the class is from 0 to 3 and the number from 0 to 30.
func TestKinds(t *testing.T) {
	in := group(2, 7, leaf(0, 4, "x"))
	right := 0
	for _, class := range kinds() {
		for _, number := range kinds() {
			want := []api.Element{leaf(class, number, "\x01\x00"), leaf(class, number, "\xff"), leaf(class, number, "\x00"), leaf(class, number, "abc"), group(class, number, in, in), leaf(class, number, ""), group(class, number)}
			x := api.OK
			if class < 0 || class > 3 || number < 0 || number > 30 {
				want, x = make([]api.Element, len(want)), api.ErrArg
			} else {
				right++
			}
			makers := []func() (api.Element, api.Errno){
				func() (api.Element, api.Errno) { return Int(class, number, 256) },
				func() (api.Element, api.Errno) { return Bool(class, number, true) },
				func() (api.Element, api.Errno) { return Bool(class, number, false) },
				func() (api.Element, api.Errno) { return Text(class, number, "abc") },
				func() (api.Element, api.Errno) { return Group(class, number, in, in) },
				func() (api.Element, api.Errno) { return Text(class, number, "") },
				func() (api.Element, api.Errno) { return Group(class, number) },
			}
			for i, f := range makers {
				e, gotX := f()
				seeMade(t, fmt.Sprintf("maker %d of %d, %d", i, class, number), e, gotX, want[i], x)
			}
		}
	}
	if right != 4*31 {
		t.Error(right)
	}
}

// P16.1: whole numbers beyond each end are none.
func TestIntBeyond(t *testing.T) {
	for _, n := range []int{greatest + 1, greatest + 2, 1<<32 - 1, 1 << 32, 1<<32 + 1, 1<<32 + 5, 1 << 33, 1 << 40, 1<<63 - 1<<32, math.MaxInt - 1, math.MaxInt, least - 1, least - 2, -1 << 32, -1<<32 - 1, -1<<32 + 5, -1 << 40, math.MinInt, math.MinInt + 1, math.MinInt + 1<<32} {
		for _, class := range []int{-1, 0, 2, 3, 4} {
			for _, number := range []int{-1, 0, 2, 30, 31} {
				e, x := Int(class, number, n)
				seeMade(t, fmt.Sprint("Int of ", n), e, x, api.Element{}, api.ErrArg)
			}
		}
	}
	for _, n := range []int{least, least + 1, greatest - 1, greatest} {
		if e, x := Int(3, 30, n); x != api.OK || len(e.Contents) != 4 {
			t.Errorf("Int of %d: %s %d", n, told(e), int(x))
		}
	}
}

// bits are the bits of a text, the highest first.
func bits(s string) string {
	var out strings.Builder
	for i := range len(s) {
		fmt.Fprintf(&out, "%08b", s[i])
	}
	return out.String()
}

// value is the number whose two's complement a text is, and whether it is a whole number's contents, as the chapter says them.
func value(s string) (int, bool) {
	if len(s) < 1 {
		return 0, false
	}
	if first := bits(s)[:min(9, 8*len(s))]; len(s) > 1 && (first == "000000000" || first == "111111111") {
		return 0, false
	}
	n := new(big.Int).SetBytes([]byte(s))
	if s[0] >= 0x80 {
		n.Sub(n, new(big.Int).Lsh(big.NewInt(1), uint(8*len(s))))
	}
	if !n.IsInt64() || n.Int64() < least || n.Int64() > greatest {
		return 0, false
	}
	return int(n.Int64()), true
}

// seeContents holds what is read of a text against the chapter's words; what is read must have these contents.
func seeContents(t *testing.T, s string) bool {
	t.Helper()
	n, ok := value(s)
	if !ok {
		seeAsInt(t, leaf(0, 2, s), 0, api.ErrPrim)
		return false
	}
	seeAsInt(t, leaf(0, 2, s), n, api.OK)
	if e, x := Int(0, 2, n); x != api.OK || e.Contents != s {
		t.Errorf("Int of %d: %x %d, not %x", n, e.Contents, int(x), s)
	}
	return true
}

// P16.2, P16.4: all contents of up to two bytes.
func TestShortContents(t *testing.T) {
	right := 0
	try := func(s string) {
		if seeContents(t, s) {
			right++
		}
	}
	try("")
	for a := range 256 {
		try(string([]byte{byte(a)}))
		for b := range 256 {
			try(string([]byte{byte(a), byte(b)}))
		}
	}
	if right != 65536 {
		t.Errorf("%d whole numbers of up to two bytes", right)
	}
}

// P16.2, P16.4: contents of three to five bytes, and of more, out of bytes that stand at edges.
func TestLongContents(t *testing.T) {
	edges := []byte{0x00, 0x01, 0x7e, 0x7f, 0x80, 0x81, 0xfe, 0xff}
	right := map[int]int{}
	var s []byte
	var all func(left int)
	all = func(left int) {
		if seeContents(t, string(s)) {
			right[len(s)]++
		}
		if left == 0 {
			return
		}
		for _, b := range edges {
			s = append(s, b)
			all(left - 1)
			s = s[:len(s)-1]
		}
	}
	all(5)
	// Of the 64 pairs of first bytes, 8 begin with nine bits that are the same.
	if right[1] != 8 || right[2] != 56 || right[3] != 56*8 || right[4] != 56*64 || right[5] != 0 {
		t.Error(right)
	}
	for _, n := range []int{6, 8, 9, 16, 100, 4000, 1 << 20} {
		for _, b := range []string{"\x00", "\x01", "\x7f", "\x80", "\xff"} {
			seeAsInt(t, leaf(0, 2, strings.Repeat(b, n)), 0, api.ErrPrim)
			seeAsInt(t, leaf(0, 2, strings.Repeat("\x00", n)+b), 0, api.ErrPrim)
		}
	}
}

// P16.2: contents that are none, written by hand.
func TestIntWrong(t *testing.T) {
	for _, s := range []string{"", "00 05", "00 00", "00 7f", "ff ff", "ff 80", "ff fb", "00 00 80", "00 00 00", "00 7f ff", "ff 80 00", "ff ff 7f", "00 00 00 05", "00 00 80 00", "00 7f ff ff", "ff ff ff ff", "ff 80 00 00", "00 80 00 00 00", "00 00 00 00 01", "00 ff ff ff ff", "01 00 00 00 00", "7f ff ff ff ff", "80 00 00 00 00", "ff 7f ff ff ff", "ff 80 00 00 00", "ff ff ff ff ff", "00 7f ff ff ff"} {
		for class := range 4 {
			seeAsInt(t, leaf(class, 2, raw(s)), 0, api.ErrPrim)
		}
	}
}

// P16.1, P16.4: many whole numbers, against another encoder of BER.
func TestIntMany(t *testing.T) {
	see := func(n int) {
		t.Helper()
		e, x := Int(0, 2, n)
		all, err := asn1.Marshal(n)
		if err != nil || x != api.OK || !same(e, leaf(0, 2, string(all[2:]))) {
			t.Fatalf("Int of %d: %s %d, not %x", n, told(e), int(x), all)
		}
		if back, x := AsInt(e); back != n || x != api.OK {
			t.Fatalf("AsInt of %x: %d %d, not %d", e.Contents, back, int(x), n)
		}
	}
	for n := -70000; n <= 70000; n++ {
		see(n)
	}
	for k := range 32 {
		for d := -300; d <= 300; d++ {
			for _, n := range []int{1<<k + d, -1<<k + d} {
				if n >= least && n <= greatest {
					see(n)
				}
			}
		}
	}
	c := rand.New(rand.NewSource(16))
	for range 100000 {
		see(int(int32(c.Uint32())) >> c.Intn(32))
	}
}

// P16.2: what is Made, or has Elements, is no number and no truth, whatever its Contents.
func TestNotPlain(t *testing.T) {
	for _, s := range []string{"\x00", "\x01", "\x7f", "\xff", "", "\x00\x80", "\x01\x00", "\x00\x05"} {
		for _, l := range [][]api.Element{nil, {}, {{}}, {leaf(0, 2, "\x05")}, {leaf(0, 1, "\xff"), {}}, {group(0, 16)}} {
			for _, made := range []bool{false, true} {
				for class := range 4 {
					e := api.Element{Class: class, Made: made, Number: 2, Contents: s, Elements: l}
					if made || len(l) > 0 {
						seeAsInt(t, e, 0, api.ErrPrim)
						seeAsBool(t, e, false, api.ErrPrim)
					}
				}
			}
		}
	}
	// An empty list is none.
	seeAsInt(t, api.Element{Contents: "\x05", Elements: []api.Element{}}, 5, api.OK)
	seeAsBool(t, api.Element{Contents: "\x05", Elements: []api.Element{}}, true, api.OK)
	seeAsBool(t, api.Element{Contents: "\x00", Elements: make([]api.Element, 0, 3)}, false, api.OK)
}

// P16.2: the class and the number of what is read are not asked, be they such or not.
func TestReadKinds(t *testing.T) {
	for _, class := range kinds() {
		for _, number := range kinds() {
			seeAsInt(t, leaf(class, number, "\xff\x7f"), -129, api.OK)
			seeAsBool(t, leaf(class, number, "\x01"), true, api.OK)
			seeAsBool(t, leaf(class, number, "\x00"), false, api.OK)
			seeTexts(t, group(class, number, leaf(0, 4, "a")), []string{"a"}, api.OK)
		}
	}
}

// P16.2: a truth has one byte; each but 00 is true.
func TestAsBool(t *testing.T) {
	for a := range 256 {
		s := string([]byte{byte(a)})
		seeAsBool(t, leaf(0, 1, s), a != 0, api.OK)
		for b := range 256 {
			seeAsBool(t, leaf(0, 1, s+string([]byte{byte(b)})), false, api.ErrPrim)
		}
		for _, n := range []int{3, 4, 5, 256, 4000} {
			seeAsBool(t, leaf(0, 1, strings.Repeat(s, n)), false, api.ErrPrim)
		}
	}
	seeAsBool(t, leaf(0, 1, ""), false, api.ErrPrim)
	seeAsBool(t, api.Element{}, false, api.ErrPrim)
}

// P16.1, P16.4: what is made of a truth tells it.
func TestBoolBack(t *testing.T) {
	for class := range 4 {
		for number := range 31 {
			for b, contents := range map[bool]string{true: "\xff", false: "\x00"} {
				e, x := Bool(class, number, b)
				seeMade(t, fmt.Sprint("Bool of ", b), e, x, leaf(class, number, contents), api.OK)
				seeAsBool(t, e, b, api.OK)
			}
		}
	}
}

// P16.1: a text may be of any bytes, and of more than a message has.
func TestText(t *testing.T) {
	every := make([]byte, 256)
	for i := range every {
		every[i] = byte(i)
	}
	for _, s := range []string{"", "a", "\x00", "\xff\xfe", "Stra\u00dfe", "\x30\x03\x02\x01\x05", string(every), strings.Repeat("x", 3996), strings.Repeat("x", 3997), strings.Repeat("y", 1<<20)} {
		for _, class := range []int{0, 1, 2, 3} {
			for _, number := range []int{0, 1, 4, 29, 30} {
				e, x := Text(class, number, s)
				seeMade(t, "Text", e, x, leaf(class, number, s), api.OK)
			}
		}
	}
}

// odd are elements that may not be, of every kind.
func odd() []api.Element {
	return []api.Element{
		leaf(4, 0, ""), leaf(-1, 4, "a"), leaf(0, 31, "a"), leaf(0, -1, ""), leaf(math.MinInt, math.MaxInt, "z"), group(9, 99), group(math.MaxInt, math.MinInt, leaf(7, 70, "")),
		{Made: true, Contents: "a"}, {Made: true, Contents: "a", Elements: []api.Element{{}, {}}}, {Elements: []api.Element{{Contents: "b"}}}, {Contents: "a", Elements: []api.Element{group(0, 16, leaf(0, 4, "c"))}},
		leaf(0, 4, strings.Repeat("x", 5000)), group(0, 16, make([]api.Element, 3000)...), tower(12, leaf(0, 4, "a")), tower(13, leaf(0, 4, "a")), tower(40, group(5, 50)),
	}
}

// P16.1: a group of none, of one, of many, and of elements that may not be: their errors are not asked.
func TestGroup(t *testing.T) {
	see := func(l ...api.Element) {
		t.Helper()
		for _, class := range []int{0, 3} {
			for _, number := range []int{0, 16, 30} {
				e, x := Group(class, number, l...)
				seeMade(t, "Group", e, x, api.Element{Class: class, Made: true, Number: number, Elements: l}, api.OK)
			}
		}
		for _, wrong := range [][2]int{{4, 0}, {-1, 16}, {0, 31}, {3, -1}} {
			e, x := Group(wrong[0], wrong[1], l...)
			seeMade(t, "Group", e, x, api.Element{}, api.ErrArg)
		}
	}
	see()
	see([]api.Element{}...)
	see(api.Element{})
	see(leaf(0, 4, "a"), leaf(0, 4, "a"), leaf(0, 2, "\x05"))
	see(group(0, 16), group(0, 16, group(0, 16, leaf(1, 2, "x"), group(0, 17)), leaf(0, 4, "b")))
	for _, n := range []int{2, 7, 100, 1998, 1999, 20000} {
		l := make([]api.Element, n)
		for i := range l {
			l[i] = leaf(i%4, i%31, fmt.Sprint(i))
		}
		see(l...)
	}
	for _, e := range odd() {
		see(e)
		see(leaf(0, 4, "a"), e, group(0, 16, e))
	}
	see(odd()...)
}

// P16.1: what is nested as deep as the document lets it be is put in whole.
func TestGroupDeep(t *testing.T) {
	const deep = 1 << 16
	in := tower(deep, leaf(0, 4, "low"))
	e, x := Group(0, 16, leaf(0, 4, "a"), in)
	if x != api.OK || len(e.Elements) != 2 {
		t.Fatal(int(x), len(e.Elements))
	}
	at, was := e.Elements[1], in
	for i := range deep - 1 {
		if len(at.Elements) != 1 || !Is(at, 0, 16, true) {
			t.Fatalf("level %d: %d elements", i, len(at.Elements))
		}
		if &at.Elements[0] == &was.Elements[0] {
			t.Fatalf("level %d: not new", i)
		}
		at, was = at.Elements[0], was.Elements[0]
	}
	if !same(at, leaf(0, 4, "low")) {
		t.Error(told(at))
	}
}

// An element can hold itself, with others that do so, too: each call ends.
func TestRings(t *testing.T) {
	for _, wide := range []int{1, 2, 3, 50} {
		l := make([]api.Element, wide)
		for i := range l {
			l[i] = api.Element{Made: true, Number: 4, Contents: "\x05", Elements: l}
		}
		given := []api.Element{leaf(0, 4, "a"), l[0], l[wide-1]}
		e, x := Group(1, 2, given...)
		given[0], given[2] = api.Element{}, api.Element{}
		if x != api.OK || !Is(e, 1, 2, true) || len(e.Elements) != 3 || !same(e.Elements[0], leaf(0, 4, "a")) || len(e.Elements[2].Elements) != wide {
			t.Errorf("Group of rings of %d: %d", wide, int(x))
		}
		if e, x := Group(4, 2, l[0]); x != api.ErrArg || !same(e, api.Element{}) {
			t.Errorf("Group of rings of %d: %d", wide, int(x))
		}
		in := l[0]
		if _, x := AsInt(in); x != api.ErrPrim {
			t.Error(int(x))
		}
		if _, x := AsBool(in); x != api.ErrPrim {
			t.Error(int(x))
		}
		if l, x := Texts(in); l != nil || x != api.ErrPrim {
			t.Error(int(x))
		}
		if !Is(in, 0, 4, true) || Is(in, 0, 4, false) {
			t.Error("Is")
		}
	}
}

// P16.3: Class, Number and Made are asked, nothing else, whichever numbers they are.
func TestIs(t *testing.T) {
	numbers := []int{math.MinInt, -1 << 32, -1, 0, 1, 2, 3, 4, 5, 16, 30, 31, 1 << 31, 1 << 32, math.MaxInt}
	for _, class := range numbers {
		for _, number := range numbers {
			for _, made := range []bool{false, true} {
				for _, e := range []api.Element{{}, {Contents: "a"}, {Elements: []api.Element{{}, group(1, 2)}}, {Contents: "b", Elements: []api.Element{leaf(0, 4, "a")}}} {
					e.Class, e.Number, e.Made = class, number, made
					for _, c := range numbers {
						seeIs(t, e, c, number, made, c == class)
						seeIs(t, e, class, c, made, c == number)
						seeIs(t, e, c, c, made, c == class && c == number)
						seeIs(t, e, c, number, !made, false)
						seeIs(t, e, number, class, made, class == number)
					}
				}
			}
		}
	}
}

// P16.3: the texts of a row, in their order, as they are.
func TestTexts(t *testing.T) {
	seeTexts(t, group(0, 16), nil, api.OK)
	seeTexts(t, api.Element{Made: true}, nil, api.OK)
	seeTexts(t, api.Element{Made: true, Elements: []api.Element{}}, nil, api.OK)
	seeTexts(t, group(0, 17, leaf(0, 4, "")), []string{""}, api.OK)
	seeTexts(t, group(0, 17, leaf(0, 4, "b"), leaf(0, 4, "a"), leaf(0, 4, "b"), leaf(0, 4, "\xff\x00")), []string{"b", "a", "b", "\xff\x00"}, api.OK)
	for _, n := range []int{1, 2, 3, 10, 1000, 1 << 17} {
		want, l := make([]string, n), make([]api.Element, n)
		for i := range l {
			want[i] = fmt.Sprint(i * 7 % 13)
			l[i] = leaf(0, 4, want[i])
		}
		seeTexts(t, group(2, 3, l...), want, api.OK)
	}
	// Of the elements their sort alone is asked, and of the one around them that it is Made.
	seeTexts(t, api.Element{Made: true, Contents: "x", Elements: []api.Element{{Number: 4, Contents: "a", Elements: []api.Element{{}}}}}, []string{"a"}, api.OK)
	seeTexts(t, group(0, 16, leaf(0, 4, strings.Repeat("x", 1<<20))), []string{strings.Repeat("x", 1<<20)}, api.OK)
}

// P16.3: what is not Made is no row, nor what has one in it of another Class, another Number, or that is Made, wherever it stands.
func TestTextsWrong(t *testing.T) {
	text := leaf(0, 4, "a")
	for _, e := range []api.Element{{}, leaf(0, 4, "a"), leaf(0, 16, ""), leaf(3, 30, "\x04\x01a"), {Elements: []api.Element{}}, {Elements: []api.Element{text}}, {Number: 16, Elements: []api.Element{text, text}}, {Contents: "a", Elements: []api.Element{text}}} {
		seeTexts(t, e, nil, api.ErrPrim)
	}
	for _, wrong := range []api.Element{
		{}, leaf(1, 4, "a"), leaf(2, 4, "a"), leaf(3, 4, "a"), leaf(4, 4, "a"), leaf(-1, 4, "a"), leaf(math.MinInt, 4, ""), leaf(1<<32, 4, ""), leaf(4, 0, "a"),
		leaf(0, 0, "a"), leaf(0, 3, "a"), leaf(0, 5, ""), leaf(0, 12, "a"), leaf(0, 30, "a"), leaf(0, 36, "a"), leaf(0, -4, "a"), leaf(0, 1<<32+4, ""), leaf(0, math.MaxInt, ""),
		group(0, 4), group(0, 4, text), {Made: true, Number: 4, Contents: "a"}, group(0, 16), group(0, 16, text), group(2, 3, text),
	} {
		seeTexts(t, group(0, 16, wrong), nil, api.ErrPrim)
		for _, n := range []int{1, 2, 5} {
			for at := range n + 1 {
				l := slices.Insert(slices.Repeat([]api.Element{text}, n), at, wrong)
				seeTexts(t, group(0, 16, l...), nil, api.ErrPrim)
			}
		}
	}
}

// P16.1, P16.3: what is made of texts is read as they are.
func TestTextsBack(t *testing.T) {
	c := rand.New(rand.NewSource(4))
	for range 2000 {
		var want []string
		var l []api.Element
		for range c.Intn(8) {
			b := make([]byte, c.Intn(6))
			c.Read(b)
			e, x := Text(0, 4, string(b))
			if x != api.OK {
				t.Fatal(int(x))
			}
			want, l = append(want, string(b)), append(l, e)
		}
		e, x := Group(c.Intn(4), c.Intn(31), l...)
		if x != api.OK {
			t.Fatal(int(x))
		}
		seeTexts(t, e, want, api.OK)
	}
}

// P16.1, P16.4: what is made may be laid as bytes, and is read from these.
func TestThroughBytes(t *testing.T) {
	for _, r := range rows() {
		n, _ := Int(2, 5, r.n)
		b, _ := Bool(0, 1, r.n > 0)
		w, _ := Text(1, 30, r.contents)
		e, x := Group(3, 0, n, b, w)
		if x != api.OK {
			t.Fatal(int(x))
		}
		s, x := ber.Encode(e)
		width := string([]byte{byte(len(r.contents))})
		truth := "\x00"
		if r.n > 0 {
			truth = "\xff"
		}
		inner := "\x85" + width + r.contents + "\x01\x01" + truth + "\x5e" + width + r.contents
		if want := "\xe0" + string([]byte{byte(len(inner))}) + inner; s != want || x != api.OK {
			t.Fatalf("Encode: %x %d, not %x", s, int(x), want)
		}
		back, _, x := ber.Decode(s, 0)
		if x != api.OK || !same(back, e) {
			t.Fatalf("Decode: %s %d", told(back), int(x))
		}
		seeAsInt(t, back.Elements[0], r.n, api.OK)
		seeAsBool(t, back.Elements[1], r.n > 0, api.OK)
	}
}

// wreck puts something else into each list of an element, and into its spare room.
func wreck(l []api.Element) {
	for _, e := range l {
		wreck(e.Elements)
	}
	l = l[:cap(l)]
	for i := range l {
		l[i] = leaf(9, 9, "wrecked")
	}
}

// roomy copies an element; each list in it has spare room, in which something stands.
func roomy(e api.Element) api.Element {
	if len(e.Elements) > 0 {
		l := make([]api.Element, 0, len(e.Elements)+3)
		for _, in := range e.Elements {
			l = append(l, roomy(in))
		}
		e.Elements = append(l, leaf(7, 7, "spare"), group(8, 8), leaf(6, 6, ""))[:len(l)]
	}
	return e
}

// seeSpare looks whether the lists that roomy made still have their spare room.
func seeSpare(t *testing.T, l []api.Element) {
	t.Helper()
	for _, e := range l {
		if len(e.Elements) > 0 {
			seeSpare(t, e.Elements)
		}
	}
	n := len(l)
	if spare := l[n : n+3]; !same(spare[0], leaf(7, 7, "spare")) || !same(spare[1], group(8, 8)) || !same(spare[2], leaf(6, 6, "")) {
		t.Error("the spare room has changed")
	}
}

// shapes are elements with lists in them.
func shapes() []api.Element {
	text := leaf(0, 4, "a")
	return append(odd(), group(0, 16, text), group(0, 16, text, leaf(0, 4, "b"), text), group(0, 16, group(0, 16, text), group(0, 17, group(1, 2, text, text), leaf(0, 2, "\x05"))), api.Element{Elements: []api.Element{group(0, 16, text)}})
}

// Group changes nothing of what came in, and keeps none of its lists, however deep.
func TestGroupMemory(t *testing.T) {
	for _, want := range shapes() {
		around := roomy(group(0, 16, want, leaf(0, 4, "x"), want))
		l := around.Elements
		e, x := Group(0, 16, l...)
		full := group(0, 16, want, leaf(0, 4, "x"), want)
		seeMade(t, "Group", e, x, full, api.OK)
		seeMade(t, "what came in", around, api.OK, full, api.OK)
		seeSpare(t, l)
		other, _ := Group(0, 16, l...)
		wreck(l)
		seeMade(t, "Group, as what came in is changed", e, api.OK, full, api.OK)
		wreck(e.Elements)
		seeMade(t, "another Group of the same", other, api.OK, full, api.OK)
	}
}

// No two lists of what Group answers share memory, even if those that came in do.
func TestGroupLists(t *testing.T) {
	shared := []api.Element{leaf(0, 4, "a"), group(0, 16, leaf(0, 4, "b"))}
	in := group(0, 16, shared...)
	e, x := Group(0, 16, in, group(0, 17, in, in), in)
	want := group(0, 16, in, group(0, 17, in, in), in)
	seeMade(t, "Group", e, x, want, api.OK)
	wreck(e.Elements[0].Elements)
	wreck(e.Elements[1].Elements[0].Elements)
	for _, kept := range []api.Element{e.Elements[1].Elements[1], e.Elements[2], in} {
		seeMade(t, "a list beside", kept, api.OK, group(0, 16, leaf(0, 4, "a"), group(0, 16, leaf(0, 4, "b"))), api.OK)
	}
}

// What is read keeps its lists as they are, and what is told of it is new.
func TestReadMemory(t *testing.T) {
	want := group(0, 16, leaf(0, 4, "a"), leaf(0, 4, "b"), leaf(0, 4, "c"))
	e := roomy(want)
	got, x := Texts(e)
	again, _ := Texts(e)
	if x != api.OK || !slices.Equal(got, []string{"a", "b", "c"}) {
		t.Fatal(got, int(x))
	}
	seeMade(t, "what came in", e, api.OK, want, api.OK)
	seeSpare(t, e.Elements)
	got = got[:cap(got)]
	for i := range got {
		got[i] = "wrecked"
	}
	seeMade(t, "what came in", e, api.OK, want, api.OK)
	wreck(e.Elements)
	if !slices.Equal(again, []string{"a", "b", "c"}) {
		t.Error(again)
	}
	for _, e := range shapes() {
		full := roomy(group(0, 16, e))
		AsInt(full.Elements[0])
		AsBool(full.Elements[0])
		Texts(full)
		Texts(full.Elements[0])
		Is(full, 0, 16, true)
		seeMade(t, "what came in", full, api.OK, group(0, 16, e), api.OK)
		seeSpare(t, full.Elements)
	}
}

// What is answered hangs on the arguments alone.
func TestAgain(t *testing.T) {
	for range 3 {
		for _, r := range rows() {
			e, x := Int(1, 2, r.n)
			seeMade(t, "Int", e, x, leaf(1, 2, r.contents), api.OK)
			e, x = Int(1, 2, greatest+1)
			seeMade(t, "Int", e, x, api.Element{}, api.ErrArg)
		}
	}
}

// The chapter's examples.
func TestExamples(t *testing.T) {
	for n, contents := range map[int]string{127: "7f", 128: "00 80", -128: "80", -129: "ff 7f"} {
		e, x := Int(0, 2, n)
		seeMade(t, "Int", e, x, leaf(0, 2, raw(contents)), api.OK)
		seeAsInt(t, leaf(0, 2, raw(contents)), n, api.OK)
	}
	seeAsInt(t, leaf(0, 2, raw("00 05")), 0, api.ErrPrim)
}
