package oid

import (
	"fmt"
	"math"
	"math/rand"
	"regexp"
	"slices"
	"strings"
	"testing"

	"toponym/api"
)

// told is what is told of a list: its beginning.
func told(l []int) string {
	if len(l) > 20 {
		return fmt.Sprint(l[:20], " and others")
	}
	return fmt.Sprint(l)
}

// cut is what is told of a text: its beginning.
func cut(s string) string {
	return s[:min(len(s), 100)]
}

// seeWrong looks that a list is no identifier, for each call that asks it.
func seeWrong(t *testing.T, l []int) {
	t.Helper()
	if x := Check(l...); x != api.ErrOid {
		t.Errorf("Check of %s: %d", told(l), int(x))
	}
	if s, x := Show(l...); s != "" || x != api.ErrOid {
		t.Errorf("Show of %s: %q %d", told(l), s, int(x))
	}
	if got := Above(l...); len(got) != 0 {
		t.Errorf("Above of %s: %s", told(l), told(got))
	}
	for _, other := range [][]int{l, {2, 5}, {0, 0}, {1, 39}, {2, 5, 4, 3}, nil} {
		if Under(l, other) || Under(other, l) {
			t.Errorf("Under of %s and %s", told(l), told(other))
		}
	}
}

// seeRight looks that a list is an identifier with this text.
func seeRight(t *testing.T, l []int, s string) {
	t.Helper()
	if x := Check(l...); x != api.OK {
		t.Errorf("Check of %s: %d", told(l), int(x))
	}
	if got, x := Show(l...); got != s || x != api.OK {
		t.Errorf("Show of %s: %q %d, not %q", told(l), got, int(x), s)
	}
	if got, x := Parse(s); !slices.Equal(got, l) || x != api.OK {
		t.Errorf("Parse of %q: %s %d, not %s", s, told(got), int(x), told(l))
	}
	if !Under(l, l) {
		t.Errorf("%s is not under itself", told(l))
	}
}

func seeNoText(t *testing.T, s string) {
	t.Helper()
	if l, x := Parse(s); len(l) != 0 || x != api.ErrOid {
		t.Errorf("Parse of %q: %s %d", cut(s), told(l), int(x))
	}
}

func seeCmp(t *testing.T, a, b []int, want int) {
	t.Helper()
	if got := Cmp(a, b); got != want {
		t.Errorf("Cmp of %s and %s: %d, not %d", told(a), told(b), got, want)
	}
	if got := Cmp(b, a); got != -want {
		t.Errorf("Cmp of %s and %s: %d, not %d", told(b), told(a), got, -want)
	}
}

func seeUnder(t *testing.T, a, b []int, want bool) {
	t.Helper()
	if got := Under(a, b); got != want {
		t.Errorf("Under of %s and %s: %t", told(a), told(b), got)
	}
}

func seeAbove(t *testing.T, l, want []int) {
	t.Helper()
	if got := Above(l...); !slices.Equal(got, want) {
		t.Errorf("Above of %s: %s, not %s", told(l), told(got), told(want))
	}
}

// stopAtFault ends a test that goes through many lists at its first faults: the others would tell nothing more.
func stopAtFault(t *testing.T) {
	t.Helper()
	if t.Failed() {
		t.FailNow()
	}
}

// row is so many times a number, behind 1.2.
func row(times, n int) []int {
	l := []int{1, 2}
	for range times {
		l = append(l, n)
	}
	return l
}

// P17.1, P17.2, P17.5: identifiers and their texts, written by hand: two numbers and twelve, the ends of each.
func TestRight(t *testing.T) {
	for s, l := range map[string][]int{
		"2.5.4.3": {2, 5, 4, 3}, "2.5.4": {2, 5, 4}, "2.5": {2, 5},
		"0.0": {0, 0}, "0.1": {0, 1}, "0.9": {0, 9}, "0.10": {0, 10}, "0.38": {0, 38}, "0.39": {0, 39},
		"1.0": {1, 0}, "1.2": {1, 2}, "1.38": {1, 38}, "1.39": {1, 39},
		"2.0": {2, 0}, "2.38": {2, 38}, "2.39": {2, 39}, "2.40": {2, 40}, "2.41": {2, 41}, "2.100": {2, 100}, "2.999": {2, 999}, "2.99998": {2, 99998}, "2.99999": {2, 99999},
		"0.0.0": {0, 0, 0}, "0.39.99999": {0, 39, 99999}, "1.39.99999": {1, 39, 99999}, "1.39.40": {1, 39, 40}, "1.0.39.40.41": {1, 0, 39, 40, 41}, "2.40.0": {2, 40, 0},
		"1.2.3": {1, 2, 3}, "1.2.10": {1, 2, 10}, "1.2.840.10045.4.3.2": {1, 2, 840, 10045, 4, 3, 2}, "1.3.6.1.4.1.1466": {1, 3, 6, 1, 4, 1, 1466},
		"1.2.100.2000.30000": {1, 2, 100, 2000, 30000}, "1.2.90909.10001.11111": {1, 2, 90909, 10001, 11111}, "0.3.3.3": {0, 3, 3, 3},
		"0.0.0.0.0.0.0.0.0.0.0":   {0, 0, 0, 0, 0, 0, 0, 0, 0, 0, 0},
		"0.0.0.0.0.0.0.0.0.0.0.0": {0, 0, 0, 0, 0, 0, 0, 0, 0, 0, 0, 0},
		"1.1.1.1.1.1.1.1.1.1.1.1": {1, 1, 1, 1, 1, 1, 1, 1, 1, 1, 1, 1},
		"2.1.2.3.4.5.6.7.8.9.0.1": {2, 1, 2, 3, 4, 5, 6, 7, 8, 9, 0, 1},
		"2.99999.99999.99999.99999.99999.99999.99999.99999.99999.99999.99999": {2, 99999, 99999, 99999, 99999, 99999, 99999, 99999, 99999, 99999, 99999, 99999},
	} {
		seeRight(t, l, s)
	}
}

// P17.1, P17.3, P17.4: lists that are no identifiers, written by hand.
func TestWrong(t *testing.T) {
	for _, l := range [][]int{
		nil, {}, {0}, {1}, {2}, {3}, {39}, {-1}, {99999}, {100000}, {math.MinInt}, {math.MaxInt},
		{0, 40}, {0, 41}, {0, 99999}, {1, 40}, {1, 41}, {1, 99999}, {0, 40, 1}, {1, 40, 0}, {1, 100, 1, 1},
		{3, 0}, {3, 1}, {3, 39}, {3, 40}, {4, 1}, {9, 9, 9}, {39, 1}, {99999, 1}, {100000, 1}, {3, 1, 1}, {math.MaxInt, 1}, {math.MaxInt, 1, 1},
		{-1, 0}, {-1, 1}, {-2, 5, 4}, {math.MinInt, 1}, {math.MinInt, 1, 1}, {math.MinInt + 2, 1, 1},
		{0, -1}, {1, -1}, {2, -1}, {2, -1, 1}, {0, math.MinInt}, {1, math.MinInt}, {2, math.MinInt}, {2, math.MinInt, 3}, {0, math.MaxInt}, {2, math.MaxInt}, {2, math.MaxInt, 3},
		{2, 100000}, {2, 100001}, {2, 100000, 1}, {1, 2, 100000}, {1, 2, 100001}, {1, 2, -1}, {1, 2, -99999}, {1, 2, math.MinInt}, {1, 2, math.MaxInt}, {1, 2, 1<<32 + 3}, {1, 2, -1<<32 + 3}, {1<<32 + 1, 2, 3}, {1, 1<<32 + 2, 3}, {1, 2, 3, 4, -1}, {1, 2, -1, 4, 5}, {1, 2, 100000, 4},
		row(10, 0)[:0], row(11, 0), row(11, 1), row(11, 99999), row(12, 1), row(100, 3), row(100000, 3),
		append(row(9, 1), 100000), append(row(9, 1), -1), append(row(10, 1), 1),
		{2, 1, 2, 3, 4, 5, 6, 7, 8, 9, 0, 1, 2},
	} {
		seeWrong(t, l)
	}
}

// P17.1: each first and second number, around the ends of both.
func TestBegin(t *testing.T) {
	edges := []int{math.MinInt, math.MinInt + 1, -1 << 32, -1 << 31, -100000, -99999, -40, -39, -2, -1, 0, 1, 2, 3, 4, 5, 10, 20, 37, 38, 39, 40, 41, 42, 79, 80, 99, 100, 255, 256, 1000, 65535, 65536, 99998, 99999, 100000, 100001, 1 << 31, 1 << 32, 1<<32 + 1, 1<<32 + 39, math.MaxInt - 1, math.MaxInt}
	right := 0
	for _, a := range edges {
		for _, b := range edges {
			for _, tail := range [][]int{nil, {0}, {40}, {99999}, {3, 40, 5}} {
				l := append([]int{a, b}, tail...)
				if low := a == 0 || a == 1; low && b >= 0 && b <= 39 || a == 2 && b >= 0 && b <= 99999 {
					seeRight(t, l, strings.ReplaceAll(strings.Trim(fmt.Sprint(l), "[]"), " ", "."))
					right++
				} else {
					seeWrong(t, l)
				}
			}
		}
	}
	// Of the edges 11 are from 0 to 39, 25 from 0 to MaxOidArc.
	if right != 5*(11+11+25) {
		t.Error(right)
	}
}

// P17.1: each place of an identifier, with a number around the ends of what may be.
func TestPlaces(t *testing.T) {
	for size := range 15 {
		for place := range size {
			for _, n := range []int{math.MinInt, -100000, -1, 0, 1, 39, 40, 99998, 99999, 100000, math.MaxInt} {
				l := []int{2, 5, 4, 3, 2, 1, 0, 99999, 8, 7, 6, 5, 4, 3}[:size]
				l = slices.Clone(l)
				l[place] = n
				may := size >= 2 && size <= 12 && n >= 0 && n <= 99999
				if place == 0 {
					may = may && n <= 1
				}
				if may {
					seeRight(t, l, strings.ReplaceAll(strings.Trim(fmt.Sprint(l), "[]"), " ", "."))
				} else {
					seeWrong(t, l)
				}
			}
		}
	}
}

// P17.2: texts that are no identifier's, written by hand.
func TestNoText(t *testing.T) {
	for _, s := range []string{
		"", "0", "1", "2", "3", "12", "99999", "100000", ".", "..", "...", ".1", "1.", ".1.2", "1.2.", "..1.2", "1.2..", ".1.2.", "1..2", "1.2..3", "1...2", "2.5..4", "2.5.4.3.",
		"3.1", "3.0", "3.40", "4.1", "9.9.9", "10.1", "12.5", "20.1", "1.40", "0.40", "0.41", "1.99999", "1.100", "0.390", "1.40.1", "3.1.1",
		"01.2", "00.0", "00.1", "02.5", "1.02", "1.00", "0.00", "1.039", "2.05.4", "2.5.04", "2.5.4.03", "2.5.00", "2.5.000", "2.5.00001", "2.5.099999", "1.2.0000000000000000000000003",
		"+1.2", "1.+2", "1.-2", "-1.2", "1.2.+3", "1.2.-3", "1.2.-0", "-0.0", "0.-0", "0.+0", "+0.0", "1.2.3-", "1.2.3+", "1.2.--3", "2.5.4.-99999",
		" 1.2", "1.2 ", "1 .2", "1. 2", "1.2. 3", "1.2.3 ", "1.2 .3", "1.2.3\n", "\t1.2.3", "1.2.3\x00", "\x001.2", "1.\x00", "1 2", "2 5 4 3",
		"a", "a.b", "1.a", "a.1", "1.2.a", "1.2.3a", "1.2a.3", "1.2.0x3", "0x1.2", "1.2.1e3", "1.2.3e", "1.2._3", "1.2.3_0", "1_0.2", "1.1_0", "1.2.0b1", "1.2.0o7", "1.2.1f", "1.2.inf", "1.2.NaN",
		"1,2", "1.2,3", "1;2", "1:2", "1/2", "1.2/3", "1.2:3", "1-2", "{1.2}", "1.2.3:", "oid.1.2", "OID.1.2", "\"1.2\"",
		"1.2.\uff13", "\u0661.\u0662", "1\u30022", "1.2\xff", "\xff.1", "1.2.3\u00a0", "\ufeff1.2", "1.2.\u00b2", "1\uff0e2", "1.2\u0301",
		"1.2.100000", "1.2.100001", "1.2.999999", "2.100000", "2.999990", "1.2.4294967299", "1.2.2147483648", "1.2.9223372036854775807", "1.2.9223372036854775808", "1.2.18446744073709551616", "1.2.18446744073709551619", "1.2.36893488147419103235", "18446744073709551617.2", "4294967297.2.3", "1.4294967298.3", "1.2.-9223372036854775808", "1.2.340282366920938463463374607431768211459",
		"1.1.1.1.1.1.1.1.1.1.1.1.1", "0.0.0.0.0.0.0.0.0.0.0.0.0", "2.1.2.3.4.5.6.7.8.9.0.1.", "2.1.2.3.4.5.6.7.8.9.0.1.a", "2.1.2.3.4.5.6.7.8.9.0.1..", ".2.1.2.3.4.5.6.7.8.9.0.1", "2.1.2.3.4.5.6.7.8.9.0.1.2.3", "2.1.2.3.4.5.6.7.8.9.0.100000", "2.1.2.3.4.5.6.7.8.9.0.01", "2.1.2.3.4.5.6.7.8.9.0.", "2.1.2.3.4.5.6.7.8.9.0.1 ",
		"1.2." + strings.Repeat("9", 100), "1.2." + strings.Repeat("1", 1<<20), "1.2." + strings.Repeat("0", 1<<20), strings.Repeat("0", 1<<20) + "1.2", "1." + strings.Repeat("0", 1<<20) + "2",
		strings.Repeat("1.", 1<<20) + "1", strings.Repeat(".", 1<<20), "1.2" + strings.Repeat(".3", 11), "1.2" + strings.Repeat(".3", 100), strings.Repeat("x", 1<<20), "1.2" + strings.Repeat("\x00", 1<<20),
	} {
		seeNoText(t, s)
	}
}

// digits says what the text of numbers is: the chapter's words of it, without those of how many there are and how great.
var digits = regexp.MustCompile(`^(0|[1-9][0-9]*)(\.(0|[1-9][0-9]*))*\z`)

// read reads a text as the chapter says it, and tells whether it is an identifier's.
func read(s string) ([]int, bool) {
	if !digits.MatchString(s) {
		return nil, false
	}
	var l []int
	n := 0
	for _, b := range []byte(s + ".") {
		if b == '.' {
			l = append(l, n)
			n = 0
			continue
		}
		if n = n*10 + int(b-'0'); n > 99999 {
			return nil, false
		}
	}
	return l, len(l) >= 2 && len(l) <= 12 && (l[0] == 2 || l[0] < 2 && l[1] < 40)
}

// seeText holds what is read of a text against the chapter's words.
func seeText(t *testing.T, s string) bool {
	t.Helper()
	l, may := read(s)
	if may {
		seeRight(t, l, s)
	} else {
		seeNoText(t, s)
	}
	return may
}

// P17.2, P17.5: all texts of up to six bytes out of those that matter.
func TestShortTexts(t *testing.T) {
	right := map[int]int{}
	s := make([]byte, 0, 6)
	var all func()
	all = func() {
		if seeText(t, string(s)) {
			right[len(s)]++
		}
		if len(s) == cap(s) {
			return
		}
		for _, b := range []byte("0123459.+- ") {
			s = append(s, b)
			all()
			s = s[:len(s)-1]
		}
	}
	all()
	// Three bytes: one of three first numbers, a point, one of seven digits.
	if right[0] != 0 || right[1] != 0 || right[2] != 0 || right[3] != 3*7 {
		t.Error(right)
	}
	// Four: 10 to 39 out of these digits behind 0 and 1, 10 to 99 behind 2.
	if right[4] != 2*3*7+6*7 {
		t.Error(right)
	}
}

// P17.2: each byte in each place of a text.
func TestEachByte(t *testing.T) {
	for _, s := range []string{"2.5.4.3", "0.0", "1.39.99999", "2.1.2.3.4.5.6.7.8.9.0.1", "2.10000"} {
		for at := range len(s) + 1 {
			for b := range 256 {
				in := string([]byte{byte(b)})
				seeText(t, s[:at]+in+s[at:])
				if at < len(s) {
					seeText(t, s[:at]+in+s[at+1:])
				}
			}
			seeText(t, s[:at])
			seeText(t, s[at:])
		}
	}
}

// P17.2, P17.5: long texts, by chance, most of them near to an identifier's.
func TestLongTexts(t *testing.T) {
	c := rand.New(rand.NewSource(17))
	parts := []string{"0", "1", "2", "3", "9", "10", "38", "39", "40", "100", "9999", "99998", "99999", "100000", "12345"}
	odd := []string{"", "00", "01", "+1", "-1", "a", " 1", "1 ", "999999", "99999999999999999999"}
	right, wrong := 0, 0
	for range 200000 {
		var l []string
		for range 1 + c.Intn(14) {
			l = append(l, parts[c.Intn(len(parts))])
		}
		if c.Intn(2) == 0 {
			l[0] = parts[c.Intn(3)]
		}
		if c.Intn(4) == 0 {
			l[c.Intn(len(l))] = odd[c.Intn(len(odd))]
		}
		if seeText(t, strings.Join(l, ".")) {
			right++
		} else {
			wrong++
		}
	}
	if right < 20000 || wrong < 20000 {
		t.Error(right, wrong)
	}
}

// P17.3: Cmp, by hand: of identifiers and of other lists.
func TestCmp(t *testing.T) {
	for _, l := range [][]int{nil, {0}, {1}, {2, 5}, {2, 5, 4, 3}, {-1, math.MinInt, math.MaxInt}, row(1000, 3)} {
		seeCmp(t, l, l, 0)
		seeCmp(t, l, slices.Clone(l), 0)
		seeCmp(t, l, append(slices.Clone(l), 0), -1)
		seeCmp(t, l, append(slices.Clone(l), -1), -1)
		seeCmp(t, l, append(slices.Clone(l), math.MinInt), -1)
		seeCmp(t, l, append(slices.Clone(l), 1, 2, 3), -1)
	}
	seeCmp(t, nil, []int{}, 0)
	for _, r := range [][2][]int{
		{{1}, {2}}, {{0, 39}, {1, 0}}, {{1, 2}, {1, 3}}, {{1, 2}, {1, 10}}, {{1, 9}, {1, 10}}, {{2, 5, 4}, {2, 5, 4, 3}}, {{2, 5, 4, 3}, {2, 5, 5}}, {{2, 5, 4, 99999}, {2, 5, 5}}, {{2, 5}, {2, 5, 4}}, {{1, 39, 99999}, {2, 0}}, {{2, 9}, {2, 99999}},
		{nil, {0}}, {nil, {math.MinInt}}, {{math.MinInt}, {math.MaxInt}}, {{math.MinInt}, {0}}, {{math.MinInt}, {1}}, {{-1}, {0}}, {{-1}, {math.MaxInt}}, {{-2}, {math.MaxInt}}, {{0}, {math.MaxInt}}, {{math.MinInt}, {math.MinInt + 1}}, {{math.MaxInt - 1}, {math.MaxInt}}, {{-5, 9}, {-4}}, {{1, 2, 3, -7}, {1, 2, 3, -6, 0}},
		{{0, 0}, {1 << 32}}, {{1}, {1 << 32}}, {{1 << 31}, {1 << 32}}, {{-1 << 32}, {0}}, {{1, -1}, {1, 0}}, {{1, 40}, {3}}, {{9, 9, 8}, {9, 9, 9}}, {{1, 1 << 32}, {1, 1<<32 + 1}},
		{row(1000, 3), append(row(999, 3), 4)}, {row(1000, 3), row(1001, 3)}, {row(1001, 3), append(row(999, 3), 4)},
	} {
		seeCmp(t, r[0], r[1], -1)
	}
}

// P17.3: Under, by hand.
func TestUnder(t *testing.T) {
	a := []int{2, 5, 4, 3}
	for end := range len(a) + 1 {
		seeUnder(t, a, a[:end], end >= 2)
		seeUnder(t, a[:end], a, end == 4)
		seeUnder(t, a[:end], a[:end], end >= 2)
		seeUnder(t, a[:end], slices.Clone(a[:end]), end >= 2)
	}
	for _, b := range [][]int{{2, 5, 5}, {2, 5, 3}, {2, 4, 4}, {2, 5, 4, 2}, {2, 5, 4, 4}, {1, 5, 4, 3}, {1, 5, 4}, {2, 6}, {1, 5}, {0, 5}, {2, 5, 4, 3, 0}, {5, 4, 3}, {4, 3}, {2, 5, 4, 30}, {2, 50}} {
		seeUnder(t, a, b, false)
	}
	seeUnder(t, []int{2, 5, 40}, []int{2, 5, 4}, false)
	seeUnder(t, row(10, 1), row(0, 1), true)
	seeUnder(t, row(10, 1), row(9, 1), true)
	seeUnder(t, row(10, 1), row(10, 1), true)
	seeUnder(t, row(9, 1), row(10, 1), false)
	// One of the two is no identifier, though the other begins with it, or it with the other.
	for _, r := range [][2][]int{
		{a, nil}, {a, {2}}, {a, {}}, {{2}, {2}}, {nil, nil}, {nil, a}, {{2}, a}, {row(11, 1), row(10, 1)}, {row(11, 1), row(0, 1)}, {row(11, 1), row(11, 1)}, {row(10, 1), row(11, 1)},
		{{1, 40, 1}, {1, 40}}, {{1, 40}, {1, 40}}, {{3, 1, 1}, {3, 1}}, {{3, 1}, {3, 1}}, {{1, 2, -1}, {1, 2}}, {{1, 2, 100000}, {1, 2}}, {{1, 2, 3, math.MaxInt}, {1, 2, 3}}, {{1, 2, 3, math.MinInt}, {1, 2, 3}}, {{-1, 2, 3}, {-1, 2}}, {{1, 2, -1}, {1, 2, -1}}, {{1, 2, 3}, {1, 2, -1}},
	} {
		seeUnder(t, r[0], r[1], false)
	}
}

// P17.4: Above, by hand.
func TestAbove(t *testing.T) {
	seeAbove(t, []int{2, 5, 4, 3}, []int{2, 5, 4})
	seeAbove(t, []int{2, 5, 4}, []int{2, 5})
	seeAbove(t, []int{0, 0, 0}, []int{0, 0})
	seeAbove(t, []int{1, 39, 99999}, []int{1, 39})
	seeAbove(t, []int{2, 99999, 0}, []int{2, 99999})
	for times := range 10 {
		seeAbove(t, row(times+1, 7), row(times, 7))
	}
	for _, l := range [][]int{{2, 5}, {0, 0}, {1, 39}, {2, 99999}, {2, 40}, nil, {}, {2}, {9, 9, 9}, {3, 1, 1}, {1, 40, 1}, {1, 2, -1}, {1, 2, 100000}, {1, 2, math.MaxInt}, {1, 2, math.MinInt}, {-1, 2, 3}, row(11, 7), row(12, 7), row(1000, 7)} {
		if got := Above(l...); got != nil {
			t.Errorf("Above of %s: %s", told(l), told(got))
		}
	}
}

// some are lists by chance, most of them identifiers, many of which begin with others.
func some(c *rand.Rand, many int) [][]int {
	numbers := []int{0, 1, 2, 3, 39, 40, 99999}
	out := [][]int{nil, {}, {0}, {1}, {2}, {3}, {math.MinInt}, {math.MaxInt}, {2, math.MinInt}, {2, math.MaxInt}, {2, -1}, {2, 100000}}
	for len(out) < many {
		l := []int{c.Intn(3), numbers[c.Intn(4)]}
		for range min(c.Intn(6), c.Intn(14)) {
			l = append(l, numbers[c.Intn(len(numbers))])
		}
		if c.Intn(30) == 0 {
			l[c.Intn(len(l))] = []int{-1, 100000, math.MinInt, math.MaxInt}[c.Intn(4)]
		}
		out = append(out, l)
	}
	return out
}

// ahead tells which of two lists stands ahead, by the chapter's words.
func ahead(a, b []int) int {
	for i := 0; ; i++ {
		switch {
		case i == len(a) && i == len(b):
			return 0
		case i == len(a):
			return -1
		case i == len(b):
			return 1
		case a[i] < b[i]:
			return -1
		case a[i] > b[i]:
			return 1
		}
	}
}

// begins tells whether a list begins with another one.
func begins(a, b []int) bool {
	for i, n := range b {
		if i >= len(a) || a[i] != n {
			return false
		}
	}
	return true
}

// P17.3, P17.6: the order is one, of any lists.
func TestOrder(t *testing.T) {
	l := some(rand.New(rand.NewSource(171)), 300)
	for _, a := range l {
		stopAtFault(t)
		for _, b := range l {
			seeCmp(t, a, b, ahead(a, b))
			if (Cmp(a, b) == 0) != slices.Equal(a, b) {
				t.Errorf("Cmp of %s and %s: %d", told(a), told(b), Cmp(a, b))
			}
			for _, c := range l {
				if Cmp(a, b) <= 0 && Cmp(b, c) <= 0 && Cmp(a, c) > 0 {
					t.Fatalf("%s, %s, %s: no order", told(a), told(b), told(c))
				}
			}
		}
	}
}

// P17.3, P17.4, P17.6: those under an identifier stand behind it, all together; each is under the one above it.
func TestTogether(t *testing.T) {
	l := some(rand.New(rand.NewSource(172)), 1500)
	slices.SortFunc(l, Cmp)
	for i, b := range l {
		stopAtFault(t)
		may := Check(b...) == api.OK
		ended := false
		for j, a := range l {
			seeUnder(t, a, b, may && Check(a...) == api.OK && begins(a, b))
			if !may || Check(a...) != api.OK {
				continue
			}
			if under := Under(a, b); j < i && under && Cmp(a, b) != 0 || under && Cmp(a, b) < 0 {
				t.Errorf("%s is under %s, but ahead of it", told(a), told(b))
			} else if j > i && under && ended {
				t.Errorf("%s is under %s, but not beside the others", told(a), told(b))
			} else if j > i {
				ended = ended || !under
			}
		}
		if up := Above(b...); may && len(b) > 2 {
			if !slices.Equal(up, b[:len(b)-1]) || !Under(b, up) || Under(up, b) || Cmp(up, b) != -1 || Check(up...) != api.OK {
				t.Errorf("Above of %s: %s", told(b), told(up))
			}
		} else if up != nil {
			t.Errorf("Above of %s: %s", told(b), told(up))
		}
	}
}

// P17.6: what is under another one comes to it by going up.
func TestUp(t *testing.T) {
	l := some(rand.New(rand.NewSource(173)), 400)
	for _, a := range l {
		stopAtFault(t)
		for _, b := range l {
			met, up := false, a
			for range 12 {
				met = met || Check(up...) == api.OK && Check(b...) == api.OK && Cmp(up, b) == 0
				up = Above(up...)
			}
			seeUnder(t, a, b, met)
			if up != nil {
				t.Errorf("%s is above %s by more than it is long", told(up), told(a))
			}
		}
	}
}

// Rule 4: what comes in is not changed, its spare room neither.
func TestInStays(t *testing.T) {
	room := []int{2, 5, 4, 3, 77, 78, 79}
	other := []int{2, 5, 4, 88, 89}
	a, b := room[:4], other[:3]
	Check(a...)
	Show(a...)
	Cmp(a, b)
	Under(a, b)
	up := Above(a...)
	for i := range up {
		up[i] = 66
	}
	up = append(up, 67, 68)
	if !slices.Equal(room, []int{2, 5, 4, 3, 77, 78, 79}) || !slices.Equal(other, []int{2, 5, 4, 88, 89}) || len(up) != 5 {
		t.Error(room, other, up)
	}
}

// Rule 4: what is handed out is new, and holds no longer with what came in.
func TestOutIsNew(t *testing.T) {
	a := []int{2, 5, 4, 3}
	up, again := Above(a...), Above(a...)
	a[0], a[1], a[2] = 1, 1, 1
	again[0] = 0
	if !slices.Equal(up, []int{2, 5, 4}) {
		t.Error(up)
	}
	first, x := Parse("2.5.4.3")
	second, y := Parse("2.5.4.3")
	if x != api.OK || y != api.OK {
		t.Fatal(x, y)
	}
	first[0], first[3] = 7, 7
	if !slices.Equal(second, []int{2, 5, 4, 3}) {
		t.Error(second)
	}
}

// The chapter's examples.
func TestExamples(t *testing.T) {
	seeUnder(t, []int{2, 5, 4, 3}, []int{2, 5, 4}, true)
	seeUnder(t, []int{2, 5, 4, 3}, []int{2, 5, 4, 3}, true)
	for _, s := range []string{"1.40", "3.1", "1", "1.02"} {
		seeNoText(t, s)
	}
	seeWrong(t, []int{1, 40})
	seeWrong(t, []int{3, 1})
	seeWrong(t, []int{1})
}
