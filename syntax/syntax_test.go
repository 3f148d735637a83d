package syntax

import (
	"fmt"
	"math"
	"math/rand"
	"regexp"
	"slices"
	"strings"
	"testing"
	"unicode/utf8"

	"toponym/api"
	"toponym/dn"
	"toponym/prep"
)

// all is the ten syntaxes, by the numbers that the document's api gives them.
var all = []int{1, 2, 3, 4, 5, 6, 7, 8, 9, 10}

// strange is numbers that are no syntax.
var strange = []int{math.MinInt, math.MinInt + 1, math.MinInt32, -256, -11, -10, -5, -1, 0, 11, 12, 16, 100, 257, 261, 1<<32 + 5, math.MaxInt32, math.MaxInt - 1, math.MaxInt}

// told is what is told of a text: its length, and its beginning.
func told(s string) string {
	return fmt.Sprintf("%q (%d bytes)", s[:min(len(s), 60)], len(s))
}

// stopAtFault ends a test that goes through many texts at its first faults: the others would tell nothing more.
func stopAtFault(t *testing.T) {
	t.Helper()
	if t.Failed() {
		t.FailNow()
	}
}

// The texts of each syntax that has a form, as the chapter's words and those of the layers below say them, but for the limits.
var (
	wholeText  = regexp.MustCompile(`\A(?:0|-?[1-9][0-9]{0,17})\z`)
	truthText  = regexp.MustCompile(`\A(?:TRUE|FALSE)\z`)
	digitsText = regexp.MustCompile(`\A[0-9 ]+\z`)
	phoneText  = regexp.MustCompile(`\A[ -~]*[0-9][ -~]*\z`)
	asciiText  = regexp.MustCompile(`\A[\x00-\x7f]*\z`)
	wordText   = regexp.MustCompile(`\A[a-z][a-z0-9-]{0,15}\z`)
	arcText    = `(?:0|[1-9][0-9]{0,4})`
	oidText    = regexp.MustCompile(`\A(?:[01]\.(?:[0-9]|[12][0-9]|3[0-9])|2\.` + arcText + `)(?:\.` + arcText + `){0,10}\z`)
	part       = `[1-9][0-9]{0,5}`
	gaussText  = regexp.MustCompile(`\A(?:0|-?` + part + `(?:[+-]` + part + `i)?|-?` + part + `i)\z`)
)

// modelOf tells whether a value is of one of the ten syntaxes, written anew out of the chapter's words.
func modelOf(syntax int, v string) bool {
	switch syntax {
	case 1:
		_, e := prep.Value(api.PrepExact, v)
		return len(v) > 0 && e == api.OK
	case 2:
		return asciiText.MatchString(v)
	case 3:
		return wholeText.MatchString(v)
	case 4:
		return truthText.MatchString(v)
	case 5:
		return true
	case 6:
		_, e := dn.Parse(v)
		return e == api.OK
	case 7:
		return digitsText.MatchString(v)
	case 8:
		return phoneText.MatchString(v)
	case 9:
		return wordText.MatchString(v) || oidText.MatchString(v)
	case 10:
		return gaussText.MatchString(v)
	}
	return false
}

// seeFits looks that a value is of just these syntaxes, for each call that tells it.
func seeFits(t *testing.T, v string, want ...int) {
	t.Helper()
	if got := Fits(v); !slices.Equal(got, want) {
		t.Errorf("Fits of %s: %v, not %v", told(v), got, want)
	}
	for _, s := range all {
		e := api.OK
		switch {
		case len(v) > 400:
			e = api.ErrBig
		case !slices.Contains(want, s):
			e = api.ErrSyntax
		}
		if got := Check(s, v); got != e {
			t.Errorf("Check of syntax %d and %s: %d, not %d", s, told(v), int(got), int(e))
		}
	}
	seeNarrow(t, v)
}

// seeModel looks that a value is of just those syntaxes that the model says.
func seeModel(t *testing.T, v string) {
	t.Helper()
	var want []int
	for _, s := range all {
		if len(v) <= 400 && modelOf(s, v) {
			want = append(want, s)
		}
	}
	seeFits(t, v, want...)
}

// seeNarrow looks at what follows for a value out of the syntaxes that it is of (P19.5).
func seeNarrow(t *testing.T, v string) {
	t.Helper()
	l := Fits(v)
	ascii := slices.Contains(l, api.SyntaxIA5)
	for _, s := range []int{api.SyntaxBoolean, api.SyntaxNumeric, api.SyntaxPhone, api.SyntaxInteger, api.SyntaxOid, api.SyntaxGauss} {
		if slices.Contains(l, s) && !ascii {
			t.Errorf("%s is of %d, but not of SyntaxIA5", told(v), s)
		}
	}
	if ascii && v != "" && !slices.Contains(l, api.SyntaxText) {
		t.Errorf("%s is of SyntaxIA5, but not of SyntaxText", told(v))
	}
	if slices.Contains(l, api.SyntaxOctets) != (len(v) <= 400) {
		t.Errorf("%s: is it of SyntaxOctets?", told(v))
	}
}

// seeWhole looks that a text is that of a whole number, and of SyntaxInteger.
func seeWhole(t *testing.T, v string, want int64) {
	t.Helper()
	if n, e := Integer(v); n != want || e != api.OK {
		t.Errorf("Integer of %s: %d %d, not %d", told(v), n, int(e), want)
	}
	if e := Check(api.SyntaxInteger, v); e != api.OK {
		t.Errorf("Check of SyntaxInteger and %s: %d", told(v), int(e))
	}
}

// seeNoWhole looks that a text is no whole number's.
func seeNoWhole(t *testing.T, v string) {
	t.Helper()
	if n, e := Integer(v); n != 0 || e != api.ErrSyntax {
		t.Errorf("Integer of %s: %d %d", told(v), n, int(e))
	}
	want := api.ErrSyntax
	if len(v) > 400 {
		want = api.ErrBig
	}
	if e := Check(api.SyntaxInteger, v); e != want {
		t.Errorf("Check of SyntaxInteger and %s: %d, not %d", told(v), int(e), int(want))
	}
}

// each calls see with each text of at most so many of the signs.
func each(most int, signs []string, see func(v string)) {
	see("")
	if most == 0 {
		return
	}
	for _, s := range signs {
		each(most-1, signs, func(v string) { see(s + v) })
	}
}

// TestKnown: P19.1.
func TestKnown(t *testing.T) {
	named := []int{api.SyntaxText, api.SyntaxIA5, api.SyntaxInteger, api.SyntaxBoolean, api.SyntaxOctets, api.SyntaxName, api.SyntaxNumeric, api.SyntaxPhone, api.SyntaxOid, api.SyntaxGauss}
	if !slices.Equal(named, all) {
		t.Fatalf("the syntaxes: %v", named)
	}
	for _, s := range all {
		if !Known(s) {
			t.Errorf("Known of %d", s)
		}
	}
	for _, s := range strange {
		if Known(s) {
			t.Errorf("Known of %d", s)
		}
	}
	for s := -1000; s <= 1000; s++ {
		if Known(s) != (s >= 1 && s <= 10) {
			t.Errorf("Known of %d: %t", s, Known(s))
		}
	}
	// Each single bit, and all that lie just beside it.
	for i := 4; i < 64; i++ {
		for by := -1; by <= 1; by++ {
			if n := int(uint(1)<<i) + by; Known(n) {
				t.Errorf("Known of %d", n)
			}
		}
	}
}

// TestInteger: P19.2, with the edges that the chapter names.
func TestInteger(t *testing.T) {
	for v, want := range map[string]int64{
		"0": 0, "1": 1, "-1": -1, "9": 9, "-9": -9, "10": 10, "-10": -10, "100": 100, "12": 12, "-120": -120,
		"2147483647": math.MaxInt32, "2147483648": math.MaxInt32 + 1, "-2147483648": math.MinInt32, "4294967296": 1 << 32,
		"99999999999999999":   99999999999999999,
		"100000000000000000":  100000000000000000,
		"-100000000000000000": -100000000000000000,
		"999999999999999998":  999999999999999998,
		"999999999999999999":  999999999999999999,
		"-999999999999999998": -999999999999999998,
		"-999999999999999999": -999999999999999999,
	} {
		seeWhole(t, v, want)
	}
	for _, v := range []string{
		"", "-", "--", "+", "+0", "-0", "+1", "++1", "--1", "-+1", "+-1", "1-", "1+", "1-1", "- 1",
		"00", "01", "-00", "-01", "0001", "000000000000000000000000001", "0000000000000000000",
		" ", " 1", "1 ", "1 2", "\t1", "1\n", "\x001", "1\x00",
		"1.0", "1.", ".1", "1,000", "1_000", "1e3", "0x1", "0b1", "0o1", "a", "1a", "a1", "ff", "inf", "NaN", "TRUE",
		"1000000000000000000", "-1000000000000000000", "1000000000000000001",
		"9223372036854775807", "9223372036854775808", "-9223372036854775808", "-9223372036854775809",
		"18446744073709551615", "18446744073709551616", "18446744073709551617", "-18446744073709551617",
		"36893488147419103233", "340282366920938463463374607431768211457",
		"\u0661", "\uff11", "\u00b2", "1\u0662", "-\uff11", "\u22121", "\u20111", "\uff0d1", "\xff", "1\xff", "\xb1",
		strings.Repeat("1", 400), "-" + strings.Repeat("9", 399), strings.Repeat("0", 400),
		strings.Repeat("1", 401), strings.Repeat("0", 401), strings.Repeat("9", 100000),
	} {
		seeNoWhole(t, v)
	}
}

// TestIntegerShort: P19.2, all short texts, and each byte in each place.
func TestIntegerShort(t *testing.T) {
	see := func(v string) {
		if !wholeText.MatchString(v) {
			seeNoWhole(t, v)
			stopAtFault(t)
			return
		}
		var want int64
		if _, err := fmt.Sscan(v, &want); err != nil {
			t.Fatal(err)
		}
		seeWhole(t, v, want)
		stopAtFault(t)
	}
	each(5, []string{"-", "+", "0", "1", "9", " ", ".", "_"}, see)
	for b := range 256 {
		one := string([]byte{byte(b)})
		for _, v := range []string{"", "1", "-", "0", "-5", "999999999999999999", "-99999999999999999"} {
			for at := range len(v) + 1 {
				see(v[:at] + one + v[at:])
				if at < len(v) {
					see(v[:at] + one + v[at+1:])
				}
			}
		}
	}
	for n := range 1200 {
		see(strings.Repeat("9", n))
		see("-" + strings.Repeat("9", n))
		see("1" + strings.Repeat("0", n))
	}
}

// TestIntegerByChance: P19.2: each whole number has one text, and no other one is read.
func TestIntegerByChance(t *testing.T) {
	r := rand.New(rand.NewSource(19))
	for range 20000 {
		n := r.Int63() >> r.Intn(63)
		if r.Intn(2) == 0 {
			n = -n
		}
		v := fmt.Sprint(n)
		if n < -999999999999999999 || n > 999999999999999999 {
			seeNoWhole(t, v)
		} else {
			seeWhole(t, v, n)
		}
		seeNoWhole(t, "0"+v)
		seeNoWhole(t, "+"+v)
		seeNoWhole(t, " "+v)
		seeNoWhole(t, v+" ")
		stopAtFault(t)
	}
}

// TestCheckErrors: P19.3, the order of errors: ErrArg ahead of ErrBig, that ahead of ErrSyntax.
func TestCheckErrors(t *testing.T) {
	for _, v := range []string{"", "a", "12", "TRUE", "\xff", "\ue000", strings.Repeat("1", 400), strings.Repeat("1", 401), strings.Repeat("\xff", 401), strings.Repeat("x", 100000)} {
		for _, s := range strange {
			if e := Check(s, v); e != api.ErrArg {
				t.Errorf("Check of syntax %d and %s: %d", s, told(v), int(e))
			}
		}
	}
	for _, v := range []string{"a", "1", " ", "\x00", "\x80", "\xff", "cn=a", "TRUE", "-", "1.", "\u00e9", "\ue000"} {
		for _, n := range []int{401, 402, 800, 1202, 1203, 3000, 3001, 70000} {
			seeFits(t, strings.Repeat(v, n)[:n])
		}
	}
	// Each of these would be of the syntax, but for its length.
	long := []string{
		strings.Repeat("\u00e9", 200) + "a", strings.Repeat("~", 401), "cn=" + strings.Repeat("a", 398), "o=" + strings.Repeat("b", 200) + ",cn=" + strings.Repeat("a", 200),
		strings.Repeat("7", 401), strings.Repeat(" ", 401), "+" + strings.Repeat("7", 400), strings.Repeat("\xff", 401),
	}
	for _, v := range long {
		seeFits(t, v)
		for _, s := range all {
			if e := Check(s, v); e != api.ErrBig {
				t.Errorf("Check of syntax %d and %s: %d", s, told(v), int(e))
			}
		}
	}
	if n, e := dn.Parse(long[2]); len(n) != 1 || e != api.OK {
		t.Errorf("a name whose text is too long for a value: %d", int(e))
	}
}

// TestCheckLimit: P19.3, P19.4, values of MaxValue bytes, of one less and of one more, of each syntax.
func TestCheckLimit(t *testing.T) {
	const most = 400
	if api.MaxValue != most {
		t.Fatal(api.MaxValue)
	}
	for _, n := range []int{most - 1, most} {
		seeFits(t, strings.Repeat("a", n), 1, 2, 5)
		seeFits(t, strings.Repeat("\x00", n), 1, 2, 5)
		seeFits(t, strings.Repeat("\xff", n), 5)
		seeFits(t, strings.Repeat("a", n-1)+"\xff", 5)
		seeFits(t, strings.Repeat("a", n-2)+"\u00e9", 1, 5)
		seeFits(t, strings.Repeat("a", n-3)+"\ue000", 5)
		seeFits(t, "cn="+strings.Repeat("a", n-3), 1, 2, 5, 6)
		seeFits(t, "cn="+strings.Repeat("a", n-4)+"1", 1, 2, 5, 6, 8)
		seeFits(t, "cn="+strings.Repeat("\xff", n-3), 5, 6)
		seeFits(t, strings.Repeat("7", n), 1, 2, 5, 7, 8)
		seeFits(t, strings.Repeat(" ", n), 1, 2, 5, 7)
		seeFits(t, strings.Repeat(" ", n-1)+"7", 1, 2, 5, 7, 8)
		seeFits(t, strings.Repeat("~", n), 1, 2, 5)
		seeFits(t, strings.Repeat("~", n-1)+"0", 1, 2, 5, 8)
		seeFits(t, "9"+strings.Repeat("~", n-1), 1, 2, 5, 8)
		seeFits(t, "1.2"+strings.Repeat(".3", n/2)[:n-3], 1, 2, 5, 8)
		seeFits(t, "TRUE"+strings.Repeat(" ", n-4), 1, 2, 5)
		seeFits(t, "-"+strings.Repeat("1", n-1), 1, 2, 5, 8)
	}
	// What is prepared may be longer than a value.
	seeFits(t, strings.Repeat("\u00b5", most/2), 1, 5)
	seeFits(t, strings.Repeat("\uac01", most/3)+"a", 1, 5)
	seeFits(t, strings.Repeat("\ufb00", most/3)+"a", 1, 5)
	seeFits(t, strings.Repeat("a ", most/2), 1, 2, 5)
	for n := range 1500 {
		seeModel(t, strings.Repeat("1", n))
		seeModel(t, strings.Repeat(" ", n))
		seeModel(t, strings.Repeat("\x9f", n))
		stopAtFault(t)
	}
}

// TestFits: P19.3, P19.4, values of each syntax, and the chapter's example.
func TestFits(t *testing.T) {
	seeFits(t, "12", 1, 2, 3, 5, 7, 8, 10)
	// The empty value.
	seeFits(t, "", 2, 5, 6)
	// Of none but SyntaxOctets.
	for _, v := range []string{"\xff", "\x80", "\xc0\x80", "\xed\xa0\x80", "\xf4\x90\x80\x80", "\xc3", "1\xff", "TRUE\xff", "\ue000", "1\ue000", "\u0370", "\ufffd", "\U0001f600", "\U0010ffff", "\u0340", "\ufdd0"} {
		seeFits(t, v, 5)
	}
	// Of SyntaxText, but not of SyntaxIA5.
	for _, v := range []string{"\u00e9", "e\u0301", "\u0301", "\u00a0", "\u00ad", "\u200b", "\ufeff", "\u0080", "\u3000", "\u0660", "\uff11", "\uff21", "\ufb01", "\u05d0", "\uac00", "\u1100\u1161", "\u4e00", "12\u00a0", "TRUE\u200b", "-\uff11", "\u22121", "cn\u00ad"} {
		seeFits(t, v, 1, 5)
	}
	// Of SyntaxText and SyntaxIA5: all else is refused.
	for _, v := range []string{"A", "Cn", "a b", "a_b", "\x00", "\x7f", "\t", "\n", "~", "!", "-", "--", "+", "+-", ".", "\\", "TRUE ", "I", "\x001", "1\x7f", "7\n", "=a", "cn=", "cn=#", "cn= a", "a-A"} {
		seeFits(t, v, 1, 2, 5)
	}
	// With a digit: a phone's number, too.
	for _, v := range []string{"+1", "+49 30 12", "1-", "1 - 2", "01a", "A1", "~0~", "-0", "-01", "1.", ".1", "1.2.", "3.1", "1.40", "1.02", "1+0i", "1-i1", "1e3", " a9", "(1)", "1a", "1-1"} {
		seeFits(t, v, 1, 2, 5, 8)
	}
	seeFits(t, "-5", 1, 2, 3, 5, 8, 10)
	seeFits(t, "0", 1, 2, 3, 5, 7, 8, 10)
	seeFits(t, "00", 1, 2, 5, 7, 8)
	seeFits(t, "1 2", 1, 2, 5, 7, 8)
	seeFits(t, " ", 1, 2, 5, 7)
	seeFits(t, "a1", 1, 2, 5, 8, 9)
	seeFits(t, "cn=1", 1, 2, 5, 6, 8)
}

// TestBoolean: P19.3, TRUE and FALSE, and texts near them.
func TestBoolean(t *testing.T) {
	seeFits(t, "TRUE", 1, 2, 4, 5)
	seeFits(t, "FALSE", 1, 2, 4, 5)
	for _, v := range []string{"True", "FalSE", "TRU", "FALS", "TRUEE", "FALSEE", " TRUE", "TRUE ", "FALSE ", " FALSE", "TRUE\x00", "\x00TRUE", "FALSE\n", "TRUEFALSE", "TRUE FALSE", "TR UE", "T", "F", "YES", "NO", "RUE", "ALSE"} {
		seeFits(t, v, 1, 2, 5)
	}
	for _, v := range []string{"true", "false", "t", "f", "yes", "no"} {
		seeFits(t, v, 1, 2, 5, 9)
	}
	for _, v := range []string{"\uff34\uff32\uff35\uff25", "TRUE\u00ad", "\ufeffFALSE"} {
		seeFits(t, v, 1, 5)
	}
	seeFits(t, "1", 1, 2, 3, 5, 7, 8, 10)
	seeFits(t, "\xffTRUE", 5)
	// Each byte but its own in each place.
	for _, v := range []string{"TRUE", "FALSE"} {
		for at := range len(v) {
			for b := range 256 {
				w := v[:at] + string([]byte{byte(b)}) + v[at+1:]
				if e := Check(api.SyntaxBoolean, w); (e == api.OK) != (w == v) {
					t.Errorf("Check of SyntaxBoolean and %s: %d", told(w), int(e))
				}
			}
		}
	}
}

// TestBytes: P19.3, each byte alone, with and without a digit ahead and behind, the edges of SyntaxIA5, SyntaxNumeric and SyntaxPhone among them.
func TestBytes(t *testing.T) {
	for _, row := range []struct {
		b             byte
		ia5           bool
		numeric       bool
		phone, phoned bool
	}{
		{0x00, true, false, false, false},
		{0x1f, true, false, false, false},
		{0x20, true, true, false, true},
		{0x21, true, false, false, true},
		{0x2f, true, false, false, true},
		{0x30, true, true, true, true},
		{0x39, true, true, true, true},
		{0x3a, true, false, false, true},
		{0x7e, true, false, false, true},
		{0x7f, true, false, false, false},
		{0x80, false, false, false, false},
		{0xb0, false, false, false, false},
		{0xff, false, false, false, false},
	} {
		one := string([]byte{row.b})
		see := func(syntax int, v string, want bool) {
			t.Helper()
			if e := Check(syntax, v); (e == api.OK) != want || e != api.OK && e != api.ErrSyntax {
				t.Errorf("Check of syntax %d and %s: %d", syntax, told(v), int(e))
			}
		}
		for _, v := range []string{one, one + "5", "5" + one, "5" + one + "5", one + one} {
			see(api.SyntaxIA5, v, row.ia5)
			see(api.SyntaxNumeric, v, row.numeric)
			if strings.Contains(v, "5") {
				see(api.SyntaxPhone, v, row.phoned)
			} else {
				see(api.SyntaxPhone, v, row.phone)
			}
		}
	}
	for b := range 256 {
		one := string([]byte{byte(b)})
		for _, v := range []string{one, one + one, "1" + one, one + "1", "1" + one + "1", " " + one, "a" + one, one + "a", "a" + one + "a", "-" + one, "cn=" + one, "cn=a" + one + "b", "1." + one, "1+" + one + "i", "\xc3" + one, "\xe1\x84" + one, "\xee\x80" + one, "TRUE" + one, strings.Repeat("5", 399) + one, one + strings.Repeat("5", 399), strings.Repeat("5", 400) + one} {
			seeModel(t, v)
			stopAtFault(t)
		}
	}
}

// TestText: P19.3, texts that prep's Value refuses are not of SyntaxText; all others are, but for the empty one.
func TestText(t *testing.T) {
	for r := rune(0); r <= utf8.MaxRune; r++ {
		// All of the first planes, and beyond them the ends of each plane alone: what lies between is of no kind.
		if r > 0x20fff && r&0xffff > 2 && r&0xffff < 0xfffb || r >= 0xd800 && r <= 0xdfff {
			continue
		}
		v := string(r)
		_, e := prep.Value(api.PrepExact, v)
		if got := Check(api.SyntaxText, v); (got == api.OK) != (e == api.OK) || got != api.OK && got != api.ErrSyntax {
			t.Errorf("Check of SyntaxText and %x: %d", r, int(got))
		}
		if got := Check(api.SyntaxIA5, v); (got == api.OK) != (r < 0x80) {
			t.Errorf("Check of SyntaxIA5 and %x: %d", r, int(got))
		}
		stopAtFault(t)
	}
	for _, v := range []string{"\u0370", "a\u0370", "\u0370a", "\u0340", "\ue000", "\uf8ff", "\ufdd0", "\ufffd", "\uffff", "\U0001fffe", "\U00010000", "\u0305"} {
		if e := Check(api.SyntaxText, v); e != api.ErrSyntax {
			t.Errorf("Check of SyntaxText and %s: %d", told(v), int(e))
		}
	}
	// Great and small letters, and what is left out as a value is prepared, may all be.
	for _, v := range []string{"A", "a", "\u00df", " ", "  ", "\u00ad", "\u200b\u200b", "\x00\x00", "Fu\u00dfg\u00e4nger\u00a0 Zone", "\u03a9\u0416\u05d0\uac00\u3041\u4e00"} {
		if e := Check(api.SyntaxText, v); e != api.OK {
			t.Errorf("Check of SyntaxText and %s: %d", told(v), int(e))
		}
	}
}

// TestName: P19.3, names as dn's Parse reads them, the empty one too.
func TestName(t *testing.T) {
	for _, v := range []string{"", "cn=a", "CN=a", "cn=a,o=b", "cn=a+sn=b,o=c", `cn=a\,b`, `cn=\20`, `cn=\ `, `cn=\#`, "cn=\xff", "cn=\ue000", "cn=\u00e9", "cn=\x00", "cn=a#", strings.Repeat("a", 16) + "=b", "a=1,b=2,c=3,d=4,e=5,f=6", "a=1+b=2+c=3"} {
		if e := Check(api.SyntaxName, v); e != api.OK {
			t.Errorf("Check of SyntaxName and %s: %d", told(v), int(e))
		}
	}
	for _, v := range []string{" ", "cn", "cn=", "=a", "cn=a,", ",cn=a", "cn=a,,o=b", "cn=a+", "cn= a", "cn=a ", "cn=#a", `cn=\4`, `cn=\`, "cn=a=b", "cn=a;o=b", "1=a", "c n=a", "cn =a", "2.5.4.3=a", "cn=a, o=b", strings.Repeat("a", 17) + "=b", "a=1,b=2,c=3,d=4,e=5,f=6,g=7", "a=1+b=2+c=3+d=4", "\u00e9=a"} {
		if e := Check(api.SyntaxName, v); e != api.ErrSyntax {
			t.Errorf("Check of SyntaxName and %s: %d", told(v), int(e))
		}
	}
}

// TestOid: P19.3, words and identifiers.
func TestOid(t *testing.T) {
	for _, v := range []string{"a", "z", "cn", "a-", "a--", "a1", "o-1", "abcdefghijklmnop", "0.0", "0.39", "1.39", "2.40", "2.99999", "2.5.4", "1.2.3.4.5.6.7.8.9.10.11.12", "1.3.6.1.4.1"} {
		if e := Check(api.SyntaxOid, v); e != api.OK {
			t.Errorf("Check of SyntaxOid and %s: %d", told(v), int(e))
		}
	}
	for _, v := range []string{"", "A", "cN", "-", "-a", "1a", "a.b", "a_b", "a b", " a", "a ", "abcdefghijklmnopq", "\u00e9", "a\u00e9", "0", "1", "2", "12", "1.40", "0.40", "3.1", "1.", ".1", "1..2", "1.02", "2.05", "2.100000", "2.-1", "+1.2", "1.2.3.4.5.6.7.8.9.10.11.12.13", "1.2a", "a.1", "1.2 ", " 1.2", "2.5.4.", "\uff12.5"} {
		if e := Check(api.SyntaxOid, v); e != api.ErrSyntax {
			t.Errorf("Check of SyntaxOid and %s: %d", told(v), int(e))
		}
	}
}

// TestGauss: P19.3, numbers of two parts.
func TestGauss(t *testing.T) {
	for _, v := range []string{"0", "1", "-1", "1i", "-1i", "3+4i", "3-4i", "-3+4i", "-3-4i", "999999+999999i", "-999999-999999i", "999999i", "10", "100-10i"} {
		if e := Check(api.SyntaxGauss, v); e != api.OK {
			t.Errorf("Check of SyntaxGauss and %s: %d", told(v), int(e))
		}
	}
	for _, v := range []string{"", "+1", "01", "1+0i", "0+1i", "-0", "0i", "i", "-i", "1-i", "1+i", "1+-1i", "3+4", "3+4I", "3+4j", "4i+3", "3 + 4i", " 3+4i", "3+4i ", "(3+4i)", "1000000", "-1000000", "1000000i", "1+1000000i", "1.0", "1.5i", "--1", "3+04i", "NaN", "\uff11"} {
		if e := Check(api.SyntaxGauss, v); e != api.ErrSyntax {
			t.Errorf("Check of SyntaxGauss and %s: %d", told(v), int(e))
		}
	}
	// Numbers that are of the one syntax of numbers, but not of the other one.
	seeFits(t, "1000000", 1, 2, 3, 5, 7, 8)
	seeFits(t, "-1000000", 1, 2, 3, 5, 8)
	seeFits(t, "999999", 1, 2, 3, 5, 7, 8, 10)
	seeFits(t, "999999i", 1, 2, 5, 8, 10)
	seeFits(t, "999999999999999999", 1, 2, 3, 5, 7, 8)
	seeFits(t, "1000000000000000000", 1, 2, 5, 7, 8)
	seeFits(t, "-1000000000000000000", 1, 2, 5, 8)
}

// TestShort: P19.3 to P19.5, all short values out of what matters to some syntax.
func TestShort(t *testing.T) {
	see := func(v string) {
		seeModel(t, v)
		stopAtFault(t)
	}
	each(4, []string{"0", "1", "9", "-", "+", "i", ".", " ", "a", "="}, see)
	each(3, []string{"2", "3", "a", "z", "A", "-", "=", ",", "\\", "#", "\t", "\x7f", "\x80", "\u00e9", "\u00ad", "\ue000", "\u0370", "\xff", "TRUE", "FALSE", "cn", "40", "100000", "999999", "99999", "1.2"}, see)
}

// TestByChance: P19.3 to P19.5, values by chance, long ones too.
func TestByChance(t *testing.T) {
	r := rand.New(rand.NewSource(1919))
	signs := []string{"0", "1", "5", "9", "12", "-", "+", "i", ".", " ", "  ", "a", "z", "A", "=", ",", "cn=", ",o=", "+sn=", `\,`, `\20`, `\`, "#", "TRUE", "FALSE", "\x00", "\x1f", "~", "\x7f", "\x80", "\u00e9", "e\u0301", "\u00ad", "\u00a0", "\ue000", "\u0370", "\xff", "999999", "99999"}
	for range 6000 {
		// A few signs alone, so that many a value is of some narrow syntax.
		few := make([]string, 1+r.Intn(4))
		for i := range few {
			few[i] = signs[r.Intn(len(signs))]
		}
		n := r.Intn(12)
		if r.Intn(10) == 0 {
			n = r.Intn(410)
		}
		var b strings.Builder
		for range n {
			b.WriteString(few[r.Intn(len(few))])
		}
		seeModel(t, b.String())
		stopAtFault(t)
	}
	for range 2000 {
		b := make([]byte, r.Intn(6))
		for i := range b {
			b[i] = byte(r.Intn(256))
		}
		seeModel(t, string(b))
		stopAtFault(t)
	}
}

// TestNarrow: P19.5, by values of each syntax, short and as long as they may be.
func TestNarrow(t *testing.T) {
	for s, l := range map[int][]string{
		api.SyntaxBoolean: {"TRUE", "FALSE"},
		api.SyntaxNumeric: {"0", " ", "1 2", strings.Repeat("1 ", 200)},
		api.SyntaxPhone:   {"0", "+1", " 1 ", strings.Repeat("~", 399) + "1"},
		api.SyntaxInteger: {"0", "-1", "999999999999999999", "-999999999999999999"},
		api.SyntaxOid:     {"a", "abcdefghijklmnop", "0.0", "2.99999.99999.99999.99999.99999.99999.99999.99999.99999.99999.99999"},
		api.SyntaxGauss:   {"0", "-999999-999999i", "1i"},
	} {
		for _, v := range l {
			if e := Check(s, v); e != api.OK {
				t.Errorf("Check of syntax %d and %s: %d", s, told(v), int(e))
			}
			for _, wide := range []int{api.SyntaxIA5, api.SyntaxText, api.SyntaxOctets} {
				if e := Check(wide, v); e != api.OK {
					t.Errorf("Check of syntax %d and %s, which is of %d: %d", wide, told(v), s, int(e))
				}
			}
		}
	}
	// Each value of one byte of SyntaxIA5, and all of them in one, are of SyntaxText; the empty one is not.
	var row []byte
	for b := range 128 {
		row = append(row, byte(b))
		seeFitsBoth(t, string(row[b:]))
		seeFitsBoth(t, string(row))
	}
	if Check(api.SyntaxIA5, "") != api.OK || Check(api.SyntaxText, "") != api.ErrSyntax || Check(api.SyntaxOctets, "") != api.OK {
		t.Error("the empty value")
	}
}

// seeFitsBoth looks that a value is of SyntaxIA5 and of SyntaxText.
func seeFitsBoth(t *testing.T, v string) {
	t.Helper()
	if a, b := Check(api.SyntaxIA5, v), Check(api.SyntaxText, v); a != api.OK || b != api.OK {
		t.Errorf("Check of SyntaxIA5 and SyntaxText of %s: %d %d", told(v), int(a), int(b))
	}
}

// TestMemory: DOC.md's rule 4: what Fits hands out is new each time, so that nobody can change a later answer.
func TestMemory(t *testing.T) {
	for _, v := range []string{"12", "", "\xff", "TRUE", "cn=a"} {
		a, b := Fits(v), Fits(v)
		want := slices.Clone(a)
		for i := range a[:cap(a)] {
			a[:cap(a)][i] = -1
		}
		if !slices.Equal(b, want) || !slices.Equal(Fits(v), want) {
			t.Errorf("Fits of %s hangs on what was done to an earlier answer", told(v))
		}
	}
}
