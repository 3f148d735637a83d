package gauss

import (
	"math"
	"math/big"
	"math/rand"
	"regexp"
	"slices"
	"strconv"
	"strings"
	"testing"

	"toponym/api"
)

// row is a number and its text.
type row struct {
	re, im float64
	text   string
}

func (r row) z() complex128 { return complex(r.re, r.im) }

// minus is the 0 with a sign, which no constant is.
func minus() float64 { return math.Copysign(0, -1) }

// rows are numbers whose texts are written by hand.
func rows() []row {
	return []row{
		{0, 0, "0"},
		{1, 0, "1"}, {-1, 0, "-1"}, {0, 1, "1i"}, {0, -1, "-1i"},
		{1, 1, "1+1i"}, {1, -1, "1-1i"}, {-1, 1, "-1+1i"}, {-1, -1, "-1-1i"},
		{7, 0, "7"}, {-7, 0, "-7"}, {0, 7, "7i"}, {0, -7, "-7i"},
		{3, 4, "3+4i"}, {3, -4, "3-4i"}, {-3, 4, "-3+4i"}, {-3, -4, "-3-4i"},
		{10, 0, "10"}, {-10, 0, "-10"}, {0, 10, "10i"}, {0, -10, "-10i"}, {10, 10, "10+10i"}, {100, -1000, "100-1000i"}, {-10000, 100000, "-10000+100000i"},
		{9, 99, "9+99i"}, {-999, -9999, "-999-9999i"}, {99999, -9, "99999-9i"},
		{102030, 405060, "102030+405060i"}, {-120, 300, "-120+300i"}, {123456, -987654, "123456-987654i"},
		{999999, 0, "999999"}, {-999999, 0, "-999999"}, {0, 999999, "999999i"}, {0, -999999, "-999999i"},
		{999999, 999999, "999999+999999i"}, {999999, -999999, "999999-999999i"}, {-999999, 999999, "-999999+999999i"}, {-999999, -999999, "-999999-999999i"},
		{999999, 1, "999999+1i"}, {-1, -999999, "-1-999999i"}, {1, 999999, "1+999999i"}, {999998, -999998, "999998-999998i"},
	}
}

// noParts are floats that are no parts: too great, between two whole numbers, infinite, no number.
func noParts() []float64 {
	l := []float64{
		1000000, 1000001, 9999999, 1e7, 1e9, 1 << 31, 1 << 32, 1<<32 + 5, 1 << 52, 1 << 53, 1 << 62, 1 << 63, 1 << 64, 1e19, 1e20, 1e100, math.MaxFloat64, math.Inf(1),
		0.5, 1.5, 0.1, 2.25, 999998.5, 999999.5, 1e-9, math.SmallestNonzeroFloat64,
		math.Nextafter(999999, math.Inf(1)), math.Nextafter(999999, 0), math.Nextafter(1, 0), math.Nextafter(1, 2),
	}
	for _, x := range slices.Clone(l) {
		l = append(l, -x)
	}
	return append(l, math.NaN(), math.Copysign(math.NaN(), -1))
}

// nones are numbers that are none of two parts: the real part is wrong, the imaginary one, or both.
func nones() []complex128 {
	var l []complex128
	for _, x := range noParts() {
		for _, y := range []float64{0, minus(), 1, -1, 2, 999999, -999999} {
			l = append(l, complex(x, y), complex(y, x))
		}
		l = append(l, complex(x, x), complex(x, 0.5), complex(math.NaN(), x), complex(x, math.Inf(-1)))
	}
	return l
}

// some are numbers of two parts, with small, middle and great parts of either sign.
func some() []complex128 {
	parts := []float64{0, 1, -1, 2, -2, 3, 5, -7, 10, 999, -1000, 1000, 31622, 46341, -65536, 707106, 999998, 999999, -999999}
	var l []complex128
	for _, x := range parts {
		for _, y := range parts {
			l = append(l, complex(x, y))
		}
	}
	return l
}

// byChance gives a part: of any size that it may have, or of few digits.
func byChance(c *rand.Rand) float64 {
	most := []int{1, 9, 99, 999, 9999, 99999, 999999}[c.Intn(7)]
	return float64(c.Intn(2*most+1) - most)
}

// pure tells whether no part is -0.
func pure(z complex128) bool {
	return !(real(z) == 0 && math.Signbit(real(z))) && !(imag(z) == 0 && math.Signbit(imag(z)))
}

func seeParse(t *testing.T, s string, want complex128, e api.Errno) {
	t.Helper()
	if z, gotE := Parse(s); z != want || gotE != e || !pure(z) {
		t.Errorf("Parse of %q: %v %d, not %v %d", s, z, int(gotE), want, int(e))
	}
}

func seeShow(t *testing.T, z complex128, want string, e api.Errno) {
	t.Helper()
	if s, gotE := Show(z); s != want || gotE != e {
		t.Errorf("Show of %v: %q %d, not %q %d", z, s, int(gotE), want, int(e))
	}
}

func seeTurn(t *testing.T, z complex128, n int, want complex128, e api.Errno) {
	t.Helper()
	if got, gotE := Turn(z, n); got != want || gotE != e || !pure(got) {
		t.Errorf("Turn of %v by %d: %v %d, not %v %d", z, n, got, int(gotE), want, int(e))
	}
}

func seeTimes(t *testing.T, a, b, want complex128, e api.Errno) {
	t.Helper()
	if got, gotE := Times(a, b); got != want || gotE != e || !pure(got) {
		t.Errorf("%v times %v: %v %d, not %v %d", a, b, got, int(gotE), want, int(e))
	}
}

func seeCmp(t *testing.T, a, b complex128, want int) {
	t.Helper()
	if got, back := Cmp(a, b), Cmp(b, a); got != want || back != -want {
		t.Errorf("Cmp of %v and %v: %d, and %d the other way, not %d", a, b, got, back, want)
	}
}

// P14.1, P14.2, P14.6: each number has its text, and each text its number.
func TestRows(t *testing.T) {
	for _, r := range rows() {
		if !Fits(r.z()) {
			t.Errorf("Fits of %v: false", r.z())
		}
		seeShow(t, r.z(), r.text, api.OK)
		seeParse(t, r.text, r.z(), api.OK)
	}
}

// P14.1: a part that is -0 is 0.
func TestMinusZero(t *testing.T) {
	m := minus()
	for _, r := range []row{{m, m, "0"}, {0, m, "0"}, {m, 0, "0"}, {m, 5, "5i"}, {m, -5, "-5i"}, {5, m, "5"}, {-5, m, "-5"}, {m, 999999, "999999i"}, {-999999, m, "-999999"}} {
		if !Fits(r.z()) {
			t.Errorf("Fits of %v: false", r.z())
		}
		seeShow(t, r.z(), r.text, api.OK)
		z, _ := Parse(r.text)
		seeCmp(t, r.z(), z, 0)
		if Norm(r.z()) != Norm(z) {
			t.Errorf("Norm of %v: %d, not %d", r.z(), Norm(r.z()), Norm(z))
		}
		for n := range 4 {
			want, _ := Turn(z, n)
			seeTurn(t, r.z(), n, want, api.OK)
		}
		seeTimes(t, r.z(), 1, z, api.OK)
		seeTimes(t, -1, r.z(), -z, api.OK)
		seeTimes(t, r.z(), complex(m, m), 0, api.OK)
	}
}

// P14.1: what is no number of two parts has no text.
func TestNones(t *testing.T) {
	for _, z := range nones() {
		if Fits(z) {
			t.Errorf("Fits of %v: true", z)
		}
		seeShow(t, z, "", api.ErrGauss)
	}
}

// P14.1, P14.6: every part from the least to the greatest, alone and beside another one, has the text that its digits make.
func TestEveryPart(t *testing.T) {
	for n := -999999; n <= 999999; n++ {
		if n == 0 {
			continue
		}
		x, digits, sign := float64(n), strconv.Itoa(n), "+"
		if n < 0 {
			sign = ""
		}
		for _, r := range []row{{x, 0, digits}, {0, x, digits + "i"}, {-8, x, "-8" + sign + digits + "i"}, {x, 27, digits + "+27i"}} {
			s, e := Show(r.z())
			z, f := Parse(r.text)
			if s != r.text || e != api.OK || z != r.z() || f != api.OK || !Fits(r.z()) {
				t.Fatalf("%v: %q %d, and %v %d back, not %q", r.z(), s, int(e), z, int(f), r.text)
			}
		}
	}
}

// P14.2: texts that are no number's, written by hand.
func TestParseWrong(t *testing.T) {
	for _, s := range []string{
		"", " ", "+", "-", "i", "+i", "-i", "--", "++", "+-", "-+", "ii",
		"+0", "-0", "00", "0i", "-0i", "+0i", "00i", "0+0i", "0-0i", "-0+0i", "-0-0i", "0+1i", "0-1i", "-0+1i", "-0-1i", "1+0i", "1-0i", "-1+0i", "-1-0i", "1+-0i",
		"+1", "+1i", "+1+1i", "+1-1i", "++1", "--1", "+-1", "-+1", "--1i", "1++2i", "1--2i", "1+-2i", "1-+2i", "-1+-2i", "-1--2i",
		"01", "-01", "01i", "-01i", "001", "1+01i", "1-01i", "01+1i", "-01-1i", "1+002i", "0999999", "1+0999999i",
		"1+i", "1-i", "-1+i", "-1-i", "1i1", "i1", "i+1", "1i+2", "1i-2", "1i+2i", "1i2i", "2i+1", "1ii", "1+2ii", "1+2i3", "1+2i+", "1+2i-", "1+2i+3i", "1+2i+3", "1+2i0",
		"1+2", "1-2", "1+2+3i", "1-2-3i", "1+", "1-", "-1+", "-1-", "1+2+", "12+",
		"1000000", "-1000000", "1000000i", "-1000000i", "1+1000000i", "1-1000000i", "1000000+1i", "-1000000-1i", "1000000+1000000i",
		"1234567", "9999999", "1234567i", "1+1234567i", "1-1234567i", "1234567+1i", "4294967297", "18446744073709551617", "1+18446744073709551617i", "-9223372036854775808",
		" 1", "1 ", "1 i", "- 1", "1 +2i", "1+ 2i", "1+2 i", "1+2i ", " 1+2i", "\t1", "1\n", "1\x00", "\x001", "1+2i\x00", "1\u00a0",
		"1.5", "1.0", "1.", ".5", "1e3", "1E3", "1e0i", "0x1", "1_000", "1,000", "1,2", "(1+2i)", "(1)", "1+2I", "1I", "1j", "1+2j", "NaN", "Inf", "-Inf", "a", "1a", "a1", "1+ai", "1*2i", "1:2i", "1/2i", "1:", "/1", "1;i",
		"\uff11", "\u0661", "\u22121", "1\u22122i", "1+2\u0131", "1+2\xff", "\xff", "\xff1", "1\xff", "1+2i\xff",
	} {
		seeParse(t, s, 0, api.ErrGauss)
	}
}

// P14.2: a text whose parts have too many digits, or that goes on for long, is none's.
func TestParseLong(t *testing.T) {
	for _, n := range []int{7, 8, 10, 19, 20, 40, 1000, 1 << 20} {
		for _, digit := range []string{"0", "1", "9"} {
			d := strings.Repeat(digit, n)
			for _, s := range []string{d, "-" + d, d + "i", "-" + d + "i", "1" + d, "1" + d + "i", "5+" + d + "i", "5-" + d + "i", "5+1" + d + "i", d + "+5i", d + "-5i", "-1" + d + "-5i"} {
				if z, e := Parse(s); z != 0 || e != api.ErrGauss {
					t.Errorf("Parse of %d digits %s: %v %d", n, digit, z, int(e))
				}
			}
		}
		for _, s := range []string{strings.Repeat("-", n) + "1", strings.Repeat(" ", n), "1" + strings.Repeat("i", n), strings.Repeat("1+", n) + "1i"} {
			if z, e := Parse(s); z != 0 || e != api.ErrGauss {
				t.Errorf("Parse of %d signs: %v %d", n, z, int(e))
			}
		}
	}
}

// form is how a text must look: its groups are a real part alone, an imaginary part alone, and both.
func form() *regexp.Regexp {
	return regexp.MustCompile(`\A(?:0|(-?[1-9][0-9]{0,5})|(-?[1-9][0-9]{0,5})i|(-?[1-9][0-9]{0,5})([+-][1-9][0-9]{0,5})i)\z`)
}

// read reads a text by its form.
func read(f *regexp.Regexp, s string) (complex128, api.Errno) {
	m := f.FindStringSubmatch(s)
	if m == nil {
		return 0, api.ErrGauss
	}
	number := func(s string) float64 {
		n, _ := strconv.Atoi(s)
		return float64(n)
	}
	return complex(number(m[1]+m[3]), number(m[2]+m[4])), api.OK
}

// P14.2, P14.6: all short texts of the signs that a text may have, and of a blank: what is read is just what has the form, and is its number's text.
func TestParseAll(t *testing.T) {
	f := form()
	signs := "+-0159i "
	var s []byte
	var all func(left int)
	all = func(left int) {
		text := string(s)
		want, e := read(f, text)
		seeParse(t, text, want, e)
		if e == api.OK {
			seeShow(t, want, text, api.OK)
		}
		if left == 0 {
			return
		}
		for i := range len(signs) {
			s = append(s, signs[i])
			all(left - 1)
			s = s[:len(s)-1]
		}
	}
	all(6)
}

// P14.2: of a right text with one byte changed, left out or put in, just what has the form is read.
func TestParseNear(t *testing.T) {
	f := form()
	see := func(s string) {
		want, e := read(f, s)
		seeParse(t, s, want, e)
	}
	for _, r := range rows() {
		for at := range len(r.text) {
			see(r.text[:at] + r.text[at+1:])
			see(r.text[:at])
			see(r.text[at:])
			for b := range 256 {
				c := string([]byte{byte(b)})
				see(r.text[:at] + c + r.text[at:])
				see(r.text[:at] + c + r.text[at+1:])
			}
		}
		for b := range 256 {
			see(r.text + string([]byte{byte(b)}))
		}
	}
}

// P14.3: the Norms of some, worked out by hand, and of those with the greatest parts.
func TestNorm(t *testing.T) {
	for z, want := range map[complex128]int{
		0: 0, 1: 1, -1: 1, 1i: 1, -1i: 1, 1 + 1i: 2, -1 - 1i: 2, 2 + 1i: 5, 3 + 4i: 25, -3 + 4i: 25, 4 - 3i: 25, 5: 25, -5i: 25,
		1000: 1000000, 46341: 2147488281, 65536i: 1 << 32, 65536 + 65536i: 1 << 33, 100000 + 1i: 10000000001,
		999999: 999998000001, -999999i: 999998000001, 999999 + 999999i: 1999996000002, -999999 + 999999i: 1999996000002, 999999 - 999998i: 1999994000005,
	} {
		if got := Norm(z); got != want {
			t.Errorf("Norm of %v: %d, not %d", z, got, want)
		}
	}
	for _, z := range nones() {
		if got := Norm(z); got != -1 {
			t.Errorf("Norm of %v: %d, not -1", z, got)
		}
	}
}

// P14.4: turns of one number, forward and backward, few and as many as an int can say.
func TestTurn(t *testing.T) {
	four := []complex128{3 + 4i, -4 + 3i, -3 - 4i, 4 - 3i}
	for n := -40; n <= 40; n++ {
		seeTurn(t, four[0], n, four[(n+40)%4], api.OK)
	}
	for n, want := range map[int]complex128{
		math.MaxInt: four[3], math.MaxInt - 1: four[2], math.MaxInt - 2: four[1], math.MaxInt - 3: four[0],
		math.MinInt: four[0], math.MinInt + 1: four[1], math.MinInt + 2: four[2], math.MinInt + 3: four[3],
		1 << 32: four[0], 1<<32 + 1: four[1], -1<<32 - 1: four[3], 1 << 53: four[0], 1<<53 + 1: four[1], 1 << 62: four[0], -1<<62 + 2: four[2],
	} {
		seeTurn(t, four[0], n, want, api.OK)
	}
}

// P14.4: 0 stays 0, numbers on the lines stay on them, and none comes to have a part that is -0.
func TestTurnEdges(t *testing.T) {
	for n := -8; n <= 8; n++ {
		seeTurn(t, 0, n, 0, api.OK)
	}
	for _, x := range []float64{1, 7, 999999} {
		four := []complex128{complex(x, 0), complex(0, x), complex(-x, 0), complex(0, -x)}
		for from := range 4 {
			for n := -8; n <= 8; n++ {
				seeTurn(t, four[from], n, four[(from+n+8)%4], api.OK)
			}
		}
	}
	seeTurn(t, 999999-999999i, 1, 999999+999999i, api.OK)
	seeTurn(t, 999999-999999i, -1, -999999-999999i, api.OK)
	seeTurn(t, -1+999999i, 2, 1-999999i, api.OK)
}

// P14.4: what is no number of two parts is not turned, not even by no turn.
func TestTurnNones(t *testing.T) {
	for _, z := range nones() {
		for _, n := range []int{0, 1, 2, 3, 4, -1, -4, math.MaxInt, math.MinInt} {
			seeTurn(t, z, n, 0, api.ErrGauss)
		}
	}
}

// P14.4: products of small numbers, and of those whose product just fits.
func TestTimes(t *testing.T) {
	for _, r := range [][3]complex128{
		{0, 0, 0}, {0, 5 + 7i, 0}, {0, -999999 + 999999i, 0}, {1, 3 - 4i, 3 - 4i}, {-1, 3 - 4i, -3 + 4i}, {1i, 3 + 4i, -4 + 3i}, {-1i, 3 + 4i, 4 - 3i}, {1i, 1i, -1}, {-1i, 1i, 1},
		{2 + 3i, 4 - 5i, 23 + 2i}, {3 + 4i, 3 - 4i, 25}, {1 + 1i, 1 + 1i, 2i}, {1 + 1i, 1 - 1i, 2}, {2, 3, 6}, {-2, 3i, -6i}, {12 + 34i, -56 + 78i, -3324 - 968i},
		{1, 999999 - 999999i, 999999 - 999999i}, {1i, 999999 + 999999i, -999999 + 999999i}, {-1, -999999 - 999999i, 999999 + 999999i},
		{999, 1001, 999999}, {-999, 1001, -999999}, {999i, 1001, 999999i}, {999i, 1001i, -999999}, {999, -1001i, -999999i}, {333333, 3, 999999}, {7, 142857i, 999999i},
		{1 + 1i, 500000 + 499999i, 1 + 999999i}, {1 + 1i, 500000 - 499999i, 999999 + 1i}, {707 + 707i, 707 - 707i, 999698}, {707 + 707i, 707 + 707i, 999698i},
		{1 + 1i, 499999 + 499999i, 999998i}, {999 + 1i, 1000 + 999i, 998001 + 999001i}, {1000 + 1i, 999 + 1i, 998999 + 1999i},
	} {
		seeTimes(t, r[0], r[1], r[2], api.OK)
		seeTimes(t, r[1], r[0], r[2], api.OK)
	}
}

// P14.4: a product with one part, or both, just or far beyond the greatest is too big.
func TestTimesBig(t *testing.T) {
	for _, r := range [][2]complex128{
		{1000, 1000}, {-1000, 1000}, {1000i, 1000}, {1000i, 1000i}, {1000i, -1000}, {-1000i, -1000i}, {2, 500000}, {-2, 500000}, {2i, 500000}, {500000, -2i}, {1001, 1000}, {101, 9901},
		{1 + 1i, 500000 + 500000i}, {1 + 1i, 500000 - 500000i}, {1 + 1i, 500001 + 499999i}, {1 - 1i, -500000 + 500000i}, {708 + 708i, 708 - 708i}, {1 + 1i, 999999 + 1i}, {1 + 1i, 999999 - 1i}, {2 + 1i, 500000},
		{999999, 2}, {999999, 999999}, {999999i, 999999i}, {-999999, 999999i}, {999999 + 999999i, 999999 + 999999i}, {999999 + 999999i, 999999 - 999999i}, {-999999 + 999999i, 999999 + 999999i}, {999999 - 999998i, 999998 + 999999i}, {65536, 65536}, {65536i, 65536},
	} {
		seeTimes(t, r[0], r[1], 0, api.ErrBig)
		seeTimes(t, r[1], r[0], 0, api.ErrBig)
	}
}

// P14.4: a factor that is none of two parts is told ahead of a product that is too big, and even if the product is one.
func TestTimesNones(t *testing.T) {
	for _, z := range nones() {
		for _, other := range []complex128{0, 1, 2, -1i, 1000, 999999, 999999 - 999999i, z, complex(0.5, 0)} {
			seeTimes(t, z, other, 0, api.ErrGauss)
			seeTimes(t, other, z, 0, api.ErrGauss)
		}
	}
	seeTimes(t, 0.5, 2, 0, api.ErrGauss)
	seeTimes(t, 0.5, 4i, 0, api.ErrGauss)
	seeTimes(t, 1000000, 0, 0, api.ErrGauss)
	seeTimes(t, 1000000, 1000000, 0, api.ErrGauss)
	seeTimes(t, 1000000, 999999, 0, api.ErrGauss)
}

// product multiplies two by whole numbers without an end.
func product(a, b complex128) (re, im *big.Int) {
	times := func(x, y float64) *big.Int {
		return new(big.Int).Mul(big.NewInt(int64(x)), big.NewInt(int64(y)))
	}
	re = new(big.Int).Sub(times(real(a), real(b)), times(imag(a), imag(b)))
	im = new(big.Int).Add(times(real(a), imag(b)), times(imag(a), real(b)))
	return re, im
}

// seeProduct holds a product against that of whole numbers without an end, and its Norm against those of its factors.
func seeProduct(t *testing.T, a, b complex128) (fits bool) {
	t.Helper()
	re, im := product(a, b)
	limit := big.NewInt(999999)
	if re.CmpAbs(limit) > 0 || im.CmpAbs(limit) > 0 {
		seeTimes(t, a, b, 0, api.ErrBig)
		return false
	}
	want := complex(float64(re.Int64()), float64(im.Int64()))
	seeTimes(t, a, b, want, api.OK)
	norms := new(big.Int).Mul(big.NewInt(int64(Norm(a))), big.NewInt(int64(Norm(b))))
	if norms.Cmp(big.NewInt(int64(Norm(want)))) != 0 {
		t.Errorf("Norm of %v times %v: %d, not %v", a, b, Norm(want), norms)
	}
	return true
}

// P14.4, P14.7: products of all of some and by chance, and their Norms.
func TestProducts(t *testing.T) {
	for _, a := range some() {
		for _, b := range some() {
			seeProduct(t, a, b)
		}
	}
	c := rand.New(rand.NewSource(144))
	fits := 0
	for range 200000 {
		if seeProduct(t, complex(byChance(c), byChance(c)), complex(byChance(c), byChance(c))) {
			fits++
		}
	}
	if fits < 20000 || fits > 180000 {
		t.Errorf("%d products fit: too few, or too few do not", fits)
	}
}

// P14.5: the order of some, written by hand: by the Norms, then by the real parts, then by the imaginary parts.
func TestCmp(t *testing.T) {
	rising := []complex128{
		0, -1, -1i, 1i, 1, -1 - 1i, -1 + 1i, 1 - 1i, 1 + 1i, -2, -2i, 2i, 2, -2 - 1i, -2 + 1i, -1 - 2i, -1 + 2i, 1 - 2i, 1 + 2i, 2 - 1i, 2 + 1i,
		-5, -4 - 3i, -4 + 3i, -3 - 4i, -3 + 4i, -5i, 5i, 3 - 4i, 3 + 4i, 4 - 3i, 4 + 3i, 5,
		-7 - 1i, -7 + 1i, -5 - 5i, -5 + 5i, -1 - 7i, -1 + 7i, 1 - 7i, 1 + 7i, 5 - 5i, 5 + 5i, 7 - 1i, 7 + 1i,
		999998i, -999999, -999999i, 999999i, 999999, -999999 + 1i, 999999 - 999998i, -999999 - 999999i, -999999 + 999999i, 999999 - 999999i, 999999 + 999999i,
	}
	for i, a := range rising {
		seeCmp(t, a, a, 0)
		for _, b := range rising[i+1:] {
			seeCmp(t, a, b, -1)
		}
	}
}

// P14.5: what is no number of two parts is below all that are, and the same as all that are not.
func TestCmpNones(t *testing.T) {
	l := nones()
	for _, a := range l {
		for _, b := range []complex128{0, complex(minus(), minus()), 1, -1, 3 + 4i, -999999, -999999 - 999999i, 999999 + 999999i} {
			seeCmp(t, a, b, -1)
		}
		for _, b := range l {
			seeCmp(t, a, b, 0)
		}
	}
}

// P14.5: numbers by chance that are near each other are ordered as the words say, and one order holds them all.
func TestCmpByChance(t *testing.T) {
	c := rand.New(rand.NewSource(145))
	order := func(a, b complex128) int {
		square := func(z complex128) float64 { return real(z)*real(z) + imag(z)*imag(z) }
		for _, d := range []float64{square(a) - square(b), real(a) - real(b), imag(a) - imag(b)} {
			if d != 0 {
				return int(math.Copysign(1, d))
			}
		}
		return 0
	}
	for range 100000 {
		a := complex(byChance(c), byChance(c))
		for _, b := range []complex128{complex(byChance(c), byChance(c)), a, -a, a * 1i, complex(real(a), -imag(a)), complex(imag(a), real(a)), complex(-real(a), imag(a))} {
			seeCmp(t, a, b, order(a, b))
		}
	}
	l := some()
	slices.SortFunc(l, Cmp)
	for i := range l {
		for j := range i {
			seeCmp(t, l[j], l[i], -1)
		}
	}
}

// P14.6: what is shown is read as the number that it was.
func TestBack(t *testing.T) {
	see := func(z complex128) {
		s, e := Show(z)
		if e != api.OK {
			t.Errorf("Show of %v: %d", z, int(e))
		}
		seeParse(t, s, z, api.OK)
	}
	for _, z := range some() {
		see(z)
	}
	c := rand.New(rand.NewSource(146))
	for range 200000 {
		see(complex(byChance(c), byChance(c)))
	}
}

// P14.7: four turns are none, each turn is a product with i, a turn keeps the Norm, and turns go together.
func TestTurns(t *testing.T) {
	c := rand.New(rand.NewSource(147))
	l := some()
	for range 20000 {
		l = append(l, complex(byChance(c), byChance(c)))
	}
	for _, z := range l {
		seeTurn(t, z, 0, z, api.OK)
		seeTurn(t, z, 4, z, api.OK)
		seeTurn(t, z, -4, z, api.OK)
		once := complex(-imag(z), real(z))
		seeTurn(t, z, 1, once, api.OK)
		seeTurn(t, once, -1, z, api.OK)
		seeTimes(t, z, 1i, once, api.OK)
		at := z
		for n := 1; n <= 4; n++ {
			at, _ = Turn(at, 1)
			seeTurn(t, z, n, at, api.OK)
			seeTurn(t, z, n-4, at, api.OK)
			if Norm(at) != Norm(z) {
				t.Errorf("Norm of %v, turned %d times: %d, not %d", z, n, Norm(at), Norm(z))
			}
		}
		n := int(c.Uint64())
		seeTurn(t, z, n, turnedBack(z, n), api.OK)
	}
}

// turnedBack turns a number by the rest that n leaves over 4, each turn made as three backward.
func turnedBack(z complex128, n int) complex128 {
	left := new(big.Int).Mod(big.NewInt(int64(n)), big.NewInt(4)).Int64()
	for range 3 * left {
		z = complex(imag(z), -real(z))
	}
	return z
}

// The chapter's examples.
func TestExamples(t *testing.T) {
	z, e := Parse("3+4i")
	if z != complex(3, 4) || e != api.OK || Norm(z) != 25 {
		t.Errorf("3+4i: %v %d, Norm %d", z, int(e), Norm(z))
	}
	turned, _ := Turn(z, 1)
	seeTurn(t, z, 1, complex(-4, 3), api.OK)
	seeShow(t, turned, "-4+3i", api.OK)
	for _, s := range []string{"+1", "01", "1+0i", "-0", "i", "1-i"} {
		seeParse(t, s, 0, api.ErrGauss)
	}
}
