package digit

import (
	"math"
	"math/big"
	"regexp"
	"strconv"
	"strings"
	"testing"

	"longshore/api"
)

// parsed is a case of a function that parses: what it is given, and what it answers.
type parsed struct {
	s string
	n int
	e api.Errno
}

func check(t *testing.T, call string, s string, n int, e api.Errno, want parsed) {
	t.Helper()
	if n != want.n || e != want.e {
		t.Errorf("%s(%q) = %d, %v; want %d, %v", call, s, n, e, want.n, want.e)
	}
}

// TestBound: promise 1.1, the bound of the integers that are parsed.
func TestBound(t *testing.T) {
	if Most != 9007199254740992 {
		t.Errorf("Most = %d", Most)
	}
}

// TestText: promise 1.1, the decimal form of every kind of int.
func TestText(t *testing.T) {
	for _, x := range []struct {
		n int
		s string
	}{
		{0, "0"}, {1, "1"}, {9, "9"}, {10, "10"}, {100, "100"}, {101, "101"}, {1234567890, "1234567890"},
		{-1, "-1"}, {-9, "-9"}, {-10, "-10"}, {-120, "-120"},
		{Most, "9007199254740992"}, {Most + 1, "9007199254740993"},
		{-Most, "-9007199254740992"}, {-Most - 1, "-9007199254740993"},
		{math.MaxInt, "9223372036854775807"}, {math.MaxInt - 1, "9223372036854775806"},
		{math.MinInt, "-9223372036854775808"}, {math.MinInt + 1, "-9223372036854775807"},
	} {
		if got := Text(x.n); got != x.s {
			t.Errorf("Text(%d) = %q; want %q", x.n, got, x.s)
		}
	}
}

// TestParse: promise 1.1, the forms, the bounds on both sides, and wrong texts.
func TestParse(t *testing.T) {
	for _, x := range []parsed{
		{"0", 0, api.OK}, {"7", 7, api.OK}, {"10", 10, api.OK}, {"42", 42, api.OK}, {"-1", -1, api.OK}, {"-120", -120, api.OK}, {"1000", 1000, api.OK},
		{"9007199254740991", Most - 1, api.OK}, {"9007199254740992", Most, api.OK}, {"9007199254740993", 0, api.ErrBound},
		{"-9007199254740991", -Most + 1, api.OK}, {"-9007199254740992", -Most, api.OK}, {"-9007199254740993", 0, api.ErrBound},
		{"9007199254741000", 0, api.ErrBound}, {"90071992547409920", 0, api.ErrBound}, {"-90071992547409920", 0, api.ErrBound},
		{"9223372036854775807", 0, api.ErrBound}, {"9223372036854775808", 0, api.ErrBound}, {"-9223372036854775808", 0, api.ErrBound},
		{"18446744073709551616", 0, api.ErrBound}, {"18446744073709551617", 0, api.ErrBound}, {"-18446744073709551617", 0, api.ErrBound},
		{"99999999999999999999999", 0, api.ErrBound},
		{"", 0, api.ErrSyntax}, {"-", 0, api.ErrSyntax}, {"--1", 0, api.ErrSyntax}, {"-0", 0, api.ErrSyntax}, {"+1", 0, api.ErrSyntax}, {"1-", 0, api.ErrSyntax},
		{"00", 0, api.ErrSyntax}, {"01", 0, api.ErrSyntax}, {"-01", 0, api.ErrSyntax}, {"-00", 0, api.ErrSyntax},
		{" 1", 0, api.ErrSyntax}, {"1 ", 0, api.ErrSyntax}, {"- 1", 0, api.ErrSyntax}, {"1\n", 0, api.ErrSyntax}, {"1\x00", 0, api.ErrSyntax}, {"\x00", 0, api.ErrSyntax},
		{"1.0", 0, api.ErrSyntax}, {"1e3", 0, api.ErrSyntax}, {"0x1", 0, api.ErrSyntax}, {"1_000", 0, api.ErrSyntax}, {"1,000", 0, api.ErrSyntax},
		{"/", 0, api.ErrSyntax}, {":", 0, api.ErrSyntax}, {"1/", 0, api.ErrSyntax}, {"1:", 0, api.ErrSyntax}, {"\u0661", 0, api.ErrSyntax}, {"1\xff", 0, api.ErrSyntax},
	} {
		n, e := Parse(x.s)
		check(t, "Parse", x.s, n, e, x)
	}
}

// TestParseSyntaxFirst: promises 1.1 and P1, a text that is no form and would be out of bounds is no form first of all.
func TestParseSyntaxFirst(t *testing.T) {
	for _, s := range []string{"9999999999999999999999x", "x9999999999999999999999", "-9999999999999999999999x", "09999999999999999999999", "-09007199254740993", "9007199254740993.5"} {
		n, e := Parse(s)
		check(t, "Parse", s, n, e, parsed{s, 0, api.ErrSyntax})
	}
}

// TestCount: promise 1.1, most negative, reached and exceeded, and wrong texts.
func TestCount(t *testing.T) {
	const first, last = "9223372036854775806", "9223372036854775807"
	for _, x := range []struct {
		parsed
		most int
	}{
		{parsed{"0", 0, api.OK}, 0}, {parsed{"1", 0, api.ErrBound}, 0}, {parsed{"10", 0, api.ErrBound}, 0},
		{parsed{"7", 7, api.OK}, 8}, {parsed{"8", 8, api.OK}, 8}, {parsed{"9", 0, api.ErrBound}, 8}, {parsed{"10", 0, api.ErrBound}, 8},
		{parsed{"10", 10, api.OK}, 10}, {parsed{"11", 0, api.ErrBound}, 10}, {parsed{"19", 0, api.ErrBound}, 18}, {parsed{"100", 0, api.ErrBound}, 99},
		{parsed{"9007199254740993", Most + 1, api.OK}, math.MaxInt}, {parsed{"9007199254740993", 0, api.ErrBound}, Most},
		{parsed{last, math.MaxInt, api.OK}, math.MaxInt}, {parsed{last, 0, api.ErrBound}, math.MaxInt - 1}, {parsed{first, math.MaxInt - 1, api.OK}, math.MaxInt - 1},
		{parsed{"9223372036854775808", 0, api.ErrBound}, math.MaxInt}, {parsed{"9223372036854775810", 0, api.ErrBound}, math.MaxInt},
		{parsed{"18446744073709551617", 0, api.ErrBound}, math.MaxInt}, {parsed{"99999999999999999999", 0, api.ErrBound}, math.MaxInt},
		{parsed{"", 0, api.ErrSyntax}, 8}, {parsed{"-1", 0, api.ErrSyntax}, 8}, {parsed{"-0", 0, api.ErrSyntax}, 8}, {parsed{"-", 0, api.ErrSyntax}, 8},
		{parsed{"00", 0, api.ErrSyntax}, 8}, {parsed{"01", 0, api.ErrSyntax}, 8}, {parsed{"+1", 0, api.ErrSyntax}, 8}, {parsed{"x", 0, api.ErrSyntax}, 8}, {parsed{"1x", 0, api.ErrSyntax}, 8},
	} {
		n, e := Count(x.s, x.most)
		check(t, "Count up to "+strconv.Itoa(x.most)+" ", x.s, n, e, x.parsed)
	}
}

// TestCountFirstError: promises 1.1 and P1, a negative most is told ahead of a wrong text, and that ahead of a number out of bounds.
func TestCountFirstError(t *testing.T) {
	for _, most := range []int{-1, -Most, math.MinInt} {
		for _, s := range []string{"0", "1", "-1", "", "x", "01", "99999999999999999999"} {
			n, e := Count(s, most)
			check(t, "Count", s, n, e, parsed{s, 0, api.ErrArg})
		}
	}
	for _, s := range []string{"9x", "99999999999999999999x", "09", "-9"} {
		n, e := Count(s, 8)
		check(t, "Count", s, n, e, parsed{s, 0, api.ErrSyntax})
	}
}

// TestMilli: promise 1.2, the forms of thousandths, the bound, and wrong texts.
func TestMilli(t *testing.T) {
	for _, x := range []parsed{
		{"0", 0, api.OK}, {"1", 1000, api.OK}, {"3", 3000, api.OK}, {"10", 10000, api.OK}, {"120", 120000, api.OK},
		{"0.5", 500, api.OK}, {"0.05", 50, api.OK}, {"0.005", 5, api.OK}, {"0.999", 999, api.OK}, {"0.101", 101, api.OK},
		{"1.25", 1250, api.OK}, {"1.05", 1050, api.OK}, {"1.001", 1001, api.OK}, {"10.1", 10100, api.OK}, {"123.456", 123456, api.OK},
		{"9007199254740", Most - 992, api.OK}, {"9007199254740.99", Most - 2, api.OK}, {"9007199254740.991", Most - 1, api.OK}, {"9007199254740.992", Most, api.OK},
		{"9007199254740.993", 0, api.ErrBound}, {"9007199254741", 0, api.ErrBound}, {"9007199254741.1", 0, api.ErrBound}, {"9007199254740992", 0, api.ErrBound},
		{"18446744073709551.616", 0, api.ErrBound}, {"18446744073709551.617", 0, api.ErrBound}, {"99999999999999999999999", 0, api.ErrBound}, {"99999999999999999999999.5", 0, api.ErrBound},
		{"", 0, api.ErrSyntax}, {".", 0, api.ErrSyntax}, {".5", 0, api.ErrSyntax}, {"1.", 0, api.ErrSyntax}, {"0.", 0, api.ErrSyntax},
		{"0.0", 0, api.ErrSyntax}, {"1.0", 0, api.ErrSyntax}, {"1.000", 0, api.ErrSyntax}, {"1.50", 0, api.ErrSyntax}, {"1.500", 0, api.ErrSyntax}, {"1.010", 0, api.ErrSyntax},
		{"1.2345", 0, api.ErrSyntax}, {"1.0001", 0, api.ErrSyntax}, {"1.2340", 0, api.ErrSyntax}, {"0.0000000001", 0, api.ErrSyntax},
		{"01", 0, api.ErrSyntax}, {"00", 0, api.ErrSyntax}, {"01.5", 0, api.ErrSyntax}, {"00.5", 0, api.ErrSyntax},
		{"-1", 0, api.ErrSyntax}, {"-0", 0, api.ErrSyntax}, {"-0.5", 0, api.ErrSyntax}, {"-1.25", 0, api.ErrSyntax}, {"+1", 0, api.ErrSyntax}, {"1.-5", 0, api.ErrSyntax}, {"1.+5", 0, api.ErrSyntax},
		{"1.2.3", 0, api.ErrSyntax}, {"1..2", 0, api.ErrSyntax}, {"1.2.", 0, api.ErrSyntax}, {"1,5", 0, api.ErrSyntax}, {" 1", 0, api.ErrSyntax}, {"1 ", 0, api.ErrSyntax}, {"1. 5", 0, api.ErrSyntax},
		{"x", 0, api.ErrSyntax}, {"1x", 0, api.ErrSyntax}, {"1.x", 0, api.ErrSyntax}, {"1.x5", 0, api.ErrSyntax}, {"1.5x", 0, api.ErrSyntax}, {"1.5/", 0, api.ErrSyntax}, {"1.5:", 0, api.ErrSyntax}, {"1e3", 0, api.ErrSyntax}, {"1.\xff", 0, api.ErrSyntax},
	} {
		n, e := Milli(x.s)
		check(t, "Milli", x.s, n, e, x)
	}
}

// TestMilliSyntaxFirst: promises 1.2 and P1, a text that is no form and would be out of bounds is no form first of all.
func TestMilliSyntaxFirst(t *testing.T) {
	for _, s := range []string{"9007199254741.", "9007199254741.50", "9007199254741x", "99999999999999999999999.1234", "09007199254741", "-9007199254741"} {
		n, e := Milli(s)
		check(t, "Milli", s, n, e, parsed{s, 0, api.ErrSyntax})
	}
}

// TestMilliText: promise 1.2, every width of the fraction, numbers beyond what Milli returns, and negative ones.
func TestMilliText(t *testing.T) {
	for _, x := range []struct {
		n int
		s string
	}{
		{0, "0"}, {1, "0.001"}, {5, "0.005"}, {9, "0.009"}, {10, "0.01"}, {11, "0.011"}, {99, "0.099"}, {100, "0.1"}, {101, "0.101"}, {110, "0.11"}, {500, "0.5"}, {999, "0.999"},
		{1000, "1"}, {1001, "1.001"}, {1010, "1.01"}, {1050, "1.05"}, {1100, "1.1"}, {1250, "1.25"}, {10000, "10"}, {10100, "10.1"}, {120000, "120"}, {123456, "123.456"}, {1000000, "1000"},
		{Most, "9007199254740.992"}, {Most + 1, "9007199254740.993"}, {math.MaxInt, "9223372036854775.807"}, {math.MaxInt - 7, "9223372036854775.8"}, {math.MaxInt - 807, "9223372036854775"},
		{-1, ""}, {-1000, ""}, {-1250, ""}, {-Most, ""}, {math.MinInt, ""},
	} {
		if got := MilliText(x.n); got != x.s {
			t.Errorf("MilliText(%d) = %q; want %q", x.n, got, x.s)
		}
	}
}

// numbers returns some numbers around 0, around every power of 2 and of 10 up to the bound, and with all their counterparts.
func numbers() []int {
	var l []int
	for n := range 12000 {
		l = append(l, n, -n)
	}
	for _, base := range []int{2, 10} {
		for p := 1; p <= Most; p *= base {
			l = append(l, p-1, p, p+1, 1-p, -p, -p-1)
		}
	}
	return l
}

// TestNumbersComeBack: promise 1.3, parsing a formatted number returns the number.
func TestNumbersComeBack(t *testing.T) {
	for _, n := range numbers() {
		want := parsed{n: n}
		if n < -Most || n > Most {
			want = parsed{e: api.ErrBound}
		}
		got, e := Parse(Text(n))
		check(t, "Parse", Text(n), got, e, want)
		if n < 0 {
			continue
		}
		got, e = Milli(MilliText(n))
		check(t, "Milli", MilliText(n), got, e, want)
		got, e = Count(Text(n), n)
		check(t, "Count", Text(n), got, e, parsed{n: n})
	}
}

// texts calls a function with all texts of up to five bytes of a few kinds, each followed by each of some ends.
func texts(f func(string)) {
	const bytes = "0159.-x"
	const longest = 5
	l := []string{""}
	for size := 0; ; size++ {
		for _, s := range l {
			for _, end := range []string{"", "9007199254740992", "7199254740992", "7199254740.992", "199254740993", "00000000000000000000"} {
				f(s + end)
			}
		}
		if size == longest {
			return
		}
		var longer []string
		for _, s := range l {
			for i := range len(bytes) {
				longer = append(longer, s+bytes[i:i+1])
			}
		}
		l = longer
	}
}

// expect tells from a pattern and by great numbers what is to be answered for a text.
func expect(s string, form *regexp.Regexp, thousandths bool, least, most int) parsed {
	if !form.MatchString(s) {
		return parsed{s, 0, api.ErrSyntax}
	}
	whole, fraction, _ := strings.Cut(s, ".")
	if thousandths {
		whole += (fraction + "000")[:3]
	}
	n, _ := new(big.Int).SetString(whole, 10)
	if n.Cmp(big.NewInt(int64(least))) < 0 || n.Cmp(big.NewInt(int64(most))) > 0 {
		return parsed{s, 0, api.ErrBound}
	}
	return parsed{s, int(n.Int64()), api.OK}
}

// TestAllTexts: promises 1.1 to 1.3 and P1, what is answered for every short text and for long ones, and that each text that is parsed comes back.
func TestAllTexts(t *testing.T) {
	integer := regexp.MustCompile(`^(0|-?[1-9][0-9]*)\z`)
	whole := regexp.MustCompile(`^(0|[1-9][0-9]*)\z`)
	milli := regexp.MustCompile(`^(0|[1-9][0-9]*)(\.[0-9]{0,2}[1-9])?\z`)
	texts(func(s string) {
		n, e := Parse(s)
		check(t, "Parse", s, n, e, expect(s, integer, false, -Most, Most))
		if e == api.OK && Text(n) != s {
			t.Errorf("Text(%d) = %q; want %q", n, Text(n), s)
		}
		for _, most := range []int{0, 9, 500, Most, math.MaxInt} {
			n, e = Count(s, most)
			check(t, "Count", s, n, e, expect(s, whole, false, 0, most))
			if e == api.OK && Text(n) != s {
				t.Errorf("Text(%d) = %q; want %q", n, Text(n), s)
			}
		}
		n, e = Milli(s)
		check(t, "Milli", s, n, e, expect(s, milli, true, 0, Most))
		if e == api.OK && MilliText(n) != s {
			t.Errorf("MilliText(%d) = %q; want %q", n, MilliText(n), s)
		}
	})
}

// TestEndsOnLongTexts: promise P1, texts far longer than any number are answered all the same.
func TestEndsOnLongTexts(t *testing.T) {
	long := strings.Repeat("9", 1<<16)
	for _, x := range []parsed{{long, 0, api.ErrBound}, {long + "x", 0, api.ErrSyntax}, {"0" + long, 0, api.ErrSyntax}} {
		n, e := Parse(x.s)
		check(t, "Parse", x.s, n, e, x)
		n, e = Count(x.s, math.MaxInt)
		check(t, "Count", x.s, n, e, x)
		n, e = Milli(x.s)
		check(t, "Milli", x.s, n, e, x)
	}
	n, e := Milli("1." + long)
	check(t, "Milli", "1.99..", n, e, parsed{e: api.ErrSyntax})
}
