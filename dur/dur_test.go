package dur

import (
	"math"
	"math/big"
	"math/rand"
	"regexp"
	"strings"
	"testing"

	"longshore/api"
)

// parsed is a case of Parse: what it is given, and what it answers.
type parsed struct {
	s string
	n int
	e api.Errno
}

func checkParse(t *testing.T, want parsed) {
	t.Helper()
	if n, e := Parse(want.s); n != want.n || e != want.e {
		t.Errorf("Parse(%q) = %d, %v; want %d, %v", want.s, n, e, want.n, want.e)
	}
}

func checkSyntax(t *testing.T, all ...string) {
	t.Helper()
	for _, s := range all {
		checkParse(t, parsed{s, 0, api.ErrSyntax})
	}
}

func checkText(t *testing.T, n int, want string) {
	t.Helper()
	if got := Text(n); got != want {
		t.Errorf("Text(%d) = %q; want %q", n, got, want)
	}
}

func checkNumber(t *testing.T, call string, a, b, got, want int) {
	t.Helper()
	if got != want {
		t.Errorf("%s(%d, %d) = %d; want %d", call, a, b, got, want)
	}
}

// TestParse: promise 3.1, each unit alone, and all that may stand together.
func TestParse(t *testing.T) {
	if api.MaxTime != 1099511627776 {
		t.Fatalf("MaxTime = %d", api.MaxTime)
	}
	for _, x := range []parsed{
		{"1h", 3600000, api.OK}, {"1m", 60000, api.OK}, {"1s", 1000, api.OK}, {"1ms", 1, api.OK},
		{"2h", 7200000, api.OK}, {"10m", 600000, api.OK}, {"90s", 90000, api.OK}, {"500ms", 500, api.OK}, {"100h", 360000000, api.OK},
		{"1m30s", 90000, api.OK}, {"1h1m", 3660000, api.OK}, {"1h1s", 3601000, api.OK}, {"1h1ms", 3600001, api.OK}, {"1m1s", 61000, api.OK}, {"1s1ms", 1001, api.OK},
		{"1h1m1s", 3661000, api.OK}, {"1h1m1ms", 3660001, api.OK}, {"1h1s1ms", 3601001, api.OK}, {"1m1s1ms", 61001, api.OK}, {"1h1m1s1ms", 3661001, api.OK},
		{"4h3m2s1ms", 14582001, api.OK}, {"10h20m30s40ms", 37230040, api.OK},
		{"60s", 60000, api.OK}, {"60m", 3600000, api.OK}, {"1000ms", 1000, api.OK}, {"24h", 86400000, api.OK}, {"1h60m", 7200000, api.OK}, {"1m60s", 120000, api.OK}, {"1s1000ms", 2000, api.OK},
		{"1h100m1000s10000ms", 10610000, api.OK}, {"9ms", 9, api.OK}, {"109ms", 109, api.OK}, {"10s", 10000, api.OK}, {"101s", 101000, api.OK},
	} {
		checkParse(t, x)
	}
}

// TestParseMinutesAndMilliseconds: promise 3.1, "m" beside "ms".
func TestParseMinutesAndMilliseconds(t *testing.T) {
	for _, x := range []parsed{{"5m", 300000, api.OK}, {"5ms", 5, api.OK}, {"5m5ms", 300005, api.OK}, {"5m5s", 305000, api.OK}, {"5m5s5ms", 305005, api.OK}, {"1h5m5ms", 3900005, api.OK}} {
		checkParse(t, x)
	}
	checkSyntax(t, "5ms5m", "5mm", "5mss", "5msm", "5mms", "5m5", "5ms5", "5ms5s", "5ms5ms", "5m5m", "5m s", "5m5mm", "5sm", "5hm", "5hs", "5h5sm")
}

// TestParseZero: promise 3.1, 0 with each unit alone, beside other groups, and several times.
func TestParseZero(t *testing.T) {
	for _, unit := range []string{"h", "m", "s", "ms"} {
		checkParse(t, parsed{"0" + unit, 0, api.OK})
		checkSyntax(t, "00"+unit, "-0"+unit, "+0"+unit, " 0"+unit, "0 "+unit, "0"+unit+" ", "0"+unit+"0", "0"+unit+"x", "0.0"+unit, "00", "x0"+unit)
		for _, other := range []string{"h", "m", "s", "ms"} {
			checkSyntax(t, "0"+unit+"0"+other, "0"+unit+"1"+other, "1"+other+"0"+unit, "1h0"+unit+"1"+other)
		}
	}
	checkSyntax(t, "0", "00", "0hs", "0hm", "0hms", "0mm", "0sm", "0ss", "0sms", "0msm", "0mss", "0m0", "0H", "0d")
	checkSyntax(t, "0h0m0s0ms", "1h0m0s0ms", "0h0m0s1ms", "1h1m1s0ms", "0h1m1s1ms", "1h0m1s", "1m0s1ms", "0h1m", "1h0m")
}

// TestParseLeadingZeros: promise 3.1, a number with leading zeros is no decimal form, whatever stands by it.
func TestParseLeadingZeros(t *testing.T) {
	for _, unit := range []string{"h", "m", "s", "ms"} {
		checkSyntax(t, "01"+unit, "001"+unit, "010"+unit, "0000000000000000000000001"+unit)
	}
	checkSyntax(t, "01h1m", "1h01m", "1h1m01s", "1h1m1s01ms", "1m030s", "01m30s", "1h00m", "1s001ms")
}

// TestParseOrder: promise 3.1, no unit occurs twice, and none stands behind a smaller one.
func TestParseOrder(t *testing.T) {
	units := []string{"h", "m", "s", "ms"}
	for i, first := range units {
		for j, last := range units {
			want := parsed{s: "1" + first + "2" + last, e: api.ErrSyntax}
			if i < j {
				want.n, want.e = reference(want.s)
			}
			checkParse(t, want)
		}
	}
	checkSyntax(t, "1s1m", "1m1h", "1ms1s", "1h1h", "1m1m", "1s1s", "1ms1ms", "1h1m1h", "1h1s1m", "1h1m1s1ms1h", "1h1m1s1ms1ms", "1m1h1s", "1h1m1m1s", "1h1ms1s", "1s1s1s1s")
}

// TestParseWrong: promise 3.1, the empty string, a number without a unit, a unit without a number, and what is neither.
func TestParseWrong(t *testing.T) {
	checkSyntax(t, "", "5", "10", "1h5", "1h1m5", "1h1m1s5", "1h1m1s1ms5", "1m30", "1m30m5")
	checkSyntax(t, "h", "m", "s", "ms", "hms", "hmsms", "1hm", "1hms", "h1m", "m1s", "1h1m1sms", "1hh", "1ss")
	checkSyntax(t, " ", " 1s", "1s ", "1 s", "1m 30s", "1s\n", "1s\x00", "\x001s", "\t1s", "1\x00s")
	checkSyntax(t, "-1s", "+1s", "1h-1m", "1h+1m", "1.5s", "1.0s", ".5s", "1,5s", "1e3s", "0x1s", "1_000s", "1/", "/1s", ":1s", "1:s", "1m:s")
	checkSyntax(t, "1H", "1M", "1S", "1MS", "1mS", "1Ms", "1d", "1us", "1ns", "1\u00b5s", "1min", "1sec", "1hr", "1w", "1g", "1i", "1l", "1n", "1r", "1t")
	checkSyntax(t, "\u0661s", "1\u017f", "1m\u017f", "\uff11s", "1\xff", "1\xffs", "\xff1s", "1s\xff", "s1", "m1", "h1", "ms1", "x", "1x", "x1s", "1sx", "1xs")
}

// TestParseBound: promise 3.1, MaxTime and one more in each unit and in sums.
func TestParseBound(t *testing.T) {
	for _, x := range []parsed{
		{"1099511627775ms", api.MaxTime - 1, api.OK}, {"1099511627776ms", api.MaxTime, api.OK}, {"1099511627777ms", 0, api.ErrBound},
		{"1099511627s", 1099511627000, api.OK}, {"1099511627s776ms", api.MaxTime, api.OK}, {"1099511627s777ms", 0, api.ErrBound}, {"1099511628s", 0, api.ErrBound},
		{"18325193m", 1099511580000, api.OK}, {"18325193m47s776ms", api.MaxTime, api.OK}, {"18325193m47s777ms", 0, api.ErrBound}, {"18325193m48s", 0, api.ErrBound}, {"18325194m", 0, api.ErrBound},
		{"18325193m47776ms", api.MaxTime, api.OK}, {"18325193m47777ms", 0, api.ErrBound},
		{"305419h", 1099508400000, api.OK}, {"305419h53m47s775ms", api.MaxTime - 1, api.OK}, {"305419h53m47s776ms", api.MaxTime, api.OK}, {"305419h53m47s777ms", 0, api.ErrBound},
		{"305419h53m47s", 1099511627000, api.OK}, {"305419h53m48s", 0, api.ErrBound}, {"305419h53m", 1099511580000, api.OK}, {"305419h54m", 0, api.ErrBound}, {"305420h", 0, api.ErrBound},
		{"305419h3227s776ms", api.MaxTime, api.OK}, {"305419h3227s777ms", 0, api.ErrBound}, {"305419h3227776ms", api.MaxTime, api.OK}, {"305419h3227777ms", 0, api.ErrBound},
		{"305420h1ms", 0, api.ErrBound}, {"1h1099511627776ms", 0, api.ErrBound}, {"1s1099511626776ms", api.MaxTime, api.OK}, {"1s1099511626777ms", 0, api.ErrBound},
		{"1h1m1s1099507966776ms", api.MaxTime, api.OK}, {"1h1m1s1099507966777ms", 0, api.ErrBound}, {"305419h18325193m1099511627s1099511627776ms", 0, api.ErrBound}, {"1h18325133m47s776ms", api.MaxTime, api.OK}, {"1h18325133m47s777ms", 0, api.ErrBound},
	} {
		checkParse(t, x)
	}
}

// tooGreat returns numbers whose milliseconds, or they themselves, are no int, among them those that come out small when they wrap round.
func tooGreat() []string {
	l := []string{"1099511627777", "9007199254740993", "9223372036854775807", "9223372036854775808", "9999999999999999999", "18446744073709551615", "18446744073709551616", "18446744073709551617", "36893488147419103233", "340282366920938463463374607431768211457", strings.Repeat("9", 1<<16), "1" + strings.Repeat("0", 1<<16)}
	for _, unit := range []int64{1000, 60000, 3600000} {
		wraps := new(big.Int).Lsh(big.NewInt(1), 64)
		for range 3 {
			n := new(big.Int).Div(wraps, big.NewInt(unit))
			l = append(l, n.String(), n.Add(n, big.NewInt(1)).String())
			wraps.Rsh(wraps, 1)
		}
	}
	return l
}

// TestParseTooGreat: promises 3.1 and P1, numbers too large for any integer, alone and in each place of a sum.
func TestParseTooGreat(t *testing.T) {
	for _, n := range tooGreat() {
		for _, form := range []string{"#h", "#m", "#s", "#ms", "#h1m", "1h#m", "#m1s", "1m#s", "1s#ms", "#s1ms", "#h1m1s1ms", "1h#m1s1ms", "1h1m#s1ms", "1h1m1s#ms", "#h#m#s#ms"} {
			checkParse(t, parsed{strings.ReplaceAll(form, "#", n), 0, api.ErrBound})
		}
	}
}

// TestParseSyntaxFirst: promises 3.1 and P1, a string that is no text form and would be too large is no text form first of all.
func TestParseSyntaxFirst(t *testing.T) {
	for _, n := range append(tooGreat(), "305420", "18325194") {
		checkSyntax(t, n, n+"x", n+"hx", n+"h1", n+"hh", n+"h0m", n+"h01m", n+"h1h", n+"m1h", n+"s1m", n+"h 1m", n+"h1m1m", n+"h1m1s1ms ", n+"h-1m", n+"h1m1", n+"hm")
		checkSyntax(t, "0"+n+"h", "-"+n+"h", "x"+n+"h", " "+n+"h", "0h"+n+"m", "1m"+n+"h", "1s"+n+"s", "1h"+n, "1h"+n+"x", n+"h"+n, n+"h"+n+"h", n+"m"+n+"h", n+"ms"+n+"s", n+".5h")
	}
}

// TestText: promise 3.1, the canonical form at the edges of each unit, of MaxTime, and no form of other numbers.
func TestText(t *testing.T) {
	for _, x := range []struct {
		n int
		s string
	}{
		{0, "0s"}, {1, "1ms"}, {10, "10ms"}, {999, "999ms"}, {1000, "1s"}, {1001, "1s1ms"}, {1999, "1s999ms"}, {2000, "2s"}, {10000, "10s"},
		{59999, "59s999ms"}, {60000, "1m"}, {60001, "1m1ms"}, {61000, "1m1s"}, {90000, "1m30s"}, {120000, "2m"}, {600000, "10m"},
		{3599999, "59m59s999ms"}, {3600000, "1h"}, {3600001, "1h1ms"}, {3601000, "1h1s"}, {3601001, "1h1s1ms"}, {3660000, "1h1m"}, {3660001, "1h1m1ms"}, {3661000, "1h1m1s"}, {3661001, "1h1m1s1ms"},
		{7199999, "1h59m59s999ms"}, {7200000, "2h"}, {86400000, "24h"}, {360000000, "100h"}, {37230040, "10h20m30s40ms"},
		{api.MaxTime - 1, "305419h53m47s775ms"}, {api.MaxTime, "305419h53m47s776ms"}, {1099508400000, "305419h"},
		{api.MaxTime + 1, ""}, {api.MaxTime + 3600000, ""}, {2 * api.MaxTime, ""}, {math.MaxInt - 1, ""}, {math.MaxInt, ""},
		{-1, ""}, {-1000, ""}, {-60000, ""}, {-3600000, ""}, {-api.MaxTime, ""}, {math.MinInt + 1, ""}, {math.MinInt, ""},
	} {
		checkText(t, x.n, x.s)
	}
}

// edges returns numbers around 0, around MaxTime and its parts, around each power of two, and the least and greatest ints.
func edges() []int {
	l := []int{math.MinInt, math.MinInt + 1, math.MaxInt - 1, math.MaxInt, 1000, 60000, 3600000, 305419, 305420, 18325193, 18325194, 1099511627, 1099511628, api.MaxTime / 3, api.MaxTime/3 + 1, 2 * api.MaxTime, -2 * api.MaxTime}
	for p := 1; p > 0; p *= 2 {
		l = append(l, p-1, p, p+1, -p, -p-1)
	}
	return l
}

// TestLeastAndMost: promise 3.2, numbers of all sizes and signs, which are not limited.
func TestLeastAndMost(t *testing.T) {
	for _, x := range []struct{ a, b, least, most int }{
		{1, 2, 1, 2}, {2, 1, 1, 2}, {3, 3, 3, 3}, {3, -1, -1, 3}, {-1, 3, -1, 3}, {-1, -2, -2, -1}, {0, 0, 0, 0}, {0, -5, -5, 0},
		{math.MinInt, math.MaxInt, math.MinInt, math.MaxInt}, {math.MaxInt, math.MinInt, math.MinInt, math.MaxInt}, {math.MaxInt, math.MaxInt - 1, math.MaxInt - 1, math.MaxInt},
		{api.MaxTime, api.MaxTime + 1, api.MaxTime, api.MaxTime + 1}, {math.MinInt, math.MinInt + 1, math.MinInt, math.MinInt + 1},
	} {
		checkNumber(t, "Least", x.a, x.b, Least(x.a, x.b), x.least)
		checkNumber(t, "Most", x.a, x.b, Most(x.a, x.b), x.most)
	}
	for _, a := range edges() {
		for _, b := range edges() {
			least, most := a, b
			if b < a {
				least, most = b, a
			}
			checkNumber(t, "Least", a, b, Least(a, b), least)
			checkNumber(t, "Most", a, b, Most(a, b), most)
		}
	}
}

// TestAdd: promise 3.2, sums below, at and above MaxTime, with negative arguments, and with ones above MaxTime.
func TestAdd(t *testing.T) {
	for _, x := range []struct{ a, b, sum int }{
		{0, 0, 0}, {1, 2, 3}, {1000, 60000, 61000}, {0, 7, 7}, {7, 0, 7},
		{-5, 7, 7}, {7, -5, 7}, {-5, -7, 0}, {-1, 0, 0}, {-1, 1, 1}, {-1, api.MaxTime, api.MaxTime}, {-api.MaxTime, api.MaxTime, api.MaxTime},
		{api.MaxTime, 0, api.MaxTime}, {api.MaxTime, 1, api.MaxTime}, {1, api.MaxTime, api.MaxTime}, {api.MaxTime, api.MaxTime, api.MaxTime}, {api.MaxTime - 1, 0, api.MaxTime - 1}, {api.MaxTime - 1, 1, api.MaxTime}, {api.MaxTime - 1, 2, api.MaxTime}, {api.MaxTime - 2, 1, api.MaxTime - 1},
		{api.MaxTime / 2, api.MaxTime / 2, api.MaxTime}, {api.MaxTime/2 - 1, api.MaxTime / 2, api.MaxTime - 1}, {api.MaxTime/2 + 1, api.MaxTime / 2, api.MaxTime},
		{api.MaxTime + 1, 0, api.MaxTime}, {api.MaxTime + 1, -1, api.MaxTime}, {-1, api.MaxTime + 1, api.MaxTime}, {api.MaxTime + 10, -5, api.MaxTime}, {api.MaxTime + 1, api.MaxTime + 1, api.MaxTime},
		{math.MaxInt, 0, api.MaxTime}, {math.MaxInt, 1, api.MaxTime}, {math.MaxInt, math.MaxInt, api.MaxTime}, {math.MinInt, math.MaxInt, api.MaxTime}, {math.MaxInt, math.MinInt, api.MaxTime}, {math.MinInt, math.MinInt, 0}, {math.MinInt, 7, 7}, {7, math.MinInt, 7}, {math.MinInt, -1, 0},
	} {
		checkNumber(t, "Add", x.a, x.b, Add(x.a, x.b), x.sum)
	}
}

// TestTimes: promise 3.2, products below, at and above MaxTime, with negative arguments, and with ones above MaxTime.
func TestTimes(t *testing.T) {
	for _, x := range []struct{ a, n, product int }{
		{0, 0, 0}, {1, 1, 1}, {1000, 3, 3000}, {3, 1000, 3000}, {5, 0, 0}, {0, 5, 0}, {7, 1, 7}, {1, 7, 7},
		{5, -1, 0}, {-1, 5, 0}, {-5, -7, 0}, {-1, -1, 0}, {0, -1, 0}, {-1, 0, 0}, {-1, api.MaxTime, 0}, {api.MaxTime, -1, 0},
		{api.MaxTime, 0, 0}, {0, api.MaxTime, 0}, {api.MaxTime, 1, api.MaxTime}, {1, api.MaxTime, api.MaxTime}, {api.MaxTime, 2, api.MaxTime}, {2, api.MaxTime, api.MaxTime}, {api.MaxTime, api.MaxTime, api.MaxTime},
		{1 << 20, 1 << 20, api.MaxTime}, {1<<20 - 1, 1 << 20, api.MaxTime - 1<<20}, {1<<20 - 1, 1<<20 + 1, api.MaxTime - 1}, {1<<20 + 1, 1 << 20, api.MaxTime}, {1 << 39, 2, api.MaxTime}, {1<<39 - 1, 2, api.MaxTime - 2}, {1<<39 + 1, 2, api.MaxTime}, {2, 1 << 39, api.MaxTime},
		{3600000, 305419, 1099508400000}, {3600000, 305420, api.MaxTime}, {305419, 3600000, 1099508400000}, {60000, 18325193, 1099511580000}, {60000, 18325194, api.MaxTime}, {1000, 1099511627, 1099511627000}, {1000, 1099511628, api.MaxTime},
		{1 << 30, 1 << 30, api.MaxTime}, {1 << 32, 1 << 32, api.MaxTime}, {1 << 33, 1 << 31, api.MaxTime}, {1 << 31, 1 << 32, api.MaxTime}, {1<<32 + 1, 1 << 32, api.MaxTime}, {1 << 40, 1 << 24, api.MaxTime},
		{api.MaxTime + 1, 0, 0}, {api.MaxTime + 1, -1, 0}, {-1, api.MaxTime + 1, 0}, {api.MaxTime + 1, 1, api.MaxTime}, {1, api.MaxTime + 1, api.MaxTime}, {0, api.MaxTime + 1, 0},
		{0, 1 << 62, 0}, {1 << 62, 0, 0}, {1 << 62, 4, api.MaxTime}, {4, 1 << 62, api.MaxTime}, {math.MaxInt, 1, api.MaxTime}, {1, math.MaxInt, api.MaxTime}, {math.MaxInt, math.MaxInt, api.MaxTime}, {math.MaxInt, 2, api.MaxTime},
		{math.MinInt, 1, 0}, {1, math.MinInt, 0}, {math.MinInt, -1, 0}, {-1, math.MinInt, 0}, {math.MinInt, math.MinInt, 0}, {math.MinInt, math.MaxInt, 0}, {math.MaxInt, math.MinInt, 0}, {math.MaxInt, -1, 0}, {math.MaxInt, 0, 0}, {0, math.MinInt, 0},
	} {
		checkNumber(t, "Times", x.a, x.n, Times(x.a, x.n), x.product)
	}
}

// limit brings a great number between 0 and MaxTime.
func limit(n *big.Int) *big.Int {
	bound := big.NewInt(api.MaxTime)
	switch {
	case n.Sign() < 0:
		return new(big.Int)
	case n.Cmp(bound) > 0:
		return bound
	}
	return n
}

// TestSumsAndProducts: promise 3.2, sums and products of all edges against great numbers, which do not wrap round.
func TestSumsAndProducts(t *testing.T) {
	for _, a := range edges() {
		for _, b := range edges() {
			x, y := limit(big.NewInt(int64(a))), limit(big.NewInt(int64(b)))
			checkNumber(t, "Add", a, b, Add(a, b), int(limit(new(big.Int).Add(x, y)).Int64()))
			checkNumber(t, "Times", a, b, Times(a, b), int(limit(new(big.Int).Mul(x, y)).Int64()))
		}
	}
}

// The text forms by patterns: a group of each unit in turn, or 0 with a unit.
var (
	form = regexp.MustCompile(`^([1-9][0-9]*h)?([1-9][0-9]*m)?([1-9][0-9]*s)?([1-9][0-9]*ms)?\z`)
	zero = regexp.MustCompile(`^0(h|m|s|ms)\z`)
)

// reference tells by patterns and great numbers what Parse is to answer.
func reference(s string) (int, api.Errno) {
	if zero.MatchString(s) {
		return 0, api.OK
	}
	groups := form.FindStringSubmatch(s)
	if s == "" || groups == nil {
		return 0, api.ErrSyntax
	}
	sum := new(big.Int)
	for i, unit := range []int64{3600000, 60000, 1000, 1} {
		if number := strings.TrimRight(groups[i+1], "hms"); number != "" {
			n, _ := new(big.Int).SetString(number, 10)
			sum.Add(sum, n.Mul(n, big.NewInt(unit)))
		}
	}
	if sum.Cmp(big.NewInt(api.MaxTime)) > 0 {
		return 0, api.ErrBound
	}
	return int(sum.Int64()), api.OK
}

// joined calls a function with all strings of up to most of the pieces.
func joined(pieces []string, most int, f func(string)) {
	var grow func(s string, more int)
	grow = func(s string, more int) {
		f(s)
		if more == 0 {
			return
		}
		for _, p := range pieces {
			grow(s+p, more-1)
		}
	}
	grow("", most)
}

// checkReference holds Parse against the patterns, and each duration that it returns against its canonical form (promise 3.3).
func checkReference(t *testing.T, s string) {
	t.Helper()
	n, e := reference(s)
	checkParse(t, parsed{s, n, e})
	if e == api.OK {
		checkParse(t, parsed{Text(n), n, api.OK})
	}
}

// TestAllStrings: promises 3.1, 3.3 and P1, all strings of up to seven bytes of a few kinds, and all of up to eight numbers and units, against the patterns.
func TestAllStrings(t *testing.T) {
	joined([]string{"0", "1", "h", "m", "s", "x"}, 7, func(s string) { checkReference(t, s) })
	joined([]string{"0", "30", "h", "m", "s"}, 8, func(s string) { checkReference(t, s) })
	joined([]string{"305419", "18325193", "1099511627776", "h", "m", "ms", "1s"}, 6, func(s string) { checkReference(t, s) })
}

// TestAllBytes: promises 3.1 and P1, every byte before, in and behind a text form, and instead of each of its bytes.
func TestAllBytes(t *testing.T) {
	const whole = "2h3m4s5ms"
	for b := range 256 {
		c := string([]byte{byte(b)})
		for i := range len(whole) + 1 {
			checkReference(t, whole[:i]+c+whole[i:])
			checkReference(t, whole[:i]+c)
			checkReference(t, c+whole[i:])
			if i < len(whole) {
				checkReference(t, whole[:i]+c+whole[i+1:])
			}
		}
	}
}

// canonical is the form of what is no 0: any number of hours, and less than 60, 60 and 1000 of the other units.
var canonical = regexp.MustCompile(`^([1-9][0-9]*h)?(([1-9]|[1-5][0-9])m)?(([1-9]|[1-5][0-9])s)?([1-9][0-9]{0,2}ms)?\z`)

// checkCanonical checks that a duration's text is a canonical form, and that it comes back, from Parse and from the patterns.
func checkCanonical(t *testing.T, n int) {
	t.Helper()
	s := Text(n)
	if n == 0 && s != "0s" || n != 0 && !canonical.MatchString(s) {
		t.Errorf("Text(%d) = %q, which is no canonical form", n, s)
	}
	if back, e := reference(s); back != n || e != api.OK {
		t.Errorf("Text(%d) = %q, which is a text form of %d, %v", n, s, back, e)
	}
	checkParse(t, parsed{s, n, api.OK})
}

// TestDurationsComeBack: promises 3.1 and 3.3, the canonical forms of the durations of the first and the last minutes, around minutes and hours, and of drawn ones (from a fixed seed).
func TestDurationsComeBack(t *testing.T) {
	for n := range 130000 {
		checkCanonical(t, n)
		checkCanonical(t, api.MaxTime-n)
	}
	for count := range 120 {
		for d := -3; d <= 3; d++ {
			checkCanonical(t, max(0, count*60000+d))
			checkCanonical(t, max(0, count*3600000+d))
		}
	}
	random := rand.New(rand.NewSource(3))
	for range 50000 {
		checkCanonical(t, random.Intn(api.MaxTime+1))
		checkCanonical(t, random.Intn(1<<random.Intn(41)))
	}
}

// TestOtherNumbers: promises 3.1 and 3.3, only durations have a canonical form.
func TestOtherNumbers(t *testing.T) {
	for _, n := range edges() {
		if 0 <= n && n <= api.MaxTime {
			checkCanonical(t, n)
		} else {
			checkText(t, n, "")
		}
	}
}

// TestEndsOnLongStrings: promise P1, strings far longer than any text form are answered all the same.
func TestEndsOnLongStrings(t *testing.T) {
	for _, piece := range []string{"0", "1", "h", "m", "s", "ms", "1h", "1ms", "0h", "1m1s", "m1", " ", "x", "\xff"} {
		checkSyntax(t, strings.Repeat(piece, 1<<18))
	}
	long := strings.Repeat("7", 1<<18)
	for _, s := range []string{long + "h", long + "ms", "1h" + long + "m", long + "h" + long + "m" + long + "s" + long + "ms"} {
		checkParse(t, parsed{s, 0, api.ErrBound})
	}
	checkSyntax(t, long, long+"h"+long, "0"+long+"h", long+"h0"+long+"m")
}
