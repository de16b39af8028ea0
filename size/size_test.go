package size

import (
	"math"
	"math/big"
	"math/rand"
	"regexp"
	"strings"
	"testing"

	"longshore/api"
)

// parsed is a case of Parse: what it is given, and what it answers.
type parsed struct {
	s string
	n int
	e api.Errno
}

func checkParse(t *testing.T, want parsed) {
	t.Helper()
	if n, e := Parse(want.s); n != want.n || e != want.e {
		t.Errorf("Parse(%q) = %d, %v; want %d, %v", want.s, n, e, want.n, want.e)
	}
}

func checkSyntax(t *testing.T, all ...string) {
	t.Helper()
	for _, s := range all {
		checkParse(t, parsed{s, 0, api.ErrSyntax})
	}
}

// written is a case of Text and Unit: what they are given, and what they answer.
type written struct {
	n    int
	text string
	unit int
}

func checkWritten(t *testing.T, want written) {
	t.Helper()
	if text := Text(want.n); text != want.text {
		t.Errorf("Text(%d) = %q; want %q", want.n, text, want.text)
	}
	if unit := Unit(want.n); unit != want.unit {
		t.Errorf("Unit(%d) = %d; want %d", want.n, unit, want.unit)
	}
}

// spelling is a unit as a text form writes it, with its bytes.
type spelling struct {
	unit  string
	bytes int64
}

// spellings returns every spelling of every unit, and the empty one.
func spellings() []spelling {
	return []spelling{{"", 1}, {"b", 1}, {"k", 1024}, {"kb", 1024}, {"m", 1048576}, {"mb", 1048576}, {"g", 1073741824}, {"gb", 1073741824}}
}

// TestMost: promise 4.1, the greatest amount.
func TestMost(t *testing.T) {
	if Most != 1125899906842624 {
		t.Errorf("Most = %d", Most)
	}
}

// TestParse: promise 4.1, numbers with each spelling of each unit.
func TestParse(t *testing.T) {
	for _, x := range []parsed{
		{"5", 5, api.OK}, {"5b", 5, api.OK}, {"5k", 5120, api.OK}, {"5kb", 5120, api.OK}, {"5m", 5242880, api.OK}, {"5mb", 5242880, api.OK}, {"5g", 5368709120, api.OK}, {"5gb", 5368709120, api.OK},
		{"1", 1, api.OK}, {"1b", 1, api.OK}, {"1k", 1024, api.OK}, {"1kb", 1024, api.OK}, {"1m", 1048576, api.OK}, {"1mb", 1048576, api.OK}, {"1g", 1073741824, api.OK}, {"1gb", 1073741824, api.OK},
		{"64kb", 65536, api.OK}, {"10", 10, api.OK}, {"10b", 10, api.OK}, {"100k", 102400, api.OK}, {"907kb", 928768, api.OK}, {"512m", 536870912, api.OK}, {"200mb", 209715200, api.OK}, {"30g", 32212254720, api.OK}, {"10gb", 10737418240, api.OK},
		{"1024", 1024, api.OK}, {"1024b", 1024, api.OK}, {"1024k", 1048576, api.OK}, {"1024m", 1073741824, api.OK}, {"1023k", 1047552, api.OK}, {"1025m", 1074790400, api.OK}, {"1000000", 1000000, api.OK}, {"1234567890", 1234567890, api.OK}, {"9876543210b", 9876543210, api.OK},
	} {
		checkParse(t, x)
	}
}

// TestParseZero: promise 4.1, 0 with no unit and with each one, and what looks like it.
func TestParseZero(t *testing.T) {
	for _, x := range spellings() {
		checkParse(t, parsed{"0" + x.unit, 0, api.OK})
		checkSyntax(t, "00"+x.unit, "000"+x.unit, "-0"+x.unit, "+0"+x.unit, " 0"+x.unit, "0 "+x.unit, "0"+x.unit+" ", "0.0"+x.unit, "0x0"+x.unit, "x0"+x.unit, "0"+x.unit+"x")
		if x.unit != "" {
			checkSyntax(t, "0"+x.unit+"0", "0"+x.unit+"1", "0"+strings.ToUpper(x.unit))
		}
	}
}

// TestParseLeadingZeros: promise 4.1, a number with leading zeros is no decimal form, whatever stands by it.
func TestParseLeadingZeros(t *testing.T) {
	for _, x := range spellings() {
		checkSyntax(t, "01"+x.unit, "001"+x.unit, "010"+x.unit, "01024"+x.unit, "0000000000000000000000001"+x.unit, "09"+x.unit)
	}
}

// TestParseSpellings: promise 4.1, all strings of up to three letters in place of a unit, of which only the spellings are one.
func TestParseSpellings(t *testing.T) {
	known := map[string]int64{}
	for _, x := range spellings() {
		known[x.unit] = x.bytes
	}
	joined([]string{"b", "k", "m", "g", "t", "i", "s", "B", "K", "M", "G", " ", "\x00"}, 3, func(unit string) {
		bytes, ok := known[unit]
		if !ok {
			checkSyntax(t, "3"+unit)
			return
		}
		checkParse(t, parsed{"3" + unit, int(3 * bytes), api.OK})
	})
	checkSyntax(t, "1t", "1tb", "1p", "1e", "1e3", "1kib", "1mib", "1gib", "1ki", "1byte", "1bytes", "1kbit", "1kbps", "1bk", "1bm", "1bg", "1km", "1mk", "1gm", "1gbb", "1bb", "1kbb")
}

// TestParseTwice: promise 4.1, a unit written twice, two units, and two numbers with units.
func TestParseTwice(t *testing.T) {
	for _, x := range spellings()[1:] {
		for _, y := range spellings()[1:] {
			if x.unit+y.unit != "kb" && x.unit+y.unit != "mb" && x.unit+y.unit != "gb" {
				checkSyntax(t, "5"+x.unit+y.unit)
			}
			checkSyntax(t, "5"+x.unit+"5"+y.unit, "0"+x.unit+"0"+y.unit, "5"+x.unit+" "+y.unit)
		}
		checkSyntax(t, "5"+x.unit+"5", x.unit+"5"+x.unit)
	}
	checkSyntax(t, "5bb", "5kk", "5kbkb", "5mm", "5mbmb", "5gg", "5gbgb", "5kbk", "5bkb")
}

// TestParseCapitalsAndSpaces: promise 4.1, units in capitals, behind a space, and before one.
func TestParseCapitalsAndSpaces(t *testing.T) {
	for _, x := range spellings()[1:] {
		checkSyntax(t, "5"+strings.ToUpper(x.unit), "5 "+x.unit, "5"+x.unit+" ", " 5"+x.unit, "5\t"+x.unit, "5"+x.unit+"\n", "5\x00"+x.unit, "5"+x.unit+"\x00")
	}
	checkSyntax(t, "5kB", "5Kb", "5mB", "5Mb", "5gB", "5Gb", "5k b", "5m b", "5g b", " ", " 5", "5 ", "5\n", "\n5", "5\x00", "1 024", "1 024k")
}

// TestParseWrong: promise 4.1, the empty string, a unit without a number, and what is no number.
func TestParseWrong(t *testing.T) {
	for _, x := range spellings() {
		checkSyntax(t, x.unit, "-1"+x.unit, "+1"+x.unit, "--1"+x.unit, "1.5"+x.unit, "1.0"+x.unit, ".5"+x.unit, "1."+x.unit, "1,5"+x.unit, "1_000"+x.unit, "1e3"+x.unit, "0x1"+x.unit, "x1"+x.unit, "1x"+x.unit, "1-"+x.unit, "/1"+x.unit, "1/"+x.unit, ":1"+x.unit, "1:"+x.unit)
		checkSyntax(t, "\u0661"+x.unit, "\uff11"+x.unit, "1\u0661"+x.unit, "1\xff"+x.unit, "\xff1"+x.unit, "1"+x.unit+"\xff", "1"+x.unit+"x", "-"+x.unit)
	}
	checkSyntax(t, "", "x", "bx", "kx", "\u212a", "1\u212a", "1k\u0300", "5\uff4b", "b1", "k1", "mb1", "1b1", "1k1", "1kb1", "k1k")
}

// TestParseBound: promise 4.1, Most, one less and one more in each unit.
func TestParseBound(t *testing.T) {
	for _, x := range []parsed{
		{"1125899906842623", Most - 1, api.OK}, {"1125899906842624", Most, api.OK}, {"1125899906842625", 0, api.ErrBound},
		{"1125899906842623b", Most - 1, api.OK}, {"1125899906842624b", Most, api.OK}, {"1125899906842625b", 0, api.ErrBound},
		{"1099511627775k", Most - 1024, api.OK}, {"1099511627776k", Most, api.OK}, {"1099511627777k", 0, api.ErrBound},
		{"1099511627775kb", Most - 1024, api.OK}, {"1099511627776kb", Most, api.OK}, {"1099511627777kb", 0, api.ErrBound},
		{"1073741823m", Most - 1048576, api.OK}, {"1073741824m", Most, api.OK}, {"1073741825m", 0, api.ErrBound},
		{"1073741823mb", Most - 1048576, api.OK}, {"1073741824mb", Most, api.OK}, {"1073741825mb", 0, api.ErrBound},
		{"1048575g", Most - 1073741824, api.OK}, {"1048576g", Most, api.OK}, {"1048577g", 0, api.ErrBound},
		{"1048575gb", Most - 1073741824, api.OK}, {"1048576gb", Most, api.OK}, {"1048577gb", 0, api.ErrBound},
		{"2000000000000000", 0, api.ErrBound}, {"1099511627776m", 0, api.ErrBound}, {"1073741824g", 0, api.ErrBound}, {"1125899906842624k", 0, api.ErrBound}, {"1125899906842624g", 0, api.ErrBound},
	} {
		checkParse(t, x)
	}
}

// tooGreat returns numbers that are greater than Most in every unit, or whose bytes or they themselves are no int, among them those that come out small when they wrap round.
func tooGreat() []string {
	l := []string{"1125899906842625", "9007199254740992", "9007199254740993", "99999999999999999999999", "340282366920938463463374607431768211457", strings.Repeat("9", 1<<16), "1" + strings.Repeat("0", 1<<16)}
	for _, bits := range []uint{53, 54, 63, 64, 65, 128} {
		n := new(big.Int).Lsh(big.NewInt(1), bits)
		for range 3 {
			l = append(l, n.String())
			n.Add(n, big.NewInt(1))
		}
	}
	return l
}

// wrapping returns numbers that come out small, or negative, when they are multiplied by the unit and wrap round.
func wrapping(unit int64) []string {
	var l []string
	for _, bits := range []uint{63, 64} {
		n := new(big.Int).Lsh(big.NewInt(1), bits)
		n.Div(n, big.NewInt(unit))
		l = append(l, n.String(), n.Add(n, big.NewInt(1)).String())
	}
	return l
}

// TestParseTooGreat: promises 4.1 and P1, numbers too large for any integer, alone or in bytes.
func TestParseTooGreat(t *testing.T) {
	for _, x := range spellings() {
		for _, n := range append(tooGreat(), wrapping(x.bytes)...) {
			checkParse(t, parsed{n + x.unit, 0, api.ErrBound})
		}
	}
}

// TestParseSyntaxFirst: promises 4.1 and P1, a string that is no text form and would be too large is no text form first of all.
func TestParseSyntaxFirst(t *testing.T) {
	for _, n := range append(tooGreat(), "1048577", "1073741825", "1099511627777") {
		checkSyntax(t, n+"x", n+"t", n+" ", n+"\n", n+".", n+".5", n+"-", "-"+n, "+"+n, " "+n, "x"+n, "0"+n, n+" k", n+"bb", n+"kk", n+"bk", n+"gbb", n+"gg", n+"G", n+"GB", n+"gB")
		for _, x := range spellings()[1:] {
			checkSyntax(t, "0"+n+x.unit, "-"+n+x.unit, " "+n+x.unit, n+x.unit+" ", n+x.unit+"x", n+x.unit+"1", n+" "+x.unit, n+strings.ToUpper(x.unit), n+x.unit+n, n+"."+n+x.unit)
		}
	}
}

// TestTextAndUnit: promise 4.1, amounts that no, one and several units divide, those just below and above a multiple of a unit, and Most.
func TestTextAndUnit(t *testing.T) {
	for _, x := range []written{
		{0, "0", 1}, {1, "1", 1}, {2, "2", 1}, {9, "9", 1}, {10, "10", 1}, {512, "512", 1}, {1000, "1000", 1},
		{1023, "1023", 1}, {1024, "1k", 1024}, {1025, "1025", 1}, {1536, "1536", 1}, {2047, "2047", 1}, {2048, "2k", 1024}, {2049, "2049", 1}, {3072, "3k", 1024}, {10240, "10k", 1024}, {65536, "64k", 1024}, {102400, "100k", 1024}, {1024000, "1000k", 1024},
		{1047552, "1023k", 1024}, {1048575, "1048575", 1}, {1048576, "1m", 1048576}, {1048577, "1048577", 1}, {1049600, "1025k", 1024}, {1572864, "1536k", 1024}, {2097152, "2m", 1048576}, {3145728, "3m", 1048576}, {10485760, "10m", 1048576}, {536870912, "512m", 1048576}, {1000000, "1000000", 1},
		{1072693248, "1023m", 1048576}, {1073740800, "1048575k", 1024}, {1073741823, "1073741823", 1}, {1073741824, "1g", 1073741824}, {1073741825, "1073741825", 1}, {1073742848, "1048577k", 1024}, {1074790400, "1025m", 1048576}, {1610612736, "1536m", 1048576},
		{2147483648, "2g", 1073741824}, {10737418240, "10g", 1073741824}, {1099511627776, "1024g", 1073741824}, {1099511627775, "1099511627775", 1}, {1099512676352, "1048577m", 1048576}, {1000000000000, "976562500k", 1024},
		{Most - 1, "1125899906842623", 1}, {Most - 1024, "1099511627775k", 1024}, {Most - 1048576, "1073741823m", 1048576}, {Most - 1073741824, "1048575g", 1073741824}, {Most, "1048576g", 1073741824},
	} {
		checkWritten(t, x)
	}
}

// TestOtherNumbers: promise 4.1, no text and no unit of negative numbers and of those greater than Most.
func TestOtherNumbers(t *testing.T) {
	for _, n := range []int{-1, -2, -1023, -1024, -1025, -1048576, -1073741824, -Most, -Most - 1, math.MinInt + 1, math.MinInt, Most + 1, Most + 1024, Most + 1048576, Most + 1073741824, 2 * Most, 1 << 53, 1 << 62, math.MaxInt - 1023, math.MaxInt - 1, math.MaxInt} {
		checkWritten(t, written{n, "", 0})
	}
	for _, n := range edges() {
		if n < 0 || n > Most {
			checkWritten(t, written{n, "", 0})
		} else {
			checkAmount(t, n)
		}
	}
}

// edges returns numbers around 0, around each power of two, and the least and greatest ints.
func edges() []int {
	l := []int{0, math.MinInt, math.MinInt + 1, math.MaxInt - 1, math.MaxInt}
	for p := 1; p > 0; p *= 2 {
		l = append(l, p-1, p, p+1, -p, -p-1, p+p/2)
	}
	return l
}

// form is the text forms by a pattern.
var form = regexp.MustCompile(`^(0|[1-9][0-9]*)(b|k|kb|m|mb|g|gb)?\z`)

// reference tells by a pattern and great numbers what Parse is to answer.
func reference(s string) (int, api.Errno) {
	parts := form.FindStringSubmatch(s)
	if parts == nil {
		return 0, api.ErrSyntax
	}
	n, _ := new(big.Int).SetString(parts[1], 10)
	for _, x := range spellings() {
		if x.unit == parts[2] {
			n.Mul(n, big.NewInt(x.bytes))
			break
		}
	}
	if n.Cmp(big.NewInt(Most)) > 0 {
		return 0, api.ErrBound
	}
	return int(n.Int64()), api.OK
}

// joined calls a function with all strings of up to most of the pieces.
func joined(pieces []string, most int, f func(string)) {
	var grow func(s string, more int)
	grow = func(s string, more int) {
		f(s)
		if more == 0 {
			return
		}
		for _, p := range pieces {
			grow(s+p, more-1)
		}
	}
	grow("", most)
}

// checkReference holds Parse against the pattern, and the string against the canonical form of what it is (promise 4.2).
func checkReference(t *testing.T, s string) {
	t.Helper()
	n, e := reference(s)
	checkParse(t, parsed{s, n, e})
	if e != api.OK {
		return
	}
	text := Text(n)
	checkParse(t, parsed{text, n, api.OK})
	if len(s) < len(text) {
		t.Errorf("%q is shorter than the canonical form %q of %d", s, text, n)
	}
}

// TestAllStrings: promises 4.1, 4.2 and P1, all strings of up to seven bytes of a few kinds, and all of up to five numbers and units, against the pattern.
func TestAllStrings(t *testing.T) {
	joined([]string{"0", "1", "b", "k", "g", "x"}, 7, func(s string) { checkReference(t, s) })
	joined([]string{"0", "7", "b", "m", "g", " "}, 6, func(s string) { checkReference(t, s) })
	joined([]string{"1048576", "1024", "1125899906842624", "2", "b", "k", "m", "g"}, 5, func(s string) { checkReference(t, s) })
}

// TestAllBytes: promises 4.1 and P1, every byte before, in and behind a text form, and instead of each of its bytes.
func TestAllBytes(t *testing.T) {
	for _, whole := range []string{"205", "20b", "20k", "20kb", "3m", "3mb", "9gb", "1048576g"} {
		for b := range 256 {
			c := string([]byte{byte(b)})
			for i := range len(whole) + 1 {
				checkReference(t, whole[:i]+c+whole[i:])
				checkReference(t, whole[:i]+c)
				checkReference(t, c+whole[i:])
				if i < len(whole) {
					checkReference(t, whole[:i]+c+whole[i+1:])
				}
			}
		}
	}
}

// canonical returns the text and unit of an amount by trying the units from the largest on.
func canonical(n int) written {
	for _, x := range []spelling{{"g", 1073741824}, {"m", 1048576}, {"k", 1024}} {
		if n != 0 && int64(n)%x.bytes == 0 {
			return written{n, big.NewInt(int64(n)/x.bytes).String() + x.unit, int(x.bytes)}
		}
	}
	return written{n, big.NewInt(int64(n)).String(), 1}
}

// checkAmount checks the text and unit of an amount, that the text comes back, and that each text form of the amount is one, and is not shorter.
func checkAmount(t *testing.T, n int) {
	t.Helper()
	checkWritten(t, canonical(n))
	text := Text(n)
	checkParse(t, parsed{text, n, api.OK})
	for _, x := range spellings() {
		if int64(n)%x.bytes != 0 {
			continue
		}
		s := big.NewInt(int64(n)/x.bytes).String() + x.unit
		checkParse(t, parsed{s, n, api.OK})
		if len(s) < len(text) {
			t.Errorf("%q is shorter than the canonical form %q of %d", s, text, n)
		}
	}
}

// TestAmounts: promises 4.1 and 4.2, the first and the last amounts, those around multiples of units, and drawn ones (from a fixed seed).
func TestAmounts(t *testing.T) {
	for n := range 10000 {
		checkAmount(t, n)
		checkAmount(t, Most-n)
	}
	for _, unit := range []int{1024, 1048576, 1073741824} {
		for count := 1; count <= 1100; count++ {
			for d := -1; d <= 1; d++ {
				checkAmount(t, count*unit+d)
				checkAmount(t, count*unit+d*1024)
				checkAmount(t, Most-count*unit+d)
			}
		}
	}
	random := rand.New(rand.NewSource(4))
	for range 20000 {
		checkAmount(t, random.Intn(Most+1))
		checkAmount(t, random.Intn(1<<random.Intn(51)))
		zeros := random.Intn(51)
		checkAmount(t, random.Intn(Most>>zeros+1)<<zeros)
	}
}

// TestPowersOfTen: promise 4.2, the amounts at which a number gains a digit, in each unit.
func TestPowersOfTen(t *testing.T) {
	for _, unit := range []int{1, 1024, 1048576, 1073741824} {
		for p := 1; p <= Most/unit; p *= 10 {
			checkAmount(t, p*unit)
			checkAmount(t, (p-1)*unit)
			checkAmount(t, min(Most, (p+1)*unit))
		}
	}
}

// TestEndsOnLongStrings: promise P1, strings far longer than any text form are answered all the same.
func TestEndsOnLongStrings(t *testing.T) {
	for _, piece := range []string{"0", "b", "k", "kb", "1k", "0g", "1kb", "m1", " ", "x", "\xff"} {
		checkSyntax(t, strings.Repeat(piece, 1<<18))
		checkSyntax(t, "1k"+strings.Repeat(piece, 1<<18))
	}
	long := strings.Repeat("7", 1<<18)
	for _, x := range spellings() {
		checkParse(t, parsed{long + x.unit, 0, api.ErrBound})
		checkSyntax(t, "0"+long+x.unit, long+x.unit+"x", long+" "+x.unit)
	}
}
