package quote

import (
	"math"
	"math/rand"
	"regexp"
	"strconv"
	"strings"
	"testing"

	"longshore/api"
)

// marks are the bytes that no plain string begins with, and flow those that no plain string in a flow collection contains, as the chapter lists them.
const (
	marks = "?:,[]{}#&*!|>'\"%@`"
	flow  = ",[]{}"
)

// allBytes returns a string of each byte.
func allBytes() []string {
	var l []string
	for b := range 256 {
		l = append(l, string([]byte{byte(b)}))
	}
	return l
}

func checkPlain(t *testing.T, s string, plain, row bool) {
	t.Helper()
	if got := Plain(s); got != plain {
		t.Errorf("Plain(%q) = %t", s, got)
	}
	if got := Row(s); got != row {
		t.Errorf("Row(%q) = %t", s, got)
	}
}

// checkPlainAll checks strings that are all plain in a flow collection too, or all neither.
func checkPlainAll(t *testing.T, want bool, all ...string) {
	t.Helper()
	for _, s := range all {
		checkPlain(t, s, want, want)
	}
}

// TestPlainWords: promise 6.1, the empty string, "~" and "null", and strings that only begin or end with them.
func TestPlainWords(t *testing.T) {
	checkPlainAll(t, false, "", "~", "null", " null", "null ", " ~", "~ ", "null\n", "~\n", "\nnull")
	checkPlainAll(t, true, "~~", "~a", "a~", "~null", "null~", "a~b", "~ a", "nulls", "anull", "nullnull", "null null", "null a", "a null", "null:a", "nul", "ull", "Null", "NULL", "nulL", "~/x", "web", "a b", "a  b", "1", "true", "\u00e9", "caf\u00e9 x")
}

// TestPlainMarks: promise 6.1, each listed byte at the beginning, alone and before others, and elsewhere.
func TestPlainMarks(t *testing.T) {
	for _, c := range allBytes() {
		if !strings.Contains(marks, c) {
			continue
		}
		for _, rest := range []string{"", "a", " a", "ab", c, "\xff", "-", "~"} {
			checkPlain(t, c+rest, false, false)
		}
		row := !strings.Contains(flow, c)
		for _, s := range []string{"a" + c + "b", "a" + c + c + "b", "ab" + c + "c", "-" + c + "a", "~" + c + "~", "\xff" + c + "\xff"} {
			checkPlain(t, s, true, row)
		}
		checkPlain(t, "a"+c, c != ":", row && c != ":")
		checkPlain(t, "a"+c+" b", c != ":", row && c != ":")
		checkPlain(t, "a "+c+"b", c != "#", row && c != "#")
		checkPlain(t, "a "+c+" b", c != "#" && c != ":", row && c != "#" && c != ":")
	}
}

// TestPlainFlow: promise 6.1, each byte with a meaning in a flow collection at every place.
func TestPlainFlow(t *testing.T) {
	for _, whole := range []string{"a", "ab", "a b", "web-1", "a:b", "null", "x\xffyz0"} {
		for _, c := range allBytes() {
			if !strings.Contains(flow, c) {
				continue
			}
			for i := range len(whole) + 1 {
				checkPlain(t, whole[:i]+c+whole[i:], i > 0, false)
			}
		}
	}
	checkPlain(t, "a,b", true, false)
	checkPlain(t, "a, b", true, false)
	checkPlain(t, "a[0]{1}", true, false)
	checkPlain(t, "(a)<b>", true, true)
}

// TestPlainDash: promise 6.1, a "-" alone, before a space, before another byte, and elsewhere.
func TestPlainDash(t *testing.T) {
	checkPlainAll(t, false, "-", "- ", "- a", "-  a", "- -", "- -a", "-\n", "-\ta", "-\x00", " -", " - a", " -a")
	checkPlainAll(t, true, "-a", "--", "---", "-1", "-~", "-null", "-\xff", "--a", "-- a", "-a b", "-:a", "-#", "a-", "a- b", "a -", "a - b", "a--", "a-b", "-a -")
}

// TestPlainColon: promise 6.1, a ":" at the end, before a space, before another byte, and at the beginning.
func TestPlainColon(t *testing.T) {
	checkPlainAll(t, false, ":", "::", ": ", ": a", ":a", "a:", "a: ", "a: b", "a:  b", "a::", "a:: b", "a:b:", "a:b: c", "a: b:c", "ab:", "a :", "a : b", "a b: c", "-:", "-: a", "~:", "null: a", "a:\n", "a:\nb")
	checkPlainAll(t, true, "a:b", "a::b", "a:b:c", "a :b", "a:-", "a:#", "a:~", "8080:80", "http://a/b", "a:\xff", "-a:b", "~:b")
}

// TestPlainHash: promise 6.1, a "#" behind a space, at the beginning, and behind another byte.
func TestPlainHash(t *testing.T) {
	checkPlainAll(t, false, "#", "##", "# a", "#a", " #", " # a", "a #", "a # b", "a #b", "a  #b", "a ##", "a b #c", "a# #b", "- #", "-a #", "a #b c", "a\t#", "\n#")
	checkPlainAll(t, true, "a#", "a##", "a#b", "a# b", "a## b", "-#", "~#", "a:#", "\xff#", "a -#")
}

// TestPlainSpaces: promise 6.1, spaces at either end and between other bytes.
func TestPlainSpaces(t *testing.T) {
	checkPlainAll(t, false, " ", "  ", "   ", " a", "a ", " a ", "  a", "a  ", " \xff", "\xff ", " a b", "a b ", " -a", "-a ")
	checkPlainAll(t, true, "a b", "a  b", "a   b", "a b c", "a  b  c", "\xff \xff", "~ ~")
}

// TestPlainBytes: promise 6.1, every byte alone, and at the beginning, between others and at the end.
func TestPlainBytes(t *testing.T) {
	for b, c := range allBytes() {
		printable := b >= 32 && b <= 126 || b > 127
		starts := printable && c != " " && !strings.Contains(marks, c)
		row := !strings.Contains(flow, c)
		checkPlainAll(t, starts && c != "-" && c != "~", c)
		checkPlainAll(t, starts, c+"a", c+"ab")
		checkPlain(t, "a"+c+"b", printable, printable && row)
		checkPlain(t, "a"+c, printable && c != " " && c != ":", printable && row && c != " " && c != ":")
		checkPlain(t, "ab"+c+c+"c", printable, printable && row)
	}
}

// latin returns a string with a rune for each byte of s, since patterns do not see single bytes.
func latin(s string) string {
	l := make([]rune, len(s))
	for i := range len(s) {
		l[i] = rune(s[i])
	}
	return string(l)
}

// unlatin returns the string of whose bytes latin made s.
func unlatin(s string) string {
	var l []byte
	for _, r := range s {
		l = append(l, byte(r))
	}
	return string(l)
}

// notPlain is what keeps a string from being written plain, each reason a pattern.
var notPlain = regexp.MustCompile(`^\z|^~\z|^null\z|[\x00-\x1f\x7f]|^ | \z|^[?:,\[\]{}#&*!|>'"%@` + "`" + `]|^-\z|^- |:\z|: | #`)

func plainByPattern(s string) bool { return !notPlain.MatchString(latin(s)) }

func rowByPattern(s string) bool { return plainByPattern(s) && !strings.ContainsAny(s, flow) }

// joined calls a function with all strings of up to most of the pieces.
func joined(pieces []string, most int, f func(string)) {
	var grow func(s string, more int)
	grow = func(s string, more int) {
		f(s)
		if more == 0 {
			return
		}
		for _, p := range pieces {
			grow(s+p, more-1)
		}
	}
	grow("", most)
}

// TestPlainAllStrings: promise 6.1, all strings of up to five bytes of a few kinds, and all of two bytes, against the pattern.
func TestPlainAllStrings(t *testing.T) {
	check := func(s string) { checkPlain(t, s, plainByPattern(s), rowByPattern(s)) }
	joined([]string{"a", "-", ":", "#", " ", "~", ",", "[", "'", "\n", "\xff"}, 5, check)
	joined([]string{"null", "~", " ", ":", "]", "-"}, 4, check)
	joined(allBytes(), 2, check)
}

func checkDouble(t *testing.T, s, want string) {
	t.Helper()
	if got := Double(s); got != want {
		t.Errorf("Double(%q) = %s; want %s", s, got, want)
	}
}

// TestDouble: promise 6.1, the empty string, each escape, and several bytes together.
func TestDouble(t *testing.T) {
	for _, x := range [][2]string{
		{``, `""`}, {`a`, `"a"`}, {`a"b`, `"a\"b"`}, {`"`, `"\""`}, {`""`, `"\"\""`}, {`\`, `"\\"`}, {`\\`, `"\\\\"`}, {`\"`, `"\\\""`}, {`\n`, `"\\n"`}, {`\x41`, `"\\x41"`}, {`'`, `"'"`}, {`''`, `"''"`},
		{"\n", `"\n"`}, {"\t", `"\t"`}, {"\r", `"\x0d"`}, {"\x00", `"\x00"`}, {"\x01", `"\x01"`}, {"\x08", `"\x08"`}, {"\x0b", `"\x0b"`}, {"\x1a", `"\x1a"`}, {"\x1f", `"\x1f"`}, {"\x7f", `"\x7f"`}, {" ", `" "`}, {"~", `"~"`},
		{"\x80", "\"\x80\""}, {"\xff", "\"\xff\""}, {"caf\u00e9", "\"caf\u00e9\""}, {"\n\t\x01\x7f\xff", "\"\\n\\t\\x01\\x7f\xff\""}, {"a: b", `"a: b"`}, {"a\nb\n", `"a\nb\n"`}, {"\x00A", `"\x00A"`}, {" a ", `" a "`}, {"${A} # [x]", `"${A} # [x]"`},
	} {
		checkDouble(t, x[0], x[1])
	}
}

// doubled returns a byte as it is to stand in double quotes.
func doubled(b int) string {
	switch {
	case b == 10:
		return `\n`
	case b == 9:
		return `\t`
	case b == 34:
		return `\"`
	case b == 92:
		return `\\`
	case b < 16:
		return `\x0` + strconv.FormatInt(int64(b), 16)
	case b < 32 || b == 127:
		return `\x` + strconv.FormatInt(int64(b), 16)
	}
	return string([]byte{byte(b)})
}

// TestDoubleBytes: promise 6.1, every byte alone, between others, twice, and all of them together.
func TestDoubleBytes(t *testing.T) {
	all, form := "", ""
	for b, c := range allBytes() {
		checkDouble(t, c, `"`+doubled(b)+`"`)
		checkDouble(t, "a"+c+"b", `"a`+doubled(b)+`b"`)
		checkDouble(t, c+c, `"`+doubled(b)+doubled(b)+`"`)
		all, form = all+c, form+doubled(b)
	}
	checkDouble(t, all, `"`+form+`"`)
}

func checkSingle(t *testing.T, s, want string, ok bool) {
	t.Helper()
	if got, is := Single(s); got != want || is != ok {
		t.Errorf("Single(%q) = %s, %t; want %s, %t", s, got, is, want, ok)
	}
}

// TestSingle: promise 6.1, the empty string, and single quotes at the beginning, between others, at the end and doubled.
func TestSingle(t *testing.T) {
	for _, x := range [][2]string{
		{`it's`, `'it''s'`}, {``, `''`}, {`a`, `'a'`}, {`'`, `''''`}, {`''`, `''''''`}, {`'''`, `''''''''`}, {`'a`, `'''a'`}, {`a'`, `'a'''`}, {`'a'`, `'''a'''`}, {`a''b`, `'a''''b'`}, {`a'b'c`, `'a''b''c'`},
		{`"`, `'"'`}, {`\`, `'\'`}, {`\'`, `'\'''`}, {`\n`, `'\n'`}, {` `, `' '`}, {` a `, `' a '`}, {`~`, `'~'`}, {`null`, `'null'`}, {`a: #b`, `'a: #b'`}, {"caf\u00e9", "'caf\u00e9'"}, {"\xff\x80", "'\xff\x80'"},
	} {
		checkSingle(t, x[0], x[1], true)
	}
	for _, s := range []string{"\n", "a\n", "\na", "a\nb", "a\t", "\x00", "'\n'", "''\x7f", "\xff\x1f", " \r"} {
		checkSingle(t, s, "", false)
	}
}

// TestSingleBytes: promise 6.1, every byte alone, at the beginning, between others and at the end.
func TestSingleBytes(t *testing.T) {
	for b, c := range allBytes() {
		form := strings.ReplaceAll(c, "'", "''")
		for _, around := range [][2]string{{"", ""}, {"", "ab"}, {"a", "b"}, {"ab", ""}, {c, ""}} {
			want, ok := "", b >= 32 && b != 127
			if ok {
				want = "'" + strings.ReplaceAll(around[0], "'", "''") + form + around[1] + "'"
			}
			checkSingle(t, around[0]+c+around[1], want, ok)
		}
	}
}

func checkWrite(t *testing.T, s string, row bool, want string) {
	t.Helper()
	if got := Write(s, row); got != want {
		t.Errorf("Write(%q, %t) = %s; want %s", s, row, got, want)
	}
}

// TestWrite: promise 6.1, strings that may be written plain everywhere, outside flow collections only, and nowhere.
func TestWrite(t *testing.T) {
	for _, x := range []struct{ s, outside, inside string }{
		{"web", "web", "web"}, {"a b", "a b", "a b"}, {"it's", "it's", "it's"}, {`a"b`, `a"b`, `a"b`}, {`a\b`, `a\b`, `a\b`}, {"a:b", "a:b", "a:b"}, {"nulls", "nulls", "nulls"}, {"caf\u00e9", "caf\u00e9", "caf\u00e9"}, {"---", "---", "---"}, {"<<", "<<", "<<"},
		{"a,b", "a,b", `"a,b"`}, {"a]", "a]", `"a]"`}, {"a[0]", "a[0]", `"a[0]"`}, {"a{b}", "a{b}", `"a{b}"`}, {`a\,`, `a\,`, `"a\\,"`}, {`a",`, `a",`, `"a\","`}, {"a, b", "a, b", `"a, b"`},
		{"", `""`, `""`}, {"~", `"~"`, `"~"`}, {"null", `"null"`, `"null"`}, {"a: b", `"a: b"`, `"a: b"`}, {" a", `" a"`, `" a"`}, {"a ", `"a "`, `"a "`}, {"-", `"-"`, `"-"`}, {"#a", `"#a"`, `"#a"`}, {"'a'", `"'a'"`, `"'a'"`}, {`"a"`, `"\"a\""`, `"\"a\""`}, {"a\nb", `"a\nb"`, `"a\nb"`}, {"\x7f", `"\x7f"`, `"\x7f"`}, {"[a]", `"[a]"`, `"[a]"`},
	} {
		checkWrite(t, x.s, false, x.outside)
		checkWrite(t, x.s, true, x.inside)
	}
	joined([]string{"a", ":", " ", ",", "\"", "\\", "\n", "-", "#", "}"}, 4, func(s string) {
		for row, may := range map[bool]bool{false: plainByPattern(s), true: rowByPattern(s)} {
			want := s
			if !may {
				want = Double(s)
			}
			checkWrite(t, s, row, want)
		}
	})
}

// scanned is a case of Scan: what it is given, and what it answers.
type scanned struct {
	s     string
	at    int
	value string
	next  int
	e     api.Errno
}

func checkScan(t *testing.T, want scanned) {
	t.Helper()
	if value, next, e := Scan(want.s, want.at); value != want.value || next != want.next || e != want.e {
		t.Errorf("Scan(%q, %d) = %q, %d, %v; want %q, %d, %v", want.s, want.at, value, next, e, want.value, want.next, want.e)
	}
}

// checkSyntax checks that no quoted string begins at the beginning of each string, though a quote stands there, wherever this beginning is.
func checkSyntax(t *testing.T, all ...string) {
	t.Helper()
	for _, s := range all {
		checkScan(t, scanned{s, 0, "", 0, api.ErrSyntax})
		checkScan(t, scanned{"a'" + s, 2, "", 0, api.ErrSyntax})
		checkScan(t, scanned{`x: "` + s, 4, "", 0, api.ErrSyntax})
	}
}

// checkForm checks that a quoted form is scanned as the string, whatever precedes and follows it.
func checkForm(t *testing.T, form, value string) {
	t.Helper()
	for _, before := range []string{"", "a", " ", "'", `"`, `\`, "x: ", "\n", "\xff", `"a" 'b' [`} {
		for _, after := range []string{"", "a", " ", `"`, `\`, ": x", "\n", "\x00", "\xff", `""`, `"a"`, `a'`, ` '`, `\'`, "'"} {
			if strings.HasPrefix(after, "'") && strings.HasPrefix(form, "'") {
				continue
			}
			checkScan(t, scanned{before + form + after, len(before), value, len(before) + len(form), api.OK})
		}
	}
}

// TestScanIndex: promises 6.2 and P1, indices outside the string, and those within it at which no quote is.
func TestScanIndex(t *testing.T) {
	for _, s := range []string{"", "a", `"`, "'", "''", `""`, "'a'", `"a"`, "ab", `x"y"`, strings.Repeat("'", 300)} {
		for _, at := range []int{-1, -2, -len(s), -len(s) - 1, len(s), len(s) + 1, len(s) + 2, len(s) + 255, len(s) + 256, math.MinInt, math.MinInt + 1, math.MaxInt, math.MaxInt - 1} {
			if at != 0 || s == "" {
				checkScan(t, scanned{s, at, "", 0, api.ErrArg})
			}
		}
	}
	for _, c := range allBytes() {
		if c != `"` && c != "'" {
			for i, s := range []string{c, "'" + c + "'", `'"` + c + `"'`, "''' " + c} {
				checkScan(t, scanned{s, []int{0, 1, 2, 4}[i], "", 0, api.ErrArg})
			}
		}
	}
}

// TestScanDouble: promise 6.2, double-quoted strings with and without escapes.
func TestScanDouble(t *testing.T) {
	for _, x := range [][2]string{
		{`""`, ""}, {`"a"`, "a"}, {`" "`, " "}, {`"a b"`, "a b"}, {`" a "`, " a "}, {`"'"`, "'"}, {`"''"`, "''"}, {`"it's"`, "it's"}, {`"a: b # c"`, "a: b # c"}, {`"[,]"`, "[,]"}, {"\"\xff\x80\"", "\xff\x80"}, {"\"caf\u00e9\"", "caf\u00e9"},
		{`"\\"`, `\`}, {`"\""`, `"`}, {`"\n"`, "\n"}, {`"\t"`, "\t"}, {`"\\\\"`, `\\`}, {`"\\\""`, `\"`}, {`"\"\\"`, `"\`}, {`"\"\""`, `""`}, {`"\n\t\n"`, "\n\t\n"}, {`"a\"b"`, `a"b`}, {`"\\n"`, `\n`}, {`"\\x41"`, `\x41`}, {`"a\nb"`, "a\nb"}, {`"x\\"`, `x\`}, {`"nt"`, "nt"},
		{`"\x41"`, "A"}, {`"a\x41\x4f"`, "aAO"}, {`"\x4F\x4f"`, "OO"}, {`"\x00"`, "\x00"}, {`"\x0a\x09"`, "\n\t"}, {`"\xff\xFF\xfF\xFf"`, "\xff\xff\xff\xff"}, {`"\x22"`, `"`}, {`"\x5c"`, `\`}, {`"\x5cn"`, `\n`}, {`"\x5C\x22"`, `\"`}, {`"\x414"`, "A4"}, {`"\x41f"`, "Af"}, {`"\x7f\x80"`, "\x7f\x80"}, {`"x41"`, "x41"}, {`"\xaB\xcD\xEf\x09\x90"`, "\xab\xcd\xef\x09\x90"},
	} {
		checkForm(t, x[0], x[1])
	}
}

// TestScanSingle: promise 6.2, single-quoted strings, with doubled single quotes at each place.
func TestScanSingle(t *testing.T) {
	for _, x := range [][2]string{
		{`''`, ""}, {`'a'`, "a"}, {`' '`, " "}, {`' a '`, " a "}, {`'it''s'`, "it's"}, {`''''`, "'"}, {`''''''`, "''"}, {`'a'''`, "a'"}, {`'a'''''`, "a''"}, {`'''a'`, "'a"}, {`'''''a'`, "''a"}, {`'''a'''`, "'a'"}, {`'a''''b'`, "a''b"}, {`'a''b''c'`, "a'b'c"},
		{`'"'`, `"`}, {`'\'`, `\`}, {`'\n'`, `\n`}, {`'a\n'`, `a\n`}, {`'\'''`, `\'`}, {`'\\'`, `\\`}, {`'\x41'`, `\x41`}, {`'a: b # c'`, "a: b # c"}, {"'\xff\x80'", "\xff\x80"}, {"'caf\u00e9'", "caf\u00e9"},
	} {
		checkForm(t, x[0], x[1])
	}
	for _, x := range []scanned{
		{`'it''s' x`, 0, "it's", 7, api.OK}, {`x'a'`, 1, "a", 4, api.OK}, {`''a'`, 0, "", 2, api.OK}, {`'a' 'b'`, 0, "a", 3, api.OK}, {`'a' 'b'`, 4, "b", 7, api.OK}, {`'a' 'b'`, 2, " ", 5, api.OK}, {`'''`, 1, "", 3, api.OK}, {`''''`, 2, "", 4, api.OK},
	} {
		checkScan(t, x)
	}
	checkSyntax(t, `'''`, `'a''`, `'''''`, `'a''''`, `'a'' `, `'a''b`, `'a''"`, `'''a`)
}

// TestScanEnds: promise 6.2, strings that end behind the opening quote, behind a backslash, behind \x and behind one digit of it, and before the closing quote.
func TestScanEnds(t *testing.T) {
	checkSyntax(t, `"`, `'`, `"a`, `'a`, `"a'`, `'a"`, `" `, `' `, `"a b`, `'a b`)
	checkSyntax(t, `"\`, `"a\`, `"\\\`, `"\x`, `"a\x`, `"\x4`, `"a\x4`, `"\xf`, `"\x41`, `"\x41\x4`, `"\"`, `"\n`, `"\\`, `"\t`, `"a\"`, `"\\\"`, `"\"\"`)
	checkSyntax(t, `"\x"`, `"a\x"`, `"\x4"`, `"\xF"`, `"\x""`, `"\x4""`, `"\x"41"`, `"\x4"1"`, `"\x4\x41"`, `"\x\x41"`, `"\x4 "`, `"\x 4"`, `"\x+4"`, `"\x-4"`, `"\x4'"`, `"\x0x"`)
}

// TestScanDigits: promise 6.2, every pair of digits in every case, and every byte in place of each digit.
func TestScanDigits(t *testing.T) {
	for b := range 256 {
		lower := `\x` + string("0123456789abcdef"[b/16]) + string("0123456789abcdef"[b%16])
		value := string([]byte{byte(b)})
		checkForm(t, `"`+lower+`"`, value)
		for _, form := range []string{`\x` + strings.ToUpper(lower[2:]), lower[:3] + strings.ToUpper(lower[3:]), `\x` + strings.ToUpper(lower[2:3]) + lower[3:]} {
			checkScan(t, scanned{`"a` + form + `b"`, 0, "a" + value + "b", 8, api.OK})
		}
	}
	for b, c := range allBytes() {
		digit, e := strconv.ParseUint(c, 16, 8)
		if e != nil {
			checkSyntax(t, `"\x`+c+`4"`, `"\x4`+c+`"`, `"\x`+c+c+`"`, `"a\x`+c+`4b"`, `"a\x4`+c+`b"`, `"\x`+c+`f"`, `"\xF`+c+`"`)
			continue
		}
		checkForm(t, `"\x`+c+`4"`, string([]byte{byte(digit*16 + 4)}))
		checkForm(t, `"\x4`+c+`"`, string([]byte{byte(4*16 + digit)}))
		if !strings.Contains("0123456789abcdefABCDEF", string(rune(b))) {
			t.Errorf("%q is no digit of the chapter", c)
		}
	}
	checkSyntax(t, `"\x/0"`, `"\x:0"`, `"\x@0"`, `"\xG0"`, "\"\\x`0\"", `"\xg0"`, `"\x0/"`, `"\x0:"`, `"\x0@"`, `"\x0G"`, "\"\\x0`\"", `"\x0g"`)
}

// TestScanEscapes: promise 6.2, every byte as an escape, alone and between others.
func TestScanEscapes(t *testing.T) {
	values := map[string]string{`\`: `\`, `"`: `"`, "n": "\n", "t": "\t"}
	for _, c := range allBytes() {
		value, known := values[c]
		if known {
			checkForm(t, `"\`+c+`"`, value)
			checkForm(t, `"a\`+c+`b"`, "a"+value+"b")
			continue
		}
		checkSyntax(t, `"\`+c+`"`, `"a\`+c+`b"`, `"\\\`+c+`"`, `"\`+c+c+`"`, `"\`+c)
		if c != "x" {
			checkSyntax(t, `"\`+c+`41"`, `"\`+c+`n"`)
		}
	}
}

// TestScanBytes: promise 6.2, every byte between the quotes of either kind, at the beginning, between others and at the end.
func TestScanBytes(t *testing.T) {
	for b, c := range allBytes() {
		for _, around := range [][2]string{{"", ""}, {"", "ab"}, {"a", "b"}, {"ab", ""}} {
			for _, quote := range []string{`"`, "'"} {
				form := quote + around[0] + c + around[1] + quote
				switch {
				case c == quote, c == `\` && quote == `"`:
					// Tested by themselves: quotes that end a string, and escapes.
				case b < 32, b == 127:
					checkSyntax(t, form, form+quote, form[:len(form)-1])
				default:
					checkForm(t, form, around[0]+c+around[1])
				}
			}
		}
	}
	for _, x := range []scanned{{`"""`, 0, "", 2, api.OK}, {`"a"b"`, 0, "a", 3, api.OK}, {`"a"b"`, 2, "b", 5, api.OK}, {`'a'b'`, 0, "a", 3, api.OK}, {"\"a\"\n", 0, "a", 3, api.OK}, {"'a'\n", 0, "a", 3, api.OK}} {
		checkScan(t, x)
	}
}

// The quoted strings at the beginning of a string, each byte of which is a rune. A single quote that ends one is not followed by another.
var (
	doubleForm = regexp.MustCompile(`^"((?:[ !#-\[\]-~\x{80}-\x{ff}]|\\[\\"nt]|\\x[0-9a-fA-F]{2})*)"`)
	singleForm = regexp.MustCompile(`^'((?:[ -&(-~\x{80}-\x{ff}]|'')*)'(?:[^']|\z)`)
	escapes    = regexp.MustCompile(`\\(?:x..|.)`)
)

// scanByPattern tells by patterns what Scan is to answer.
func scanByPattern(s string, at int) scanned {
	if at < 0 || at >= len(s) || s[at] != '"' && s[at] != '\'' {
		return scanned{s, at, "", 0, api.ErrArg}
	}
	rest := latin(s[at:])
	if parts := doubleForm.FindStringSubmatch(rest); parts != nil {
		value := escapes.ReplaceAllStringFunc(parts[1], func(escape string) string {
			if escape[1] == 'x' {
				b, _ := strconv.ParseUint(escape[2:], 16, 8)
				return string(rune(b))
			}
			return map[string]string{`\\`: `\`, `\"`: `"`, `\n`: "\n", `\t`: "\t"}[escape]
		})
		return scanned{s, at, unlatin(value), at + len(unlatin(parts[1])) + 2, api.OK}
	}
	if parts := singleForm.FindStringSubmatch(rest); parts != nil {
		return scanned{s, at, unlatin(strings.ReplaceAll(parts[1], "''", "'")), at + len(unlatin(parts[1])) + 2, api.OK}
	}
	return scanned{s, at, "", 0, api.ErrSyntax}
}

// TestScanAllStrings: promises 6.2 and P1, all strings of a few kinds of bytes behind each quote, and at every index of shorter ones, against the patterns.
func TestScanAllStrings(t *testing.T) {
	joined([]string{"a", `"`, "'", `\`, "n", "x", "4", "F", "g", "\n", "\xff"}, 5, func(s string) {
		checkScan(t, scanByPattern(`"`+s, 0))
	})
	joined([]string{"a", `"`, "'", `\`, " ", "\x7f", "\x80"}, 6, func(s string) {
		checkScan(t, scanByPattern("'"+s, 0))
	})
	joined([]string{`\`, `"`, "x", "4", "\\x4e", "'"}, 5, func(s string) {
		for at := -1; at <= len(s)+1; at++ {
			checkScan(t, scanByPattern(s, at))
		}
	})
	joined(allBytes(), 2, func(s string) {
		checkScan(t, scanByPattern(`"`+s+`"`, 0))
		checkScan(t, scanByPattern("'"+s+"'", 0))
		checkScan(t, scanByPattern(`"\`+s+`"`, 0))
		checkScan(t, scanByPattern(`"\x`+s+`"`, 0))
		checkScan(t, scanByPattern(s, 1))
	})
}

// checkRoundTrip checks that every quoted form of a string comes back (promise 6.3).
func checkRoundTrip(t *testing.T, s string) {
	t.Helper()
	checkForm(t, Double(s), s)
	if form, ok := Single(s); ok {
		checkForm(t, form, s)
	}
	for _, row := range []bool{false, true} {
		if form := Write(s, row); form != s {
			checkForm(t, form, s)
		}
	}
}

// TestRoundTrip: promise 6.3, strings of every byte and of several lengths, whatever precedes and follows their quoted forms.
func TestRoundTrip(t *testing.T) {
	checkRoundTrip(t, "")
	checkRoundTrip(t, strings.Join(allBytes(), ""))
	checkRoundTrip(t, strings.Join(allBytes()[128:], ""))
	checkRoundTrip(t, strings.Join(allBytes()[32:127], ""))
	for _, c := range allBytes() {
		for _, s := range []string{c, "a" + c, c + "a", "a" + c + "b", c + c, c + "'", "'" + c, `"` + c, c + `"`, c + `\`, `\` + c, `\x` + c + "4", strings.Repeat(c, 7), strings.Repeat(c, 64)} {
			checkRoundTrip(t, s)
		}
	}
	joined([]string{"a", `"`, "'", `\`, "x41", "n", "\n", " "}, 3, func(s string) { checkRoundTrip(t, s) })
	const special = " !'\"\\xnt09afAF~,[]{}#:-"
	random := rand.New(rand.NewSource(6))
	for _, length := range []int{3, 8, 20, 100, 1000} {
		for range 20 {
			s := make([]byte, length)
			random.Read(s)
			checkRoundTrip(t, string(s))
			for i := range s {
				s[i] = special[random.Intn(len(special))]
			}
			checkRoundTrip(t, string(s))
		}
	}
}

// TestEndsOnLongStrings: promise P1, long strings are answered all the same.
func TestEndsOnLongStrings(t *testing.T) {
	const length = 1 << 18
	for _, c := range []string{"a", " ", "'", `"`, `\`, "-", ":", "#", ",", "\n", "\x00", "\xff", `\x`, `\x41`, "''", "a: ", "null"} {
		s := strings.Repeat(c, length)
		checkPlain(t, s, plainByPattern(s), rowByPattern(s))
		checkScan(t, scanned{Double(s), 0, s, len(Double(s)), api.OK})
		checkScan(t, scanned{Double(s)[:len(Double(s))-1], 0, "", 0, api.ErrSyntax})
		if form, ok := Single(s); ok {
			checkScan(t, scanned{form, 0, s, len(form), api.OK})
			checkScan(t, scanned{form[:len(form)-1], 0, "", 0, api.ErrSyntax})
		}
	}
}
