package flow

import (
	"math/rand"
	"regexp"
	"slices"
	"strconv"
	"strings"
	"testing"

	"longshore/api"
)

// The limits as chapter 8 writes them, and the bytes that end a plain string.
const (
	mostNest  = 12
	mostNodes = 2000
	ends      = ",[]{}"
)

// null is the node Null; text, seq and dict write the others without the functions of the project; dict takes a key and its value in turns.
var null = api.Node{}

func text(s string) api.Node { return api.Node{Kind: 1, Text: s} }

func seq(l ...api.Node) api.Node { return api.Node{Kind: 2, Kids: l} }

func dict(l ...any) api.Node {
	n := api.Node{Kind: 3}
	for i := 0; i < len(l); i += 2 {
		n.Keys, n.Kids = append(n.Keys, l[i].(string)), append(n.Kids, l[i+1].(api.Node))
	}
	return n
}

// texts returns a sequence of texts.
func texts(l ...string) api.Node {
	n := seq()
	for _, s := range l {
		n.Kids = append(n.Kids, text(s))
	}
	return n
}

// show writes a node so that two nodes are written alike exactly if they are equal.
func show(n api.Node) string {
	var b strings.Builder
	var write func(n api.Node)
	write = func(n api.Node) {
		b.WriteString(strconv.Itoa(n.Kind))
		if n.Text != "" {
			b.WriteString(strconv.Quote(n.Text))
		}
		for _, key := range n.Keys {
			b.WriteString(":" + strconv.Quote(key))
		}
		b.WriteString("<")
		for _, kid := range n.Kids {
			write(kid)
		}
		b.WriteString(">")
	}
	write(n)
	return b.String()
}

// brief cuts a string for a message.
func brief(s string) string {
	if len(s) > 200 {
		return s[:200] + "... (" + strconv.Itoa(len(s)) + " bytes)"
	}
	return s
}

// size counts the nodes in a node, and how deep they are nested.
func size(n api.Node) (count, depth int) {
	count, depth = 1, 1
	for _, kid := range n.Kids {
		c, d := size(kid)
		count, depth = count+c, max(depth, d+1)
	}
	return count, depth
}

// joined calls a function with all strings of up to most of the pieces.
func joined(pieces []string, most int, f func(string)) {
	var grow func(s string, more int)
	grow = func(s string, more int) {
		f(s)
		if more == 0 {
			return
		}
		for _, p := range pieces {
			grow(s+p, more-1)
		}
	}
	grow("", most)
}

// allBytes returns a string of each byte.
func allBytes() []string {
	var l []string
	for b := range 256 {
		l = append(l, string([]byte{byte(b)}))
	}
	return l
}

func checkScalar(t *testing.T, s string, row bool, want api.Node, e api.Errno) {
	t.Helper()
	if got, gotE := Scalar(s, row); show(got) != show(want) || gotE != e {
		t.Errorf("Scalar(%q, %t) = %s, %v; want %s, %v", s, row, show(got), gotE, show(want), e)
	}
}

// checkBoth checks scalars that are the same node in a flow collection and outside of one.
func checkBoth(t *testing.T, want api.Node, all ...string) {
	t.Helper()
	for _, s := range all {
		checkScalar(t, s, false, want, api.OK)
		checkScalar(t, s, true, want, api.OK)
	}
}

// checkNeither checks strings that are scalars nowhere.
func checkNeither(t *testing.T, all ...string) {
	t.Helper()
	for _, s := range all {
		checkScalar(t, s, false, null, api.ErrSyntax)
		checkScalar(t, s, true, null, api.ErrSyntax)
	}
}

// TestScalarNull: promise 9.1, the empty string, "~" and "null", and what only looks like them.
func TestScalarNull(t *testing.T) {
	checkBoth(t, null, "", "~", "null")
	for _, s := range []string{"Null", "NULL", "nULL", "nulL", "nul", "ull", "nulls", "anull", "nullnull", "null null", "~~", "~a", "a~", "~ ~", "~null", "none", "-~", "0", "false"} {
		checkBoth(t, text(s), s)
	}
	checkNeither(t, " ", "  ", " ~", "~ ", " null", "null ", "~\n", "\x00", "null\x00", "\n", "null:", "~:", "~ #", "null #")
}

// TestScalarQuoted: promise 9.1, quoted strings of both kinds, with a byte behind them or before them, and not closed.
func TestScalarQuoted(t *testing.T) {
	for _, x := range [][2]string{
		{`''`, ""}, {`""`, ""}, {`'a'`, "a"}, {`"a"`, "a"}, {`'it''s'`, "it's"}, {`"a\"b"`, `a"b`}, {`''''`, "'"}, {`"\\"`, `\`}, {`'\'`, `\`}, {`"\n\t"`, "\n\t"}, {`"\x00\x41\xfF"`, "\x00A\xff"}, {`'\x41'`, `\x41`}, {"'caf\u00e9'", "caf\u00e9"}, {"\"\xff\"", "\xff"},
		{`'~'`, "~"}, {`"~"`, "~"}, {`'null'`, "null"}, {`"null"`, "null"}, {`' '`, " "}, {`" a "`, " a "}, {`'a,b'`, "a,b"}, {`"[a]"`, "[a]"}, {`'{a: b}'`, "{a: b}"}, {`"a: b"`, "a: b"}, {`'a #b'`, "a #b"}, {`'"'`, `"`}, {`"'"`, "'"}, {`"''"`, "''"}, {`'a"b"'`, `a"b"`}, {`'-'`, "-"}, {`"&a"`, "&a"},
	} {
		checkBoth(t, text(x[1]), x[0])
		for _, c := range allBytes() {
			if c != x[0][:1] {
				checkNeither(t, x[0]+c)
			}
		}
		checkNeither(t, " "+x[0], "  "+x[0], x[0]+"  ", x[0]+"ab", x[0]+x[0][:1]+"a", x[0]+": a", x[0]+" # a", x[0]+" "+x[0])
		for i := 1; i < len(x[0]); i++ {
			if s := x[0][:i]; s != "''" && s != "'it'" {
				checkNeither(t, s)
			}
		}
	}
	checkNeither(t, `'`, `"`, `'''`, `"""`, `'a`, `"a`, `'a''`, `"a\"`, `'a"`, `"a'`, "'a\n'", "\"a\nb\"", "'\t'", "\"\x7f\"", "'\x00'", `"\a"`, `"\x4"`, `"\x4g"`, `"\`, `"a\`, `''a`, `""a`, `'a' `, `"a" `, `'a'x`, `"a"x`, `'a'b'c'`, `'a''b`, `"a" "b"`)
	checkBoth(t, text(`a'b'`), `a'b'`)
	checkBoth(t, text(`a "b"`), `a "b"`)
	checkBoth(t, text(`it's`), `it's`)
}

// TestScalarPlain: promise 9.1, strings that may be written plain everywhere, only outside of a flow collection, and nowhere.
func TestScalarPlain(t *testing.T) {
	for _, s := range []string{"a", "a b", "a  b", "1", "-1", "-a", "--", "---", "...", "a:b", "a::b", "a#b", "a#", "a-", "a -", "<<", "a&b", "a*", "a!", "a|b", "a>", "a%", "a@b", "a`", "a?", "=", "$A", "caf\u00e9", "\xff", "http://a/b", "8080:80", "a'b", `a"b`, `\n`, "(a)"} {
		checkBoth(t, text(s), s)
	}
	for _, s := range []string{"a,b", "a, b", "a,", "a]", "a[", "a[0]", "a}", "a{", "a{b}", "${A}", "a[]", "a{}", "-,", "-[a]", "a:,b", "a:[b]", "a,:b", "a[b:c]", "~,~", "null,", "a]]", "a ]"} {
		checkScalar(t, s, false, text(s), api.OK)
		checkScalar(t, s, true, null, api.ErrSyntax)
	}
	checkNeither(t, " a", "a ", " a ", "a:", "a: b", "a :", "a : b", ":", ":a", ": a", "#", "#a", "a #", "a # b", "a #b", "-", "- a", "- ", "-  a", "?", "?a", "&a", "*a", "!a", "|", ">", "%a", "@a", "`a", ",", ",a", "[", "[]", "[a]", "]", "{", "{}", "{a: b}", "}", "a\tb", "\ta", "a\t", "a\nb", "a\n", "a\x00", "\x7f", "a\x1f", "a,b:", "a, #b", "[a], [b]", "a: [b]", "a[b: c]")
}

// latin returns a string with a rune for each byte of s, since patterns do not see single bytes.
func latin(s string) string {
	l := make([]rune, len(s))
	for i := range len(s) {
		l[i] = rune(s[i])
	}
	return string(l)
}

// The forms of scalars as chapters 6 and 9 describe them.
var (
	notPlain   = regexp.MustCompile(`^\z|^~\z|^null\z|[\x00-\x1f\x7f]|^ | \z|^[?:,\[\]{}#&*!|>'"%@` + "`" + `]|^-\z|^- |:\z|: | #`)
	doubleForm = regexp.MustCompile(`^"([^\x00-\x1f\x7f"\\]|\\["\\nt]|\\x[0-9a-fA-F]{2})*"\z`)
	singleForm = regexp.MustCompile(`^'([^\x00-\x1f\x7f']|'')*'\z`)
	anEscape   = regexp.MustCompile(`\\(["\\nt]|x..)`)
)

// quotedByPattern returns the value of a string if it is quoted as a whole.
func quotedByPattern(s string) (string, bool) {
	switch {
	case singleForm.MatchString(latin(s)):
		return strings.ReplaceAll(s[1:len(s)-1], "''", "'"), true
	case doubleForm.MatchString(latin(s)):
		return anEscape.ReplaceAllStringFunc(s[1:len(s)-1], func(escape string) string {
			switch escape[1] {
			case 'n':
				return "\n"
			case 't':
				return "\t"
			case 'x':
				b, _ := strconv.ParseUint(escape[2:], 16, 8)
				return string([]byte{byte(b)})
			}
			return escape[1:]
		}), true
	}
	return "", false
}

// scalarByPattern is what the chapter says of scalars.
func scalarByPattern(s string, row bool) (api.Node, bool) {
	if s == "" || s == "~" || s == "null" {
		return null, true
	}
	if value, ok := quotedByPattern(s); ok {
		return text(value), true
	}
	if notPlain.MatchString(latin(s)) || row && strings.ContainsAny(s, ends) {
		return null, false
	}
	return text(s), true
}

// TestScalarAllStrings: promise 9.1, all strings of up to five bytes of a few kinds, and all of two bytes, against patterns.
func TestScalarAllStrings(t *testing.T) {
	check := func(s string) {
		for _, row := range []bool{false, true} {
			want, ok := scalarByPattern(s, row)
			e := api.OK
			if !ok {
				e = api.ErrSyntax
			}
			checkScalar(t, s, row, want, e)
		}
	}
	joined([]string{"a", "'", `"`, ",", " ", ":", "#", "-", "\n"}, 5, check)
	joined([]string{"'", `"`, `\`, "n", `\x4f`, "]", "~", "null"}, 5, check)
	joined(allBytes(), 2, check)
}

func checkParse(t *testing.T, s string, want api.Node, e api.Errno) {
	t.Helper()
	if got, gotE := Parse(s); show(got) != show(want) || gotE != e {
		t.Errorf("Parse(%q) = %s, %v; want %s, %v", brief(s), brief(show(got)), gotE, brief(show(want)), e)
	}
}

// checkBad checks that strings are no flow values, with and without spaces around them.
func checkBad(t *testing.T, all ...string) {
	t.Helper()
	for _, s := range all {
		checkParse(t, s, null, api.ErrSyntax)
		checkParse(t, " "+s+" ", null, api.ErrSyntax)
	}
}

// checkValue checks a flow value alone, within spaces, and in collections.
func checkValue(t *testing.T, s string, want api.Node) {
	t.Helper()
	for _, spaced := range []string{s, " " + s, s + " ", "   " + s + "  "} {
		checkParse(t, spaced, want, api.OK)
		checkParse(t, "{k: "+spaced+"}", dict("k", want), api.OK)
		checkParse(t, "{a: "+spaced+", b: "+spaced+"}", dict("a", want, "b", want), api.OK)
		checkParse(t, "{'a':"+spaced+`,"b":`+spaced+"}", dict("a", want, "b", want), api.OK)
		if s != "" {
			checkParse(t, "["+spaced+"]", seq(want), api.OK)
			checkParse(t, "[x,"+spaced+",y]", seq(text("x"), want, text("y")), api.OK)
			checkParse(t, "["+spaced+", {a: ["+spaced+"]}]", seq(want, dict("a", seq(want))), api.OK)
		}
	}
}

// checkWrong checks that strings which are no flow values are none within others either. None of them holds a comma or a bracket outside of a collection.
func checkWrong(t *testing.T, all ...string) {
	t.Helper()
	checkBad(t, all...)
	for _, s := range all {
		checkBad(t, "["+s+"]", "[a, "+s+"]", "["+s+", a]", "{a: "+s+"}", "{a: "+s+", b: c}", "{a: b, c: "+s+"}", "[["+s+"], []]", "{a: {b: "+s+"}}")
	}
}

// TestParseExamples: promise 9.1, the chapter's examples, and values that mix all forms.
func TestParseExamples(t *testing.T) {
	checkValue(t, `[a, {b: 'c', "d":}]`, seq(text("a"), dict("b", text("c"), "d", null)))
	checkBad(t, "[a, ]")
	checkValue(t, "{a: [x, {y: z}], b: 'null'}", dict("a", seq(text("x"), dict("y", text("z"))), "b", text("null")))
	checkValue(t, `[[], {}, "", ~, null, -1, [{a: []}, [{}]]]`, seq(seq(), dict(), text(""), null, null, text("-1"), seq(dict("a", seq()), seq(dict()))))
	checkValue(t, "{c: 1, a: 2, b: 3}", dict("c", text("1"), "a", text("2"), "b", text("3")))
	checkValue(t, "[b, a, b, b]", texts("b", "a", "b", "b"))
}

// TestParseScalars: promise 9.1, no byte, spaces alone, and scalars that are no collections.
func TestParseScalars(t *testing.T) {
	for _, s := range []string{"", " ", "  ", strings.Repeat(" ", 9000)} {
		checkParse(t, s, null, api.OK)
	}
	checkValue(t, "", null)
	checkValue(t, "~", null)
	checkValue(t, "null", null)
	for _, s := range []string{"a", "a b", "a  b", "Null", "NULL", "a:b", "a#b", "it's", "-a", "\xff", "0", "nulls", "~~"} {
		checkValue(t, s, text(s))
	}
	checkValue(t, "'a'", text("a"))
	checkValue(t, `"a"`, text("a"))
	checkValue(t, "''", text(""))
	checkValue(t, `""`, text(""))
	checkValue(t, "'a, [b]: {c} # d'", text("a, [b]: {c} # d"))
	checkValue(t, `"a\", 'b'\n"`, text("a\", 'b'\n"))
	checkValue(t, `"'"`, text("'"))
	checkBad(t, "a,b", "a, b", "a,", ",", ",a", "a]", "]", "a}", "}", "a[", "a[]", "a{}", "a[0]", "a, [b]", "[a], b", "~, ~", "'a', 'b'")
	checkWrong(t, "*a", "&a", "!a", "|", ">", "%", "@a", "`a", "?", "'a' b", "'a'b", `"a"b`, `"a" "b"`, "'a'#b", "'a' #b", "'", `"`, "'a", `"a`, `'a"`, `"\q"`, "a\tb", "\ta", "a\t", "a\nb", "a\x00", "\x00", "\x7f", "-", "- a", "a:", "a: b", ":", ": a", ":a", "#", "#a", "a #", "a #b", "'a': b", `"a":`)
}

// spacedOut calls a function with the tokens joined with a string in each gap in turn, before the first one and behind the last one too, and then in all gaps.
func spacedOut(tokens []string, between string, f func(string)) {
	for gap := range len(tokens) + 1 {
		f(strings.Join(tokens[:gap], "") + between + strings.Join(tokens[gap:], ""))
	}
	f(between + strings.Join(tokens, between) + between)
}

// TestParseSpaces: promise 9.1, spaces around each element, and tabs and other bytes in their place.
func TestParseSpaces(t *testing.T) {
	for _, x := range []struct {
		tokens string // separated by line feeds
		want   api.Node
	}{
		{"[\n]", seq()},
		{"{\n}", dict()},
		{"[\na\n]", texts("a")},
		{"[\na\n,\nb\n]", texts("a", "b")},
		{"[\n'a'\n,\n~\n,\n\"b\"\n]", seq(text("a"), null, text("b"))},
		{"{\n'a'\n:\n1\n}", dict("a", text("1"))},
		{"{\n\"a\"\n:\n}", dict("a", null)},
		{"{\n'a'\n:\n,\n'b'\n:\n}", dict("a", null, "b", null)},
		{"{\n\"a\"\n:\n'b'\n,\n'c'\n:\nd\n}", dict("a", text("b"), "c", text("d"))},
		{"[\n[\n]\n,\n{\n}\n]", seq(seq(), dict())},
		{"[\n{\n'a'\n:\n[\nb\n,\nc\n]\n}\n,\n[\n[\n]\n]\n]", seq(dict("a", texts("b", "c")), seq(seq()))},
		{"{\na\n: \n1\n,\nb\n: \n2\n}", dict("a", text("1"), "b", text("2"))},
		{"{\na\n:\n[\n]\n,\nb\n:\n{\n}\n,\nc\n:\n}", dict("a", seq(), "b", dict(), "c", null)},
	} {
		tokens := strings.Split(x.tokens, "\n")
		checkValue(t, strings.Join(tokens, ""), x.want)
		for _, spaces := range []string{" ", "  ", "       "} {
			spacedOut(tokens, spaces, func(s string) { checkParse(t, s, x.want, api.OK) })
		}
		for _, c := range []string{"\t", " \t ", "\n", "\r", "\x00", "\x7f"} {
			spacedOut(tokens, c, func(s string) { checkBad(t, s) })
		}
	}
	checkBad(t, "[\t]", "\t[]", "[]\t", "[a\t]", "[\ta]", "[a,\tb]", "{a:\tb}", "{a: \tb}", "{a\t: b}", "{'a'\t: b}", "\t", " \t", "['a\tb']", "[\"a\tb\"]")
}

// TestParseCommas: promise 9.1, commas at the beginning, at the end and twice, and empty values.
func TestParseCommas(t *testing.T) {
	for _, gap := range []string{"", " ", "   "} {
		for _, s := range []string{"[,]", "[a,]", "[,a]", "[a,,b]", "[,,]", "[,a,]", "[a,b,]", "[[],]", "[,[]]", "[{},,{}]", "['a',]", "[~,]", "[~,,~]", "{,}", "{a: b,}", "{,a: b}", "{a: b,,c: d}", "{'a':,}", "{,'a':}", "{'a':,,'b':}", "{a: [],}", "[a,b]c", "[a b,,]"} {
			spaced := strings.NewReplacer(",", gap+","+gap, "[", "["+gap, "]", gap+"]", "{", "{"+gap, "}", gap+"}").Replace(s)
			checkBad(t, spaced, "["+spaced+"]", "{a: "+spaced+"}", "[x, "+spaced+", y]")
		}
	}
	checkValue(t, "[~]", seq(null))
	checkValue(t, "[null, ~]", seq(null, null))
	checkValue(t, "['', \"\"]", texts("", ""))
	checkValue(t, "{a:}", dict("a", null))
	checkValue(t, "{a: }", dict("a", null))
	checkValue(t, "{a:, b:}", dict("a", null, "b", null))
	checkValue(t, "{a: , b: , c: d}", dict("a", null, "b", null, "c", text("d")))
	checkValue(t, "{a: ~, b: null, c: ''}", dict("a", null, "b", null, "c", text("")))
	checkValue(t, "[{a:}, {b: }]", seq(dict("a", null), dict("b", null)))
}

// TestParseBrackets: promise 9.1, brackets that are not closed, closed twice or by the other kind, and bytes behind the last one.
func TestParseBrackets(t *testing.T) {
	checkBad(t, "[", "{", "]", "}", "[[", "{{", "[{", "{[", "[a", "[a,", "[a, b", "['a'", "{a", "{a:", "{a: ", "{a: b", "{a: b,", "{'a'", "{'a':", "[[a]", "[[]", "[a, [b]", "{a: [b]", "{a: {b: c}", "[{a: b]", "[a, {b: c}", "[{}")
	checkBad(t, "[]]", "{}}", "[a]]", "{a: b}}", "[[a]]]", "[a] ]", "]]", "}}", "[]}", "{}]", "[a, [b]]]", "{a: {b: c}}}")
	checkBad(t, "[}", "{]", "[a}", "{a: b]", "[[a}]", "[{a: b]}", "{a: [b}]", "{a: [b}}", "[{]}", "{a: {b: c]}", "(a)]", "[a, b}", "[[a], b}")
	checkBad(t, "[a]b", "[a] b", "[]a", "[] a", "{}a", "{a: b} c", "[a][b]", "[a] [b]", "[a], [b]", "[a],", "{}{}", "{a: b}: c", "[a]:", "[a]: b", "[]\x00", "[a]#", "[a] #b", "[a]'b'", "[]''", "[]\"\"", "{}~", "[][]", "[]{}", "[a]\n", "[a]-")
	checkBad(t, "[[a]b]", "[[a] b]", "[[a][b]]", "[{}a]", "[{} {}]", "[a[b]]", "[a{}]", "[a [b]]", "['a'[b]]", "['a' {}]", "{a: [b]c}", "{a: {}[]}", "{a: b[c]}", "{a: b {}}", "{a: 'b'[]}", "[a]]", "[[a]]]", "[-[a]]", "[~[]]", "[null{}]", "[a'[b']", "[a\"]\"]")
	checkValue(t, "[[[a]]]", seq(seq(texts("a"))))
	checkValue(t, "[[a], [b]]", seq(texts("a"), texts("b")))
	checkValue(t, "[']', '[', '}', '{']", texts("]", "[", "}", "{"))
	checkValue(t, `["]", {"}": '{'}]`, seq(text("]"), dict("}", text("{"))))
	checkValue(t, "{a: {}, b: []}", dict("a", dict(), "b", seq()))
}

// TestParseKeys: promise 9.1, keys of all forms, and what is none.
func TestParseKeys(t *testing.T) {
	for _, x := range [][2]string{
		{"a", "a"}, {"a b", "a b"}, {"1", "1"}, {"-a", "-a"}, {"a:b", "a:b"}, {"a::b", "a::b"}, {"a#b", "a#b"}, {"<<", "<<"}, {"---", "---"}, {"Null", "Null"}, {"NULL", "NULL"}, {"nulls", "nulls"}, {"~a", "~a"}, {"it's", "it's"}, {`a"b"`, `a"b"`}, {"a 'b'", "a 'b'"}, {"caf\u00e9", "caf\u00e9"}, {"\xff", "\xff"}, {"a-", "a-"},
		{"'a'", "a"}, {`"a"`, "a"}, {"''", ""}, {`""`, ""}, {"'null'", "null"}, {`"null"`, "null"}, {"'~'", "~"}, {`"~"`, "~"}, {"'a: b'", "a: b"}, {`"a:"`, "a:"}, {"'a,b'", "a,b"}, {`"[a]"`, "[a]"}, {`"{a: b}"`, "{a: b}"}, {"'it''s'", "it's"}, {`"a\"b"`, `a"b`}, {`"\n\x00"`, "\n\x00"}, {"' a '", " a "}, {"' '", " "}, {"'#'", "#"}, {`":"`, ":"},
	} {
		for _, colon := range []string{": ", " : ", ":  ", "  :   "} {
			checkParse(t, "{"+x[0]+colon+"v}", dict(x[1], text("v")), api.OK)
			checkParse(t, "[{ k: w, "+x[0]+colon+"'v' }]", seq(dict("k", text("w"), x[1], text("v"))), api.OK)
			checkParse(t, "{"+x[0]+colon+"}", dict(x[1], null), api.OK)
		}
	}
	for _, s := range []string{"", "~", "null", "#", "#a", "a #b", "&a", "*a", "!a", "|", "%a", "@a", "`a", "?a", "-", "- a", ":", ":a", "a:", "a: b", "'a'b", "'a' b", `"a"b`, "'a' 'b'", "'a", `"a`, "a\tb", "a\x00", "[]", "[a]", "{}", "{a: b}", "a]", "a[b]", "a{", "a,b", "a, b", ",", `"\q"`, "'a':b"} {
		checkBad(t, "{"+s+": v}", "{"+s+" : v}", "{k: w, "+s+": v}", "{"+s+": v, k: w}", "[{"+s+": }]")
	}
	checkBad(t, "{a}", "{'a'}", "{\"a\"}", "{a, b}", "{a b}", "{a: b, c}", "{'a' 'b'}", "{[a]}", "{null}", "{~}", "{''}", "{a: b, 'c'}", "{a: b, ''}")
	checkParse(t, "{k: "+strings.Repeat("a", 5000)+"}", dict("k", text(strings.Repeat("a", 5000))), api.OK)
	checkParse(t, "{"+strings.Repeat("k", 5000)+": a}", dict(strings.Repeat("k", 5000), text("a")), api.OK)
}

// TestParseKeyTwice: promise 9.1, a key twice in all pairs of its spellings, and the same key in different maps.
func TestParseKeyTwice(t *testing.T) {
	for _, spellings := range [][]string{{"a", "'a'", `"a"`, `"\x61"`}, {"''", `""`}, {"'null'", `"null"`, `"nul\x6c"`}, {"'~'", `"~"`, `"\x7e"`, `"\x7E"`}, {"a b", "'a b'", `"a\x20b"`}, {`"\n"`, `"\x0a"`, `"\x0A"`}, {"it's", "'it''s'", `"it's"`, `"it\x27s"`}, {"a:b", "'a:b'"}} {
		for _, one := range spellings {
			for _, other := range spellings {
				for _, s := range []string{
					"{" + one + ": 1, " + other + ": 2}", "{" + one + ": 1, " + other + ": 1}", "{" + one + ": , " + other + ": }", "{" + one + ": [], " + other + ": {}}",
					"{" + one + ": 1, z: 2, " + other + ": 3}", "{z: 1, " + one + ": 2, " + other + ": 3}", "{" + one + ": 1, " + other + ": 2, z: 3}", "{" + one + ": 1, z: 2, x: 3, " + other + ": 4, y: 5}", "{" + one + ": {" + one + ": 1}, " + other + ": 2}",
				} {
					checkBad(t, s, "[a, "+s+"]", "{q: "+s+"}", "{q: ["+s+"], r: s}", "["+s+", {q: r}]")
				}
				key, _ := scalarByPattern(one, true)
				k := key.Text
				checkValue(t, "{"+one+": {"+other+": 1}}", dict(k, dict(k, text("1"))))
				checkValue(t, "[{"+one+": 1}, {"+other+": 2}]", seq(dict(k, text("1")), dict(k, text("2"))))
				checkValue(t, "{x: {"+one+": 1}, "+other+": 2, y: {"+one+": 3}}", dict("x", dict(k, text("1")), k, text("2"), "y", dict(k, text("3"))))
				checkValue(t, "{"+one+": {q: "+other+"}, q: 2}", dict(k, dict("q", key), "q", text("2")))
			}
		}
	}
	checkValue(t, "{a: 1, A: 2, 'a ': 3, aa: 4, 'null': 5, '': 6, '~': 7}", dict("a", text("1"), "A", text("2"), "a ", text("3"), "aa", text("4"), "null", text("5"), "", text("6"), "~", text("7")))
	checkBad(t, "{b: 1, a: 2, c: 3, d: 4, a: 5}", "{a: 1, a: 2, a: 3}", "{c: 1, b: 2, a: 3, c: 4}")
	checkValue(t, "[a, a, [a], [a]]", seq(text("a"), text("a"), texts("a"), texts("a")))
}

// TestParseColons: promise 9.1, a ":" behind a quoted key before anything, and behind a plain key before all that may and may not follow it.
func TestParseColons(t *testing.T) {
	for _, key := range []string{"'a'", `"a"`, "'a' ", `"a"  `} {
		for _, x := range []struct {
			rest string
			want api.Node
		}{{"1", text("1")}, {"b c", text("b c")}, {"'b'", text("b")}, {`"b"`, text("b")}, {"b:c", text("b:c")}, {"-1", text("-1")}, {"~", null}, {"~b", text("~b")}, {"null", null}, {"[b]", texts("b")}, {"{b: c}", dict("b", text("c"))}, {"", null}, {" ", null}, {" b", text("b")}} {
			checkValue(t, "{"+key+":"+x.rest+"}", dict("a", x.want))
			checkValue(t, "{"+key+":"+x.rest+",b:}", dict("a", x.want, "b", null))
		}
		checkBad(t, "{"+key+"::}", "{"+key+"::b}", "{"+key+":: b}", "{"+key+":-}", "{"+key+":#}", "{"+key+":b:}", "{"+key+":b: c}", "{"+key+":'b'c}", "{"+key+"=b}", "{"+key+",: b}", "{"+key+"\t:b}", "{"+key+":\tb}", "{"+key)
	}
	checkValue(t, "{a: 1}", dict("a", text("1")))
	checkValue(t, "{a: }", dict("a", null))
	checkValue(t, "{a:, b: 1}", dict("a", null, "b", text("1")))
	checkValue(t, "{a:[b]}", dict("a", texts("b")))
	checkValue(t, "{a:{b: c}}", dict("a", dict("b", text("c"))))
	checkValue(t, "{a:}", dict("a", null))
	checkBad(t, "{a:", "[{a:", "{a:]", "[{a:]", "[{a:]}", "[a:", "a:")
	for b, c := range allBytes() {
		if !strings.Contains(ends+" ", c) {
			checkBad(t, "{a:"+c+"}", "{a:"+c, "{a:"+c+"b}", "{a:"+c+", b: 1}", "{k: v, a:"+c+"}", "{a :"+c+"}")
			if b >= 32 && b != 127 && c != ":" {
				checkParse(t, "{a:"+c+": 1}", dict("a:"+c, text("1")), api.OK)
				checkParse(t, "{a:"+c+":}", dict("a:"+c, null), api.OK)
			}
		}
	}
	checkBad(t, "{a :b}", "{a :'b'}", "{a :1, b: 2}", "{a::}", "{a:: b}", "{a::b}", "{:}", "{: }", "{::}", "{a:b}")
}

// TestParseInnerMarks: promise 9.1, plain scalars that hold a ":" or a "#" within and at their ends.
func TestParseInnerMarks(t *testing.T) {
	for _, s := range []string{"a:b", "a::b", "a:b:c", "a :b", "a:-", "a:'b'", `a:"b"`, "a:~", "a:#", "8080:80", "http://a", "a:\xff", "-:a", "~:~", "null:null", "a#b", "a#", "a##", "a# b", "-#", "~#", "a:#b", "a'#", "a b#c"} {
		checkValue(t, s, text(s))
		checkParse(t, "{"+s+": "+s+"}", dict(s, text(s)), api.OK)
		checkParse(t, "[{"+s+":}, "+s+"]", seq(dict(s, null), text(s)), api.OK)
	}
	checkWrong(t, "a:", "a: b", "a:  b", "a :", "a : b", "a::", "a:: b", "a:b:", "a:b: c", ":", ":a", ": a", "::", "~:", "~: a", "null:", "'a':", "'a': b", "'a':b", "#", "#a", "# a", "##", "a #", "a #b", "a # b", "a  #b", "a b #c", "'a' #", "~ #", "null #b", "a: #", "a #:", "- #")
	for _, c := range strings.Split(ends, "") {
		checkBad(t, "[a:"+c+"]", "[a:"+c+"b]", "[a, b:"+c+" c]", "{k: a:"+c+"}", "{k: a:"+c+"b}", "{'k':a:"+c+" b}", "{k: v, l: a:"+c+"}", "a:"+c, "a:"+c+"b")
	}
	checkBad(t, "[a:[b]]", "[a:{b: c}]", "{k: a:[b]}", "{k: a:{}}", "[a:, b]", "{k: a:, l: m}", "[#]", "[#, a]", "[a, #]", "{#}", "{#: a}", "{k: #}", "{k:#}", "[a]#", "[] #", "{} # a", "# []", "#[]")
}

// repeated returns a flow value of count elements between brackets.
func repeated(element string, count int) string {
	return "[" + strings.Repeat(element+",", count-1) + element + "]"
}

// entries returns a map's entries with as many keys.
func entries(count int) string {
	l := make([]string, count)
	for i := range l {
		l[i] = "k" + strconv.Itoa(i) + ": "
	}
	return strings.Join(l, ",")
}

// nested returns a flow value of levels sequences and maps, by the pattern: "s" for a sequence, "m" for a map; the innermost one holds s.
func nested(s string, levels int, pattern string) string {
	var open, shut []byte
	for i := range levels {
		if pattern[i%len(pattern)] == 's' {
			open, shut = append(open, "["...), append(shut, ']')
		} else {
			open, shut = append(open, "{'k':"...), append(shut, '}')
		}
	}
	slices.Reverse(shut)
	return string(open) + s + string(shut)
}

// within returns the node whose flow value nested returns if the innermost collection holds n.
func within(n api.Node, levels int, pattern string) api.Node {
	for i := levels - 1; i >= 0; i-- {
		if pattern[i%len(pattern)] == 's' {
			n = seq(n)
		} else {
			n = dict("k", n)
		}
	}
	return n
}

// TestParseDepth: promise 9.1, a depth of 12 and of 13, with and without faults.
func TestParseDepth(t *testing.T) {
	for _, x := range []struct {
		inner string
		want  api.Node
		depth int
	}{{"a", text("a"), 1}, {"''", text(""), 1}, {"~", null, 1}, {"[]", seq(), 1}, {"{}", dict(), 1}, {"[a]", texts("a"), 2}, {"{a: }", dict("a", null), 2}, {"[a, [b], c]", seq(text("a"), texts("b"), text("c")), 3}, {"[[{}], a, b]", seq(seq(dict()), text("a"), text("b")), 3}} {
		for _, pattern := range []string{"s", "m", "sm", "ms", "ssm", "mmmmmmmmmmms", "sssssssssssm"} {
			for levels := 1; levels <= 30; levels++ {
				want, e := null, api.ErrBound
				if levels+x.depth <= mostNest {
					want, e = within(x.want, levels, pattern), api.OK
				}
				s := nested(x.inner, levels, pattern)
				checkParse(t, s, want, e)
				checkParse(t, " "+s+"  ", want, e)
				checkBad(t, s+"]", s+"}", s+" a", s+s, s[:len(s)-1], s[1:])
				for _, fault := range []string{",", "]", "}", "]}", "[]", " {}", ": a", ":", " #", ", &a", ",,b"} {
					checkBad(t, nested(x.inner+fault, levels, pattern))
				}
			}
		}
	}
	for levels := 1; levels <= 30; levels++ {
		for _, inner := range []string{"&a", "{a: b, 'a': c}", "{a}", "{~: a}", "[,]", "[a, ]", "'a' b", "'a", "\t"} {
			checkBad(t, nested(inner, levels, "s"), nested(inner, levels, "sm"), nested(inner, levels, "mms"))
		}
	}
}

// TestParseNodes: promise 9.1, 2000 and 2001 nodes, of which ErrBound is made only if the string is a flow value.
func TestParseNodes(t *testing.T) {
	for _, count := range []int{1, 2, 1000, mostNodes - 2, mostNodes - 1, mostNodes, mostNodes + 1, 3 * mostNodes} {
		for _, x := range []struct {
			s     string
			nodes int
		}{
			{repeated("a", count), count + 1}, {repeated("~", count), count + 1}, {repeated("''", count), count + 1}, {repeated("[]", count), count + 1}, {repeated(" {} ", count), count + 1}, {repeated("[a]", count), 2*count + 1}, {repeated("{a: }", count), 2*count + 1},
			{"{" + entries(count) + "}", count + 1}, {"{a: " + repeated("a", count) + "}", count + 2}, {"[{" + entries(count) + "}]", count + 2}, {"[[], " + repeated("a", count) + ", b]", count + 4}, {"[{a: b}, {" + entries(count) + "}, {}]", count + 5}, {nested(repeated("a", count), 10, "sm"), count + 11},
		} {
			got, e := Parse(x.s)
			nodes, _ := size(got)
			if x.nodes > mostNodes && (e != api.ErrBound || show(got) != show(null)) || x.nodes <= mostNodes && (e != api.OK || nodes != x.nodes) {
				t.Errorf("Parse(%q) has %d nodes, %v; want %d", brief(x.s), nodes, e, x.nodes)
			}
			s := x.s
			last := s[len(s)-1:]
			checkBad(t, s+"]", s+"}", s+"a", s+",", s[:len(s)-1], s[:len(s)-1]+","+last, s[:len(s)-1]+",&a"+last, s[:len(s)-1]+", a: b: c"+last, "["+s, s[1:])
			checkBad(t, "[{a: b, 'a': c}, "+s+"]", "["+s+", {a: b, 'a': c}]", "{a: "+s+", b: c, \"a\": d}", "{a: b, c: "+s+", \"a\": d}")
		}
		checkBad(t, "{k0: , "+entries(count)+"}", "{"+entries(count)+", 'k0': }", "{"+entries(count)+", k"+strconv.Itoa(count-1)+": a}")
	}
}

// TestParseGreat: promises 9.1 and P1, strings with very many nodes and brackets, as far as they are nested.
func TestParseGreat(t *testing.T) {
	const many = 1 << 18
	checkParse(t, strings.Repeat("[", 16*many), null, api.ErrSyntax)
	for _, pattern := range []string{"s", "m", "sm"} {
		s := nested("", many, pattern+"m")
		checkParse(t, s, null, api.ErrBound)
		checkParse(t, s+s[len(s)-1:], null, api.ErrSyntax)
		checkParse(t, s[:len(s)-1], null, api.ErrSyntax)
		checkParse(t, nested("{a: b, 'a': c}", many, pattern), null, api.ErrSyntax)
		checkParse(t, nested(",", many, pattern), null, api.ErrSyntax)
	}
	checkParse(t, repeated("a", many), null, api.ErrBound)
	checkParse(t, repeated("[]", many)+"]", null, api.ErrSyntax)
	checkParse(t, "{"+entries(many)+"}", null, api.ErrBound)
	checkParse(t, "{"+entries(many)+", 'k9': }", null, api.ErrSyntax)
	checkParse(t, strings.Repeat("]", many), null, api.ErrSyntax)
	checkParse(t, strings.Repeat(",", many), null, api.ErrSyntax)
	checkParse(t, strings.Repeat(" ", many)+"["+strings.Repeat(" ", many)+"]", seq(), api.OK)
	checkParse(t, "['"+strings.Repeat("a", many)+"']", texts(strings.Repeat("a", many)), api.OK)
	checkParse(t, "['"+strings.Repeat("a", many)+"]", null, api.ErrSyntax)
	checkParse(t, strings.Repeat("a:", many)+"b", text(strings.Repeat("a:", many)+"b"), api.OK)
}

// grammar reads flow values as the chapter defines them: it tries all ways of splitting a string, and keeps what it found.
type grammar map[string][]api.Node

// values returns a node for each way of reading s as a flow value, which may be surrounded by spaces.
func (g grammar) values(s string) []api.Node {
	s = strings.Trim(s, " ")
	if l, ok := g[s]; ok {
		return l
	}
	var l []api.Node
	if n, ok := scalarByPattern(s, true); ok {
		l = append(l, n)
	}
	if len(s) >= 2 && s[0] == '[' && s[len(s)-1] == ']' {
		for _, kids := range g.lists(s[1:len(s)-1], g.elements) {
			l = append(l, seq(kids...))
		}
	}
	if len(s) >= 2 && s[0] == '{' && s[len(s)-1] == '}' {
		for _, kids := range g.lists(s[1:len(s)-1], g.entries) {
			if n := merged(kids); isWithoutTwice(n.Keys) {
				l = append(l, n)
			}
		}
	}
	g[s] = l
	return l
}

// merged returns a map of the entries of maps.
func merged(l []api.Node) api.Node {
	n := dict()
	for _, one := range l {
		n.Keys, n.Kids = append(n.Keys, one.Keys...), append(n.Kids, one.Kids...)
	}
	return n
}

func isWithoutTwice(keys []string) bool {
	seen := map[string]int{}
	for _, key := range keys {
		seen[key]++
	}
	return len(seen) == len(keys)
}

// lists returns the lists for each way of reading s as what stands between brackets.
func (g grammar) lists(s string, read func(string) []api.Node) [][]api.Node {
	if strings.Trim(s, " ") == "" {
		return [][]api.Node{nil}
	}
	return g.rows(s, read)
}

// rows returns the lists for each way of reading s as one or more elements that are separated by commas.
func (g grammar) rows(s string, read func(string) []api.Node) [][]api.Node {
	var all [][]api.Node
	for _, n := range read(s) {
		all = append(all, []api.Node{n})
	}
	for i := range len(s) {
		if s[i] != ',' {
			continue
		}
		for _, head := range read(s[:i]) {
			for _, tail := range g.rows(s[i+1:], read) {
				all = append(all, append([]api.Node{head}, tail...))
			}
		}
	}
	return all
}

// elements returns a node for each way of reading s as an element of a sequence.
func (g grammar) elements(s string) []api.Node {
	if strings.Trim(s, " ") == "" {
		return nil
	}
	return g.values(s)
}

// entries returns a map of one entry for each way of reading s as an entry.
func (g grammar) entries(s string) []api.Node {
	var all []api.Node
	for i := range len(s) {
		if s[i] != ':' {
			continue
		}
		form, rest := strings.Trim(s[:i], " "), s[i+1:]
		key, isQuoted := quotedByPattern(form)
		if !isQuoted {
			n, ok := scalarByPattern(form, true)
			if !ok || n.Kind != 1 || rest != "" && !strings.Contains(ends+" ", rest[:1]) {
				continue
			}
			key = form
		}
		for _, v := range g.values(rest) {
			all = append(all, dict(key, v))
		}
	}
	return all
}

// check checks what Parse returns against the grammar, and that there is at most one way of reading s.
func (g grammar) check(t *testing.T, s string) {
	t.Helper()
	l := g.values(s)
	if len(l) > 1 {
		t.Errorf("%q is read as %s and as %s", s, show(l[0]), show(l[1]))
	}
	if len(l) == 0 {
		checkParse(t, s, null, api.ErrSyntax)
		return
	}
	if count, depth := size(l[0]); count > mostNodes || depth > mostNest {
		checkParse(t, s, null, api.ErrBound)
		return
	}
	checkParse(t, s, l[0], api.OK)
}

// TestParseAllStrings: promise 9.1, all strings of up to a few pieces against the grammar.
func TestParseAllStrings(t *testing.T) {
	for _, x := range []struct {
		before, pieces, after string
		most                  int
	}{
		{"", "a\n:\n \n,\n[\n]\n{\n}\n'", "", 5},
		{"[", "a\n:\n \n,\n[\n]\n'", "]", 5},
		{"{", "a\n:\n \n,\n[\n}\n'", "}", 6},
		{"{", "a\n:\n,\n{\n}\n \n\"", "}", 5},
		{"{'a':", "b\n:\n \n,\n'b'\n#\n-\n~", "}", 5},
		{"[", "a\n#\n \n,\n\"\n\\\n:\n-\n?", "]", 4},
		{"{", "a: \nb: \n'a'\n\"a\":\n,\n[\n]\n{\n}", "}", 5},
		{"{", "a: \nb: \n'a'\n:\n,\nnull\n~\n{\n}", "}", 5},
		{"[", "[\n]\n{\n}\n,\na: \n''", "]", 6},
		{"{a: ", "{a: \n}\n[\n]\n,\nb: \nc: \nd", "}", 5},
	} {
		g := grammar{}
		joined(strings.Split(x.pieces, "\n"), x.most, func(s string) { g.check(t, x.before+s+x.after) })
	}
	g := grammar{}
	joined(allBytes(), 2, func(s string) { g.check(t, s) })
	for _, around := range []string{"[ ]", "[a ]", "[ a]", "[a, ]", "[a ,b]", "{ a: b}", "{a : b}", "{a: b}", "{a: b }", "{a: b, c: }", "[] ", " {}", "['a' ]", "{'a' : b}", "{'a':b}", "[a b]", "{a:b: c}"} {
		for i := range len(around) + 1 {
			for _, c := range allBytes() {
				g.check(t, around[:i]+c+around[i:])
				if i < len(around) {
					g.check(t, around[:i]+c+around[i+1:])
				}
			}
		}
	}
}

// hardTexts are texts and keys with a meaning, or with bytes that have one.
func hardTexts() []string {
	return []string{"", "a", "b", "ab", "a b", " ", " a", "a ", "~", "null", "Null", "nulls", "-", "- a", "-a", ":", "a:", "a: b", "a:b", "#", "a #b", "a#b", ",", "a,b", "a, b", "[", "]", "[]", "[a]", "a[0]", "{", "}", "{a: b}", "a}", "'", "''", "'a'", "it's", `"`, `""`, `"a"`, `a"b`, `\`, `\n`, `\x41`, "\n", "\t", "a\nb", "\x00", "\x7f", "\xff", "caf\u00e9", "&a", "*a", "!a", "|", ">", "%a", "@a", "`a", "?", "---", "...", "<<", "${A:-b}", "1", "true", "a: [b], c"}
}

// draw returns a valid node of up to nodes nodes and up to nest deep, of hard texts.
func draw(random *rand.Rand, nodes, nest int) api.Node {
	hard := hardTexts()
	kind := 2 + random.Intn(2)
	if nodes < 2 || nest < 2 || random.Intn(8) == 0 {
		kind = random.Intn(4)
	}
	n := api.Node{Kind: kind}
	if kind == 1 {
		n.Text = hard[random.Intn(len(hard))]
	}
	for room := nodes - 1; kind >= 2 && nest > 1 && room > 0 && random.Intn(10) > 0; {
		kid := draw(random, 1+random.Intn(room), nest-1)
		count, _ := size(kid)
		room -= count
		n.Kids = append(n.Kids, kid)
		if kind == 3 {
			key := hard[random.Intn(len(hard))]
			if slices.Contains(n.Keys, key) {
				key += strconv.Itoa(len(n.Keys))
			}
			n.Keys = append(n.Keys, key)
		}
	}
	return n
}

// drawn calls a function with nodes of many sizes and depths, from a fixed seed.
func drawn(seed int64, f func(random *rand.Rand, n api.Node)) {
	random := rand.New(rand.NewSource(seed))
	for i := range 3000 {
		f(random, draw(random, 1+random.Intn(60), 1+i%mostNest))
	}
	for range 30 {
		f(random, draw(random, mostNodes, mostNest))
	}
}

// doubled returns a string in double quotes as chapter 6 writes it.
func doubled(s string) string {
	form := `"`
	for i := range len(s) {
		switch c := s[i]; {
		case c == '"' || c == '\\':
			form += `\` + s[i:i+1]
		case c == '\n':
			form += `\n`
		case c == '\t':
			form += `\t`
		case c < 16:
			form += `\x0` + strconv.FormatInt(int64(c), 16)
		case c < 32 || c == 127:
			form += `\x` + strconv.FormatInt(int64(c), 16)
		default:
			form += s[i : i+1]
		}
	}
	return form + `"`
}

// isRow is what chapter 6 says of strings that may be written plain in a flow collection.
func isRow(s string) bool {
	return !notPlain.MatchString(latin(s)) && !strings.ContainsAny(s, ends)
}

// spelled returns one of the ways of writing a text, and whether it is plain.
func spelled(random *rand.Rand, s string) (string, bool) {
	switch random.Intn(4) {
	case 0:
		form := `"`
		for i := range len(s) {
			form += `\x` + strconv.FormatInt(int64(s[i]>>4), 16) + strings.ToUpper(strconv.FormatInt(int64(s[i]&15), 16))
		}
		return form + `"`, false
	case 1:
		if !strings.ContainsAny(s, "\n\t\x00\x7f") {
			return "'" + strings.ReplaceAll(s, "'", "''") + "'", false
		}
	case 2:
		return doubled(s), false
	}
	if isRow(s) {
		return s, true
	}
	return doubled(s), false
}

// spaces returns up to three spaces.
func spaces(random *rand.Rand) string { return strings.Repeat(" ", max(0, random.Intn(6)-2)) }

// written returns one of the ways of writing a node as a flow value; it may be empty if mayBeEmpty is true.
func written(random *rand.Rand, n api.Node, mayBeEmpty bool) string {
	var l []string
	switch n.Kind {
	case 0:
		forms := []string{"~", "null", ""}
		if !mayBeEmpty {
			forms = forms[:2]
		}
		return forms[random.Intn(len(forms))]
	case 1:
		form, _ := spelled(random, n.Text)
		return form
	case 2:
		for _, kid := range n.Kids {
			l = append(l, spaces(random)+written(random, kid, false)+spaces(random))
		}
		return "[" + strings.Join(l, ",") + spaces(random) + "]"
	}
	for i, kid := range n.Kids {
		key, isPlain := spelled(random, n.Keys[i])
		v := spaces(random) + written(random, kid, true)
		if isPlain && v != "" && !strings.Contains(ends+" ", v[:1]) {
			v = " " + v
		}
		l = append(l, spaces(random)+key+spaces(random)+":"+v+spaces(random))
	}
	return "{" + strings.Join(l, ",") + spaces(random) + "}"
}

// TestParseDrawn: promise 9.1, drawn nodes in drawn spellings, of which small ones are then spoilt and held against the grammar.
func TestParseDrawn(t *testing.T) {
	spoilers := []string{"a", ":", " ", ",", "[", "]", "{", "}", "'", `"`, "#", "-", "~", "\t", ": ", ", ", "null"}
	drawn(1, func(random *rand.Rand, n api.Node) {
		for range 3 {
			s := spaces(random) + written(random, n, true) + spaces(random)
			checkParse(t, s, n, api.OK)
			if len(s) > 60 {
				continue
			}
			g := grammar{}
			for range 20 {
				i := random.Intn(len(s) + 1)
				j := min(i+random.Intn(3), len(s))
				g.check(t, s[:i]+spoilers[random.Intn(len(spoilers))]+s[j:])
				g.check(t, s[:i]+s[j:])
			}
		}
	})
}

// formed is what the chapter says of the flow form of a node.
func formed(n api.Node) string {
	form := func(s string) string {
		if isRow(s) {
			return s
		}
		return doubled(s)
	}
	var l []string
	switch n.Kind {
	case 0:
		return "null"
	case 1:
		return form(n.Text)
	case 2:
		for _, kid := range n.Kids {
			l = append(l, formed(kid))
		}
		return "[" + strings.Join(l, ", ") + "]"
	}
	for i, kid := range n.Kids {
		l = append(l, form(n.Keys[i])+": "+formed(kid))
	}
	return "{" + strings.Join(l, ", ") + "}"
}

// checkWrite checks the flow form of a valid node, and that it is parsed as the node.
func checkWrite(t *testing.T, n api.Node, want string) {
	t.Helper()
	got := Write(n)
	if got != want {
		t.Errorf("Write(%s) = %s; want %s", brief(show(n)), brief(got), brief(want))
	}
	checkParse(t, got, n, api.OK)
	checkParse(t, "  "+got+" ", n, api.OK)
}

// TestWrite: promises 9.2 and 9.3, Null, texts and keys that must be quoted and that need not, empty collections, and nesting.
func TestWrite(t *testing.T) {
	checkWrite(t, null, "null")
	for _, s := range []string{"a", "web", "a b", "a  b", "Null", "NULL", "nulls", "~a", "-a", "--", "a:b", "a#b", "it's", `a"b`, `a\b`, "1", "true", "8080:80", "---", "...", "<<", "caf\u00e9", "\xff", "a-", "a'"} {
		checkWrite(t, text(s), s)
		checkWrite(t, seq(text(s), text(s)), "["+s+", "+s+"]")
		checkWrite(t, dict(s, text(s)), "{"+s+": "+s+"}")
		checkWrite(t, dict("a", dict(s, null), "b", seq(dict(s, seq()))), "{a: {"+s+": null}, b: [{"+s+": []}]}")
	}
	for _, x := range [][2]string{
		{"", `""`}, {"~", `"~"`}, {"null", `"null"`}, {" ", `" "`}, {" a", `" a"`}, {"a ", `"a "`}, {"-", `"-"`}, {"- a", `"- a"`}, {":", `":"`}, {"a:", `"a:"`}, {"a: b", `"a: b"`}, {"#", `"#"`}, {"#a", `"#a"`}, {"a #b", `"a #b"`}, {"&a", `"&a"`}, {"'a'", `"'a'"`}, {`"a"`, `"\"a\""`}, {`"`, `"\""`}, {"?", `"?"`},
		{"a,b", `"a,b"`}, {",", `","`}, {"a]", `"a]"`}, {"[", `"["`}, {"[a]", `"[a]"`}, {"a[0]", `"a[0]"`}, {"{a: b}", `"{a: b}"`}, {"a}", `"a}"`}, {"${A}", `"${A}"`}, {`a\,`, `"a\\,"`}, {"a\nb", `"a\nb"`}, {"\t", `"\t"`}, {"\x00", `"\x00"`}, {"\x7f", `"\x7f"`}, {"\x1f\xff", "\"\\x1f\xff\""},
	} {
		s, form := x[0], x[1]
		checkWrite(t, text(s), form)
		checkWrite(t, seq(text(s), text(s)), "["+form+", "+form+"]")
		checkWrite(t, dict(s, text(s)), "{"+form+": "+form+"}")
		checkWrite(t, dict("a", dict(s, null), "b", seq(dict(s, seq()))), "{a: {"+form+": null}, b: [{"+form+": []}]}")
	}
	checkWrite(t, seq(), "[]")
	checkWrite(t, dict(), "{}")
	checkWrite(t, seq(null), "[null]")
	checkWrite(t, seq(null, text("null")), `[null, "null"]`)
	checkWrite(t, dict("a", null), "{a: null}")
	checkWrite(t, seq(seq(), dict(), seq(seq())), "[[], {}, [[]]]")
	checkWrite(t, dict("b", seq(), "a", dict(), "c", seq(text("x"), dict("y", text("z")))), "{b: [], a: {}, c: [x, {y: z}]}")
	checkWrite(t, seq(text("a"), dict("b", text("c"), "d", null)), "[a, {b: c, d: null}]")
}

// sized returns all valid nodes of exactly count nodes, of a few texts and keys.
func sized(count int) []api.Node {
	if count == 1 {
		return []api.Node{null, text(""), text("x"), text("a: b"), text("x,y"), seq(), dict()}
	}
	var all []api.Node
	for _, kids := range rows(count - 1) {
		all = append(all, seq(kids...))
		for _, keys := range [][]string{{"b", "", "a"}, {"null", "b:c", "~"}, {"a,b", "b", ": "}} {
			all = append(all, api.Node{Kind: 3, Keys: keys[:len(kids)], Kids: kids})
		}
	}
	return all
}

// rows returns all lists of nodes that have exactly count nodes in all.
func rows(count int) [][]api.Node {
	if count == 0 {
		return [][]api.Node{nil}
	}
	var all [][]api.Node
	for first := 1; first <= count; first++ {
		for _, head := range sized(first) {
			for _, tail := range rows(count - first) {
				all = append(all, append([]api.Node{head}, tail...))
			}
		}
	}
	return all
}

// TestRoundTrip: promises 9.2 and 9.3, small nodes, nodes of each hard text, nodes at the bounds, and drawn ones.
func TestRoundTrip(t *testing.T) {
	for count := 1; count <= 4; count++ {
		for _, n := range sized(count) {
			checkWrite(t, n, formed(n))
		}
	}
	for _, s := range append(hardTexts(), allBytes()...) {
		for _, other := range hardTexts() {
			n := seq(text(s), dict(s, text(other)), dict(other, text(s), other+"x", null), text(other))
			checkWrite(t, n, formed(n))
		}
	}
	joined([]string{"a", ":", " ", ",", "'", `"`, "#", "-", "]", "\\"}, 4, func(s string) {
		n := dict(s, text(s))
		checkWrite(t, n, formed(n))
	})
	wide, keyed := seq(), dict()
	for i := range mostNodes - 1 {
		wide.Kids = append(wide.Kids, text(strconv.Itoa(i)))
		keyed.Keys, keyed.Kids = append(keyed.Keys, strconv.Itoa(i)), append(keyed.Kids, null)
	}
	deep := text("x")
	for i := range mostNest - 1 {
		deep = []api.Node{seq(deep), dict("k", deep)}[i%2]
	}
	for _, n := range []api.Node{wide, keyed, deep} {
		checkWrite(t, n, formed(n))
	}
	drawn(2, func(_ *rand.Rand, n api.Node) { checkWrite(t, n, formed(n)) })
}

// overwrite writes to all lists of a node, and to their elements behind the end.
func overwrite(n api.Node) {
	for i := range n.Kids {
		overwrite(n.Kids[i])
	}
	kids, keys := n.Kids[:cap(n.Kids)], n.Keys[:cap(n.Keys)]
	for i := range kids {
		kids[i] = text("written")
	}
	for i := range keys {
		keys[i] = "written"
	}
}

// TestMemory: the rules on memory: nothing that was answered changes a later answer or another list of the same one, and Write reads and writes only what is within the lengths of its argument.
func TestMemory(t *testing.T) {
	const s = "[a, {b: c, d: {e: f, g: }}, [h, [i, j, k]], {l: [m, n]}, [], {}]"
	first, _ := Parse(s)
	want := show(first)
	for i := range first.Kids {
		got, _ := Parse(s)
		other, _ := Parse(s)
		overwrite(got.Kids[i])
		got.Kids[i] = other.Kids[i]
		if show(got) != want {
			t.Errorf("what is written to element %d stands elsewhere: %s", i, show(got))
		}
		overwrite(got)
	}
	if show(first) != want {
		t.Errorf("what is written to a node stands in another one: %s", show(first))
	}
	hidden := []api.Node{text("x"), dict("a", text("y")), text("hidden"), seq(text("hidden"))}
	keys := []string{"a", "b", "hidden", "a"}
	before := show(seq(hidden...)) + strings.Join(keys, " ")
	checkWrite(t, api.Node{Kind: 2, Kids: hidden[:2]}, "[x, {a: y}]")
	checkWrite(t, api.Node{Kind: 3, Keys: keys[:2], Kids: hidden[:2]}, "{a: x, b: {a: y}}")
	checkWrite(t, api.Node{Kind: 1, Text: "x", Keys: keys[:0], Kids: hidden[:0]}, "x")
	if show(seq(hidden...))+strings.Join(keys, " ") != before {
		t.Errorf("Write has changed its argument to %s and %q", show(seq(hidden...)), keys)
	}
}

// TestWriteInvalid: promise P1, Write ends and does not panic, whatever it is given; for nodes that are not valid it returns the empty string, which is nowhere promised.
func TestWriteInvalid(t *testing.T) {
	x := text("x")
	ring := seq(x, x)
	ring.Kids[1] = ring
	many := seq()
	for range mostNodes {
		many.Kids = append(many.Kids, x)
	}
	deep := x
	for range mostNest {
		deep = seq(deep)
	}
	for range 1 << 20 {
		ring = dict("a", ring)
	}
	for _, n := range []api.Node{
		{Kind: 3, Keys: []string{"a"}}, {Kind: 3, Kids: []api.Node{x}}, {Kind: 3, Keys: []string{"a", "b"}, Kids: []api.Node{x}}, {Kind: 3, Keys: []string{"a"}, Kids: []api.Node{x, x}}, {Kind: 3, Keys: []string{"a", "a"}, Kids: []api.Node{x, x}},
		{Kind: 4}, {Kind: -1}, {Kind: 0, Text: "x"}, {Kind: 0, Kids: []api.Node{x}}, {Kind: 1, Keys: []string{"a"}}, {Kind: 2, Text: "x"}, {Kind: 3, Text: "x"}, ring, many, deep,
	} {
		for _, outer := range []api.Node{n, seq(n), dict("a", x, "b", n)} {
			if got := Write(outer); got != "" {
				t.Errorf("Write of a node that is not valid = %s", brief(got))
			}
		}
	}
}
