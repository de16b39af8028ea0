package block

import (
	"math/rand"
	"regexp"
	"slices"
	"sort"
	"strconv"
	"strings"
	"testing"

	"longshore/api"
	"longshore/flow"
	"longshore/line"
	"longshore/quote"
)

// The limits as the document writes them.
const (
	mostText  = 8192
	mostNest  = 12
	mostNodes = 2000
)

// null is the node Null; text, seq and dict write the others without the functions of the project; dict takes a key and its value in turns.
var null = api.Node{}

func text(s string) api.Node { return api.Node{Kind: 1, Text: s} }

func seq(l ...api.Node) api.Node { return api.Node{Kind: 2, Kids: l} }

func dict(l ...any) api.Node {
	n := api.Node{Kind: 3}
	for i := 0; i < len(l); i += 2 {
		n.Keys, n.Kids = append(n.Keys, l[i].(string)), append(n.Kids, l[i+1].(api.Node))
	}
	return n
}

// show writes a node so that two nodes are written alike exactly if they are equal.
func show(n api.Node) string {
	var b strings.Builder
	var write func(n api.Node)
	write = func(n api.Node) {
		b.WriteString(strconv.Itoa(n.Kind))
		if n.Text != "" {
			b.WriteString(strconv.Quote(n.Text))
		}
		for _, key := range n.Keys {
			b.WriteString(":" + strconv.Quote(key))
		}
		b.WriteString("<")
		for _, kid := range n.Kids {
			write(kid)
		}
		b.WriteString(">")
	}
	write(n)
	return b.String()
}

// brief cuts a string for a message.
func brief(s string) string {
	if len(s) > 300 {
		return s[:300] + "... (" + strconv.Itoa(len(s)) + " bytes)"
	}
	return s
}

// size counts the nodes in a node, and how deep they are nested.
func size(n api.Node) (count, depth int) {
	count, depth = 1, 1
	for _, kid := range n.Kids {
		c, d := size(kid)
		count, depth = count+c, max(depth, d+1)
	}
	return count, depth
}

// joined calls a function with all strings of up to most of the pieces.
func joined(pieces []string, most int, f func(string)) {
	var grow func(s string, more int)
	grow = func(s string, more int) {
		f(s)
		if more == 0 {
			return
		}
		for _, p := range pieces {
			grow(s+p, more-1)
		}
	}
	grow("", most)
}

// allBytes returns a string of each byte.
func allBytes() []string {
	var l []string
	for b := range 256 {
		l = append(l, string([]byte{byte(b)}))
	}
	return l
}

func checkEntry(t *testing.T, s, key, rest string, kind int) {
	t.Helper()
	if gotKey, gotRest, got := Entry(s); gotKey != key || gotRest != rest || got != kind {
		t.Errorf("Entry(%q) = %q, %q, %d; want %q, %q, %d", brief(s), gotKey, brief(gotRest), got, key, brief(rest), kind)
	}
}

// checkNoEntry checks contents that are not of map lines.
func checkNoEntry(t *testing.T, all ...string) {
	t.Helper()
	for _, s := range all {
		checkEntry(t, s, "", "", 0)
	}
}

// checkBadEntry checks contents of invalid lines.
func checkBadEntry(t *testing.T, all ...string) {
	t.Helper()
	for _, s := range all {
		checkEntry(t, s, "", "", -1)
	}
}

// checkKey checks a spelling of a key: with a colon as the last byte and before spaces and a rest, and before and without what makes no map line of it.
func checkKey(t *testing.T, form, key string) {
	t.Helper()
	for _, end := range []string{":", ": ", ":  ", ":      "} {
		checkEntry(t, form+end, key, "", 1)
	}
	for _, rest := range []string{"b", "b ", "b  c   ", "b: c", "b:", ":", ": c", "-", "- b", "'b'", "'b': c", "[b]", "{b: c}", "\tb", "\n", "\x00", "\xff", "&b", "#", "null", "'", `"`} {
		for _, gap := range []string{": ", ":  ", ":       "} {
			checkEntry(t, form+gap+rest, key, rest, 1)
		}
	}
}

// TestRow: promise 10.2, "-" alone, before a space, and before another byte, and contents that do not begin with it.
func TestRow(t *testing.T) {
	want := func(s string) bool { return s == "-" || len(s) >= 2 && s[:2] == "- " }
	check := func(s string) {
		if got := Row(s); got != want(s) {
			t.Errorf("Row(%q) = %t", s, got)
		}
	}
	for _, s := range []string{"", "-", "- ", "-  ", "- a", "-  a", "- -", "- - a", "- a: b", "-a", "--", "---", "-- a", "-: a", "-:", "-\t", "-\ta", "-\n", "-#", "- #", "-'a'", "a", "a -", "a - b", " -", " - a", ": - a", "'-'", "'- a'", `"- a"`, "[- a]", "\u2013 a", "*", "* a", "+ a"} {
		check(s)
	}
	joined(allBytes(), 2, check)
	joined([]string{"-", " ", "a", ":"}, 6, check)
	for _, b := range allBytes() {
		check("-" + b + " a")
	}
	if !Row("-") || !Row("- ") || !Row("- a") || Row("-a") || Row("") {
		t.Error("Row is wrong for the chapter's own contents")
	}
}

// TestEntryDash: promise 10.2, contents of sequence lines, and those in which another byte follows the "-".
func TestEntryDash(t *testing.T) {
	checkNoEntry(t, "-", "- ", "-  ", "- a", "- a: b", "- a:", "- : a", "- :", "-  a: b", "- - a: b", "- 'a': b", "- \"a\":", "- <<: a", "- [a]: b", "- {a: b}", "- ~: a", "-a", "--", "---", "-a:b", "-\ta", "--a")
	checkKey(t, "-a", "-a")
	checkKey(t, "--", "--")
	checkKey(t, "---", "---")
	checkKey(t, "-- a", "-- a")
	checkKey(t, "-1", "-1")
	checkKey(t, "-#", "-#")
	checkKey(t, "-:a", "-:a")
	checkKey(t, "-'a'", "-'a'")
	checkKey(t, "a -", "a -")
	checkKey(t, "a - b", "a - b")
	checkBadEntry(t, "-:", "-: a", "-:  ", "-\t: a", "-a : b", "-\n: a")
}

// TestEntryQuoted: promise 10.2, keys in quotes of both kinds: what may follow them, and quotes that are not closed.
func TestEntryQuoted(t *testing.T) {
	for _, x := range [][2]string{
		{"'a'", "a"}, {`"a"`, "a"}, {"''", ""}, {`""`, ""}, {"' '", " "}, {"' a '", " a "}, {"'it''s'", "it's"}, {`"a\"b"`, `a"b`}, {"''''", "'"}, {`'"'`, `"`}, {`"'"`, "'"}, {`"\\"`, `\`}, {`'\'`, `\`}, {`"\n\t"`, "\n\t"}, {`"\x00\x41\xfF"`, "\x00A\xff"}, {"'caf\u00e9'", "caf\u00e9"},
		{"'<<'", "<<"}, {`"<<"`, "<<"}, {"'null'", "null"}, {`"null"`, "null"}, {"'~'", "~"}, {`"~"`, "~"}, {"'a: b'", "a: b"}, {`"a: b"`, "a: b"}, {"'a:'", "a:"}, {"': '", ": "}, {`":"`, ":"}, {"'a'': b'", "a': b"}, {`"a\": b"`, `a": b`}, {"'[a]'", "[a]"}, {`"{a: b}"`, "{a: b}"}, {"'-'", "-"}, {`"- a"`, "- a"}, {"'a #b'", "a #b"}, {"'&a'", "&a"}, {"'a,b'", "a,b"},
	} {
		form := x[0]
		checkKey(t, form, x[1])
		checkNoEntry(t, form, form+" ", form+" :", form+" : b", form+"  : b", form+" a", form+"a", form+"a: b", form+" a: b", form+":b", form+":b: c", form+":b:", form+"::", form+":: b", form+":\tb", form+":\n", form+":'b'", form+":[b]", form+";: b", form+"#: b", form+",: b", form+"]: b")
		for _, b := range allBytes() {
			if b != " " {
				checkNoEntry(t, form+":"+b, form+":"+b+" c", form+":"+b+": c")
			}
			if b != ":" && b != form[:1] {
				checkNoEntry(t, form+b, form+b+": c", form+b+":", form+b+" : c")
			}
		}
	}
	checkNoEntry(t, "'", `"`, "'a", `"a`, "'a: b", `"a: b`, "'a:", `"a:`, "': b", `": b`, `'a": b`, `"a': b`, "'a'': b", `"a\": b`, `"\`, `"\: b`, `"\a": b`, `"\x4": b`, `"\xg0": b`, "'a\n': b", "\"a\n\": b", "'\t': b", "\"\t\": b", "'\x00': b", "\"\x7f\": b", "'''", `"""`, "''': b", `""": b`, "'a''b: c", `"a" "b": c`, "'a' 'b': c", "'a''b'c: d")
}

// TestEntryPlain: promise 10.2, keys without quotes, contents without a colon that counts, and several colons of which the first that counts is not the first.
func TestEntryPlain(t *testing.T) {
	for _, key := range []string{"a", "a b", "a  b", "a-b", "a_b", "web-1", "1", "8080", "a:b", "a::b", "a:b:c", "http://x", "a:'b'", "a#b", "a,b", "a, b", "a[b]", "a]", "a}", "a{b", "a'b", "it's", `a"b`, `a "b"`, "a 'b'", "a<<", "<<a", "<", "<<<", "<<:a", "< <", "nulls", "Null", "NULL", "nul", "null null", "~~", "~a", "a~", "a&b", "a*", "a|", "a>", "a!", "a?", "a@b", "a%", "a`", "=", "$A", "caf\u00e9", "\xff", "...", "a:-", "a:#b", "(a)", `\n`, "/", ".", ";", "^", "true"} {
		checkKey(t, key, key)
	}
	for _, x := range [][3]string{
		{"a: b: c", "a", "b: c"}, {"a:b: c", "a:b", "c"}, {"a:b:c: d:e: f", "a:b:c", "d:e: f"}, {"a:b:", "a:b", ""}, {"a::b: c", "a::b", "c"}, {"a: :", "a", ":"}, {"a:  : b", "a", ": b"}, {"a: b:", "a", "b:"}, {"a:\tb: c", "", ""}, {"a 'b: c'", "a 'b", "c'"}, {`a "b: c": d`, `a "b`, `c": d`}, {"a[b: c]", "a[b", "c]"}, {"a{b: c}: d", "a{b", "c}: d"},
	} {
		kind := 1
		if x[1] == "" {
			kind = -1
		}
		checkEntry(t, x[0], x[1], x[2], kind)
	}
	checkEntry(t, "::a: b", "", "", -1)
	checkNoEntry(t, "", " ", "  ", "a", "a b", "a:b", ":a", "::a", "a:b:c", "a:\tb", "a:\n", "a:\x00", "a:\xa0", "a:,", "a:]", "a:#", "a:'b'", "a:[b]", "~", "null", "<<", "<<:a", "~:a", "&a", "*a", "#", ",", "]", "}", "a ", "a\tb", "\x00", "\xff", "http://x:80/y")
}

// TestEntryBrackets: promise 10.2, contents that begin with "[" or "{", and those with other brackets.
func TestEntryBrackets(t *testing.T) {
	for _, s := range []string{"[", "{", "[]", "{}", "[a]", "{a: b}", "[a]:", "{a}:", "[a]: b", "{a: b}: c", "[a: b]", "{a: b", "[: b", "{: b", "[:", "{:", "[]: b", "{}: b", "[ a: b", "{ a: b", "['a': b]", `{"a": b}`, "[a", "{<<: b}", "[ ", "{ ~: b"} {
		checkNoEntry(t, s, s+" ")
	}
	checkBadEntry(t, "]: a", "}: a", "]:", "}:", "]a: b", "}a: b")
	checkNoEntry(t, "]", "}", "]a", "}a:b")
	checkBadEntry(t, " [a]: b", " {a: b}")
}

// TestEntryBadKeys: promise 10.2, keys that may not be written plain, the empty key, "<<", "null" and "~".
func TestEntryBadKeys(t *testing.T) {
	for _, key := range []string{"", "<<", "null", "~", " ", " a", "a ", "a  ", "  a", "~ ", " null", "<< ", " <<", ":a", ":", "::a", "?", "?a", "? a", "&a", "*a", "!a", "|", "|a", ">", ">a", "%a", "@a", "`a", ",", ",a", "]", "]a", "}", "}a", "#", "#a", "a #b", "a #", "a # b", "a\tb", "\ta", "a\t", "a\n", "\n", "\x00", "a\x00", "\x7f", "a\x1fb", "-", "-\t", " - a"} {
		for _, end := range []string{":", ": ", ":  ", ": b", ":   b", ": b: c", ": 'b'", ": [b]", ": ~"} {
			checkBadEntry(t, key+end)
		}
	}
	for b := range 256 {
		c := string([]byte{byte(b)})
		isPrintable := b >= 32 && b <= 126 || b > 127
		switch {
		case strings.Contains("'\"[{", c):
			checkNoEntry(t, c+": b", c+"a: b")
		case !isPrintable || c == " " || strings.Contains("?:,]}#&*!|>%@`", c):
			checkBadEntry(t, c+": b", c+"a: b")
		case c == "-" || c == "~":
			checkBadEntry(t, c+": b")
			checkEntry(t, c+"a: b", c+"a", "b", 1)
		default:
			checkEntry(t, c+": b", c, "b", 1)
			checkEntry(t, c+"a: b", c+"a", "b", 1)
		}
		if isPrintable && c != " " && c != ":" {
			checkEntry(t, "a"+c+": b", "a"+c, "b", 1)
		} else {
			checkBadEntry(t, "a"+c+": b")
		}
	}
}

// TestEntryGreat: promises 10.2 and P1, contents that no line can hold.
func TestEntryGreat(t *testing.T) {
	long := strings.Repeat("a", 1<<20)
	checkNoEntry(t, long, "'"+long, "["+long+": b", "- "+long+": b", strings.Repeat(":", 1<<20)+"a")
	checkEntry(t, "a:"+strings.Repeat(" ", 1<<20)+long, "a", long, 1)
	checkEntry(t, long+": "+long, long, long, 1)
	checkEntry(t, "'"+long+"': "+long, long, long, 1)
	checkBadEntry(t, strings.Repeat(":", 1<<20), strings.Repeat("a ", 1<<20)+": b")
}

// latin returns a string with a rune for each byte of s, since patterns do not see single bytes.
func latin(s string) string {
	l := make([]rune, len(s))
	for i := range len(s) {
		l[i] = rune(s[i])
	}
	return string(l)
}

// unlatin makes the bytes of such a string again.
func unlatin(s string) string {
	var l []byte
	for _, r := range s {
		l = append(l, byte(r))
	}
	return string(l)
}

// The forms of map lines as chapters 6 and 10 describe them.
var (
	doubleEntry = regexp.MustCompile(`(?s)^("(?:[^\x00-\x1f\x7f"\\]|\\["\\nt]|\\x[0-9a-fA-F]{2})*"):(?:| +(.*))\z`)
	singleEntry = regexp.MustCompile(`(?s)^('(?:[^\x00-\x1f\x7f']|'')*'):(?:| +(.*))\z`)
	plainForm   = regexp.MustCompile(`(?s)^(.*?):(?:| +(.*))\z`)
	notPlain    = regexp.MustCompile(`^\z|^~\z|^null\z|[\x00-\x1f\x7f]|^ | \z|^[?:,\[\]{}#&*!|>'"%@` + "`" + `]|^-\z|^- |:\z|: | #`)
)

// entryByPattern is what the chapter says of map lines.
func entryByPattern(s string) (key, rest string, kind int) {
	form := latin(s)
	switch {
	case s == "" || s == "-" || strings.HasPrefix(s, "- ") || s[0] == '[' || s[0] == '{':
		return "", "", 0
	case s[0] == '\'' || s[0] == '"':
		m := singleEntry.FindStringSubmatch(form)
		if s[0] == '"' {
			m = doubleEntry.FindStringSubmatch(form)
		}
		if m == nil {
			return "", "", 0
		}
		key, _, _ := quote.Scan(unlatin(m[1]), 0)
		return key, unlatin(m[2]), 1
	}
	m := plainForm.FindStringSubmatch(form)
	switch {
	case m == nil:
		return "", "", 0
	case notPlain.MatchString(m[1]) || m[1] == "<<":
		return "", "", -1
	}
	return unlatin(m[1]), unlatin(m[2]), 1
}

// TestEntryAllStrings: promise 10.2, all strings of up to a few pieces, and all of two bytes, against patterns.
func TestEntryAllStrings(t *testing.T) {
	check := func(s string) {
		key, rest, kind := entryByPattern(s)
		checkEntry(t, s, key, rest, kind)
	}
	joined([]string{"a", ":", " ", "'", `"`, "-", "["}, 6, check)
	joined([]string{"a", ": ", ":", " #", "<<", "~", "null", "{", "\n", "\xff", "?"}, 4, check)
	joined([]string{"'", `"`, `\`, "n", "x4f", ":", " "}, 6, check)
	joined(allBytes(), 2, check)
	for _, b := range allBytes() {
		for _, around := range []string{"a: b", "'a': b", `"a": b`, "a:", "'a':", "- a", "-", "a b: c", "''''"} {
			for i := range len(around) + 1 {
				check(around[:i] + b + around[i:])
				if i < len(around) {
					check(around[:i] + b + around[i+1:])
				}
			}
		}
	}
}

func checkParse(t *testing.T, s string, want api.Node, no int, e api.Errno) {
	t.Helper()
	if got, gotNo, gotE := Parse(s); show(got) != show(want) || gotNo != no || gotE != e {
		t.Errorf("Parse(%q) = %s, %d, %v; want %s, %d, %v", brief(s), brief(show(got)), gotNo, gotE, brief(show(want)), no, e)
	}
}

// inFlow returns the node of a flow value; expected nodes are written as such.
func inFlow(t *testing.T, s string) api.Node {
	t.Helper()
	n, e := flow.Parse(s)
	if e != api.OK {
		t.Fatalf("%q is no flow value", s)
	}
	return n
}

// lead is the indentation of a line, and one "-" in it with the spaces behind it.
var (
	lead     = regexp.MustCompile(`(?m)^ *(?:- +)*`)
	oneDash  = regexp.MustCompile(`- +`)
	ofSpaces = regexp.MustCompile(`^ *`)
)

// widened returns the file s with all blocks' indentations multiplied by m.
func widened(s string, m int) string {
	return lead.ReplaceAllStringFunc(s, func(l string) string {
		l = ofSpaces.ReplaceAllStringFunc(l, func(spaces string) string { return strings.Repeat(spaces, m) })
		return oneDash.ReplaceAllStringFunc(l, func(dash string) string { return "-" + strings.Repeat(" ", m*len(dash)-1) })
	})
}

// layouts calls a function with the file s in many layouts, and with the number that its line no has there. All quoted strings of s must be closed, or some of what is added would not be comments.
func layouts(s string, no int, f func(s string, no int)) {
	f(s, no)
	f(s+"\n", no)
	f(s+"\n\n  \n", no)
	f(s+"\n# end", no)
	for _, m := range []int{2, 3, 7} {
		f(widened(s, m), no)
	}
	l := strings.Split(s, "\n")
	for _, around := range [][3]string{{"", "   ", "\n"}, {"", " # c", "\n"}, {"", "  # 'c' \"d\": - [e", "\n"}, {" ", "", "\n"}, {"     ", "", "\n"}} {
		f(around[0]+strings.Join(l, around[1]+around[2]+around[0])+around[1], no)
	}
	for _, between := range []string{"\n", "   \n", "# c\n", "          # c: [d\n", "#\n", " #- 'c\n"} {
		f(between+strings.Join(l, "\n"+between), 2*no)
	}
	f("\n# c\n"+strings.Join(l, " #\n\n    # d\n"), 3*no)
}

// checkFile checks that a file, in all layouts, has the node that is written as a flow value.
func checkFile(t *testing.T, s, want string) {
	t.Helper()
	n := inFlow(t, want)
	layouts(s, 0, func(s string, no int) { checkParse(t, s, n, no, api.OK) })
}

// checkWrong checks that a file, in all layouts, has its first wrong line at this number.
func checkWrong(t *testing.T, s string, no int) {
	t.Helper()
	layouts(s, no, func(s string, no int) { checkParse(t, s, null, no, api.ErrSyntax) })
}

// TestParseExamples: promise 10.1, the chapter's example, and files as they are used.
func TestParseExamples(t *testing.T) {
	checkFile(t, "a:\n- x\n- b: 1\n  c: [2]", "{a: [x, {b: 1, c: [2]}]}")
	checkFile(t, "name: shop\nservices:\n  web:\n    image: nginx:1.25\n    ports: ['8080:80', 8443:443]\n    depends_on:\n      db: {condition: service_healthy, required: true}\n    command:\n    - run\n    - -v\n    - \"--name=it's\"\n  db:\n    image: pg\n    environment:\n      A: 'b: c'\n      B:\n      C: ''\nvolumes:\n  data: {}\nnetworks:\n  front:", "{name: shop, services: {web: {image: nginx:1.25, ports: ['8080:80', 8443:443], depends_on: {db: {condition: service_healthy, required: true}}, command: [run, -v, \"--name=it's\"]}, db: {image: pg, environment: {A: 'b: c', B: , C: ''}}}, volumes: {data: {}}, networks: {front: }}")
	checkFile(t, "- - a\n  - - b\n    -\n      c: d\n      e:\n- f", "[[a, [b, {c: d, e: }]], f]")
	checkFile(t, "b: 1\na: 2\nc: 3", "{b: 1, a: 2, c: 3}")
}

// TestParseNone: promise 10.1, files without a line that has content.
func TestParseNone(t *testing.T) {
	for _, s := range []string{"", "\n", "\n\n\n", " ", "   \n  ", "#", "# a: b", "  # a\n\n# b\n", " #\n#", strings.Repeat("\n", mostText), strings.Repeat(" ", mostText), "#" + strings.Repeat("a", mostText-1)} {
		checkParse(t, s, null, 0, api.OK)
	}
}

// TestParseSplitErrors: promise 10.1, errors of line.Split with their numbers, which come before all others.
func TestParseSplitErrors(t *testing.T) {
	for _, x := range []struct {
		s  string
		no int
	}{
		{"a\tb", 1}, {"\t", 1}, {"a: 1\n\tb: 2", 2}, {"a: 1\n\n\nb:\t2", 4}, {"a: 'b", 1}, {"a: \"b", 1}, {"- a\n- 'b\n- c", 2}, {"a: \"\\q\"", 1}, {"a: b\r\nc: d", 1}, {"a\x00", 1}, {"---", 1}, {"---\na: b", 1}, {"a: b\n---\nc: d", 2}, {"a: b\n...", 2}, {"...", 1}, {"a: 1\nb: it 's\n", 2},
		{"x\ny\nz\t", 3}, {"a: 1\na: 2\n: 3\n'", 4}, {"- [[\n  &a\n---", 3}, {"a: " + strings.Repeat("[", 13) + strings.Repeat("]", 13) + "\n'b", 2}, {strings.Repeat("-\n", 2000) + "\t", 2001}, {strings.Repeat("- ", 20) + "a\n\x7f", 2},
	} {
		checkParse(t, x.s, null, x.no, api.ErrSyntax)
	}
	for _, s := range []string{strings.Repeat("a", mostText+1), strings.Repeat("\n", mostText+1), "a\n\t" + strings.Repeat("\n", mostText), ": a\n" + strings.Repeat("b\n", mostText), "# " + strings.Repeat("a", mostText)} {
		checkParse(t, s, null, 0, api.ErrBound)
	}
	checkParse(t, strings.Repeat("a", mostText), text(strings.Repeat("a", mostText)), 0, api.OK)
	checkParse(t, "a: "+strings.Repeat("b", mostText-3), dict("a", text(strings.Repeat("b", mostText-3))), 0, api.OK)
	checkFile(t, "a:\n  ---", "{a: '---'}")
	checkFile(t, "- ...\n- ---", "[..., '---']")
	checkFile(t, "---: a", "{'---': a}")
	checkParse(t, " ---", text("---"), 0, api.OK)
}

// places are files with a value at @, the number of the line in which it stands first, and the file's node.
var places = []struct {
	s    string
	no   int
	node func(v api.Node) api.Node
}{
	{"@", 1, func(v api.Node) api.Node { return v }},
	{"    @", 1, func(v api.Node) api.Node { return v }},
	{"- @", 1, func(v api.Node) api.Node { return seq(v) }},
	{"-    @", 1, func(v api.Node) api.Node { return seq(v) }},
	{"-\n  @", 2, func(v api.Node) api.Node { return seq(v) }},
	{"-\n @\n- x", 2, func(v api.Node) api.Node { return seq(v, text("x")) }},
	{"- x\n- @\n- y", 2, func(v api.Node) api.Node { return seq(text("x"), v, text("y")) }},
	{"- @\n- @", 1, func(v api.Node) api.Node { return seq(v, v) }},
	{"- - @", 1, func(v api.Node) api.Node { return seq(seq(v)) }},
	{"- -\n   @\n- x", 2, func(v api.Node) api.Node { return seq(seq(v), text("x")) }},
	{"- - x\n  - @\n-", 2, func(v api.Node) api.Node { return seq(seq(text("x"), v), null) }},
	{"a: @", 1, func(v api.Node) api.Node { return dict("a", v) }},
	{"'a':    @", 1, func(v api.Node) api.Node { return dict("a", v) }},
	{"\"a\": @\nb: x", 1, func(v api.Node) api.Node { return dict("a", v, "b", text("x")) }},
	{"a:\n  @", 2, func(v api.Node) api.Node { return dict("a", v) }},
	{"a:\n @\nb: @", 2, func(v api.Node) api.Node { return dict("a", v, "b", v) }},
	{"a: x\nb: @\nc: y", 2, func(v api.Node) api.Node { return dict("a", text("x"), "b", v, "c", text("y")) }},
	{"a:\n- @", 2, func(v api.Node) api.Node { return dict("a", seq(v)) }},
	{"a:\n- x\n- @\nb: y", 3, func(v api.Node) api.Node { return dict("a", seq(text("x"), v), "b", text("y")) }},
	{"a:\n  b:\n    c: @\n  d: x\ne:", 3, func(v api.Node) api.Node {
		return dict("a", dict("b", dict("c", v), "d", text("x")), "e", null)
	}},
	{"- a: @\n  b: x", 1, func(v api.Node) api.Node { return seq(dict("a", v, "b", text("x"))) }},
	{"- a: x\n  b: @\n- @", 2, func(v api.Node) api.Node { return seq(dict("a", text("x"), "b", v), v) }},
	{"- a:\n    @\n  b:\n  - @", 2, func(v api.Node) api.Node { return seq(dict("a", v, "b", seq(v))) }},
}

// checkValue checks a value in all places.
func checkValue(t *testing.T, form string, v api.Node) {
	t.Helper()
	for _, x := range places {
		layouts(strings.ReplaceAll(x.s, "@", form), 0, func(s string, no int) { checkParse(t, s, x.node(v), no, api.OK) })
	}
}

// checkBadValue checks what is refused as a value, with this error, in all places, with other wrong lines behind it.
func checkBadValue(t *testing.T, form string, e api.Errno) {
	t.Helper()
	for _, x := range places {
		s := strings.ReplaceAll(x.s, "@", form)
		layouts(s, x.no, func(s string, no int) { checkParse(t, s, null, no, e) })
		for _, behind := range []string{"x", ": x", "a: x", "       x", "- &x", "&x", strings.Repeat("[", 13) + strings.Repeat("]", 13)} {
			checkParse(t, s+"\n"+behind, null, x.no, e)
		}
	}
}

// nested returns n sequences in each other in brackets.
func nested(n int) string { return strings.Repeat("[", n) + strings.Repeat("]", n) }

// many returns a sequence of n elements in brackets.
func many(n int) string { return "[" + strings.Repeat("a,", n-1) + "a]" }

// TestParseValues: promise 10.1, value lines and values of entries: scalars and values in brackets, as the outermost block and in all others.
func TestParseValues(t *testing.T) {
	checkValue(t, "~", null)
	checkValue(t, "null", null)
	for _, s := range []string{"x", "x y", "x  y", "a:b", "a::b", "http://x:80/y", "it's", `a"b`, "a#b", "-x", "--", "-1", "a-", "1.5", "Null", "~~", "<<", "a,b", "a, b", "a]", "a}", "a[0]", "a{b}", "${A}", "$A", "=", "caf\u00e9", "\xff", "a 'b'", "a [b], {c}"} {
		checkValue(t, s, text(s))
	}
	for _, x := range [][2]string{{"''", ""}, {`""`, ""}, {"'x'", "x"}, {`"x"`, "x"}, {"' x '", " x "}, {"'a: b'", "a: b"}, {`"a:"`, "a:"}, {"'- a'", "- a"}, {"'-'", "-"}, {"'# a'", "# a"}, {`"a #b"`, "a #b"}, {`"a\nb"`, "a\nb"}, {"'it''s'", "it's"}, {`"[a]"`, "[a]"}, {"'{'", "{"}, {"'~'", "~"}, {"'null'", "null"}, {"'&a'", "&a"}, {`"\x00\xfF"`, "\x00\xff"}} {
		checkValue(t, x[0], text(x[1]))
	}
	for _, s := range []string{"[]", "{}", "[ ]", "{ }", "[a]", "[a, b]", "[a,b]", "{a: b}", "{a: b, 'c':d}", "[[], {}]", "{a: [x, {b: }], c: }", "['a: b', \"- c\"]", "[-a]", "{'<<': a}", "{a: {b: {c: [~]}}}", "['#', \"# a\"]", "[ a , b ]"} {
		checkValue(t, s, inFlow(t, s))
	}
}

// TestParseBadValues: promise 10.1, values that flow.Parse and flow.Scalar refuse, and which of them are beyond the bounds.
func TestParseBadValues(t *testing.T) {
	for _, s := range []string{"&x", "*x", "!x", "|", ">", "%x", "@x", "`x", "?", "? x", ",", ",x", "]", "}", ":x", "'x' y", "'x'y", `"x"y`, `"x" "y"`, "'x' 'y'", "'x':y", "[", "{", "[x", "{x: y", "[x]]", "[x] y", "[x], [y]", "{x: y} z", "{}{}", "[x, ]", "[,]", "{x: y, x: z}", "{x}", "[x: y]", "{&x: y}", "[&x]", "{<<: ~, ~: x}", "{null: x}", "[x]: y", "{x: y}: z", "[]:", "{}:", nested(13) + "x", "[" + nested(13), nested(13) + "]", nested(20) + ": x", many(2000) + ",", "[{x: y, x: " + nested(13) + "}]"} {
		checkBadValue(t, s, api.ErrSyntax)
	}
	for _, s := range []string{nested(13), nested(14), nested(500), many(2000), strings.Repeat("{a: ", 12) + "b" + strings.Repeat("}", 12), strings.Repeat("[", 11) + "{a: b, c: [d]}" + strings.Repeat("]", 11), "[" + many(1000) + ", " + many(998) + "]"} {
		checkBadValue(t, s, api.ErrBound)
	}
	for _, s := range []string{"-", "- x", "x: y", "x:", ": x", ":", "'x': y", `"x":`, "- - x", "a: b: c"} {
		checkWrong(t, "a: "+s, 1)
		checkWrong(t, "- a: "+s, 1)
		checkWrong(t, "a:\n- x\nb: "+s, 3)
	}
}

// TestParseBoundOrKey: promise 10.1, ErrBound only if flow.Parse returns it and the key is valid, and only for a line in its place.
func TestParseBoundOrKey(t *testing.T) {
	for _, great := range []string{nested(13), many(2000)} {
		for _, key := range []string{"", "<<", "null", "~", "&a", "a ", "-", "? a"} {
			checkWrong(t, key+": "+great, 1)
			checkWrong(t, "a: x\nb:\n  c: y\n  "+key+": "+great, 4)
			checkWrong(t, "- x\n- "+key+": "+great, 2)
		}
		checkWrong(t, "'a':"+great, 1)
		checkWrong(t, "'a' : "+great, 1)
		checkWrong(t, "a: x\na: "+great, 2)
		checkWrong(t, "- a: x\n  \"a\": "+great, 2)
		checkWrong(t, "x\n"+great, 2)
		checkWrong(t, "- x\n  "+great, 2)
		checkWrong(t, "- x\n"+great, 2)
		checkWrong(t, "a: x\n"+great, 2)
		checkWrong(t, "a: x\n  "+great, 2)
		checkWrong(t, "a: x\n- "+great, 2)
		checkWrong(t, "a:\n    x\n  b: "+great, 3)
		checkWrong(t, "a: x\n  b: "+great, 2)
		checkWrong(t, "a: "+great+" x", 1)
		checkWrong(t, "a: x"+great+": y", 1)
		checkParse(t, "a: x\nb: "+great, null, 2, api.ErrBound)
		checkParse(t, "'<<': "+great, null, 1, api.ErrBound)
		checkParse(t, "a:\n- "+great+"\na: x", null, 2, api.ErrBound)
	}
	checkParse(t, "a"+nested(13), text("a"+nested(13)), 0, api.OK)
	checkParse(t, "'"+nested(13)+"'", text(nested(13)), 0, api.OK)
}

// TestParseDash: promise 10.1, a "-" with nothing behind it: before a deeper line, one of the same and of a smaller indentation, and none.
func TestParseDash(t *testing.T) {
	checkFile(t, "-", "[null]")
	checkFile(t, "-\n-", "[null, null]")
	checkFile(t, "-\n- x\n-", "[null, x, null]")
	checkFile(t, "-\n x", "[x]")
	checkFile(t, "-\n      x\n-\n  y", "[x, y]")
	checkFile(t, "-\n  a: x\n  b: y\n- z", "[{a: x, b: y}, z]")
	checkFile(t, "-\n - x\n - y\n-\n  - z", "[[x, y], [z]]")
	checkFile(t, "-\n  -\n    -\n      x", "[[[x]]]")
	checkFile(t, "-\n  -\n-", "[[null], null]")
	checkFile(t, "-\n  [x, y]", "[[x, y]]")
	checkFile(t, "a:\n  -\nb: x", "{a: [null], b: x}")
	checkFile(t, "a:\n-\nb: x", "{a: [null], b: x}")
	checkFile(t, "a:\n-\n-\n  x\nb:", "{a: [null, x], b: }")
	checkFile(t, "- a:\n  -\n-", "[{a: [null]}, null]")
	checkFile(t, "- -\n-", "[[null], null]")
	checkFile(t, "- -\n  -\n-", "[[null, null], null]")
	checkFile(t, "- -\n   x", "[[x]]")
	checkWrong(t, "- -\n  x", 2)
	checkWrong(t, "- -\n x", 2)
	checkWrong(t, "- -\n    x\n   y", 3)
	checkWrong(t, "-\nx", 2)
	checkWrong(t, "-\na: x", 2)
	checkWrong(t, "-\n  x\n y", 3)
	checkWrong(t, "-\n  x\n - y", 3)
	checkWrong(t, "-\n  x\n  - y", 3)
	checkWrong(t, "  -\nx", 2)
	checkWrong(t, "  -\n-", 2)
	checkWrong(t, "  - x\n - y", 2)
	checkWrong(t, "-\n  : x", 2)
	checkWrong(t, "-\n: x", 2)
	checkWrong(t, "-\n  &x", 2)
}

// TestParseElement: promise 10.1, a "-" with a value, a map entry, another "-" and several spaces behind it.
func TestParseElement(t *testing.T) {
	checkFile(t, "- x", "[x]")
	checkFile(t, "-     x\n- y\n-  z", "[x, y, z]")
	checkFile(t, "- a: x", "[{a: x}]")
	checkFile(t, "- a: x\n  b: y\n- a: z", "[{a: x, b: y}, {a: z}]")
	checkFile(t, "-    a: x\n     b: y\n- c:", "[{a: x, b: y}, {c: }]")
	checkFile(t, "- a:\n    x\n  b:\n    c: y\n  d:\n  - z", "[{a: x, b: {c: y}, d: [z]}]")
	checkFile(t, "- a:\n   x\n  b: y", "[{a: x, b: y}]")
	checkFile(t, "- a:\n- b:", "[{a: }, {b: }]")
	checkFile(t, "- 'a b': x\n  \"c\":\n  - y", "[{'a b': x, c: [y]}]")
	checkFile(t, "- - x", "[[x]]")
	checkFile(t, "- - x\n  - y\n- - z", "[[x, y], [z]]")
	checkFile(t, "-   - x\n    - y\n- -   z\n  - w", "[[x, y], [z, w]]")
	checkFile(t, "- - - x\n    - y\n  - z\n- w", "[[[x, y], z], w]")
	checkFile(t, "- - a: x\n    b: y\n  - c: z", "[[{a: x, b: y}, {c: z}]]")
	checkFile(t, "- - - -", "[[[[null]]]]")
	checkFile(t, "- [x, y]\n- {a: b}\n- []", "[[x, y], {a: b}, []]")
	checkFile(t, "- -x\n- --\n- - -1", "[-x, '--', [-1]]")
	checkFile(t, "- x\n- x", "[x, x]")
	checkWrong(t, "- a: x\n b: y", 2)
	checkWrong(t, "- a: x\n   b: y", 2)
	checkWrong(t, "-  a: x\n  b: y", 2)
	checkWrong(t, "- a: x\n- b: y\n b: z", 3)
	checkWrong(t, "- a: x\nb: y", 2)
	checkWrong(t, "- a: x\n  y", 2)
	checkWrong(t, "- a: x\n  - y", 2)
	checkWrong(t, "- x\n  y", 2)
	checkWrong(t, "- x\n  a: y", 2)
	checkWrong(t, "- x\n  - y", 2)
	checkWrong(t, "- - x\n - y", 2)
	checkWrong(t, "- - x\n   - y", 2)
	checkWrong(t, "- - x\n  y", 2)
	checkWrong(t, "- - x\n  a: y", 2)
	checkWrong(t, "-   - x\n  - y", 2)
	checkWrong(t, "- x\n-y", 2)
	checkWrong(t, "- : x", 1)
	checkWrong(t, "- - <<: x", 1)
	checkWrong(t, "- x\n- - &y", 2)
	checkWrong(t, "-x\n- y", 2)
}

// TestParseColon: promise 10.1, an entry with nothing behind the colon: before a deeper line, a sequence line and a map line of the same indentation, others, and none.
func TestParseColon(t *testing.T) {
	checkFile(t, "a:", "{a: }")
	checkFile(t, "'a':", "{a: }")
	checkFile(t, "a:\nb:", "{a: , b: }")
	checkFile(t, "a:\nb: x\nc:", "{a: , b: x, c: }")
	checkFile(t, "a:\n x", "{a: x}")
	checkFile(t, "a:\n      x\nb:\n  'y'", "{a: x, b: y}")
	checkFile(t, "a:\n  b: x\n  c: y\nd: z", "{a: {b: x, c: y}, d: z}")
	checkFile(t, "a:\n  b:\n    c:\n      d:\ne:", "{a: {b: {c: {d: }}}, e: }")
	checkFile(t, "a:\n  b:\n    c: x\n  d: y\ne: z", "{a: {b: {c: x}, d: y}, e: z}")
	checkFile(t, "a:\n  b:\n      c:\n          d: x\ne: y", "{a: {b: {c: {d: x}}}, e: y}")
	checkFile(t, "a:\n - x\n - y\nb: z", "{a: [x, y], b: z}")
	checkFile(t, "a:\n- x\n- y\nb: z", "{a: [x, y], b: z}")
	checkFile(t, "a:\n- x\nb:\n- y\nc:\n  - z", "{a: [x], b: [y], c: [z]}")
	checkFile(t, "a:\n- b:\n  - c:\n    - x\n    d:\n  e: y\nf:", "{a: [{b: [{c: [x], d: }], e: y}], f: }")
	checkFile(t, "a:\n  b:\n  - x\n  c: y\nd:\n- z", "{a: {b: [x], c: y}, d: [z]}")
	checkFile(t, "- a:\n  - x\n- b:\n- - y", "[{a: [x]}, {b: }, [y]]")
	checkFile(t, "- a:\n  b:\n-\n  c:", "[{a: , b: }, {c: }]")
	checkFile(t, "a:\n  [x]\nb:\n  {c: d}", "{a: [x], b: {c: d}}")
	checkFile(t, "a: \nb:   \n'c': ", "{a: , b: , c: }")
	checkWrong(t, "a:\nx", 2)
	checkWrong(t, "a:\n[x]", 2)
	checkWrong(t, "  a:\n x", 2)
	checkWrong(t, "  a:\n- x", 2)
	checkWrong(t, "  a:\n - x", 2)
	checkWrong(t, "  a:\nb:", 2)
	checkWrong(t, "a:\n- x\ny", 3)
	checkWrong(t, "a:\n- x\n  y", 3)
	checkWrong(t, "a:\n- x\n b: y", 3)
	checkWrong(t, "a:\n - x\n- y", 3)
	checkWrong(t, "a:\n  x\n- y", 3)
	checkWrong(t, "a:\n  b: x\n- y", 3)
	checkWrong(t, "a:\n- x\nb: y\n- z", 4)
	checkWrong(t, "a:\n  b:\n- x", 3)
	checkWrong(t, "a: x\n- y", 2)
	checkWrong(t, "a: ~\n- y", 2)
	checkWrong(t, "a: ''\n  x", 2)
	checkWrong(t, "a:\n: x", 2)
	checkWrong(t, "a:\n  : x", 2)
	checkWrong(t, "a:\n  <<: x", 2)
	checkWrong(t, "a:\n- : x", 2)
}

// TestParseEntry: promise 10.1, an entry with a value behind its colon, and keys of all kinds.
func TestParseEntry(t *testing.T) {
	checkFile(t, "a: x", "{a: x}")
	checkFile(t, "a:     x\nb:  y", "{a: x, b: y}")
	checkFile(t, "a:b: x", "{'a:b': x}")
	checkFile(t, "a b: x y", "{a b: x y}")
	checkFile(t, "'': x\n\"a: b\": y\n'<<': z\n'null':\n\"~\": w\n'- a': v", "{'': x, 'a: b': y, '<<': z, 'null': , '~': w, '- a': v}")
	checkFile(t, "a,b: x\nc]: y\n-d: z", "{'a,b': x, 'c]': y, -d: z}")
	checkFile(t, "a: [x]\nb: {c: d}\ne: 'f'", "{a: [x], b: {c: d}, e: f}")
	for _, key := range []string{"", "<<", "null", "~", "&a", "*a", "!a", "?", "? a", "a ", ":a", "]", "@a", "-", "|", "\"a\" ", "'a' b", "'a'b", "[a]", "{a}", "{a: b}"} {
		for _, behind := range []string{":", ": x", ":\n  x"} {
			checkWrong(t, key+behind, 1)
			checkWrong(t, "b: x\n"+key+behind, 2)
			checkWrong(t, "b:\n  c: x\n  "+key+behind, 3)
			checkWrong(t, "b:\n  "+key+behind, 2)
			checkWrong(t, "- x\n- "+key+behind, 2)
			checkWrong(t, "- b: x\n  "+key+behind, 2)
		}
	}
}

// TestParseKeyTwice: promise 10.1, duplicate keys, also in different spellings, and equal keys of different maps.
func TestParseKeyTwice(t *testing.T) {
	spellings := []string{"a", "'a'", `"a"`, `"\x61"`}
	for _, first := range spellings {
		for _, second := range spellings {
			checkWrong(t, first+": x\n"+second+": x", 2)
			checkWrong(t, first+":\n"+second+":", 2)
			checkWrong(t, first+":\n  b: x\nc: y\n"+second+": z\nd: w", 4)
			checkWrong(t, "- "+first+": x\n  "+second+": y", 2)
			checkWrong(t, "c:\n  "+first+":\n  - x\n  "+second+":\n  - y", 4)
			checkWrong(t, first+": x\n"+second+":\n  : y", 2)
			checkWrong(t, first+": x\n"+second+": &y", 2)
			checkFile(t, first+":\n  "+second+": x", "{a: {a: x}}")
			checkFile(t, first+":\n- "+second+": x\n- a: y", "{a: [{a: x}, {a: y}]}")
			checkFile(t, "b:\n  "+first+": x\nc:\n  "+second+": y\na: z", "{b: {a: x}, c: {a: y}, a: z}")
		}
	}
	checkFile(t, "a: 1\nA: 2\naa: 3\n' a': 4\n'a ': 5\n'': 6", "{a: 1, A: 2, aa: 3, ' a': 4, 'a ': 5, '': 6}")
	checkWrong(t, "'': x\n\"\": y", 2)
	checkWrong(t, "'<<': x\n\"<<\": y", 2)
	checkWrong(t, "a: 1\nb: 2\nc: 3\nb: 4\na: 5", 4)
	s := ""
	for i := range 300 {
		s += "k" + strconv.Itoa(i) + ":\n"
	}
	for _, i := range []int{0, 1, 150, 299} {
		checkParse(t, s+"k"+strconv.Itoa(i)+": x", null, 301, api.ErrSyntax)
	}
}

// TestParseOutOfPlace: promise 10.1, lines behind a block that are out of place: deeper than it, between two blocks' indentations, of its own indentation, and behind the outermost block.
func TestParseOutOfPlace(t *testing.T) {
	blocks := []struct {
		s    string
		cols []int // the indentations of the blocks that may go on behind it
	}{
		{"x", nil}, {"[x]", nil}, {"- x", []int{0}}, {"a: x", []int{0}}, {"a:\n    x", []int{0}}, {"a:\n    b: x", []int{0, 4}}, {"a:\n    - x", []int{0, 4}}, {"-   x", []int{0}}, {"-   a: x", []int{0, 4}}, {"-   - x", []int{0, 4}}, {"-\n    - x", []int{0, 4}}, {"-\n    a: x", []int{0, 4}}, {"a:\n   b:\n      c: x", []int{0, 3, 6}}, {"-  -  - x", []int{0, 3, 6}}, {"-  a:\n       - x", []int{0, 3, 7}},
	}
	for _, x := range blocks {
		for indent := range 12 {
			if slices.Contains(x.cols, indent) {
				continue
			}
			count := 1 + strings.Count(x.s, "\n")
			for _, content := range []string{"y", "z: y", "z:", "- y", "-", "'y'", "[y]", ": y", "&y"} {
				checkWrong(t, x.s+"\n"+strings.Repeat(" ", indent)+content, count+1)
				checkParse(t, x.s+"\n"+strings.Repeat(" ", indent)+content+"\nw\n: v", null, count+1, api.ErrSyntax)
			}
		}
	}
	checkWrong(t, "a: 1\n  b: 2", 2)
	checkWrong(t, "a:\n  b: 1\n c: 2", 3)
	checkWrong(t, "a:\n    b: 1\n  c: 2\nd: 3", 3)
	checkWrong(t, "x\ny", 2)
	checkWrong(t, "- x\ny", 2)
	checkWrong(t, "a: x\ny", 2)
	checkWrong(t, "  a: x\nb: y", 2)
	checkWrong(t, "  - x\n- y", 2)
	checkWrong(t, "  x\ny", 2)
	checkWrong(t, "a: [x,\n  y]", 1)
	checkWrong(t, "a: x\n  y", 2)
	checkWrong(t, "a: |\n  x", 1)
	checkWrong(t, "a:\n  b:\n    - x\n   c: y", 4)
	checkWrong(t, "a:\n- - x\n - y", 3)
}

// TestParseFirstWrong: promise 10.1, of several wrong lines the first one counts.
func TestParseFirstWrong(t *testing.T) {
	wrong := []string{": x", "<<: x", "c: &x", "c: [x", "a: x", "x", "- x", "  x", "  d: x", " e: x", "c: " + nested(13), "c: x: y", "'c' : x", "[x]: y"}
	for _, first := range wrong {
		for _, second := range wrong {
			for _, third := range wrong {
				e := api.ErrSyntax
				if first == "c: "+nested(13) {
					e = api.ErrBound
				}
				checkParse(t, "a: 1\nb: 2\n"+first+"\n"+second+"\n"+third, null, 3, e)
				checkParse(t, "\na: 1\n# c\n"+first+"\n\n"+second+"\nf: 1\n"+third, null, 4, e)
			}
		}
	}
	checkWrong(t, "a: 1\nb:\n  c: 1\n  c: 2\na: 2\n: 3", 4)
	checkWrong(t, "- a: 1\n- &b\n- *c", 2)
	checkWrong(t, "a:\n  - b: 1\n    b: 2\n  - : 1\na: 3", 3)
	checkWrong(t, strings.Repeat("- ", 20)+"a\nb", 2)
	checkParse(t, strings.Repeat("-\n", 2500)+"x", null, 2501, api.ErrSyntax)
	checkParse(t, strings.Repeat("-\n", 2500)+"- "+nested(13), null, 2501, api.ErrBound)
}

// interleaved returns the first n keys of a map and their values in turns.
func interleaved(m api.Node, n int) []any {
	var l []any
	for i := range n {
		l = append(l, m.Keys[i], m.Kids[i])
	}
	return l
}

// TestParseNodes: promise 10.1, nodes that are not valid as a whole, with the number 0, and the greatest valid ones.
func TestParseNodes(t *testing.T) {
	rows := func(n int) api.Node { return api.Node{Kind: 2, Kids: make([]api.Node, n)} }
	const signs = "abcdefghijklmnopqrstuvwxyzABCDEFGHIJKLMNOPQRSTUVWXYZ0123456789"
	keys, keyed := "", dict()
	for i := range mostNodes - 1 {
		key := string([]byte{signs[i/len(signs)], signs[i%len(signs)]})
		keys += key + ":\n"
		keyed.Keys, keyed.Kids = append(keyed.Keys, key), append(keyed.Kids, null)
	}
	checkParse(t, keys, keyed, 0, api.OK)
	checkParse(t, keys+"ZZ:", null, 0, api.ErrBound)
	checkParse(t, keys+"aa:", null, 2000, api.ErrSyntax)
	checkParse(t, "- "+strings.TrimSuffix(strings.ReplaceAll(keys[:2000], "\n", "\n  "), "  ")+"- "+many(1000), seq(dict(interleaved(keyed, 500)...), inFlow(t, many(1000))), 0, api.OK)
	checkParse(t, strings.Repeat("-\n", 1999), rows(1999), 0, api.OK)
	checkParse(t, strings.Repeat("-\n", 2000), null, 0, api.ErrBound)
	checkParse(t, strings.Repeat("-\n", 2001), null, 0, api.ErrBound)
	checkParse(t, strings.Repeat("-\n", 4096), null, 0, api.ErrBound)
	checkParse(t, "a:\n"+strings.Repeat("-\n", 1998), dict("a", rows(1998)), 0, api.OK)
	checkParse(t, "a:\n"+strings.Repeat("-\n", 1999), null, 0, api.ErrBound)
	checkParse(t, "- "+many(1000)+"\n- "+many(997), seq(inFlow(t, many(1000)), inFlow(t, many(997))), 0, api.OK)
	checkParse(t, "- "+many(1000)+"\n- "+many(998), null, 0, api.ErrBound)
	checkParse(t, "- "+many(1999), null, 0, api.ErrBound)
	checkParse(t, "a: "+many(1999), null, 0, api.ErrBound)
	checkParse(t, many(1999), inFlow(t, many(1999)), 0, api.OK)
	checkParse(t, many(2000), null, 1, api.ErrBound)
}

// TestParseDepth: promise 10.1, nodes of depth 12 and 13 of sequence blocks, map blocks and values in brackets, and much deeper ones.
func TestParseDepth(t *testing.T) {
	for total := range 20 {
		for inside := range 12 {
			blocks := total - inside
			if blocks < 0 || inside == 0 {
				continue
			}
			dashes, maps, mixed := strings.Repeat("- ", blocks)+nested(inside), "", ""
			for i := range blocks {
				maps += strings.Repeat(" ", i) + "a:\n"
				mixed += strings.Repeat(" ", i/2) + []string{"a:\n", "-\n"}[i%2]
			}
			maps += strings.Repeat(" ", blocks) + nested(inside)
			mixed += strings.Repeat(" ", blocks) + nested(inside)
			for i, s := range []string{dashes, maps, mixed} {
				if total > mostNest {
					layouts(s, 0, func(s string, no int) { checkParse(t, s, null, no, api.ErrBound) })
					continue
				}
				n := inFlow(t, nested(inside))
				for j := range blocks {
					if i == 0 || i == 2 && (blocks-1-j)%2 == 1 {
						n = seq(n)
					} else {
						n = dict("a", n)
					}
				}
				layouts(s, 0, func(s string, no int) { checkParse(t, s, n, no, api.OK) })
			}
		}
	}
	checkFile(t, strings.Repeat("- ", 10)+"-", strings.Repeat("[", 11)+"null"+strings.Repeat("]", 11))
	checkParse(t, strings.Repeat("- ", 11)+"-", null, 0, api.ErrBound)
	checkParse(t, strings.Repeat("- ", 11)+"a:", null, 0, api.ErrBound)
	checkParse(t, strings.Repeat("- ", mostText/2-1)+"--", null, 0, api.ErrBound)
	checkParse(t, strings.Repeat("- ", mostText/2-1)+"-", null, 0, api.ErrBound)
	checkParse(t, strings.Repeat("- ", mostText/2-1)+"&x", null, 1, api.ErrSyntax)
	checkParse(t, strings.Repeat("- ", mostText/2-2)+"a: b", null, 0, api.ErrBound)
	deep := ""
	for i := 0; len(deep)+i+3 <= mostText; i++ {
		deep += strings.Repeat(" ", i) + "a:\n"
	}
	checkParse(t, deep, null, 0, api.ErrBound)
}

// great stands for a value that is beyond the bounds.
var great = api.Node{Kind: -1}

// valueOf is what the chapter says of values on one line; for ErrBound it returns great.
func valueOf(s string) (api.Node, bool) {
	if !strings.ContainsAny(s[:1], "[{") {
		n, e := flow.Scalar(s, false)
		return n, e == api.OK
	}
	n, e := flow.Parse(s)
	if e == api.ErrBound {
		return great, true
	}
	return n, e == api.OK
}

// isDashed reports whether a line is a sequence line.
func isDashed(l line.Line) bool { return l.Text == "-" || strings.HasPrefix(l.Text, "- ") }

// whole returns the node of the block that consists of exactly these lines, or false if there is none. It divides the lines from the top, while a reader would go through them.
func whole(lines []line.Line) (api.Node, bool) {
	if len(lines) == 0 {
		return null, true
	}
	first := lines[0]
	if slices.ContainsFunc(lines, func(l line.Line) bool { return l.Indent < first.Indent }) {
		return null, false
	}
	if isDashed(first) {
		return wholeSequence(lines)
	}
	if _, _, kind := entryByPattern(first.Text); kind != 0 {
		return wholeMap(lines)
	}
	n, ok := valueOf(first.Text)
	return n, ok && len(lines) == 1
}

// wholeSequence is whole for lines that begin with a sequence line and have at least its indentation.
func wholeSequence(lines []line.Line) (api.Node, bool) {
	n := seq()
	for _, part := range divided(lines, func(l line.Line) bool { return l.Indent > lines[0].Indent }) {
		head, inner := part[0], part[1:]
		if !isDashed(head) {
			return null, false
		}
		if rest := strings.TrimLeft(head.Text[1:], " "); rest != "" {
			cut := line.Line{No: head.No, Indent: head.Indent + len(head.Text) - len(rest), Text: rest}
			inner = append([]line.Line{cut}, inner...)
		}
		kid, ok := whole(inner)
		if !ok {
			return null, false
		}
		n.Kids = append(n.Kids, kid)
	}
	return n, true
}

// wholeMap is whole for lines that begin with a map line and have at least its indentation.
func wholeMap(lines []line.Line) (api.Node, bool) {
	n := dict()
	for _, part := range divided(lines, func(l line.Line) bool { return l.Indent > lines[0].Indent || isDashed(l) }) {
		key, rest, kind := entryByPattern(part[0].Text)
		if kind != 1 || slices.Contains(n.Keys, key) || rest != "" && len(part) > 1 {
			return null, false
		}
		kid, ok := whole(part[1:])
		if rest != "" {
			kid, ok = valueOf(rest)
		}
		if !ok {
			return null, false
		}
		n.Keys, n.Kids = append(n.Keys, key), append(n.Kids, kid)
	}
	return n, true
}

// divided divides lines into parts, each of a line and those behind it that are of its inside.
func divided(lines []line.Line, isInside func(line.Line) bool) [][]line.Line {
	var parts [][]line.Line
	for i, l := range lines {
		if i == 0 || !isInside(l) {
			parts = append(parts, nil)
		}
		last := len(parts) - 1
		parts[last] = append(parts[last], l)
	}
	return parts
}

// isGreat reports whether a value in n is beyond the bounds.
func isGreat(n api.Node) bool {
	return n.Kind == -1 || slices.ContainsFunc(n.Kids, isGreat)
}

// expected is what the chapter says of a file: the first wrong line is the last one of the shortest beginning that is no valid file.
func expected(s string) (api.Node, int, api.Errno) {
	lines, no, e := line.Split(s)
	if e != api.OK || len(lines) == 0 {
		return null, no, e
	}
	wrong := sort.Search(len(lines), func(i int) bool {
		n, ok := whole(lines[:i+1])
		return !ok || isGreat(n)
	})
	if wrong < len(lines) {
		if _, ok := whole(lines[:wrong+1]); ok {
			return null, lines[wrong].No, api.ErrBound
		}
		return null, lines[wrong].No, api.ErrSyntax
	}
	n, _ := whole(lines)
	if count, depth := size(n); count > mostNodes || depth > mostNest {
		return null, 0, api.ErrBound
	}
	return n, 0, api.OK
}

// checkExpected checks what Parse returns against what the chapter says.
func checkExpected(t *testing.T, s string) (no int) {
	t.Helper()
	n, no, e := expected(s)
	checkParse(t, s, n, no, e)
	return no
}

// TestParseAllFiles: promise 10.1, all files of a few lines of a few kinds with several indentations against the reference; a file is not continued behind its first wrong line, but for one line more.
func TestParseAllFiles(t *testing.T) {
	for _, x := range []struct {
		contents []string
		indents  int
		most     int
	}{
		{[]string{"-", "- x", "- a:", "- - x", "- b: x", "a:", "b: x", "x", "[x]", ": x", "'a': y", "- -", "a: [" + nested(12) + "]"}, 4, 3},
		{[]string{"-", "a:", "b:", "x", "- a:"}, 3, 5},
		{[]string{"-", "- -", "- a:", "a:", "b: x"}, 5, 4},
		{[]string{"-", "a:", "b:"}, 3, 6},
	} {
		var grow func(s string, more int)
		grow = func(s string, more int) {
			for indent := range x.indents {
				for _, content := range x.contents {
					other := s + strings.Repeat(" ", indent) + content + "\n"
					if checkExpected(t, other) > 0 {
						checkExpected(t, other+s)
					} else if more > 1 {
						grow(other, more-1)
					}
				}
			}
		}
		grow("", x.most)
	}
}

// TestParseAllLines: promise 10.1, all lines of up to a few pieces between other lines against the reference.
func TestParseAllLines(t *testing.T) {
	around := []string{"@", "a: x\n@\nb: y", "- x\n  @", "- @\n  b: x", "a:\n@\n- x", "a:\n @", "a:\n  b:\n  @"}
	check := func(s string) {
		for _, file := range around {
			checkExpected(t, strings.Replace(file, "@", s, 1))
		}
	}
	joined([]string{"a", ":", " ", "-", "'", "[", "]", "#"}, 5, check)
	joined([]string{"a: ", "b:", "- ", "-", "\n", " ", "x", "~"}, 5, check)
	joined([]string{"{", "}", "a: ", "b:", "- ", "\n  ", "<<", "''"}, 4, check)
	joined(allBytes(), 1, check)
}

// hardTexts are texts and keys with a meaning, or with bytes that have one.
func hardTexts() []string {
	return []string{"", "a", "b", "ab", "a b", " ", " a", "a ", "~", "null", "Null", "nulls", "-", "- a", "-a", ":", "a:", "a: b", "a:b", "#", "a #b", "a#b", ",", "a,b", "a, b", "[", "]", "[]", "[a]", "a[0]", "{", "}", "{a: b}", "a}", "'", "''", "'a'", "it's", `"`, `""`, `"a"`, `a"b`, `\`, `\n`, `\x41`, "\n", "\t", "a\nb", "\x00", "\x7f", "\xff", "caf\u00e9", "&a", "*a", "!a", "|", ">", "%a", "@a", "`a", "?", "---", "...", "<<", "${A:-b}", "1", "true", "a: [b], c", "a 'b", `a "b`, "a,'b", "a['b"}
}

// draw returns a valid node of up to nodes nodes and up to nest deep, of hard texts.
func draw(random *rand.Rand, nodes, nest int) api.Node {
	hard := hardTexts()
	kind := 2 + random.Intn(2)
	if nodes < 2 || nest < 2 || random.Intn(8) == 0 {
		kind = random.Intn(4)
	}
	n := api.Node{Kind: kind}
	if kind == 1 {
		n.Text = hard[random.Intn(len(hard))]
	}
	for room := nodes - 1; kind >= 2 && nest > 1 && room > 0 && random.Intn(10) > 0; {
		kid := draw(random, 1+random.Intn(room), nest-1)
		count, _ := size(kid)
		room -= count
		n.Kids = append(n.Kids, kid)
		if kind == 3 {
			key := hard[random.Intn(len(hard))]
			if slices.Contains(n.Keys, key) {
				key += strconv.Itoa(len(n.Keys))
			}
			n.Keys = append(n.Keys, key)
		}
	}
	return n
}

// drawn calls a function with nodes of many sizes and depths, from a fixed seed.
func drawn(seed int64, f func(random *rand.Rand, n api.Node)) {
	random := rand.New(rand.NewSource(seed))
	for i := range 3000 {
		f(random, draw(random, 1+random.Intn(60), 1+i%mostNest))
	}
	for range 100 {
		f(random, draw(random, 300, mostNest))
	}
}

// spaces returns from least to most spaces.
func spaces(random *rand.Rand, least, most int) string {
	return strings.Repeat(" ", least+random.Intn(most-least+1))
}

// canStandPlain reports whether line.Split reads a plain string as it is, within which no quote may begin a quoted string.
func canStandPlain(s string) bool {
	return quote.Plain(s) && !strings.ContainsAny(s, `'"`)
}

// spelled returns one of the ways of writing a text, or a key, on a line.
func spelled(random *rand.Rand, s string) string {
	switch random.Intn(4) {
	case 0:
		form := `"`
		for i := range len(s) {
			form += `\x` + strconv.FormatInt(int64(s[i]>>4), 16) + strings.ToUpper(strconv.FormatInt(int64(s[i]&15), 16))
		}
		return form + `"`
	case 1:
		if form, ok := quote.Single(s); ok {
			return form
		}
	case 2:
		return quote.Double(s)
	}
	if s != "<<" && s != "---" && s != "..." && canStandPlain(s) {
		return s
	}
	return quote.Double(s)
}

// inOneLine returns one of the ways of writing a node on a line.
func inOneLine(random *rand.Rand, n api.Node) string {
	switch n.Kind {
	case 0:
		return []string{"~", "null"}[random.Intn(2)]
	case 1:
		return spelled(random, n.Text)
	}
	var l []string
	for i, kid := range n.Kids {
		form := inOneLine(random, kid)
		if kid.Kind == 1 {
			form = quote.Write(kid.Text, true)
			if !canStandPlain(kid.Text) {
				form = quote.Double(kid.Text)
			}
		}
		if n.Kind == 3 {
			form = quote.Double(n.Keys[i]) + ":" + spaces(random, 1, 2) + form
		}
		l = append(l, spaces(random, 0, 1)+form+spaces(random, 0, 1))
	}
	if n.Kind == 2 {
		return "[" + strings.Join(l, ",") + "]"
	}
	return "{" + strings.Join(l, ",") + "}"
}

// laid returns the lines of one of the layouts of a node as a block with this indentation.
func laid(random *rand.Rand, n api.Node, indent int, isBlock bool) []string {
	margin := strings.Repeat(" ", indent)
	if len(n.Kids) == 0 || !isBlock && random.Intn(6) == 0 {
		return []string{margin + inOneLine(random, n)}
	}
	var l []string
	for i, kid := range n.Kids {
		head := "-"
		if n.Kind == 3 {
			head = spelled(random, n.Keys[i]) + ":"
		}
		choice := random.Intn(4)
		switch {
		case kid.Kind == 0 && choice < 2:
			l = append(l, margin+head)
		case choice == 0 && n.Kind == 3 && kid.Kind == 2 && len(kid.Kids) > 0:
			l = append(l, margin+head)
			l = append(l, laid(random, kid, indent, true)...)
		case choice < 2 || n.Kind == 3 && len(kid.Kids) > 0 && choice == 2:
			l = append(l, margin+head)
			l = append(l, laid(random, kid, indent+1+random.Intn(4), false)...)
		case n.Kind == 3:
			l = append(l, margin+head+spaces(random, 1, 4)+inOneLine(random, kid))
		default:
			head += spaces(random, 1, 4)
			inner := laid(random, kid, indent+len(head), false)
			inner[0] = margin + head + strings.TrimLeft(inner[0], " ")
			l = append(l, inner...)
		}
	}
	return l
}

// commented returns a file of lines, with comments, spaces and lines without content.
func commented(random *rand.Rand, lines []string) string {
	notes := []string{"", "", "", " ", "   ", " #", " # c", "   # 'c", " # - c: [", " #\t\x00\xff"}
	between := []string{"\n", "\n", "\n", "\n\n", "\n   \n", "\n# c\n", "\n          # c:\n\n#\n"}
	var b strings.Builder
	if random.Intn(4) == 0 {
		b.WriteString("# c\n\n")
	}
	for i, l := range lines {
		b.WriteString(l + notes[random.Intn(len(notes))])
		if i < len(lines)-1 || random.Intn(2) == 0 {
			b.WriteString(between[random.Intn(len(between))])
		}
	}
	return b.String()
}

// spoilt returns lines with one of them changed, moved, left out or written twice.
func spoilt(random *rand.Rand, lines []string) []string {
	pieces := []string{"a", ":", ": ", " ", "-", "- ", "[", "]", "{", "'", `"`, "#", " #", "~", "<<: ", "a:", "b: x", "\n", "\n  ", "&"}
	l := slices.Clone(lines)
	i, j := random.Intn(len(l)), random.Intn(len(l))
	at := random.Intn(len(l[i]) + 1)
	switch random.Intn(8) {
	case 0:
		l[i] = spaces(random, 1, 3) + l[i]
	case 1:
		l[i] = l[i][min(len(l[i]), 1+random.Intn(3)):]
	case 2:
		l = slices.Delete(l, i, i+1)
	case 3:
		l = slices.Insert(l, j, l[i])
	case 4:
		l[i], l[j] = l[j], l[i]
	case 5:
		l[i] = strings.Repeat(" ", random.Intn(8)) + strings.TrimLeft(l[i], " ")
	case 6:
		l[i] = l[i][:at] + l[i][min(len(l[i]), at+1+random.Intn(3)):]
	default:
		l[i] = l[i][:at] + pieces[random.Intn(len(pieces))] + l[i][at:]
	}
	return l
}

// TestParseDrawn: promises 10.1 and 10.3, drawn nodes in several drawn layouts each, which are then spoilt and held against the reference.
func TestParseDrawn(t *testing.T) {
	drawn(1, func(random *rand.Rand, n api.Node) {
		for range 3 {
			lines := laid(random, n, random.Intn(3), false)
			s := commented(random, lines)
			if len(s) > mostText {
				checkParse(t, s, null, 0, api.ErrBound)
				continue
			}
			checkParse(t, s, n, 0, api.OK)
			if len(lines) > 60 {
				continue
			}
			for range 5 {
				other := spoilt(random, lines)
				checkExpected(t, strings.Join(other, "\n"))
				if len(other) > 0 {
					checkExpected(t, commented(random, spoilt(random, other)))
				}
			}
		}
	})
}

// TestLayouts: promise 10.3, drawn files, also spoilt ones, have the same node, or the same first wrong line, in all layouts.
func TestLayouts(t *testing.T) {
	check := func(s string) {
		if _, _, e := line.Split(s); e != api.OK {
			return
		}
		n, no, e := expected(s)
		layouts(s, no, func(s string, no int) {
			if len(s) <= mostText {
				checkParse(t, s, n, no, e)
			}
		})
	}
	drawn(2, func(random *rand.Rand, n api.Node) {
		lines := laid(random, n, 0, false)
		if len(lines) <= 60 {
			check(strings.Join(lines, "\n"))
			check(strings.Join(spoilt(random, lines), "\n"))
		}
	})
}

// overwrite writes to all lists of a node, and to their elements behind the end.
func overwrite(n api.Node) {
	for i := range n.Kids {
		overwrite(n.Kids[i])
	}
	kids, keys := n.Kids[:cap(n.Kids)], n.Keys[:cap(n.Keys)]
	for i := range kids {
		kids[i] = text("written")
	}
	for i := range keys {
		keys[i] = "written"
	}
}

// TestMemory: the rules on memory: nothing that was answered changes a later answer or another list of the same one.
func TestMemory(t *testing.T) {
	const s = "a:\n- b\n- c: d\n  e:\n    f: g\n    h:\n- - i\n  - [j, k]\n  - l\nm: {n: o}\np: []\nq:\n  r: s\n  t: u\n  v: w\n"
	first, _, _ := Parse(s)
	want := show(first)
	if want != show(inFlow(t, "{a: [b, {c: d, e: {f: g, h: }}, [i, [j, k], l]], m: {n: o}, p: [], q: {r: s, t: u, v: w}}")) {
		t.Errorf("the file's node is %s", want)
	}
	for i := range first.Kids {
		got, _, _ := Parse(s)
		other, _, _ := Parse(s)
		overwrite(got.Kids[i])
		got.Kids[i] = other.Kids[i]
		if show(got) != want {
			t.Errorf("what is written to value %d stands elsewhere: %s", i, show(got))
		}
		overwrite(got)
	}
	if show(first) != want {
		t.Errorf("what is written to a node stands in another one: %s", show(first))
	}
}
