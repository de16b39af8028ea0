package emit

import (
	"math/rand"
	"regexp"
	"slices"
	"strconv"
	"strings"
	"testing"

	"longshore/api"
	"longshore/block"
	"longshore/flow"
	"longshore/node"
)

// The limits as the document writes them.
const (
	mostText  = 8192
	mostNest  = 12
	mostNodes = 2000
)

// null is the node Null; text, seq and dict write the others without the functions of the project; dict takes a key and its value in turns.
var null = api.Node{}

func text(s string) api.Node { return api.Node{Kind: 1, Text: s} }

func seq(l ...api.Node) api.Node { return api.Node{Kind: 2, Kids: l} }

func dict(l ...any) api.Node {
	n := api.Node{Kind: 3}
	for i := 0; i < len(l); i += 2 {
		n.Keys, n.Kids = append(n.Keys, l[i].(string)), append(n.Kids, l[i+1].(api.Node))
	}
	return n
}

// show writes a node so that two nodes are written alike exactly if they are equal.
func show(n api.Node) string {
	var b strings.Builder
	var write func(n api.Node)
	write = func(n api.Node) {
		b.WriteString(strconv.Itoa(n.Kind))
		if n.Text != "" {
			b.WriteString(strconv.Quote(n.Text))
		}
		for _, key := range n.Keys {
			b.WriteString(":" + strconv.Quote(key))
		}
		b.WriteString("<")
		for _, kid := range n.Kids {
			write(kid)
		}
		b.WriteString(">")
	}
	write(n)
	return b.String()
}

// brief cuts a string for a message.
func brief(s string) string {
	if len(s) > 300 {
		return s[:300] + "... (" + strconv.Itoa(len(s)) + " bytes)"
	}
	return s
}

// size counts the nodes in a node, and how deep they are nested.
func size(n api.Node) (count, depth int) {
	count, depth = 1, 1
	for _, kid := range n.Kids {
		c, d := size(kid)
		count, depth = count+c, max(depth, d+1)
	}
	return count, depth
}

// joined calls a function with all strings of up to most of the pieces.
func joined(pieces []string, most int, f func(string)) {
	var grow func(s string, more int)
	grow = func(s string, more int) {
		f(s)
		if more == 0 {
			return
		}
		for _, p := range pieces {
			grow(s+p, more-1)
		}
	}
	grow("", most)
}

// allBytes returns a string of each byte.
func allBytes() []string {
	var l []string
	for b := range 256 {
		l = append(l, string([]byte{byte(b)}))
	}
	return l
}

// inFlow returns the node of a flow value; nodes are written as such where that is shorter.
func inFlow(t *testing.T, s string) api.Node {
	t.Helper()
	n, e := flow.Parse(s)
	if e != api.OK {
		t.Fatalf("%q is no flow value", s)
	}
	return n
}

// latin returns a string with a rune for each byte of s, since patterns do not see single bytes.
func latin(s string) string {
	l := make([]rune, len(s))
	for i := range len(s) {
		l[i] = rune(s[i])
	}
	return string(l)
}

// notBare is what chapter 6 says of strings that may not be written plain, with what chapter 11 adds.
var notBare = regexp.MustCompile(`^\z|^~\z|^null\z|[\x00-\x1f\x7f]|^ | \z|^[?:,\[\]{}#&*!|>%@` + "`" + `]|^-\z|^- |:\z|: | #|['"]`)

// formed is what the chapters say of the scalar form of a text.
func formed(s string) string {
	if notBare.MatchString(latin(s)) {
		return doubled(s)
	}
	return s
}

// doubled returns a string in double quotes as chapter 6 writes it.
func doubled(s string) string {
	form := []byte{'"'}
	for i := range len(s) {
		switch c := s[i]; {
		case c == '"' || c == '\\':
			form = append(form, '\\', c)
		case c == '\n':
			form = append(form, `\n`...)
		case c == '\t':
			form = append(form, `\t`...)
		case c < 32 || c == 127:
			form = append(form, '\\', 'x', "0123456789abcdef"[c/16], "0123456789abcdef"[c%16])
		default:
			form = append(form, c)
		}
	}
	return string(append(form, '"'))
}

// filed is what the chapter says of the file of a node. It writes the file of each kid in full before it indents it.
func filed(n api.Node) string {
	switch {
	case n.Kind == 0:
		return ""
	case n.Text == "---" || n.Text == "...":
		return `"` + n.Text + "\"\n"
	}
	return inner(n)
}

// inner is filed for a node that stands within another one.
func inner(n api.Node) string {
	switch {
	case n.Kind == 0:
		return "null\n"
	case n.Kind == 1:
		return formed(n.Text) + "\n"
	case len(n.Kids) == 0:
		return []string{"[]\n", "{}\n"}[n.Kind-2]
	}
	file := ""
	for i, kid := range n.Kids {
		lines := strings.ReplaceAll(inner(kid), "\n", "\n  ")
		lines = lines[:len(lines)-2]
		switch {
		case n.Kind == 2:
			file += "- " + lines
			continue
		case n.Keys[i] == "<<":
			file += `"<<":`
		default:
			file += formed(n.Keys[i]) + ":"
		}
		if len(kid.Kids) == 0 {
			file += " " + lines
		} else {
			file += "\n  " + lines
		}
	}
	return file
}

// checkWrite checks the file of a valid node and the number of its lines, and that it is parsed as the node unless it is too long.
func checkWrite(t *testing.T, n api.Node, want string) {
	t.Helper()
	got := Write(n)
	if got != want {
		t.Errorf("Write(%s) = %q; want %q", brief(show(n)), brief(got), brief(want))
	}
	if lines := Lines(n); lines != strings.Count(want, "\n") {
		t.Errorf("Lines(%s) = %d; want %d", brief(show(n)), lines, strings.Count(want, "\n"))
	}
	if len(got) > mostText {
		return
	}
	if back, no, e := block.Parse(got); show(back) != show(n) || no != 0 || e != api.OK {
		t.Errorf("Write(%s) = %q, which is parsed as %s, %d, %v", brief(show(n)), brief(got), brief(show(back)), no, e)
	}
}

// checkFile checks the file of a node that is written as a flow value; the file's lines are given one by one.
func checkFile(t *testing.T, s string, lines ...string) {
	t.Helper()
	checkWrite(t, inFlow(t, s), strings.Join(append(lines, ""), "\n"))
}

// checkShort checks a short node as a whole file and in many places within others.
func checkShort(t *testing.T, n api.Node, whole, form string) {
	t.Helper()
	checkWrite(t, n, whole)
	checkWrite(t, seq(n), "- "+form+"\n")
	checkWrite(t, seq(n, n), "- "+form+"\n- "+form+"\n")
	checkWrite(t, seq(text("x"), n, text("y")), "- x\n- "+form+"\n- y\n")
	checkWrite(t, dict("a", n), "a: "+form+"\n")
	checkWrite(t, dict("b", n, "a", text("x"), "c", n), "b: "+form+"\na: x\nc: "+form+"\n")
	checkWrite(t, seq(seq(n, n), n), "- - "+form+"\n  - "+form+"\n- "+form+"\n")
	checkWrite(t, seq(dict("a", n, "b", n)), "- a: "+form+"\n  b: "+form+"\n")
	checkWrite(t, dict("a", seq(n, n), "b", n), "a:\n  - "+form+"\n  - "+form+"\nb: "+form+"\n")
	checkWrite(t, dict("a", dict("b", n, "c", n)), "a:\n  b: "+form+"\n  c: "+form+"\n")
	checkWrite(t, seq(dict("a", seq(dict("b", dict("c", n)), n), "d", n)), "- a:\n    - b:\n        c: "+form+"\n    - "+form+"\n  d: "+form+"\n")
}

// checkKey checks a key in many places.
func checkKey(t *testing.T, key, form string) {
	t.Helper()
	x := text("x")
	checkWrite(t, dict(key, x), form+": x\n")
	checkWrite(t, dict(key, null), form+": null\n")
	checkWrite(t, dict(key, seq()), form+": []\n")
	checkWrite(t, dict(key, dict()), form+": {}\n")
	checkWrite(t, dict("q", x, key, x, "z", x), "q: x\n"+form+": x\nz: x\n")
	checkWrite(t, dict(key, seq(x, x), "z", x), form+":\n  - x\n  - x\nz: x\n")
	checkWrite(t, dict(key, dict(key, dict(key, x))), form+":\n  "+form+":\n    "+form+": x\n")
	checkWrite(t, seq(dict(key, x, "z", x), dict("z", x, key, seq(x))), "- "+form+": x\n  z: x\n- z: x\n  "+form+":\n    - x\n")
	checkWrite(t, dict("q", seq(dict(key, dict("z", x)))), "q:\n  - "+form+":\n      z: x\n")
}

// TestExamples: promises 11.1 and 11.2, the chapter's example, and files that mix all forms.
func TestExamples(t *testing.T) {
	checkFile(t, "{a: [x, {b: y, c: null}]}", "a:", "  - x", "  - b: y", "    c: null")
	checkFile(t, "{services: {web: {image: 'nginx:1', ports: ['8080:80', '443'], environment: {A: 'x y', B: }, deploy: {}}, db: {image: pg, command: []}}, volumes: {data: }}",
		"services:",
		"  web:",
		"    image: nginx:1",
		"    ports:",
		"      - 8080:80",
		"      - 443",
		"    environment:",
		"      A: x y",
		"      B: null",
		"    deploy: {}",
		"  db:",
		"    image: pg",
		"    command: []",
		"volumes:",
		"  data: null")
	checkFile(t, "[b, a, {d: 1, c: 2}, b]", "- b", "- a", "- d: 1", "  c: 2", "- b")
}

// TestShort: promises 11.1 and 11.2, short nodes as whole files, and within others.
func TestShort(t *testing.T) {
	checkShort(t, null, "", "null")
	checkShort(t, seq(), "[]\n", "[]")
	checkShort(t, dict(), "{}\n", "{}")
	checkShort(t, text("x"), "x\n", "x")
	checkShort(t, text(""), "\"\"\n", `""`)
	checkShort(t, text("null"), "\"null\"\n", `"null"`)
	checkShort(t, text("[]"), "\"[]\"\n", `"[]"`)
	checkShort(t, text("{}"), "\"{}\"\n", `"{}"`)
	checkShort(t, api.Node{Kind: 2, Kids: []api.Node{}}, "[]\n", "[]")
	checkShort(t, api.Node{Kind: 3, Keys: []string{}, Kids: []api.Node{}}, "{}\n", "{}")
	if Write(null) != "" || Lines(null) != 0 || Write(seq(null)) != "- null\n" || Lines(seq(null)) != 1 {
		t.Error("Null alone has no line, and within others it has one")
	}
}

// TestMarkers: promises 11.1 and 11.2, the texts "---" and "..." as whole files, as elements, as values and as keys, and what only looks like them.
func TestMarkers(t *testing.T) {
	for _, s := range []string{"---", "..."} {
		checkShort(t, text(s), `"`+s+"\"\n", s)
		checkKey(t, s, s)
		checkWrite(t, dict(s, text(s)), s+": "+s+"\n")
		if got := Scalar(s); got != s {
			t.Errorf("Scalar(%q) = %q", s, got)
		}
	}
	for _, s := range []string{"--", "----", "-----", "..", ".", "....", "---a", "--- a", "a---", "...a", "... a", "a...", "-.-", "--.", "---...", "...---", "- -"} {
		if form := formed(s); form == s {
			checkShort(t, text(s), s+"\n", s)
		}
	}
	for _, s := range []string{" ---", "--- ", " ...", "... ", "---\n", "---:", "---: a", "...:", "--- #", "- ---"} {
		checkShort(t, text(s), doubled(s)+"\n", doubled(s))
	}
}

// TestBareTexts: promises 11.1 and 11.2, texts that are written as they are, also as keys.
func TestBareTexts(t *testing.T) {
	for _, s := range []string{"a", "web", "a b", "a  b", "Null", "NULL", "nulls", "null null", "~a", "~~", "-a", "--", "-1", "a-", "a -", "a - b", "a:b", "a::b", "http://x:80/y", "8080:80", "a#b", "a#", `a\b`, `\`, `\n`, "1", "0", "true", "no", "a,b", "a, b", "a[0]", "a]", "a}", "a{b}", "$A", "${A:-b}", "<", "<<<", "<<a", "a&b", "a*", "a!", "a|b", "a>", "a%", "a@b", "a`", "a?", "=", "(a)", ".", "/a", ";", "^", "caf\u00e9", "\xff", "\x80", "\u00a0"} {
		checkShort(t, text(s), s+"\n", s)
		checkKey(t, s, s)
		if got := Scalar(s); got != s {
			t.Errorf("Scalar(%q) = %q", s, got)
		}
	}
}

// TestQuotedTexts: promises 11.1 and 11.2, texts that may not be written plain, those with quotes in them, and those with line feeds and other bytes that need escapes, also as keys.
func TestQuotedTexts(t *testing.T) {
	for _, x := range [][2]string{
		{"", `""`}, {"~", `"~"`}, {"null", `"null"`}, {" ", `" "`}, {"  ", `"  "`}, {" a", `" a"`}, {"a ", `"a "`}, {"-", `"-"`}, {"- a", `"- a"`}, {"- ", `"- "`}, {"- - a", `"- - a"`}, {":", `":"`}, {"a:", `"a:"`}, {"a: b", `"a: b"`}, {": a", `": a"`}, {":a", `":a"`}, {"#", `"#"`}, {"#a", `"#a"`}, {"a #b", `"a #b"`}, {"a #", `"a #"`},
		{"?", `"?"`}, {"? a", `"? a"`}, {",", `","`}, {",a", `",a"`}, {"[", `"["`}, {"[a]", `"[a]"`}, {"]", `"]"`}, {"{", `"{"`}, {"{a: b}", `"{a: b}"`}, {"}a", `"}a"`}, {"&a", `"&a"`}, {"*a", `"*a"`}, {"!a", `"!a"`}, {"|", `"|"`}, {">", `">"`}, {">-", `">-"`}, {"%a", `"%a"`}, {"@a", `"@a"`}, {"`a", "\"`a\""},
		{"it's", `"it's"`}, {"don't", `"don't"`}, {"'", `"'"`}, {"''", `"''"`}, {"'a'", `"'a'"`}, {"a'", `"a'"`}, {`"`, `"\""`}, {`a"b`, `"a\"b"`}, {`"a"`, `"\"a\""`}, {`a "b"`, `"a \"b\""`}, {`a"`, `"a\""`}, {`'"`, `"'\""`}, {"a, 'b'", `"a, 'b'"`}, {"a['b']", `"a['b']"`}, {`\"`, `"\\\""`}, {`\'`, `"\\'"`},
		{"\n", `"\n"`}, {"a\nb", `"a\nb"`}, {"a\n", `"a\n"`}, {"\na", `"\na"`}, {"a\n\n  b\n", `"a\n\n  b\n"`}, {"a:\n  - b\n", `"a:\n  - b\n"`}, {"\t", `"\t"`}, {"a\tb", `"a\tb"`}, {"\x00", `"\x00"`}, {"a\rb", `"a\x0db"`}, {"\x1b", `"\x1b"`}, {"\x7f", `"\x7f"`}, {"\x1f\xff", "\"\\x1f\xff\""}, {"\\\n", `"\\\n"`},
	} {
		s, form := x[0], x[1]
		checkShort(t, text(s), form+"\n", form)
		checkKey(t, s, form)
		if got := Scalar(s); got != form {
			t.Errorf("Scalar(%q) = %q; want %q", s, got, form)
		}
	}
}

// TestMerge: promises 11.1 and 11.2, "<<" as a key, as an element and as a value.
func TestMerge(t *testing.T) {
	checkKey(t, "<<", `"<<"`)
	checkShort(t, text("<<"), "<<\n", "<<")
	checkWrite(t, dict("<<", text("<<")), "\"<<\": <<\n")
	checkWrite(t, dict("<<<", text("<<"), "<<", null, "<< ", null, "<<a", null), "<<<: <<\n\"<<\": null\n\"<< \": null\n<<a: null\n")
	checkWrite(t, seq(text("<<"), dict("<<", seq(text("<<"), dict("<<", text("<<"))))), "- <<\n- \"<<\":\n    - <<\n    - \"<<\": <<\n")
	if got := Scalar("<<"); got != "<<" {
		t.Errorf("Scalar of the text << = %q", got)
	}
}

// TestScalarAll: promise 11.2, all strings of up to a few pieces, and all of two bytes, against a pattern.
func TestScalarAll(t *testing.T) {
	check := func(s string) {
		if got, want := Scalar(s), formed(s); got != want {
			t.Errorf("Scalar(%q) = %q; want %q", s, got, want)
		}
	}
	joined(allBytes(), 2, check)
	joined([]string{"a", ":", " ", "#", "-", "'", `"`, "\n", "~"}, 5, check)
	joined([]string{"null", "<<", "[", "]", "{", ",", "?", "\xff", `\`, "---"}, 4, check)
	for _, b := range allBytes() {
		for _, around := range []string{"ab", "---", "null", "it's", "a: b", "a #b", `\x41`} {
			for i := range len(around) + 1 {
				check(around[:i] + b + around[i:])
			}
		}
	}
	long := strings.Repeat("a", 1<<20)
	for _, s := range []string{long, long + "'", `"` + long, long + "\n" + long, " " + long, long + ": " + long} {
		check(s)
	}
}

// TestNesting: promises 11.1 and 11.2, sequences and maps in each other, several deep, so that each line's indentation is seen.
func TestNesting(t *testing.T) {
	checkFile(t, "[[a]]", "- - a")
	checkFile(t, "[[a, b], [c, d], e]", "- - a", "  - b", "- - c", "  - d", "- e")
	checkFile(t, "[[[a, b], c], d]", "- - - a", "    - b", "  - c", "- d")
	checkFile(t, "[a, [b, [c, [d, e], f], g], h]", "- a", "- - b", "  - - c", "    - - d", "      - e", "    - f", "  - g", "- h")
	checkFile(t, "[{a: 1, b: 2}, {c: 3}]", "- a: 1", "  b: 2", "- c: 3")
	checkFile(t, "[{a: {b: 1, c: 2}, d: 3}]", "- a:", "    b: 1", "    c: 2", "  d: 3")
	checkFile(t, "[{a: [1, 2], b: [3]}]", "- a:", "    - 1", "    - 2", "  b:", "    - 3")
	checkFile(t, "[[{a: 1, b: 2}, {c: 3, d: 4}], [{e: 5}]]", "- - a: 1", "    b: 2", "  - c: 3", "    d: 4", "- - e: 5")
	checkFile(t, "{a: [1, 2], b: 3}", "a:", "  - 1", "  - 2", "b: 3")
	checkFile(t, "{a: [[1, 2], [3]], b: []}", "a:", "  - - 1", "    - 2", "  - - 3", "b: []")
	checkFile(t, "{a: [{b: [1], c: [2]}]}", "a:", "  - b:", "      - 1", "    c:", "      - 2")
	checkFile(t, "{a: {b: {c: {d: 1, e: 2}, f: 3}, g: 4}, h: 5}", "a:", "  b:", "    c:", "      d: 1", "      e: 2", "    f: 3", "  g: 4", "h: 5")
	checkFile(t, "[{a: [{b: [{c: [{d: e, f: }]}]}]}]", "- a:", "    - b:", "        - c:", "            - d: e", "              f: null")
	checkFile(t, "[[[{a: [[[{b: 1, c: 2}]]], d: 3}]]]", "- - - a:", "        - - - b: 1", "              c: 2", "      d: 3")
	checkFile(t, "[[], {}, null, '', [[], [[]]], {a: {}, b: [{}]}]", "- []", "- {}", "- null", `- ""`, "- - []", "  - - []", "- a: {}", "  b:", "    - {}")
	checkFile(t, "[[a, b], {c: d}]", "- - a", "  - b", "- c: d")
	checkFile(t, `[{'<<': [---, {---: ...}], 'a: b': {'': "x\ty\n"}}]`, `- "<<":`, "    - ---", "    - ---: ...", `  "a: b":`, `    "": "x\ty\n"`)
}

// TestDeepest: promises 11.1 to 11.3, all nodes of the greatest depth with one or two kids at each level, of each kind of leaf, which all have different files.
func TestDeepest(t *testing.T) {
	seen := register{}
	for kinds := range 1 << (mostNest - 1) {
		for _, leaf := range []api.Node{text("x"), null, seq(), dict(), text("...")} {
			for _, kids := range []int{1, 2} {
				n := leaf
				for i := range mostNest - 1 {
					switch {
					case kinds>>i&1 == 0 && kids == 1:
						n = seq(n)
					case kinds>>i&1 == 0:
						n = seq(n, text("s"))
					case kids == 1:
						n = dict("k", n)
					default:
						n = dict("k", n, "l", null)
					}
				}
				checkWrite(t, n, filed(n))
				seen.check(t, n)
			}
		}
	}
	deep := text("x")
	for range mostNest - 1 {
		deep = seq(deep)
	}
	checkWrite(t, deep, strings.Repeat("- ", 11)+"x\n")
	want := ""
	deep = text("x")
	for i := range mostNest - 1 {
		deep = dict("a", deep)
		want += strings.Repeat("  ", i) + "a:\n"
	}
	checkWrite(t, deep, strings.TrimSuffix(want, "\n")+" x\n")
}

// TestMost: promises 11.1 to 11.3, nodes of the greatest number of nodes, and files of about MaxText bytes and of many more.
func TestMost(t *testing.T) {
	wide, keyed, pairs := seq(), dict(), seq()
	wantWide, wantKeyed, wantPairs := "", "", ""
	for i := range mostNodes - 1 {
		s := strconv.Itoa(i)
		wide.Kids, wantWide = append(wide.Kids, text(s)), wantWide+"- "+s+"\n"
		keyed.Keys, keyed.Kids, wantKeyed = append(keyed.Keys, s), append(keyed.Kids, null), wantKeyed+s+": null\n"
		if i%2 == 0 && i < mostNodes-2 {
			pairs.Kids, wantPairs = append(pairs.Kids, seq(null)), wantPairs+"- - null\n"
		}
	}
	checkWrite(t, wide, wantWide)
	checkWrite(t, keyed, wantKeyed)
	checkWrite(t, pairs, wantPairs)
	if Lines(wide) != 1999 || Lines(keyed) != 1999 || Lines(pairs) != 999 {
		t.Error("the lines of the greatest nodes are not counted")
	}
	short := seq()
	for range mostNodes - 1 {
		short.Kids = append(short.Kids, text("x"))
	}
	checkWrite(t, short, strings.Repeat("- x\n", mostNodes-1))
	for _, n := range []int{mostText - 2, mostText - 1, mostText, 1 << 20} {
		s := strings.Repeat("y", n)
		checkWrite(t, text(s), s+"\n")
		checkWrite(t, text(s+"\n"), `"`+s+"\\n\"\n")
		checkWrite(t, seq(seq(text(s), dict(s, text(s)))), "- - "+s+"\n  - "+s+": "+s+"\n")
	}
	if got := Write(text(strings.Repeat("y", mostText-1))); len(got) != mostText {
		t.Errorf("the longest file that can be parsed has %d bytes", len(got))
	}
}

// sized returns all valid nodes of exactly count nodes, of a few texts and keys.
func sized(count int) []api.Node {
	if count == 1 {
		return []api.Node{null, text(""), text("x"), text("..."), text("- x"), seq(), dict()}
	}
	var all []api.Node
	for _, kids := range rows(count - 1) {
		all = append(all, seq(kids...))
		for _, keys := range [][]string{{"b", "", "a"}, {"<<", "b:c", "---"}, {"a,b", "b", ": "}} {
			all = append(all, api.Node{Kind: 3, Keys: keys[:len(kids)], Kids: kids})
		}
	}
	return all
}

// rows returns all lists of nodes that have exactly count nodes in all.
func rows(count int) [][]api.Node {
	if count == 0 {
		return [][]api.Node{nil}
	}
	var all [][]api.Node
	for first := 1; first <= count; first++ {
		for _, head := range sized(first) {
			for _, tail := range rows(count - first) {
				all = append(all, append([]api.Node{head}, tail...))
			}
		}
	}
	return all
}

// register holds the nodes whose files have been seen.
type register map[string]string

// check checks that the file of n is not that of another node, and is that of an equal one.
func (r register) check(t *testing.T, n api.Node) {
	t.Helper()
	file, shown := Write(n), show(n)
	if other, ok := r[file]; ok && other != shown {
		t.Errorf("%s and %s have the same file %q", brief(other), brief(shown), brief(file))
	}
	r[file] = shown
	if other := Write(cloned(n)); other != file {
		t.Errorf("two nodes %s have the files %q and %q", brief(shown), brief(file), brief(other))
	}
}

// cloned returns an equal node that shares no list with n, with empty lists where n has none.
func cloned(n api.Node) api.Node {
	other := api.Node{Kind: n.Kind, Text: strings.Clone(n.Text), Keys: append([]string{}, n.Keys...), Kids: []api.Node{}}
	for _, kid := range n.Kids {
		other.Kids = append(other.Kids, cloned(kid))
	}
	return other
}

// TestSmall: promises 11.1 to 11.3, all nodes of up to four nodes of a few texts and keys, which all have different files.
func TestSmall(t *testing.T) {
	seen := register{}
	for count := 1; count <= 4; count++ {
		for _, n := range sized(count) {
			checkWrite(t, n, filed(n))
			seen.check(t, n)
		}
	}
}

// hardTexts are texts and keys with a meaning, or with bytes that have one.
func hardTexts() []string {
	return []string{"", "a", "b", "ab", "a b", " ", " a", "a ", "~", "null", "Null", "nulls", "-", "- a", "-a", ":", "a:", "a: b", "a:b", "#", "a #b", "a#b", ",", "a,b", "a, b", "[", "]", "[]", "[a]", "a[0]", "{", "}", "{}", "{a: b}", "a}", "'", "''", "'a'", "it's", `"`, `""`, `"a"`, `a"b`, `\`, `\n`, `\x41`, "\n", "\t", "a\nb", "a\n  b", "- a\n- b\n", "a:\n  b", "\x00", "\x7f", "\xff", "caf\u00e9", "&a", "*a", "!a", "|", ">", "%a", "@a", "`a", "?", "---", "...", "<<", "<<: a", "${A:-b}", "1", "true", "a: [b], c", "a 'b", `a "b`, "a,'b", "a['b"}
}

// TestTexts: promises 11.1 to 11.3, hard texts, all bytes and all strings of a few pieces in all places, with different files for all of them.
func TestTexts(t *testing.T) {
	seen := register{}
	check := func(s string) {
		for _, n := range []api.Node{text(s), seq(text(s)), seq(null, seq(text(s))), dict(s, null), dict(s, text(s)), dict("a", text(s)), dict(s, seq(text(s), null)), seq(dict(s, dict("a", text(s)), s+"x", null))} {
			checkWrite(t, n, filed(n))
			seen.check(t, n)
		}
	}
	for _, s := range hardTexts() {
		check(s)
		for _, other := range hardTexts() {
			check(s + other)
			check(s + "\n" + other)
		}
	}
	for _, b := range allBytes() {
		check(b)
		check("a" + b)
		check(b + "a")
		check("a" + b + " b")
	}
	joined([]string{"a", ":", " ", "'", `"`, "#", "-", "\n"}, 4, check)
}

// draw returns a valid node of up to nodes nodes and up to nest deep, of hard texts.
func draw(random *rand.Rand, nodes, nest int) api.Node {
	hard := hardTexts()
	kind := 2 + random.Intn(2)
	if nodes < 2 || nest < 2 || random.Intn(8) == 0 {
		kind = random.Intn(4)
	}
	n := api.Node{Kind: kind}
	if kind == 1 {
		n.Text = hard[random.Intn(len(hard))]
	}
	for room := nodes - 1; kind >= 2 && nest > 1 && room > 0 && random.Intn(10) > 0; {
		kid := draw(random, 1+random.Intn(room), nest-1)
		count, _ := size(kid)
		room -= count
		n.Kids = append(n.Kids, kid)
		if kind == 3 {
			key := hard[random.Intn(len(hard))]
			if slices.Contains(n.Keys, key) {
				key += strconv.Itoa(len(n.Keys))
			}
			n.Keys = append(n.Keys, key)
		}
	}
	return n
}

// drawn calls a function with nodes of many sizes and depths, from a fixed seed.
func drawn(seed int64, f func(random *rand.Rand, n api.Node)) {
	random := rand.New(rand.NewSource(seed))
	for i := range 3000 {
		f(random, draw(random, 1+random.Intn(60), 1+i%mostNest))
	}
	for range 30 {
		f(random, draw(random, mostNodes, mostNest))
	}
}

// altered returns a node that differs from n in one place.
func altered(random *rand.Rand, n api.Node) api.Node {
	if len(n.Kids) == 0 || random.Intn(4) == 0 {
		return alteredHere(random, n)
	}
	n = cloned(n)
	i := random.Intn(len(n.Kids))
	n.Kids[i] = altered(random, n.Kids[i])
	return n
}

// alteredHere is altered for n itself.
func alteredHere(random *rand.Rand, n api.Node) api.Node {
	n = cloned(n)
	i := random.Intn(len(n.Kids) + 1)
	switch {
	case n.Kind == 0:
		return []api.Node{text(""), text("null"), seq(), dict()}[random.Intn(4)]
	case n.Kind == 1:
		return []api.Node{text(n.Text + " "), text(`"` + n.Text + `"`), text(n.Text + "\n"), seq(n), dict(n.Text, null)}[random.Intn(5)]
	case n.Kind == 2 && i == len(n.Kids):
		return []api.Node{seq(append(n.Kids, null)...), seq(n)}[random.Intn(2)]
	case n.Kind == 2:
		return seq(slices.Delete(n.Kids, i, i+1)...)
	case i == len(n.Kids):
		return []api.Node{seq(n), dict("a", n)}[random.Intn(2)]
	case random.Intn(3) == 0 && i > 0:
		n.Keys[0], n.Keys[i], n.Kids[0], n.Kids[i] = n.Keys[i], n.Keys[0], n.Kids[i], n.Kids[0]
	default:
		n.Keys[i] += "\t."
	}
	return n
}

// TestDrawn: promises 11.1 to 11.3, drawn nodes, and drawn nodes that differ from these in one place.
func TestDrawn(t *testing.T) {
	seen := register{}
	drawn(1, func(random *rand.Rand, n api.Node) {
		checkWrite(t, n, filed(n))
		seen.check(t, n)
		for range 5 {
			other := altered(random, n)
			if !node.Right(other) {
				continue
			}
			if show(other) == show(n) {
				t.Fatalf("%s is not altered", brief(show(n)))
			}
			checkWrite(t, other, filed(other))
			seen.check(t, other)
		}
	})
}

// TestOneByOne: promise 11.1 and the chapter's 'Ways', the lines come one by one, so that a loop through them may be left behind each of them.
func TestOneByOne(t *testing.T) {
	check := func(n api.Node) {
		want := strings.SplitAfter(filed(n), "\n")
		for most := 1; most < len(want); most++ {
			got := ""
			for line := range fileLines(n) {
				got += line + "\n"
				if strings.Count(got, "\n") == most {
					break
				}
			}
			if got != strings.Join(want[:most], "") {
				t.Errorf("the first %d lines of %s are %q", most, brief(show(n)), brief(got))
			}
		}
	}
	for count := 1; count <= 3; count++ {
		for _, n := range sized(count) {
			check(n)
			check(dict("a", n, "b", seq(n, n, dict("c", n, "d", seq(seq(n), n)), n), "e", null))
		}
	}
}

// TestFileOfFile: promise 11.3, the file of what a file is parsed as is the file.
func TestFileOfFile(t *testing.T) {
	drawn(2, func(_ *rand.Rand, n api.Node) {
		file := Write(n)
		if len(file) > mostText {
			return
		}
		back, no, e := block.Parse(file)
		if again := Write(back); again != file || no != 0 || e != api.OK {
			t.Errorf("%q is parsed and written as %q, %d, %v", brief(file), brief(again), no, e)
		}
	})
}

// TestMemory: the rules on memory: nodes are not changed, and nothing behind the lengths of their lists is read.
func TestMemory(t *testing.T) {
	hidden := []api.Node{text("x"), dict("a", text("y")), text("hidden"), seq(text("hidden"))}
	keys := []string{"a", "b", "hidden", "a"}
	before := show(seq(hidden...)) + strings.Join(keys, " ")
	checkWrite(t, api.Node{Kind: 2, Kids: hidden[:2]}, "- x\n- a: y\n")
	checkWrite(t, api.Node{Kind: 3, Keys: keys[:2], Kids: hidden[:2]}, "a: x\nb:\n  a: y\n")
	checkWrite(t, api.Node{Kind: 1, Text: "x", Keys: keys[:0], Kids: hidden[:0]}, "x\n")
	checkWrite(t, api.Node{Kind: 2, Kids: hidden[:0]}, "[]\n")
	checkWrite(t, api.Node{Kind: 3, Keys: keys[:0], Kids: hidden[:0]}, "{}\n")
	checkWrite(t, api.Node{Keys: keys[:0], Kids: hidden[:0]}, "")
	if show(seq(hidden...))+strings.Join(keys, " ") != before {
		t.Errorf("the argument has been changed to %s and %q", show(seq(hidden...)), keys)
	}
	drawn(3, func(_ *rand.Rand, n api.Node) {
		before := show(n)
		file, lines := Write(n), Lines(n)
		if show(n) != before {
			t.Errorf("%s has been changed to %s", brief(before), brief(show(n)))
		}
		if Write(n) != file || Lines(n) != lines {
			t.Errorf("%s is written otherwise the second time", brief(before))
		}
	})
}

// TestInvalid: promise P1, Write and Lines end and do not panic, whatever they are given. For nodes that may have no end, or have entries without keys, there is no line, which is nowhere promised.
func TestInvalid(t *testing.T) {
	x := text("x")
	ring := seq(x, x)
	ring.Kids[1] = ring
	rings := dict()
	for i := range 100 {
		rings.Keys, rings.Kids = append(rings.Keys, strconv.Itoa(i)), append(rings.Kids, x)
	}
	for i := range rings.Kids {
		rings.Kids[i] = rings
	}
	many := seq()
	for range mostNodes {
		many.Kids = append(many.Kids, x)
	}
	deep, endless := x, x
	for range mostNest {
		deep = seq(deep)
	}
	for range 1 << 20 {
		endless = dict("a", endless)
	}
	for _, n := range []api.Node{{Kind: 3, Keys: []string{"a"}}, {Kind: 3, Kids: []api.Node{x}}, {Kind: 3, Keys: []string{"a", "b"}, Kids: []api.Node{x}}, {Kind: 3, Keys: []string{"a"}, Kids: []api.Node{x, x}}, ring, rings, many, deep, endless, {Kind: 1, Kids: ring.Kids}} {
		for _, outer := range []api.Node{n, seq(n), dict("a", x, "b", n)} {
			if got, lines := Write(outer), Lines(outer); got != "" || lines != 0 {
				t.Errorf("a node that is not valid is written in %d lines as %q", lines, brief(got))
			}
		}
	}
	for _, n := range []api.Node{{Kind: 4}, {Kind: -1}, {Kind: 4, Kids: []api.Node{x}}, {Kind: 0, Text: "x"}, {Kind: 0, Kids: []api.Node{x}}, {Kind: 1, Keys: []string{"a"}}, {Kind: 1, Text: "x", Kids: []api.Node{x}}, {Kind: 2, Text: "x"}, {Kind: 2, Text: "---"}, {Kind: 3, Text: "x"}, {Kind: 3, Keys: []string{"a", "a"}, Kids: []api.Node{x, x}}} {
		for _, outer := range []api.Node{n, seq(n), dict("a", x, "b", n)} {
			if got, lines := Write(outer), Lines(outer); strings.Count(got, "\n") != lines {
				t.Errorf("%q has %d lines", got, lines)
			}
		}
	}
}
