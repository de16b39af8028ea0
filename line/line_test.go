package line

import (
	"math"
	"math/rand"
	"regexp"
	"slices"
	"strings"
	"testing"

	"longshore/api"
	"longshore/quote"
)

// openers are the bytes behind which a quote begins a quoted string, and quotes those that begin one, as the chapter lists them.
const (
	openers = " [{,"
	quotes  = `"'`
)

// allBytes returns a string of each byte.
func allBytes() []string {
	var l []string
	for b := range 256 {
		l = append(l, string([]byte{byte(b)}))
	}
	return l
}

func printable(b int) bool { return b >= 32 && b <= 126 || b > 127 }

// joined calls a function with all strings of up to most of the pieces.
func joined(pieces []string, most int, f func(string)) {
	var grow func(s string, more int)
	grow = func(s string, more int) {
		f(s)
		if more == 0 {
			return
		}
		for _, p := range pieces {
			grow(s+p, more-1)
		}
	}
	grow("", most)
}

func checkSplit(t *testing.T, s string, want []Line, no int, e api.Errno) {
	t.Helper()
	got, gotNo, gotE := Split(s)
	if !slices.Equal(got, want) || gotNo != no || gotE != e {
		t.Errorf("Split(%q) = %#v, %d, %v; want %#v, %d, %v", s, got, gotNo, gotE, want, no, e)
	}
}

// checkLines checks that a file is valid and has these lines.
func checkLines(t *testing.T, s string, want ...Line) {
	t.Helper()
	checkSplit(t, s, want, 0, api.OK)
}

// checkInvalid checks that a file has this first invalid line.
func checkInvalid(t *testing.T, s string, no int) {
	t.Helper()
	checkSplit(t, s, nil, no, api.ErrSyntax)
}

// checkContent checks the content of a line without indentation: alone, indented, with spaces and comments behind it, and between other lines.
func checkContent(t *testing.T, s, content string) {
	t.Helper()
	if content == "" {
		checkLines(t, s)
		checkLines(t, "  "+s)
		checkLines(t, "a\n"+s+"\n b\n", Line{1, 0, "a"}, Line{3, 1, "b"})
		return
	}
	checkLines(t, s, Line{1, 0, content})
	checkLines(t, "  "+s, Line{1, 2, content})
	checkLines(t, s+"  ", Line{1, 0, content})
	checkLines(t, s+" # \t'\"", Line{1, 0, content})
	checkLines(t, "a\n"+s+"\n b\n", Line{1, 0, "a"}, Line{2, 0, content}, Line{3, 1, "b"})
}

// checkBad checks that lines without indentation are invalid: each alone, indented, and between other lines.
func checkBad(t *testing.T, all ...string) {
	t.Helper()
	for _, s := range all {
		checkInvalid(t, s, 1)
		checkInvalid(t, "   "+s, 1)
		checkInvalid(t, s+"\n", 1)
		checkInvalid(t, "a\n\n # x\n"+s+"\n b\n", 4)
	}
}

// TestSplitExamples: promise 7.1, the chapter's example, and an ordinary file.
func TestSplitExamples(t *testing.T) {
	checkLines(t, "a:  # x\n  b: '#'", Line{1, 0, "a:"}, Line{2, 2, "b: '#'"})
	checkLines(t, "# A project.\n\nservices:\n  web:   # the first one\n    image: \"web:1 # 2\"  \n    command: [run, 'a#b', \"x\"]\n\n   # done\nnets: {}\n",
		Line{3, 0, "services:"}, Line{4, 2, "web:"}, Line{5, 4, `image: "web:1 # 2"`}, Line{6, 4, `command: [run, 'a#b', "x"]`}, Line{9, 0, "nets: {}"})
}

// TestSplitEnds: promise 7.1, the empty string, and a last line with and without a line feed.
func TestSplitEnds(t *testing.T) {
	for _, s := range []string{"", "\n", "\n\n\n", " ", "  \n", " \n ", "#", "#\n", "# a\n#b", "  # a", "\n  \n#\n   #\n "} {
		checkLines(t, s)
	}
	for _, s := range []string{"a", "a\n", "a\n\n", "a \n", "a\n ", "a\n#", "a\n # x\n"} {
		checkLines(t, s, Line{1, 0, "a"})
	}
	for _, s := range []string{"a\nb", "a\nb\n", "a\nb\n\n", "a\nb # x"} {
		checkLines(t, s, Line{1, 0, "a"}, Line{2, 0, "b"})
	}
	checkInvalid(t, "a\n\t", 2)
	checkInvalid(t, "a\n\t\n", 2)
	checkInvalid(t, "a\n---", 2)
	checkInvalid(t, "a\n---\n", 2)
}

// TestSplitIgnored: promise 7.1, empty lines, lines of spaces and lines of a comment alone, which are counted.
func TestSplitIgnored(t *testing.T) {
	for _, ignored := range []string{"", " ", "     ", "#", "##", "# a", "#a", " #", "    # a: 'b", "# ---", "#\t", "# \"", "#'", " # \x00\xff"} {
		checkLines(t, ignored)
		checkLines(t, ignored+"\n"+ignored)
		checkLines(t, ignored+"\na", Line{2, 0, "a"})
		checkLines(t, ignored+"\n"+ignored+"\n  a\n"+ignored+"\nb\n"+ignored+"\n", Line{3, 2, "a"}, Line{5, 0, "b"})
		checkInvalid(t, ignored+"\n"+ignored+"\n\t", 3)
		checkInvalid(t, ignored+"\na\n"+ignored+"\n...", 4)
	}
	s := strings.Repeat("\n", 4000) + "a" + strings.Repeat("\n#\n \n", 800)
	checkLines(t, s, Line{4001, 0, "a"})
	checkLines(t, s+"b", Line{4001, 0, "a"}, Line{6401, 0, "b"})
}

// TestSplitBound: promise 7.1, files of up to MaxText bytes, and longer ones, in which no line counts.
func TestSplitBound(t *testing.T) {
	const most = 8192
	for _, c := range []string{"a", " ", "#", "\n", "-", "\xff", ":", "[", "\t", "'", `"`, "\x00"} {
		for _, length := range []int{most + 1, most + 2, 2 * most, 1 << 16, 1 << 20} {
			checkSplit(t, strings.Repeat(c, length), nil, 0, api.ErrBound)
		}
	}
	for _, c := range []string{"a", "-", "\xff", ":", "["} {
		for _, length := range []int{most - 1, most} {
			checkLines(t, strings.Repeat(c, length), Line{1, 0, strings.Repeat(c, length)})
		}
	}
	for _, c := range []string{" ", "#", "\n", " #", " \n", "#\n"} {
		checkLines(t, strings.Repeat(c, most/len(c)))
	}
	for _, c := range []string{"\t", "\x00", "\x7f", "\r\n", "---\n", "'\n"} {
		checkInvalid(t, strings.Repeat(c, most/len(c)), 1)
	}
	checkLines(t, strings.Repeat(`"`, most), Line{1, 0, strings.Repeat(`"`, most)})
	checkLines(t, strings.Repeat("'", most), Line{1, 0, strings.Repeat("'", most)})
	checkInvalid(t, strings.Repeat("'", most-1), 1)
	checkLines(t, "a"+strings.Repeat("\n", most-2)+"b", Line{1, 0, "a"}, Line{most - 1, 0, "b"})
	checkSplit(t, "a"+strings.Repeat("\n", most-1)+"b", nil, 0, api.ErrBound)
	checkLines(t, strings.Repeat(" ", most-1)+"a", Line{1, most - 1, "a"})
	checkSplit(t, strings.Repeat(" ", most)+"a", nil, 0, api.ErrBound)
	checkLines(t, "a"+strings.Repeat(" ", most-1), Line{1, 0, "a"})
	checkSplit(t, "a"+strings.Repeat(" ", most), nil, 0, api.ErrBound)
	checkLines(t, "a #"+strings.Repeat("\x00", most-3), Line{1, 0, "a"})
	checkSplit(t, "a #"+strings.Repeat("\x00", most-2), nil, 0, api.ErrBound)
	checkLines(t, "'"+strings.Repeat("a", most-2)+"'", Line{1, 0, "'" + strings.Repeat("a", most-2) + "'"})
	checkSplit(t, "'"+strings.Repeat("a", most-1)+"'", nil, 0, api.ErrBound)
	checkInvalid(t, strings.Repeat("\n", most-1)+"\t", most)
	checkSplit(t, "\t"+strings.Repeat("\n", most), nil, 0, api.ErrBound)
	checkSplit(t, "---\n"+strings.Repeat("a", most), nil, 0, api.ErrBound)
	checkSplit(t, "'\n"+strings.Repeat("#", most), nil, 0, api.ErrBound)
}

// TestSplitSpaces: promise 7.1, indentations, and spaces within a line and at its end.
func TestSplitSpaces(t *testing.T) {
	for _, content := range []string{"a", "a b", "a   b", "-", "- a", "a:", "'a'", `" a "`, "\xff", "~", "a  'b'  c", "----"} {
		for indent := range 20 {
			for behind := range 4 {
				s := strings.Repeat(" ", indent) + content + strings.Repeat(" ", behind)
				checkLines(t, s, Line{1, indent, content})
				checkLines(t, s+" # x ", Line{1, indent, content})
				checkLines(t, "x\n"+s+"\n", Line{1, 0, "x"}, Line{2, indent, content})
			}
		}
	}
	checkLines(t, "a\n b\n  c\n d\na", Line{1, 0, "a"}, Line{2, 1, "b"}, Line{3, 2, "c"}, Line{4, 1, "d"}, Line{5, 0, "a"})
	checkLines(t, "   a\nb", Line{1, 3, "a"}, Line{2, 0, "b"})
}

// TestSplitComments: promise 7.1, a "#" at each kind of place outside quoted strings.
func TestSplitComments(t *testing.T) {
	for _, x := range [][2]string{
		{"#", ""}, {"#a", ""}, {"# a", ""}, {"##", ""}, {"#'", ""}, {"#\"a", ""}, {"#\t", ""}, {"#---", ""}, {"# # a", ""},
		{"a #", "a"}, {"a # b", "a"}, {"a #b", "a"}, {"a  #b", "a"}, {"a   ##", "a"}, {"a # b # c", "a"}, {"a #\t", "a"}, {"a #'", "a"}, {"a # \"", "a"}, {"a # 'b' #", "a"}, {"a b #c", "a b"}, {"a: #b", "a:"}, {"- #b", "-"}, {"[ #]", "["}, {"{a, #}", "{a,"},
		{"a#", "a#"}, {"a#b", "a#b"}, {"a# b", "a# b"}, {"a## b", "a## b"}, {"a#b#c", "a#b#c"}, {"a:#b", "a:#b"}, {"-#", "-#"}, {"[#]", "[#]"}, {"{#}", "{#}"}, {"a,#b", "a,#b"}, {"[a,#", "[a,#"}, {"a'#", "a'#"}, {"a\"#", "a\"#"}, {"\xff#", "\xff#"}, {"~#", "~#"},
		{"a# #b", "a#"}, {"a#b # c", "a#b"}, {"a# b #c", "a# b"}, {"a#'b # c'", "a#'b"},
	} {
		checkContent(t, x[0], x[1])
	}
	for b, c := range allBytes() {
		if printable(b) && !strings.Contains(openers+quotes+"#", c) {
			checkContent(t, c+"#a", c+"#a")
			checkContent(t, c+"# a", c+"# a")
			checkContent(t, "a "+c+"#a", "a "+c+"#a")
			checkContent(t, c+" #a", c)
		}
	}
}

// TestSplitQuotedHash: promise 7.1, a "#" within quotes of either kind, directly behind a quoted string, and further behind it.
func TestSplitQuotedHash(t *testing.T) {
	for _, q := range []string{"'", `"`} {
		for _, x := range [][2]string{
			{"q#q", "q#q"}, {"q #q", "q #q"}, {"q # q", "q # q"}, {"q# aq", "q# aq"}, {"qa #bq", "qa #bq"}, {"q # # q", "q # # q"}, {"a: q #q", "a: q #q"}, {"- q # q", "- q # q"}, {"[q #q", "[q #q"}, {"{q #q", "{q #q"}, {"[a,q #q", "[a,q #q"},
			{"qaq#", "qaq#"}, {"qaq#b", "qaq#b"}, {"qaq# b", "qaq# b"}, {"qaq##", "qaq##"}, {"qq#", "qq#"}, {"q q#", "q q#"}, {"qa q#", "qa q#"}, {"a qbq#c", "a qbq#c"}, {"q #q#", "q #q#"}, {"q #q# b", "q #q# b"},
			{"qaq #", "qaq"}, {"qaq #b", "qaq"}, {"qaq  # b", "qaq"}, {"qq #", "qq"}, {"q #q #", "q #q"}, {"q # q # q", "q # q"}, {"q #q #q", "q #q"}, {"qaq# #", "qaq#"}, {"qaq, #b", "qaq,"}, {"a qbq #q", "a qbq"}, {"aqb #q", "aqb"}, {"aq #", "aq"}, {"aqbq #q", "aqbq"}, {"q #qaq #q", "q #qaq"},
		} {
			checkContent(t, strings.ReplaceAll(x[0], "q", q), strings.ReplaceAll(x[1], "q", q))
		}
	}
	for _, s := range []string{`"\" #"`, `"\\"`, `"a\" # b"`, `'it''s #'`, `'it'' #s'`, `''' #'`, `"'"`, `"' #"`, `'" #'`, `" #'"`, `' #"'`, `"\x23 #\x20"`, `"\n #\t"`} {
		checkContent(t, s, s)
		checkContent(t, s+" # a", s)
		checkContent(t, "a: ["+s+"#b #c", "a: ["+s+"#b")
	}
	checkContent(t, `"\\" #"`, `"\\"`)
	checkContent(t, `'\' #'`, `'\'`)
}

// TestSplitQuotePlaces: promise 7.1, a quote behind each byte, where a quoted string begins and where it does not.
func TestSplitQuotePlaces(t *testing.T) {
	for b, c := range allBytes() {
		if !printable(b) || strings.Contains(quotes+"#", c) {
			continue
		}
		for _, q := range []string{"'", `"`} {
			for _, before := range []string{"", "a", "a ", "a: b", "- [", "\xff"} {
				open := before + c + q
				if strings.Contains(openers, c) {
					checkBad(t, open, open+"a", open+" #", open+" # a", open+" #\t")
					content := strings.TrimLeft(open+" #"+q, " ")
					checkContent(t, content, content)
					checkContent(t, content+" # a", content)
					continue
				}
				checkContent(t, open, open)
				checkContent(t, open+"a", open+"a")
				checkContent(t, open+" #"+q, open)
				checkContent(t, open+"#"+q+" #"+q, open+"#"+q)
			}
		}
	}
	for _, q := range []string{"'", `"`} {
		for indent := range 4 {
			spaces := strings.Repeat(" ", indent)
			checkInvalid(t, spaces+q, 1)
			checkInvalid(t, spaces+q+" #", 1)
			checkInvalid(t, spaces+q+"a", 1)
			checkLines(t, spaces+q+" #"+q, Line{1, indent, q + " #" + q})
		}
	}
	for _, s := range []string{"don't", "it's a", "don't # won't", "5\"", "a:'b", "a:\"b", "-'a", "-\"", "(\"", "a#'", "]'", "}\"", "\\\"", "=\"a", "~'", "a'' #'", "a\"\" #\""} {
		content, _, _ := strings.Cut(s, " #")
		checkContent(t, s, content)
	}
}

// TestSplitQuotedStrings: promise 7.1, quoted strings at the end of a line, behind each other, and several in a line.
func TestSplitQuotedStrings(t *testing.T) {
	for _, s := range []string{
		`"a"`, `'a'`, `""`, `''`, `a: "b"`, `a: 'b'`, `- "b"`, `["b"`, `{'b'`, `a,"b"`, `a "b" c`, `["a","b"]`, `['a','b']`, `['a', "b", c, 'd #', " # "]`, `{"a": 'b', 'c': "d"}`, `[{"a": ['b']}]`, `[["a"],["b"]]`, `"a" "b"`, `'a' 'b'`, `"a" 'b #' "c #"`, `"a"b "c #"`, `"a": "b": "c # d"`,
		`'it''s'`, `''''`, `''''''`, `'a'''`, `'''a'`, `'a''b'`, `"a\"b"`, `"\\"`, `"\\\""`, `"\n\t\x41\xfF"`, `'\'`, `'a\'`, `'\x'`, `"'"`, `'"'`, `"it's"`, `'say "x"'`, "'\xff\x80'", "\"\xff\x80\"", `"a, 'b"`, `'a, "b'`, `" 'a"`, `' "a'`, `"['"`, `'{"'`,
		`"a""b"`, `"a"'b'`, `'a'"b"`, `"a""`, `"a"'`, `'a'"`, `""""`, `"""`, `"""""`, `''"`, `""'`, `"a"""`, `'a'""`, `"a"b'`, `'a'b"`, `'a'b'`, `"a"b"`, `"a"\`, `'a'\n`, `"a"]`, `'a'}`,
	} {
		checkContent(t, s, s)
		checkContent(t, s+`#`, s+`#`)
		checkContent(t, s+` "#"`, s+` "#"`)
		checkContent(t, s+` ' #' # '`, s+` ' #'`)
		checkContent(t, `x: `+s, `x: `+s)
		checkContent(t, `["x",`+s, `["x",`+s)
		checkBad(t, s+` "`, s+` '`, s+`,"a`, s+`['a #`, s+`{"\`, `x: "y" `+s+` '`)
	}
	checkContent(t, `"a""b # c"`, `"a""b`)
	checkContent(t, `'a''b # c'`, `'a''b # c'`)
	checkContent(t, `"a"'b # c'`, `"a"'b`)
	checkContent(t, `'a'"b # c"`, `'a'"b`)
	checkContent(t, `"a" "b # c"`, `"a" "b # c"`)
	checkContent(t, `"a","b # c"`, `"a","b # c"`)
	checkContent(t, `"a" x"b # c"`, `"a" x"b`)
}

// TestSplitBadQuotes: promise 7.1, quoted strings that are not terminated, or contain a byte or an escape that is not allowed.
func TestSplitBadQuotes(t *testing.T) {
	checkBad(t, `"`, `'`, `"a`, `'a`, `'''`, `'a''`, `'a'' #`, `"a'`, `'a"`, `"a\"`, `"\"`, `"\`, `"a\\\"`, `say 'x`, `say "x`, `["a`, `['a`, `{"a`, `{'a`, `a,'t`, `a,"t`, `a: 'b`, `- "b`, `'a' 'b`, `"a" "b`, `"a" 'b"`, `["a", "b]`, `"a #`, `'a # b`, `" # x`)
	checkBad(t, `"\a"`, `"\r"`, `"\'"`, `"\ "`, `"\0"`, `"\N"`, `"\x"`, `"\x4"`, `"\x4g"`, `"\xg4"`, `"\u0041"`, `"\X41"`, `"a\ b"`, `"a \# b"`, `x: "\,"`, `["\["`, `'a' "\q"`)
	for b, c := range allBytes() {
		if printable(b) || c == "\n" {
			continue
		}
		for _, q := range []string{"'", `"`} {
			checkBad(t, q+c+q, q+"a"+c+"b"+q, q+c, q+" #"+c+q, "x: "+q+"a"+c+q, "["+q+c+q+"]", `"x" `+q+c+q)
		}
		checkBad(t, `"\`+c+`"`, `"\x`+c+`4"`)
	}
	for _, q := range []string{"'", `"`} {
		checkInvalid(t, q+"a\nb"+q, 1)
		checkInvalid(t, q+"\n"+q, 1)
		checkInvalid(t, "a\nb: "+q+"c\n"+q+"\n", 2)
		checkInvalid(t, "a\nb: "+q+"c # "+"\n d"+q+"\n", 2)
		checkInvalid(t, "a: ["+q+"b\n"+q+"]", 1)
		checkInvalid(t, "a: "+q+"b"+q+"\n"+q, 2)
		checkLines(t, "a"+q+"b\nc"+q, Line{1, 0, "a" + q + "b"}, Line{2, 0, "c" + q})
		checkLines(t, "# "+q+"\n"+q+q, Line{2, 0, q + q})
	}
	checkInvalid(t, "\"a\\\n\"", 1)
	checkInvalid(t, "\"a\\\nn\"", 1)
}

// TestSplitBytes: promise 7.1, every single byte as a line, within it, before a comment and within a comment.
func TestSplitBytes(t *testing.T) {
	for b, c := range allBytes() {
		switch {
		case c == "\n":
			checkLines(t, c)
			checkLines(t, "a"+c+"b", Line{1, 0, "a"}, Line{2, 0, "b"})
			checkLines(t, "a # x"+c+"b", Line{1, 0, "a"}, Line{2, 0, "b"})
			checkLines(t, c+"#")
			checkLines(t, "#"+c+"a", Line{2, 0, "a"})
			continue
		case !printable(b):
			checkBad(t, c, "a"+c, c+"a", "a"+c+"b", "a "+c, "a  "+c+" b", c+" # x", "a "+c+" # x", c+"# x", "a"+c+"#", "a#"+c, "a b#"+c, c+" ", " "+c, c+c)
			checkInvalid(t, "a"+c+"\n"+c, 1)
		case c == " " || c == "#":
			checkContent(t, c, "")
			checkContent(t, c+" # x", "")
		case strings.Contains(quotes, c):
			checkBad(t, c, c+" # x")
		default:
			checkContent(t, c, c)
			checkContent(t, c+c, c+c)
			checkContent(t, c+" # x", c)
			checkContent(t, "a "+c+"  # x", "a "+c)
		}
		checkContent(t, "# "+c, "")
		checkContent(t, "#"+c, "")
		checkContent(t, "a #"+c, "a")
		checkContent(t, "a # x"+c+c+" y", "a")
		checkContent(t, "a: 'b' #"+c+"#", "a: 'b'")
	}
	checkInvalid(t, "a # x\r\n\r\n", 2)
	checkBad(t, "a\r", "\ta", "a\tb", "\t# a", "a\t#", "caf\xc3\x7f")
	checkContent(t, "caf\u00e9 # \u00e9", "caf\u00e9")
}

// TestSplitMarkers: promise 7.1, "---" and "..." with and without indentation, with spaces or a comment behind them, and other contents that resemble them.
func TestSplitMarkers(t *testing.T) {
	for _, m := range []string{"---", "..."} {
		for _, behind := range []string{"", " ", "    ", " #", " # x", "   #x", " # \t", " #'"} {
			for indent := 1; indent < 5; indent++ {
				checkLines(t, strings.Repeat(" ", indent)+m+behind, Line{1, indent, m})
				checkLines(t, "a\n"+strings.Repeat(" ", indent)+m+behind+"\n", Line{1, 0, "a"}, Line{2, indent, m})
			}
			checkInvalid(t, m+behind, 1)
			checkInvalid(t, m+behind+"\n", 1)
			checkInvalid(t, m+behind+"\na", 1)
			checkInvalid(t, "a\n\n"+m+behind+"\nb", 3)
		}
		for _, s := range []string{m + m[:1], m[:2], m[:1], m + m, m + "a", m + " a", m + "#", m + "# a", m + ":", m + " -", m + " " + m, "a" + m, "a " + m, "- " + m, "'" + m + "'", `"` + m + `"`, m + "'", m + ` "a"`, m + " ' # '", "[" + m, m + "\xff", "\xff" + m} {
			checkContent(t, s, s)
		}
		checkContent(t, "#"+m, "")
		checkContent(t, "# "+m, "")
	}
	for _, s := range []string{"--.", "..-", "-.-", ".-.", "-..", ".--", "- -", ". .", "--", "..", "----", "....", "-----", "---...", "...---", "- --", ".. .", "===", "___", ",,,", "+++"} {
		checkContent(t, s, s)
	}
	checkBad(t, "---\t", "...\r", "\t---", "--\x00-", "---\xff\x7f")
}

// TestSplitFirstInvalid: promises 7.1 and P1, files with several invalid lines of each kind, of which the first counts.
func TestSplitFirstInvalid(t *testing.T) {
	invalid := []string{"\t", "a\x00b", "---", "...  # x", "'a", `a: "\q"`, `["b`, " 'it''s", "\r"}
	valid := []string{"a", "", "  # x", "   b: 'c'"}
	for _, first := range invalid {
		for _, second := range invalid {
			checkInvalid(t, first+"\n"+second, 1)
			for i, v := range valid {
				checkInvalid(t, v+"\n"+first+"\n"+second+"\n", 2)
				checkInvalid(t, first+"\n"+v+"\n"+second, 1)
				before := strings.Join(valid[:i+1], "\n") + "\n"
				checkInvalid(t, before+first+"\n"+v+"\n"+second+"\n"+first, i+2)
				checkInvalid(t, before+v+"\n"+first, i+3)
			}
		}
	}
}

// latin returns a string with a rune for each byte of s, since patterns do not see single bytes.
func latin(s string) string {
	l := make([]rune, len(s))
	for i := range len(s) {
		l[i] = rune(s[i])
	}
	return string(l)
}

// unlatin returns the string of whose bytes latin made s.
func unlatin(s string) string {
	var l []byte
	for _, r := range s {
		l = append(l, byte(r))
	}
	return string(l)
}

// A line as a pattern. A word begins at a line's beginning or behind a space, a part behind another byte behind which a quoted string begins; both go on with bytes behind which none begins. A single quote that ends a quoted string is not followed by another.
const (
	doubleForm = `"(?:[ !#-\[\]-~\x{80}-\x{ff}]|\\[\\"nt]|\\x[0-9a-fA-F]{2})*"`
	singleForm = `'(?:[ -&(-~\x{80}-\x{ff}]|'')*'`
	ordinary   = `!$-&(-+\x2d-Z\x5c-z|-~\x{80}-\x{ff}`
	further    = `["'#` + ordinary + `]*`
	single     = singleForm + `(?:["#` + ordinary + `]` + further + `)?`
	word       = `(?:(?:` + doubleForm + `|[` + ordinary + `])` + further + `|` + single + `)?`
	part       = `(?:(?:` + doubleForm + `|[#` + ordinary + `])` + further + `|` + single + `)?`
	body       = word + `(?: ` + word + `|[\[{,]` + part + `)*`
)

var linePattern = regexp.MustCompile(`^(?s)( *)(?:(` + body + `)|((?:` + body + ` )?)#.*)$`)

// splitByPattern tells by the pattern what Split is to answer for a file that is not too long.
func splitByPattern(s string) ([]Line, int, api.Errno) {
	var l []Line
	for i, whole := range strings.Split(s, "\n") {
		parts := linePattern.FindStringSubmatch(latin(whole))
		if parts == nil {
			return nil, i + 1, api.ErrSyntax
		}
		text := strings.TrimRight(unlatin(parts[2]+parts[3]), " ")
		if parts[1] == "" && (text == "---" || text == "...") {
			return nil, i + 1, api.ErrSyntax
		}
		if text != "" {
			l = append(l, Line{i + 1, len(parts[1]), text})
		}
	}
	return l, 0, api.OK
}

// checkByPattern checks a file against the pattern, and that its joined lines are split into the same lines (promise 7.3).
func checkByPattern(t *testing.T, s string) {
	t.Helper()
	l, no, e := splitByPattern(s)
	checkSplit(t, s, l, no, e)
	if e == api.OK {
		checkRoundTrip(t, s)
	}
}

// TestSplitAllStrings: promises 7.1, 7.3 and P1, all files of up to six pieces of a few kinds, and all of two bytes, against the pattern.
func TestSplitAllStrings(t *testing.T) {
	check := func(s string) { checkByPattern(t, s) }
	joined([]string{"a", " ", "'", `"`, "#", "[", `\`}, 6, check)
	joined([]string{"a ", "'", `"`, " #", ",", "{", "\x7f", "\xff", `\n`, `\x4F`}, 4, check)
	joined([]string{"\n", " ", "#", "a", "'", "\t"}, 6, check)
	joined([]string{"---", "...", "-", " ", "#", "\n"}, 5, check)
	joined(allBytes(), 2, check)
	for _, c := range allBytes() {
		for _, q := range []string{"'", `"`} {
			for _, around := range [][2]string{{q, q}, {q + "a" + c, " #" + q}, {"a", q + " #" + q}, {q + q, "# " + q}, {"a ", q + "b" + q + "#"}, {q + "#" + q, q}, {q + " " + q, " #" + c}} {
				check(around[0] + c + around[1])
			}
		}
	}
}

// drawn returns a file of drawn pieces that is not too long.
func drawn(random *rand.Rand, pieces []string, count int) string {
	s := ""
	for range count {
		if p := pieces[random.Intn(len(pieces))]; len(s)+len(p) <= 8192 {
			s += p
		}
	}
	return s
}

// TestSplitDrawnFiles: promises 7.1 and 7.3, files of up to 8192 bytes of drawn pieces (fixed seed) against the pattern.
func TestSplitDrawnFiles(t *testing.T) {
	random := rand.New(rand.NewSource(7))
	valid := []string{"a", "b:", " ", "  ", "\n", "\n", " # x", "#", " 'c' ", ` "d # e" `, " 'it''s' ", "- ", " [", ", ", "{", "\xff", "x---", "\n  ---", ` "\"\\" `}
	other := append([]string{"'", `"`, "\t", "\n---\n", ` "\q"`, "\n..."}, valid...)
	for count := 1; count < 4000; count += 7 {
		checkByPattern(t, drawn(random, valid, count))
		checkByPattern(t, drawn(random, other, count/20+1))
	}
}

// checkRoundTrip checks that the joined lines of a valid file are split into the same lines, numbered from 1 (promise 7.3). Only a file of MaxText bytes that ends without a line feed may have joined lines that are too long for Split, by the line feed that Join adds; then they are split without it.
func checkRoundTrip(t *testing.T, s string) {
	t.Helper()
	l, _, e := Split(s)
	if e != api.OK {
		t.Errorf("Split(%q): %v", s, e)
		return
	}
	text := Join(l)
	if len(s) == 8192 && text == s+"\n" {
		checkSplit(t, text, nil, 0, api.ErrBound)
		text = s
	}
	want := slices.Clone(l)
	for i := range want {
		want[i].No = i + 1
	}
	checkSplit(t, text, want, 0, api.OK)
	if again := Join(want); again != Join(l) {
		t.Errorf("Join(%#v) = %q; want %q", want, again, Join(l))
	}
}

// TestRoundTrip: promise 7.3, files of many kinds of lines, each alone, with each other one, and all together.
func TestRoundTrip(t *testing.T) {
	kinds := []string{
		"", " ", "    ", "#", "# a", "  # a", "a", " a", "   a", "a ", "a   ", " a # b", "a#b", "a #", "a: b", "- a", "  - a: b", "-", "  -   # x", " ---", "  ...", "----", "--- a", "[a, b]", `{a: 'b', c: "d"} # e`, "'#'", " '#' # x", `" # "`, `"\"" # x`, "'it''s'", "don't # won't", `a"b`, `"a""b # c"`, "'a'#b", "['a','b # c']", "\xff", "  caf\u00e9 # \u00e9", "a # \t", "''", "' '   ", "x: ' ' # '",
	}
	for _, first := range kinds {
		checkRoundTrip(t, first)
		for _, second := range kinds {
			checkRoundTrip(t, first+"\n"+second)
			checkRoundTrip(t, "\n"+first+"\n\n"+second+"\n")
		}
	}
	checkRoundTrip(t, strings.Join(kinds, "\n"))
	checkRoundTrip(t, strings.Repeat(strings.Join(kinds, "\n")+"\n", 8))
	checkRoundTrip(t, strings.Repeat("a\n", 4096))
	checkRoundTrip(t, strings.Repeat(" ", 8190)+"a\n")
	for _, value := range append(allBytes(), "a # b", " ", "it's", "---", "a\nb", `\"`) {
		form := quote.Double(value)
		checkRoundTrip(t, form+" # "+form)
		checkRoundTrip(t, "a: "+form+"\n  ["+form+","+form+"#]")
	}
}

// TestRoundTripLongest: promises 7.1 to 7.3, files of MaxText bytes without a line feed at the end, whose joined lines are longer by one if nothing is left out.
func TestRoundTripLongest(t *testing.T) {
	for _, s := range []string{strings.Repeat("a", 8192), strings.Repeat("a\n", 4095) + "ab", strings.Repeat(" ", 8191) + "a"} {
		l, _, _ := Split(s)
		if text := Join(l); text != s+"\n" {
			t.Errorf("Join gives %d bytes; want %d", len(text), len(s)+1)
		}
		checkSplit(t, Join(l), nil, 0, api.ErrBound)
		checkRoundTrip(t, s[1:])
		checkRoundTrip(t, s[1:]+"\n")
	}
	checkRoundTrip(t, strings.Repeat("a", 8191)+" ")
	checkRoundTrip(t, strings.Repeat("a", 8190)+" #")
	checkRoundTrip(t, "\n"+strings.Repeat("a", 8191))
}

func checkCut(t *testing.T, l Line, n int, want Line) {
	t.Helper()
	if got := Cut(l, n); got != want {
		t.Errorf("Cut(%#v, %d) = %#v; want %#v", l, n, got, want)
	}
}

// TestCut: promise 7.2, every number up to the content's length, and spaces and other bytes behind the removed ones.
func TestCut(t *testing.T) {
	l := Line{3, 2, "-   a b"}
	for n, want := range []Line{l, {3, 6, "a b"}, {3, 6, "a b"}, {3, 6, "a b"}, {3, 6, "a b"}, {3, 8, "b"}, {3, 8, "b"}, {3, 9, ""}} {
		checkCut(t, l, n, want)
	}
	checkCut(t, Line{1, 0, "- a"}, 1, Line{1, 2, "a"})
	checkCut(t, Line{1, 0, "-"}, 1, Line{1, 1, ""})
	checkCut(t, Line{9, 4, "- - b"}, 1, Line{9, 6, "- b"})
	checkCut(t, Line{9, 6, "- b"}, 1, Line{9, 8, "b"})
	checkCut(t, Line{7, 1, "a:b"}, 2, Line{7, 3, "b"})
	checkCut(t, Line{7, 1, "a: 'b  '  "}, 2, Line{7, 4, "'b  '  "})
	checkCut(t, Line{5, 3, "a    "}, 1, Line{5, 8, ""})
	checkCut(t, Line{5, 3, "a    "}, 2, Line{5, 8, ""})
	checkCut(t, Line{5, 3, "   "}, 0, Line{5, 6, ""})
	checkCut(t, Line{5, 3, "  a"}, 0, Line{5, 5, "a"})
	checkCut(t, Line{5, 3, "a"}, 0, Line{5, 3, "a"})
	checkCut(t, Line{5, 3, "a \tb"}, 1, Line{5, 5, "\tb"})
	checkCut(t, Line{5, 3, "a\n b"}, 1, Line{5, 4, "\n b"})
	checkCut(t, Line{5, 3, "a \u00a0b"}, 1, Line{5, 5, "\u00a0b"})
	checkCut(t, Line{5, 3, "caf\u00e9 b"}, 4, Line{5, 7, "\xa9 b"})
	checkCut(t, Line{}, 0, Line{})
	checkCut(t, Line{-4, -6, "a  b"}, 1, Line{-4, -3, "b"})
	checkCut(t, Line{0, 0, "ab"}, 2, Line{0, 2, ""})
}

// TestCutOutside: promises 7.2 and P1, numbers that are negative or greater than the content's length.
func TestCutOutside(t *testing.T) {
	for _, text := range []string{"", "a", " ", "  a", "- a", "a   ", "    ", "-   a b", strings.Repeat("a ", 300)} {
		l := Line{3, 2, text}
		for _, n := range []int{-1, -2, -len(text) - 1, -256, math.MinInt, math.MinInt + 1, len(text) + 1, len(text) + 2, len(text) + 256, 1 << 32, math.MaxInt, math.MaxInt - 1} {
			checkCut(t, l, n, l)
		}
	}
}

// TestCutAllStrings: promise 7.2, all contents of up to five bytes of a few kinds, and every byte, against a pattern.
func TestCutAllStrings(t *testing.T) {
	spaces := regexp.MustCompile("^ *")
	check := func(text string) {
		for _, indent := range []int{0, 1, 7} {
			l := Line{2, indent, text}
			for n := -2; n <= len(text)+2; n++ {
				want := l
				if n >= 0 && n <= len(text) {
					removed := n + len(spaces.FindString(text[n:]))
					want = Line{2, indent + removed, text[removed:]}
				}
				checkCut(t, l, n, want)
			}
		}
	}
	joined([]string{"a", " ", "-", "\t", "\xff", "'"}, 5, check)
	for _, c := range allBytes() {
		check("a" + c + " b")
		check("a " + c + "b")
	}
}

func checkJoin(t *testing.T, want string, l ...Line) {
	t.Helper()
	if got := Join(l); got != want {
		t.Errorf("Join(%#v) = %q; want %q", l, got, want)
	}
}

// TestJoin: promise 7.2, no line at all, one line, several lines, and indentations of 0 and more.
func TestJoin(t *testing.T) {
	checkJoin(t, "")
	checkJoin(t, "", []Line{}...)
	checkJoin(t, "a\n", Line{1, 0, "a"})
	checkJoin(t, " a\n", Line{1, 1, "a"})
	checkJoin(t, "   - a: 'b'\n", Line{8, 3, "- a: 'b'"})
	checkJoin(t, "a:\n  b: '#'\n", Line{1, 0, "a:"}, Line{2, 2, "b: '#'"})
	checkJoin(t, "a:\n  b: '#'\n", Line{3, 0, "a:"}, Line{9, 2, "b: '#'"})
	checkJoin(t, "b\n a\nb\n    c\n", Line{4, 0, "b"}, Line{2, 1, "a"}, Line{4, 0, "b"}, Line{-1, 4, "c"})
	checkJoin(t, "\n", Line{})
	checkJoin(t, "\n  \n a \n", Line{}, Line{1, 2, ""}, Line{2, 1, "a "})
	checkJoin(t, "  # a\n\xff\x00\n", Line{1, 2, "# a"}, Line{2, 0, "\xff\x00"})
	var l []Line
	want := ""
	for i := range 300 {
		l = append(l, Line{300 - i, i % 9 * 11, strings.Repeat("a", i)})
		want += strings.Repeat(" ", i%9*11) + strings.Repeat("a", i) + "\n"
	}
	checkJoin(t, want, l...)
	for _, x := range l {
		checkJoin(t, strings.Repeat(" ", x.Indent)+x.Text+"\n", x)
	}
}

// TestJoinOutside: promise P1, indentations that are negative, and those beyond what the document promises, which no memory holds.
func TestJoinOutside(t *testing.T) {
	for _, indent := range []int{-1, -2, -1 << 31, -1 << 40, math.MinInt, math.MinInt + 1} {
		checkJoin(t, "a\n", Line{1, indent, "a"})
		checkJoin(t, "  b\na\n c\n", Line{1, 2, "b"}, Line{2, indent, "a"}, Line{3, 1, "c"})
	}
	for _, indent := range []int{1<<31 - 1, 1 << 31, 1 << 40, math.MaxInt, math.MaxInt - 1} {
		checkJoin(t, "", Line{1, indent, "a"})
		checkJoin(t, "", Line{1, 0, "a"}, Line{1, indent, ""}, Line{1, 2, "b"})
		checkJoin(t, "", Line{1, indent, "a"}, Line{1, indent, "b"}, Line{1, indent, "c"})
	}
	checkJoin(t, "", Line{1, 1 << 30, ""}, Line{2, 1 << 30, ""})
}

// TestJoinFits: promise 7.2, texts of up to 2^31 - 1 bytes are joined; they are only measured here.
func TestJoinFits(t *testing.T) {
	const most = 1<<31 - 1
	for _, x := range []struct {
		l    []Line
		fits bool
	}{
		{nil, true}, {[]Line{{}}, true}, {[]Line{{1, most - 1, ""}}, true}, {[]Line{{1, most, ""}}, false}, {[]Line{{1, most - 2, "a"}}, true}, {[]Line{{1, most - 1, "a"}}, false},
		{[]Line{{1, most - 2, ""}, {}}, true}, {[]Line{{1, most - 1, ""}, {}}, false}, {[]Line{{}, {1, most - 2, ""}}, true}, {[]Line{{}, {1, most - 1, ""}}, false},
		{[]Line{{1, -5, "a"}, {1, most - 4, "b"}}, true}, {[]Line{{1, -5, "a"}, {1, most - 3, "b"}}, false}, {[]Line{{1, math.MinInt, ""}, {1, most - 2, ""}}, true}, {[]Line{{1, math.MinInt, ""}, {1, most - 1, ""}}, false}, {[]Line{{1, 3, "abc"}, {1, most - 10, "ab"}}, true}, {[]Line{{1, 3, "abc"}, {1, most - 9, "ab"}}, false},
	} {
		if got := fits(x.l); got != x.fits {
			t.Errorf("fits(%#v) = %t", x.l, got)
		}
	}
}

// TestMemory: general rules R4 and R5, lines that are passed are not modified, those behind a slice's length are not read, and results are not shared.
func TestMemory(t *testing.T) {
	const s = "a # x\n\n  b: 'c'\n- d"
	first, _, _ := Split(s)
	want := slices.Clone(first)
	for i := range first {
		first[i] = Line{-1, -1, "z"}
	}
	checkLines(t, s, want...)
	hidden := append(slices.Clone(want), Line{9, 9, "z"})
	if got := Join(hidden[:2]); got != "a\n  b: 'c'\n" {
		t.Errorf("Join = %q", got)
	}
	if got := Join(hidden[:0]); got != "" {
		t.Errorf("Join = %q", got)
	}
	if !slices.Equal(hidden[:3], want) || hidden[3] != (Line{9, 9, "z"}) {
		t.Errorf("Join has modified its argument: %#v", hidden)
	}
}
