package word

import (
	"math/rand"
	"regexp"
	"slices"
	"strconv"
	"strings"
	"testing"

	"longshore/api"
)

// mostWords is the limit as the chapter writes it.
const mostWords = 32

// bareBytes are the bytes of bare words, written out.
const bareBytes = "abcdefghijklmnopqrstuvwxyzABCDEFGHIJKLMNOPQRSTUVWXYZ0123456789._-/:=,+@%"

// spelling is a word as it is written, and as it is read.
type spelling struct{ form, word string }

// spellings are words of each kind of piece, alone and of several kinds one behind the other.
var spellings = []spelling{
	// Bytes that denote themselves.
	{"a", "a"}, {"-", "-"}, {"abc", "abc"}, {"x=1", "x=1"}, {"\n", "\n"}, {"a\nb", "a\nb"}, {"a\n", "a\n"}, {"\r\n", "\r\n"}, {"\x00", "\x00"}, {"\v\f", "\v\f"}, {"\x7f", "\x7f"}, {"\xff\x80", "\xff\x80"}, {"é", "é"}, {"\u00a0", "\u00a0"}, {"\u2028", "\u2028"}, {"#a", "#a"}, {"$A", "$A"}, {"a;b|c&d", "a;b|c&d"}, {"`a`", "`a`"}, {"(a)*?[b]{c}~!<>^", "(a)*?[b]{c}~!<>^"}, {"a/b:c,d+e@f%g._h", "a/b:c,d+e@f%g._h"},
	// A "\" and a byte.
	{`\a`, "a"}, {`\n`, "n"}, {`\ `, " "}, {"\\\t", "\t"}, {"\\\n", "\n"}, {`\\`, `\`}, {`\\\\`, `\\`}, {`\'`, "'"}, {`\"`, `"`}, {`\'\'`, "''"}, {`\"\"`, `""`}, {`a\ b`, "a b"}, {`\ \ `, "  "}, {`\\\ `, `\ `}, {`\é`, "é"}, {"\\\x00", "\x00"}, {`a\\`, `a\`}, {`\\a`, `\a`}, {`\\\'`, `\'`},
	// Single quotes.
	{"''", ""}, {"'a'", "a"}, {"'a b'", "a b"}, {"' '", " "}, {"'\t'", "\t"}, {"'  a \t b  '", "  a \t b  "}, {`'"'`, `"`}, {`'""'`, `""`}, {`'"a" b'`, `"a" b`}, {`'\'`, `\`}, {`'\\'`, `\\`}, {`'\"'`, `\"`}, {`'a\'`, `a\`}, {`'\a'`, `\a`}, {`'\n'`, `\n`}, {`'\ '`, `\ `}, {"'\n'", "\n"}, {"'a\nb\n'", "a\nb\n"}, {"'é'", "é"}, {"'\xff\x00'", "\xff\x00"},
	// Double quotes.
	{`""`, ""}, {`"a"`, "a"}, {`"a b"`, "a b"}, {`" "`, " "}, {"\"\t\"", "\t"}, {"\"  a \t b  \"", "  a \t b  "}, {`"'"`, "'"}, {`"''"`, "''"}, {`"it's"`, "it's"}, {`"'a' b"`, "'a' b"}, {`"\""`, `"`}, {`"\"\""`, `""`}, {`"\\"`, `\`}, {`"\\\\"`, `\\`}, {`"\\\""`, `\"`}, {`"\"\\"`, `"\`}, {`"\'"`, `\'`}, {`"\a"`, `\a`}, {`"\n"`, `\n`}, {`"\ "`, `\ `}, {"\"\\\t\"", "\\\t"}, {"\"\\\n\"", "\\\n"}, {"\"\n\"", "\n"}, {`"\\n"`, `\n`}, {`"\\\n"`, `\\n`}, {`"a\"b"`, `a"b`}, {`"a\\"`, `a\`}, {`"\$"`, `\$`}, {"\"\\`\"", "\\`"}, {`"\é"`, `\é`}, {"\"\xff\\\x00\"", "\xff\\\x00"},
	// Several pieces.
	{"a'b'", "ab"}, {"'a'b", "ab"}, {`a"b"`, "ab"}, {`"a"b`, "ab"}, {"'a''b'", "ab"}, {`"a""b"`, "ab"}, {`'a'"b"`, "ab"}, {`"a"'b'`, "ab"}, {"a''", "a"}, {"''a", "a"}, {`a""`, "a"}, {`""a`, "a"}, {"a''b", "ab"}, {`a""b`, "ab"}, {"''''", ""}, {`""""`, ""}, {`''""`, ""}, {`""''`, ""}, {`''\a`, "a"}, {`\a''`, "a"}, {`\ ''`, " "}, {`""\ `, " "}, {`'it'\''s'`, "it's"}, {`'a'"'"'b'`, "a'b"}, {`"a"\""b"`, `a"b`}, {`'\'\'`, `\'`}, {`'\'\\`, `\\`}, {`\\'\'`, `\\`}, {`"\\"\\`, `\\`}, {`\\"\\"`, `\\`}, {"x='1 2'", "x=1 2"}, {`--a="b c"d`, "--a=b cd"}, {`a' 'b" "c\ d`, "a b c d"}, {`'"'"'"`, `"'`}, {`\''"'`, `'"`}, {`\"'"'"\""`, `"""`}, {`a\b'c\d'"e\f"`, `abc\de\f`}, {"'b c'\"d\"\n", "b cd\n"},
}

// place is a command line around a word: head and tail belong to the word, first and last are the other words.
type place struct {
	before, after string
	first         []string
	head, tail    string
	last          []string
}

// places are such surroundings, with up to 31 other words.
func places() []place {
	return []place{
		{}, {before: " "}, {after: " "}, {before: "\t", after: "\t"}, {before: "  \t ", after: " \t\t "}, {before: "\t \t"},
		{before: "x ", first: []string{"x"}}, {after: " y", last: []string{"y"}}, {before: "x\t", after: "\ty", first: []string{"x"}, last: []string{"y"}}, {before: "x \t  ", after: "\t\t y ", first: []string{"x"}, last: []string{"y"}},
		{before: "'' ", after: ` ""`, first: []string{""}, last: []string{""}}, {before: `\  `, after: ` \ `, first: []string{" "}, last: []string{" "}}, {before: `'x y' "z" `, after: ` "x y" 'z'`, first: []string{"x y", "z"}, last: []string{"x y", "z"}},
		{before: "x", after: "y", head: "x", tail: "y"}, {before: "'x'", after: "'y'", head: "x", tail: "y"}, {before: `"x"`, after: `"y"`, head: "x", tail: "y"}, {before: `\x`, after: `\y`, head: "x", tail: "y"}, {before: "''", after: "''"}, {before: `""`, after: `""`}, {before: `\ `, after: `\ `, head: " ", tail: " "}, {before: `\\`, after: `\\`, head: `\`, tail: `\`}, {before: `\'`, after: `\"`, head: "'", tail: `"`}, {before: "\n", after: "\n", head: "\n", tail: "\n"},
		{before: `x 'y z'`, after: `"y z" x`, first: []string{"x"}, head: "y z", tail: "y z", last: []string{"x"}},
		{before: strings.Repeat("x ", 31), first: repeat("x", 31)}, {after: strings.Repeat(" y", 31), last: repeat("y", 31)}, {before: strings.Repeat("''\t", 15), after: strings.Repeat(` ""`, 16) + "\t", first: repeat("", 15), last: repeat("", 16)},
	}
}

// repeat returns a list of n times the same word.
func repeat(w string, n int) []string {
	return slices.Repeat([]string{w}, n)
}

// cut quotes a string for a message.
func cut(s string) string {
	if len(s) > 200 {
		return strconv.Quote(s[:200]) + "... (" + strconv.Itoa(len(s)) + " bytes)"
	}
	return strconv.Quote(s)
}

// brief writes words for a message.
func brief(l []string) string {
	text := strconv.Itoa(len(l)) + " words"
	for _, w := range l[:min(len(l), 40)] {
		text += " " + cut(w)
	}
	return text
}

// checkSplit checks the words of a command line, of which there may be any number.
func checkSplit(t *testing.T, s string, words ...string) {
	t.Helper()
	if len(words) > mostWords {
		checkError(t, s, api.ErrBound)
		return
	}
	if l, errno := Split(s); !slices.Equal(l, words) || errno != api.OK {
		t.Errorf("Split(%s) = %s, %v; want %s", cut(s), brief(l), errno, brief(words))
	}
}

// checkError checks the error for what is no command line, or one with too many words.
func checkError(t *testing.T, s string, want api.Errno) {
	t.Helper()
	if l, errno := Split(s); len(l) != 0 || errno != want {
		t.Errorf("Split(%s) = %s, %v; want none, %v", cut(s), brief(l), errno, want)
	}
}

// checkModel checks a string of any kind.
func checkModel(t *testing.T, s string) {
	t.Helper()
	if words, ok := model(s); ok {
		checkSplit(t, s, words...)
	} else {
		checkError(t, s, api.ErrSyntax)
	}
}

const (
	piecePattern = `[^ \t"'\\]|\\.|'[^']*'|"(?:[^"\\]|\\.)*"`
	wordPattern  = `(?:` + piecePattern + `)+`
)

var (
	pieceForm = regexp.MustCompile(`(?s)` + piecePattern)
	wordForm  = regexp.MustCompile(`(?s)` + wordPattern)
	lineForm  = regexp.MustCompile(`(?s)\A[ \t]*(?:` + wordPattern + `[ \t]+)*(?:` + wordPattern + `)?\z`)
	pairForm  = regexp.MustCompile(`\\(["\\])`)
)

// model returns the words of a command line, however many, or false if s is none.
func model(s string) ([]string, bool) {
	text := widened(s)
	if !lineForm.MatchString(text) {
		return nil, false
	}
	var words []string
	for _, w := range wordForm.FindAllString(text, -1) {
		words = append(words, narrowed(pieceForm.ReplaceAllStringFunc(w, denoted)))
	}
	return words, true
}

// denoted returns what a piece denotes.
func denoted(p string) string {
	switch p[0] {
	case '\\':
		return p[1:]
	case '\'':
		return p[1 : len(p)-1]
	case '"':
		return pairForm.ReplaceAllString(p[1:len(p)-1], "$1")
	}
	return p
}

// widened returns a string with the rune of each byte's number, since patterns tell runes, and not bytes.
func widened(s string) string {
	var all []rune
	for _, c := range []byte(s) {
		all = append(all, rune(c))
	}
	return string(all)
}

// narrowed is the reverse of widened.
func narrowed(s string) string {
	var all []byte
	for _, r := range s {
		all = append(all, byte(r))
	}
	return string(all)
}

// isBareWord is another way of telling bare words.
func isBareWord(s string) bool {
	return s != "" && strings.Trim(s, bareBytes) == "" // what Trim leaves begins with a byte that is none of them
}

// modelForm returns a word as Join writes it.
func modelForm(w string) string {
	if isBareWord(w) {
		return w
	}
	text := "'"
	for i := range len(w) {
		if w[i] == '\'' {
			text += `'\'`
		}
		text += w[i : i+1]
	}
	return text + "'"
}

// checkJoin checks the command line of words, and what is read of it.
func checkJoin(t *testing.T, want string, words ...string) {
	t.Helper()
	if s := Join(words); s != want {
		t.Errorf("Join(%s) = %s; want %s", brief(words), cut(s), cut(want))
	}
	checkSplit(t, Join(words), words...)
}

// eachString calls f for all strings of up to so many pieces.
func eachString(pieces []string, most int, f func(s string)) {
	var extend func(s string, left int)
	extend = func(s string, left int) {
		f(s)
		if left == 0 {
			return
		}
		for _, p := range pieces {
			extend(s+p, left-1)
		}
	}
	extend("", most)
}

// eachByte calls f for each byte as a string, and its number.
func eachByte(f func(c string, n byte)) {
	for n := range 256 {
		f(string([]byte{byte(n)}), byte(n))
	}
}

// TestExamples: promises 15.1 and 15.2, the examples of the chapter.
func TestExamples(t *testing.T) {
	checkSplit(t, `a "b c"'d' \e`, "a", "b cd", "e")
	checkJoin(t, `'it'\''s'`, "it's")
	if Most != mostWords {
		t.Errorf("Most = %d; want %d", Most, mostWords)
	}
}

// TestSplitBlanks: promise 15.1, command lines without words, and blanks around and between words.
func TestSplitBlanks(t *testing.T) {
	eachString([]string{" ", "\t"}, 8, func(blanks string) {
		checkSplit(t, blanks)
		if blanks == "" {
			return
		}
		checkSplit(t, blanks+"a", "a")
		checkSplit(t, "a"+blanks, "a")
		checkSplit(t, blanks+"a"+blanks, "a")
		checkSplit(t, "a"+blanks+"b", "a", "b")
		checkSplit(t, blanks+"a"+blanks+"''"+blanks, "a", "")
		checkSplit(t, blanks+`""`+blanks+"b"+blanks+"c\n"+blanks, "", "b", "c\n")
		checkSplit(t, "'"+blanks+"'"+blanks+`"`+blanks+`"`, blanks, blanks)
	})
	checkSplit(t, strings.Repeat(" \t", 5000)+"a"+strings.Repeat("\t ", 5000)+"b"+strings.Repeat(" ", 5000), "a", "b")
	// No other bytes are blanks.
	for _, c := range []string{"\n", "\r", "\v", "\f", "\x00", "\x1f", "\x7f", "\x85", "\xa0", "\u0085", "\u00a0", "\u2000", "\u3000"} {
		checkSplit(t, c, c)
		checkSplit(t, "a"+c+"b", "a"+c+"b")
		checkSplit(t, " "+c+"\ta "+c+c+" ", c, "a", c+c)
	}
}

// TestSplitPieces: promise 15.1, each word in many surroundings, and each behind and beside each other one.
func TestSplitPieces(t *testing.T) {
	for _, x := range spellings {
		for _, p := range places() {
			checkSplit(t, p.before+x.form+p.after, slices.Concat(p.first, []string{p.head + x.word + p.tail}, p.last)...)
		}
		for _, y := range spellings {
			checkSplit(t, x.form+" "+y.form, x.word, y.word)
			checkSplit(t, x.form+y.form, x.word+y.word)
		}
		checkError(t, strings.Repeat(x.form+" ", mostWords+1), api.ErrBound)
	}
}

// TestSplitBytes: promise 15.1, each byte alone, within words, behind a "\" and within quotes.
func TestSplitBytes(t *testing.T) {
	const (
		own = iota
		blank
		single
		double
		back
		kinds
	)
	kindOf := map[byte]int{' ': blank, '\t': blank, '\'': single, '"': double, '\\': back}
	bad := []string{"bad"}
	eachByte(func(c string, n byte) {
		// In each line, "?" stands for the byte. What is read follows for the kinds of bytes in the order above.
		for _, x := range []struct {
			line string
			want [kinds][]string
		}{
			{"?", [kinds][]string{{"?"}, {}, bad, bad, bad}},
			{"??", [kinds][]string{{"??"}, {}, {""}, {""}, {"?"}}},
			{"???", [kinds][]string{{"???"}, {}, bad, bad, bad}},
			{"????", [kinds][]string{{"????"}, {}, {""}, {""}, {"??"}}},
			{"a?", [kinds][]string{{"a?"}, {"a"}, bad, bad, bad}},
			{"?a", [kinds][]string{{"?a"}, {"a"}, bad, bad, {"a"}}},
			{"a?b", [kinds][]string{{"a?b"}, {"a", "b"}, bad, bad, {"ab"}}},
			{"a??b", [kinds][]string{{"a??b"}, {"a", "b"}, {"ab"}, {"ab"}, {"a?b"}}},
			{"a ? b", [kinds][]string{{"a", "?", "b"}, {"a", "b"}, bad, bad, {"a", " b"}}},
			{"a? ?b", [kinds][]string{{"a?", "?b"}, {"a", "b"}, {"a b"}, {"a b"}, {"a b"}}},
			{`\?`, [kinds][]string{{"?"}, {"?"}, {"?"}, {"?"}, {"?"}}},
			{`a\?b`, [kinds][]string{{"a?b"}, {"a?b"}, {"a?b"}, {"a?b"}, {"a?b"}}},
			{`\\?`, [kinds][]string{{`\?`}, {`\`}, bad, bad, bad}},
			{`\? \?`, [kinds][]string{{"?", "?"}, {"?", "?"}, {"?", "?"}, {"?", "?"}, {"?", "?"}}},
			{"'?'", [kinds][]string{{"?"}, {"?"}, bad, {"?"}, {"?"}}},
			{"'a?b'", [kinds][]string{{"a?b"}, {"a?b"}, bad, {"a?b"}, {"a?b"}}},
			{"'?' '?'", [kinds][]string{{"?", "?"}, {"?", "?"}, {" "}, {"?", "?"}, {"?", "?"}}},
			{`'\?'`, [kinds][]string{{`\?`}, {`\?`}, bad, {`\?`}, {`\?`}}},
			{`'\?\`, [kinds][]string{bad, bad, bad, bad, bad}},
			{`"?"`, [kinds][]string{{"?"}, {"?"}, {"?"}, bad, bad}},
			{`"a?b"`, [kinds][]string{{"a?b"}, {"a?b"}, {"a?b"}, bad, {`a\b`}}},
			{`"?" "?"`, [kinds][]string{{"?", "?"}, {"?", "?"}, {"?", "?"}, {" "}, {`" "`}}},
			{`"\?"`, [kinds][]string{{`\?`}, {`\?`}, {`\?`}, {"?"}, {"?"}}},
			{`"a\?b"`, [kinds][]string{{`a\?b`}, {`a\?b`}, {`a\?b`}, {"a?b"}, {"a?b"}}},
			{`"\\?"`, [kinds][]string{{`\?`}, {`\?`}, {`\?`}, bad, bad}},
			{`"\?\?"`, [kinds][]string{{`\?\?`}, {`\?\?`}, {`\?\?`}, {"??"}, {"??"}}},
			{`"\\\?"`, [kinds][]string{{`\\?`}, {`\\?`}, {`\\?`}, {`\?`}, {`\?`}}},
		} {
			s, want := strings.ReplaceAll(x.line, "?", c), x.want[kindOf[n]]
			if slices.Equal(want, bad) {
				checkError(t, s, api.ErrSyntax)
				continue
			}
			var words []string
			for _, w := range want {
				words = append(words, strings.ReplaceAll(w, "?", c))
			}
			checkSplit(t, s, words...)
		}
		checkModel(t, c)
	})
}

// TestSplitUnclosed: promise 15.1, what has no end behind any words, with anything behind it that does not end it.
func TestSplitUnclosed(t *testing.T) {
	ahead := []string{"", " ", "\t", "x", "x ", "'x'", "'x' ", `"x"`, `"x" `, `\x`, `\ `, `\\`, `\'`, `\"`, "''", "'' ", `""`, `"" `, `'"'`, `"'"`, `"\""`, `'\'`, "x y z ", "x\n", strings.Repeat("x ", 31), strings.Repeat("x ", 32), strings.Repeat("x ", 33), strings.Repeat("'' ", 40)}
	for _, x := range []struct {
		open  string
		rests []string
	}{
		{"'", []string{"", "a", " ", "a b", `"`, `""`, `"a" b`, `\`, `\\`, `\a`, `\"`, "\n", strings.Repeat(" a", 40)}},
		{`"`, []string{"", "a", " ", "a b", "'", "''", "'a' b", `\"`, `\\`, `\\\"`, `a\"b`, `\a`, `\`, `\\\`, `a\`, `a b\`, `\"\`, "\n", strings.Repeat(" a", 40), strings.Repeat(" a", 40) + `\`}},
		{`\`, []string{""}},
	} {
		for _, before := range ahead {
			for _, rest := range x.rests {
				checkError(t, before+x.open+rest, api.ErrSyntax)
			}
		}
	}
	for _, x := range spellings {
		for _, open := range []string{"'", `"`, `\`} {
			checkError(t, x.form+open, api.ErrSyntax)
			checkError(t, x.form+" "+open, api.ErrSyntax)
		}
		// Another quote is not closed, at each place of a word: the other one is in it, or closes it.
		for i := range len(x.form) + 1 {
			checkModel(t, x.form[:i]+"'"+x.form[i:])
			checkModel(t, x.form[:i]+`"`+x.form[i:])
			checkModel(t, x.form[:i]+`\`+x.form[i:])
			checkModel(t, x.form[:i])
		}
	}
}

// TestSplitMost: promise 15.1, as many words as there may be, and more, written in several ways.
func TestSplitMost(t *testing.T) {
	for n := range 70 {
		for _, x := range []spelling{{"a", "a"}, {"''", ""}, {`""`, ""}, {`"a b"'c'\ `, "a bc "}, {"\n", "\n"}} {
			checkSplit(t, strings.Join(repeat(x.form, n), " "), repeat(x.word, n)...)
			checkSplit(t, strings.Repeat(x.form+" \t", n), repeat(x.word, n)...)
			checkSplit(t, strings.Repeat("\t"+x.form, n), repeat(x.word, n)...)
		}
		var forms, words []string
		for i := range n {
			x := spellings[i*7%len(spellings)]
			forms, words = append(forms, x.form), append(words, x.word)
		}
		checkSplit(t, strings.Join(forms, " "), words...)
	}
	for _, n := range []int{100, 255, 256, 257, 1000, 65536 + mostWords} {
		checkError(t, strings.Repeat("a ", n), api.ErrBound)
	}
}

// TestSplitMostUnclosed: promises 15.1 and P1, an error of syntax comes before too many words wherever it stands, and what is closed between them makes them fewer.
func TestSplitMostUnclosed(t *testing.T) {
	words := strings.Fields(strings.Repeat("a b ", 20))
	for i := range len(words) + 1 {
		before, after := strings.Join(words[:i], " "), strings.Join(words[i:], " ")
		checkError(t, before+" '"+after, api.ErrSyntax)
		checkError(t, before+` "`+after, api.ErrSyntax)
		checkError(t, before+"'"+after, api.ErrSyntax)
		checkError(t, before+`"`+after, api.ErrSyntax)
		checkError(t, before+` '' '"`+after, api.ErrSyntax)
		checkError(t, before+` "'`+after+`\"`, api.ErrSyntax)
		checkError(t, before+" "+after+" "+`\`, api.ErrSyntax)
		checkError(t, before+` \'`+after, api.ErrBound)
		checkError(t, before+` "'"`+after, api.ErrBound)
		for j := i + 1; j <= len(words); j++ {
			within := strings.Join(words[i:j], " ")
			want := slices.Concat(words[:i], []string{within}, words[j:])
			checkSplit(t, before+" '"+within+"' "+strings.Join(words[j:], " "), want...)
			checkSplit(t, before+` "`+within+`" `+strings.Join(words[j:], " "), want...)
			checkSplit(t, before+" "+strings.ReplaceAll(within, " ", `\ `)+" "+strings.Join(words[j:], " "), want...)
		}
	}
}

// TestSplitAll: promise 15.1, all strings of up to a few pieces against patterns.
func TestSplitAll(t *testing.T) {
	eachString([]string{"a", " ", "\t", "'", `"`, `\`}, 7, func(s string) { checkModel(t, s) })
	eachString([]string{"\n", " ", "''", `""`, `\\`, `\"`, `\'`, `" '`}, 5, func(s string) { checkModel(t, s) })
	eachString([]string{"b ", "'", `"`, `\`}, 5, func(s string) {
		for _, n := range []int{29, 30, 31, 32, 33} {
			checkModel(t, strings.Repeat("a ", n)+s)
			checkModel(t, s+strings.Repeat(" a", n))
		}
	})
	eachByte(func(c string, _ byte) {
		eachByte(func(d string, _ byte) { checkModel(t, c+d) })
		eachString([]string{"'", `"`, `\`, " "}, 2, func(s string) {
			checkModel(t, s+c+s)
			checkModel(t, s+c+"a"+c+s)
		})
	})
}

// drawnBytes draws bytes, of which many have a meaning.
func drawnBytes(r *rand.Rand, most int) string {
	var all []byte
	for range r.Intn(most + 1) {
		if r.Intn(3) == 0 {
			all = append(all, byte(r.Intn(256)))
		} else {
			all = append(all, "'\"\\ \ta\n"[r.Intn(7)])
		}
	}
	return string(all)
}

// drawnPiece draws a piece.
func drawnPiece(r *rand.Rand) spelling {
	s := drawnBytes(r, 6)
	switch r.Intn(4) {
	case 0:
		s = strings.ReplaceAll(s, "'", "")
		return spelling{"'" + s + "'", s}
	case 1:
		form := strings.ReplaceAll(strings.ReplaceAll(s, `\`, `\\`), `"`, `\"`)
		// A "\" may also stand as it is before a byte that it does not change.
		return spelling{`"\n` + form + `\a"`, `\n` + s + `\a`}
	case 2:
		c := string([]byte{byte(r.Intn(256))})
		return spelling{`\` + c, c}
	}
	s = strings.NewReplacer(" ", "", "\t", "", "'", "", `"`, "", `\`, "").Replace(s) + "z"
	return spelling{s, s}
}

// drawnLine draws a command line with n words.
func drawnLine(r *rand.Rand, n int) (string, []string) {
	blanks := func(least int) string {
		s := ""
		for range least + r.Intn(3)*r.Intn(2) {
			s += " \t"[r.Intn(2):][:1]
		}
		return s
	}
	line, words := blanks(0), make([]string, n)
	for i := range words {
		if i > 0 {
			line += blanks(1)
		}
		for range 1 + r.Intn(3) {
			p := drawnPiece(r)
			line += p.form
			words[i] += p.word
		}
	}
	return line + blanks(0), words
}

// altered returns s with a byte more, less or exchanged.
func altered(r *rand.Rand, s string) string {
	i, c := r.Intn(len(s)+1), drawnBytes(r, 1)
	return s[:i] + c + s[min(i+r.Intn(2), len(s)):]
}

// TestSplitDrawn: promise 15.1, drawn command lines, and altered ones against patterns.
func TestSplitDrawn(t *testing.T) {
	r := rand.New(rand.NewSource(15))
	for i := range 20000 {
		n := r.Intn(5)
		if i%10 == 0 {
			n = 28 + r.Intn(10)
		}
		line, words := drawnLine(r, n)
		checkSplit(t, line, words...)
		checkModel(t, line)
		for range 5 {
			line = altered(r, line)
			checkModel(t, line)
		}
	}
	for range 20000 {
		checkModel(t, drawnBytes(r, 40))
	}
}

// TestBare: promise 15.2, no byte, each byte alone, and each at each end of and within others.
func TestBare(t *testing.T) {
	check := func(s string, want bool) {
		t.Helper()
		if got := Bare(s); got != want {
			t.Errorf("Bare(%s) = %v; want %v", cut(s), got, want)
		}
	}
	check("", false)
	eachByte(func(c string, n byte) {
		isAllowed := strings.IndexByte(bareBytes, n) >= 0
		check(c, isAllowed)
		for _, other := range []string{"a", "Z", "0", ".", "_", "-", "/", ":", "=", ",", "+", "@", "%", bareBytes, strings.Repeat("a", 10000)} {
			check(c+other, isAllowed)
			check(other+c, isAllowed)
			check(other+c+other, isAllowed)
			check(other+c+c, isAllowed)
		}
		for _, other := range []string{" ", "\t", "\n", "'", `"`, `\`, "\x00", "é", "#", "$", "*", "(", "~"} {
			check(c+other, false)
			check(other+c, false)
			check(c+other+c, false)
		}
	})
	for _, s := range []string{"é", "ä", "Ω", "٣", "aé", "éa", "１", "\u2010", "a b", "a'b", "~/a", "$A", "a;b", "a&&b", "a*", "a\n", "\na"} {
		check(s, false)
	}
	for _, s := range []string{"a-b/c:1", "x=1", "--a=b", "user@host:/a/b_c.d", "50%", "a+b,c", "AZaz09", bareBytes} {
		check(s, true)
	}
}

// TestJoin: promises 15.2 and 15.3, words with and without quotes.
func TestJoin(t *testing.T) {
	checkJoin(t, "")
	checkJoin(t, "", []string{}...)
	for _, x := range []struct {
		want  string
		words []string
	}{
		{"''", []string{""}}, {"'' ''", []string{"", ""}}, {"a '' b", []string{"a", "", "b"}}, {"'' a ''", []string{"", "a", ""}},
		{"a", []string{"a"}}, {"a b", []string{"a", "b"}}, {"b a b", []string{"b", "a", "b"}}, {"x=1 --y=/a/b:c,d +e @f 5%", []string{"x=1", "--y=/a/b:c,d", "+e", "@f", "5%"}},
		{"'a b'", []string{"a b"}}, {"' '", []string{" "}}, {"'  '", []string{"  "}}, {"'\t'", []string{"\t"}}, {"'\n'", []string{"\n"}}, {"'a\nb' c", []string{"a\nb", "c"}}, {`'"'`, []string{`"`}}, {`'"a b"'`, []string{`"a b"`}}, {`'\'`, []string{`\`}}, {`'\\' '\"'`, []string{`\\`, `\"`}}, {"'$A' '#' '*'", []string{"$A", "#", "*"}}, {"'é'", []string{"é"}}, {"'\xff\x00'", []string{"\xff\x00"}},
		{`'it'\''s'`, []string{"it's"}}, {`''\'''`, []string{"'"}}, {`''\'''\'''`, []string{"''"}}, {`''\'''\'''\'''`, []string{"'''"}}, {`''\''a'`, []string{"'a"}}, {`'a'\'''`, []string{"a'"}}, {`''\''a'\'''`, []string{"'a'"}}, {`'a'\''b'\''c'`, []string{"a'b'c"}}, {`''\'' a '\'''`, []string{"' a '"}}, {`'\'\'''`, []string{`\'`}}, {`''\''\'`, []string{`'\`}}, {`''\''"'`, []string{`'"`}}, {`'a'\'''\''b' c`, []string{"a''b", "c"}},
		{"a 'b c' '' 'it'\\''s' x=1", []string{"a", "b c", "", "it's", "x=1"}},
		{strings.Repeat("a ", 31) + "a", repeat("a", 32)}, {strings.Repeat("a ", 32) + "a", repeat("a", 33)}, {strings.Repeat("'' ", 99) + "''", repeat("", 100)},
	} {
		checkJoin(t, x.want, x.words...)
	}
	eachByte(func(c string, n byte) {
		for _, w := range []string{c, c + c, "a" + c, c + "a", "a" + c + "b", c + "a" + c, "'" + c, c + "'", c + " ", `\` + c} {
			checkJoin(t, modelForm(w), w)
			checkJoin(t, "a "+modelForm(w)+" '' "+modelForm(w), "a", w, "", w)
		}
	})
}

// TestJoinAll: promises 15.2 and 15.3, all short words, and all short lists of some words.
func TestJoinAll(t *testing.T) {
	eachString([]string{"a", "'", `"`, `\`, " "}, 6, func(w string) { checkJoin(t, modelForm(w), w) })
	eachByte(func(c string, _ byte) {
		eachByte(func(d string, _ byte) { checkJoin(t, modelForm(c+d), c+d) })
	})
	some := []string{"", "a", "b-c", " ", "a b", "'", "it's", `"`, `\`, `a\`, "\n", "é", "\xff", "%", "''", "#"}
	var extend func(line string, words []string)
	extend = func(line string, words []string) {
		checkJoin(t, line, words...)
		if len(words) == 3 {
			return
		}
		for _, w := range some {
			before := line
			if len(words) > 0 {
				before += " "
			}
			extend(before+modelForm(w), append(slices.Clip(words), w))
		}
	}
	extend("", nil)
}

// TestRoundTrip: promise 15.3, drawn lists of words of any bytes; more than 32 words are too many to be read again.
func TestRoundTrip(t *testing.T) {
	r := rand.New(rand.NewSource(3))
	for i := range 5000 {
		words := make([]string, r.Intn(6))
		if i%5 == 0 {
			words = make([]string, 28+r.Intn(10))
		}
		var forms []string
		for j := range words {
			words[j] = drawnBytes(r, 12)
			forms = append(forms, modelForm(words[j]))
		}
		checkJoin(t, strings.Join(forms, " "), words...)
	}
	for n := range 70 {
		for _, w := range []string{"", "a", " ", "'", `"`, `\`, "\n", "it's", "\xff"} {
			checkJoin(t, strings.Join(repeat(modelForm(w), n), " "), repeat(w, n)...)
		}
	}
	all := ""
	eachByte(func(c string, _ byte) { all += c })
	for _, w := range []string{all, all + all, strings.Repeat("'", 5000), strings.Repeat(`\`, 5000), strings.Repeat(`"`, 5001), strings.Repeat(" ", 5000), strings.Repeat("a", 50000)} {
		checkJoin(t, modelForm(w), w)
		checkJoin(t, modelForm(w)+" b "+modelForm(w), w, "b", w)
	}
}

// TestMemory: general rules R4 and R5, lists that are passed stay as they are, what stands behind their ends is neither read nor written, and results are new.
func TestMemory(t *testing.T) {
	whole := []string{"a", "b c", "", "it's", "hidden", "it's hidden"}
	before := slices.Clone(whole)
	for n := range len(whole) {
		want := Join(slices.Clone(whole[:n]))
		if s := Join(whole[:n]); s != want {
			t.Errorf("Join(%s) with more behind its end = %s; want %s", brief(whole[:n]), cut(s), cut(want))
		}
		if s := Join(whole[:n:n]); s != want {
			t.Errorf("Join(%s) = %s; want %s", brief(whole[:n]), cut(s), cut(want))
		}
	}
	if !slices.Equal(whole, before) {
		t.Errorf("Join has changed %q to %q", before, whole)
	}
	for _, s := range []string{"a 'b c' d", "", "a b c d e f g h i"} {
		first, _ := Split(s)
		second, _ := Split(s)
		want := slices.Clone(second)
		for i := range first {
			first[i] = "changed"
		}
		_ = append(first, "more")
		if third, _ := Split(s); !slices.Equal(second, want) || !slices.Equal(third, want) {
			t.Errorf("Split(%s) = %q and %q after an answer was changed; want %q", cut(s), second, third, want)
		}
	}
}

// TestLong: promises 15.1, 15.2 and P1, the calls end soon for long strings of any kind.
func TestLong(t *testing.T) {
	const n = 1 << 20
	for _, x := range []struct{ piece, word string }{{"a", "a"}, {"''", ""}, {`""`, ""}, {`\\`, `\`}, {"'a'", "a"}, {`"\""`, `"`}, {`\ `, " "}, {"\n", "\n"}} {
		s, w := strings.Repeat(x.piece, n), strings.Repeat(x.word, n)
		checkSplit(t, s, w)
		checkSplit(t, " "+s+"\t", w)
		checkError(t, s+"'", api.ErrSyntax)
		checkError(t, s+`"`, api.ErrSyntax)
		checkError(t, s+`\`, api.ErrSyntax)
		checkError(t, strings.Repeat(x.piece+" ", n), api.ErrBound)
		checkError(t, strings.Repeat(x.piece+" ", n)+`\`, api.ErrSyntax)
		checkError(t, strings.Repeat(x.piece+" ", n)+"'", api.ErrSyntax)
	}
	checkSplit(t, strings.Repeat("\t ", n))
	checkError(t, strings.Repeat("'", n+1), api.ErrSyntax)
	checkError(t, strings.Repeat(`"`, n+1), api.ErrSyntax)
	checkError(t, strings.Repeat(`\`, n+1), api.ErrSyntax)
	checkSplit(t, "'"+strings.Repeat(`"\ `, n)+"'", strings.Repeat(`"\ `, n))
	checkSplit(t, `"`+strings.Repeat(`'\ `, n)+`"`, strings.Repeat(`'\ `, n))
	checkJoin(t, "'"+strings.Repeat(`'\''`, n)+"'", strings.Repeat("'", n))
	checkJoin(t, strings.Repeat("a", n), strings.Repeat("a", n))
	checkJoin(t, strings.Repeat("'' ", n)+"''", repeat("", n+1)...)
	if Bare(strings.Repeat("a", n) + " ") {
		t.Error("Bare is true for a long string with a space at its end")
	}
}
