package tmpl

import (
	"math/rand"
	"regexp"
	"slices"
	"strconv"
	"strings"
	"testing"

	"longshore/api"
)

// The limits as the document writes them.
const (
	mostDeep = 8
	longName = 24
)

// kind is an operator as it is written, with its kind's number as the document tells it.
type kind struct {
	form   string
	number int
}

var kinds = []kind{{":-", 2}, {"-", 3}, {":?", 4}, {"?", 5}, {":+", 6}, {"+", 7}}

// lit, ref and opt make parts: literal text, a variable without an operator, and one with an operator.
func lit(s string) Part { return Part{Text: s} }

func ref(key string) Part { return Part{Name: key, Op: 1} }

func opt(key string, number int, sub ...Part) Part { return Part{Name: key, Op: number, Sub: sub} }

// show writes parts so that two lists are written alike exactly if they are equal.
func show(l []Part) string {
	var b strings.Builder
	var write func(l []Part)
	write = func(l []Part) {
		b.WriteString("[")
		for _, p := range l {
			b.WriteString("(" + strconv.Itoa(p.Op) + " " + strconv.Quote(p.Name) + " " + strconv.Quote(p.Text))
			write(p.Sub)
			b.WriteString(")")
		}
		b.WriteString("]")
	}
	write(l)
	return b.String()
}

// cut shortens a string for a message.
func cut(s string) string {
	if len(s) > 300 {
		return s[:300] + "... (" + strconv.Itoa(len(s)) + " bytes)"
	}
	return s
}

// canonical writes parts as a template, with braces around each name.
func canonical(l []Part) string {
	s := ""
	for _, p := range l {
		if p.Op == 0 {
			s += strings.Join(strings.Split(p.Text, "$"), "$$")
			continue
		}
		s += "${" + p.Name
		for _, k := range kinds {
			if k.number == p.Op {
				s += k.form + canonical(p.Sub)
			}
		}
		s += "}"
	}
	return s
}

// collect adds the names in l to a set.
func collect(set map[string]int, l []Part) {
	for _, p := range l {
		if p.Op != 0 {
			set[p.Name]++
		}
		collect(set, p.Sub)
	}
}

// ascending returns the names of a set in byte order.
func ascending(set map[string]int) []string {
	var names []string
	for key := range set {
		names = append(names, key)
	}
	slices.Sort(names)
	return names
}

// depth returns the greatest depth of a reference in l.
func depth(l []Part) int {
	all := []int{0}
	for _, p := range l {
		if p.Op != 0 {
			all = append(all, depth(p.Sub)+1)
		}
	}
	return slices.Max(all)
}

func checkText(t *testing.T, l []Part, want string) {
	t.Helper()
	if got := Text(l); got != want {
		t.Errorf("Text(%s) = %q; want %q", cut(show(l)), cut(got), cut(want))
	}
}

func checkNames(t *testing.T, l []Part, want ...string) {
	t.Helper()
	if got := Names(l); !slices.Equal(got, want) {
		t.Errorf("Names(%s) = %q; want %q", cut(show(l)), got, want)
	}
}

func checkDeep(t *testing.T, l []Part, want int) {
	t.Helper()
	if got := Deep(l); got != want {
		t.Errorf("Deep(%s) = %d; want %d", cut(show(l)), got, want)
	}
}

// checkParts checks a template by all functions.
func checkParts(t *testing.T, s string, want []Part) {
	t.Helper()
	l, e := Parse(s)
	if show(l) != show(want) || e != api.OK {
		t.Errorf("Parse(%q) = %s, %v; want %s", cut(s), cut(show(l)), e, cut(show(want)))
		return
	}
	form, names := canonical(want), map[string]int{}
	collect(names, want)
	checkText(t, l, form)
	checkNames(t, l, ascending(names)...)
	checkDeep(t, l, depth(want))
	if again, e := Parse(form); show(again) != show(want) || e != api.OK {
		t.Errorf("Parse(Text(Parse(%q))) = %s, %v; want %s", cut(s), cut(show(again)), e, cut(show(want)))
	}
}

// hasOwnClosing reports whether literal text of l itself has a "}", so that l cannot stand within a reference.
func hasOwnClosing(l []Part) bool {
	return slices.ContainsFunc(l, func(p Part) bool { return strings.Contains(p.Text, "}") })
}

// checkParse checks a template alone, between references, and within references by each operator, unless it must not stand there.
func checkParse(t *testing.T, s string, want ...Part) {
	t.Helper()
	checkParts(t, s, want)
	checkParts(t, "${X1}"+s+"$Y_", slices.Concat([]Part{ref("X1")}, want, []Part{ref("Y_")}))
	checkParts(t, "}$$${X1}"+s+"${Y_}}", slices.Concat([]Part{lit("}$"), ref("X1")}, want, []Part{ref("Y_"), lit("}")}))
	if hasOwnClosing(want) || depth(want) >= mostDeep {
		return
	}
	for _, k := range kinds {
		checkParts(t, "${X1"+k.form+s+"}", []Part{opt("X1", k.number, want...)})
		checkParts(t, "}${X1"+k.form+s+"}}", []Part{lit("}"), opt("X1", k.number, want...), lit("}")})
		checkParts(t, "${X1"+k.form+"$Z${X1}"+s+"$Y_}$Z", []Part{opt("X1", k.number, slices.Concat([]Part{ref("Z"), ref("X1")}, want, []Part{ref("Y_")})...), ref("Z")})
	}
}

func checkError(t *testing.T, s string, want api.Errno) {
	t.Helper()
	if l, e := Parse(s); len(l) != 0 || e != want {
		t.Errorf("Parse(%q) = %s, %v; want no parts, %v", cut(s), cut(show(l)), e, want)
	}
}

// checkSyntax checks strings with an error of syntax, alone, behind others, and within references without an end.
func checkSyntax(t *testing.T, all ...string) {
	t.Helper()
	for _, s := range all {
		for _, before := range []string{"", "a", "$$", "a$$}", "$A ", "${A}", "${A:-b}", "${A:-${B+c}}", "${A?", "${A:-b$$${B+", "${A:+${B} "} {
			checkError(t, before+s, api.ErrSyntax)
		}
	}
}

// nested opens count references, each within the one before it, and puts s into the last one. None of them is closed.
func nested(form string, count int, s string) string {
	return strings.Repeat("${A"+form, count) + s
}

// closed is nested with an end for each reference.
func closed(form string, count int, s string) string {
	return nested(form, count, s) + strings.Repeat("}", count)
}

// inside returns parts within count references, each within the one before it.
func inside(number, count int, l ...Part) []Part {
	for range count {
		l = []Part{opt("A", number, l...)}
	}
	return l
}

func isDigit(c byte) bool { return '0' <= c && c <= '9' }

func isFirst(c byte) bool { return 'a' <= c && c <= 'z' || 'A' <= c && c <= 'Z' || c == '_' }

// eachByte calls check with each byte, also as a string.
func eachByte(check func(c byte, s string)) {
	for c := range 256 {
		check(byte(c), string([]byte{byte(c)}))
	}
}

// kindOf returns the kind whose operator is s, or 0.
func kindOf(s string) int {
	for _, k := range kinds {
		if k.form == s {
			return k.number
		}
	}
	return 0
}

// TestExample: promises 13.1 and 13.2, the chapter's examples, and the numbers of the kinds.
func TestExample(t *testing.T) {
	checkParse(t, "a${B:-c$D}$$", lit("a"), opt("B", 2, lit("c"), ref("D")), lit("$"))
	checkSyntax(t, "$1")
	l, _ := Parse("a${B:-c$D}$$")
	checkText(t, l, "a${B:-c${D}}$$")
	checkNames(t, l, "B", "D")
	checkDeep(t, l, 2)
	if got := []int{None, Plain, IfBlank, IfUnset, MustBlank, MustUnset, ElseBlank, ElseUnset, Deepest}; !slices.Equal(got, []int{0, 1, 2, 3, 4, 5, 6, 7, 8}) {
		t.Errorf("the kinds and Deepest are %d", got)
	}
	if api.MaxName != longName {
		t.Errorf("MaxName = %d", api.MaxName)
	}
}

// TestLiteral: promises 13.1 and 13.3, the empty string and strings without "$", with all bytes.
func TestLiteral(t *testing.T) {
	checkParse(t, "")
	if l, e := Parse(""); len(l) != 0 || e != api.OK {
		t.Errorf("Parse of the empty string = %s, %v", show(l), e)
	}
	for _, s := range []string{"a", " ", "  a  ", "plain", "a-b:c?d+e", "{", "{A", ":-", "-", "A", "_1", "1", "\n", "\t\r\n", "\x00", "\x00\xff\x80", "\u00e9\u4e16", "\xe4\xb8", "\\", "\\{A", `"'`, "#%&*()[]<>", strings.Repeat("a", 1<<16), strings.Repeat("ab{ ", 5000)} {
		checkParse(t, s, lit(s))
	}
	for _, s := range []string{"}", "}}", "{}", "{A}", "a}", "}a", "{A:-b}", "plain}", "}}}{{{", "\xff}\x00"} {
		checkParse(t, s, lit(s))
	}
	eachByte(func(c byte, s string) {
		if c == '$' {
			return
		}
		for _, whole := range []string{s, s + s, "a" + s, s + "a", "a" + s + "b", " " + s + " "} {
			checkParse(t, whole, lit(whole))
		}
	})
}

// TestMarks: promise 13.1, several "$" in a row, an odd and an even number, before each byte and at the end.
func TestMarks(t *testing.T) {
	for count := range 40 {
		half, marks := strings.Repeat("$", count/2), strings.Repeat("$", count)
		checkMarks(t, count, "", lit(half))
		for _, behind := range []string{" ", "a", "_", "{", "{A}", "{}", "1", "\xff", ":-", "\n"} {
			checkMarks(t, count, behind, lit(half+behind))
		}
		for _, before := range []string{"x", "{", "}", "\x80"} {
			if count%2 == 0 {
				checkParse(t, before+marks, lit(before+half))
				checkParse(t, before+marks+before, lit(before+half+before))
			} else {
				checkSyntax(t, before+marks, before+marks+" ", before+marks+"}")
				checkParse(t, before+marks+"A", lit(before+half), ref("A"))
				checkParse(t, before+marks+"{A}", lit(before+half), ref("A"))
			}
		}
	}
	checkParse(t, "$$$$A", lit("$$A"))
	checkParse(t, "$$A$$", lit("$A$"))
	checkParse(t, "$A$$", ref("A"), lit("$"))
	checkParse(t, "$A$$$B", ref("A"), lit("$"), ref("B"))
	checkParse(t, "a$$b$$c", lit("a$b$c"))
	checkParse(t, "$${A}", lit("${A}"))
	checkParse(t, "$${A:-$B}", lit("${A:-"), ref("B"), lit("}"))
	checkParse(t, "${A:-$$}", opt("A", 2, lit("$")))
	checkParse(t, "${A:-$$$$}", opt("A", 2, lit("$$")))
	checkParse(t, "${A:-$$}$$}", opt("A", 2, lit("$")), lit("$}"))
	checkParse(t, "${A:-$${B}", opt("A", 2, lit("${B")))
	checkParse(t, "${A:-$$$B}", opt("A", 2, lit("$"), ref("B")))
	checkParse(t, "${A-$$$$$$ $$}", opt("A", 3, lit("$$$ $")))
	checkSyntax(t, "${A:-$}", "${A:-$$$}", "${A:-$$", "${A$$}", "${$$}", "$$$", "$$ $", "${A:-$}}", "${A:-$$$}}")
}

// checkMarks checks an even number of "$" before something that a "$" must not stand before, or an odd one before it.
func checkMarks(t *testing.T, count int, behind string, want Part) {
	t.Helper()
	s := strings.Repeat("$", count) + behind
	switch {
	case s == "":
	case count%2 == 0:
		checkParse(t, s, want)
	case !isFirst((behind + " ")[0]) && behind != "{A}":
		checkSyntax(t, s)
	}
}

// TestMark: promise 13.1, each byte behind a "$".
func TestMark(t *testing.T) {
	eachByte(func(c byte, s string) {
		switch {
		case c == '$':
			checkParse(t, "$$", lit("$"))
		case isFirst(c):
			checkParse(t, "$"+s, ref(s))
			checkParse(t, "$"+s+" ", ref(s), lit(" "))
			checkParse(t, "$"+s+"}", ref(s), lit("}"))
		case c == '{':
			checkSyntax(t, "$"+s)
		default:
			checkSyntax(t, "$"+s, "$"+s+"A", "$"+s+"{A}", "$"+s+"$A", "$"+s+"}", "a$"+s)
		}
	})
	checkSyntax(t, "$", "a$", "$A$", "${A}$", "a $", "$ $", "$ A", "$ {A}", "$}", "$}A", "$1", "$1A", "$0", "$9", "$-", "$:", "$\u00e9", "$\xff", "$\x00", "$\n", "$(A)", "$[A]")
}

// TestSimple: promise 13.1, simple references end at the end, at a byte that is no part of a name, and directly before another reference.
func TestSimple(t *testing.T) {
	eachByte(func(c byte, s string) {
		switch {
		case isFirst(c) || isDigit(c):
			checkParse(t, "$A"+s, ref("A"+s))
			checkParse(t, "$_"+s+"b", ref("_"+s+"b"))
			checkParse(t, "$A"+s+"-", ref("A"+s), lit("-"))
		case c == '$':
			checkSyntax(t, "$A$")
			checkParse(t, "$A$$", ref("A"), lit("$"))
		default:
			checkParse(t, "$A"+s, ref("A"), lit(s))
			checkParse(t, "$A"+s+"A1", ref("A"), lit(s+"A1"))
			checkParse(t, "$a1_"+s+"$b"+s, ref("a1_"), lit(s), ref("b"), lit(s))
		}
	})
	checkParse(t, "$A", ref("A"))
	checkParse(t, "$A$B", ref("A"), ref("B"))
	checkParse(t, "$A$A$A", ref("A"), ref("A"), ref("A"))
	checkParse(t, "$A${B}", ref("A"), ref("B"))
	checkParse(t, "$A${B-}", ref("A"), opt("B", 3))
	checkParse(t, "${A}$B", ref("A"), ref("B"))
	checkParse(t, "x$A.y$B,z", lit("x"), ref("A"), lit(".y"), ref("B"), lit(",z"))
	checkParse(t, "$A{B}", ref("A"), lit("{B}"))
	checkParse(t, "$A:-b", ref("A"), lit(":-b"))
	checkParse(t, "$A-b", ref("A"), lit("-b"))
	checkParse(t, "$A?b", ref("A"), lit("?b"))
	checkParse(t, "$A+b", ref("A"), lit("+b"))
	checkParse(t, "$A\u00e9", ref("A"), lit("\u00e9"))
	checkParse(t, "$_", ref("_"))
	checkParse(t, "$__1", ref("__1"))
	checkParse(t, "$A1_b2", ref("A1_b2"))
}

// TestName: promise 13.1, names of each length up to one that is too long, with and without braces.
func TestName(t *testing.T) {
	for _, all := range []string{"A", "_", "z9_", "B0123456789_abcdefghijklmnopqrstuvwxyz"} {
		all = strings.Repeat(all, 1+400/len(all))
		for length := 1; length <= 300; length++ {
			key := all[:length]
			if length > longName {
				checkSyntax(t, "$"+key, "$"+key+" ", "$"+key+"}", "${"+key+"}", "${"+key, "${"+key+":-}", "${"+key+"-a}", "${A:-$"+key+"}")
				continue
			}
			checkParse(t, "$"+key, ref(key))
			checkParse(t, "$"+key+" ", ref(key), lit(" "))
			checkParse(t, "${"+key+"}", ref(key))
			checkParse(t, "${"+key+"}"+key, ref(key), lit(key))
			for _, k := range kinds {
				checkParse(t, "${"+key+k.form+key+"}", opt(key, k.number, lit(key)))
			}
		}
	}
	checkSyntax(t, "$"+strings.Repeat("A", 1<<16), "${"+strings.Repeat("A", 1<<16)+"}", "$"+strings.Repeat("1", longName), "$"+strings.Repeat("1", longName+1))
}

// TestBraced: promise 13.1, each byte in the place of a name, of its first and last byte, and of an operator.
func TestBraced(t *testing.T) {
	eachByte(func(c byte, s string) {
		if isFirst(c) {
			checkParse(t, "${"+s+"}", ref(s))
			checkParse(t, "${"+s+"A:-b}", opt(s+"A", 2, lit("b")))
		} else {
			checkSyntax(t, "${"+s+"}", "${"+s+"A}", "${"+s, "${"+s+":-b}", "${"+s+"-b}")
		}
		switch {
		case isFirst(c) || isDigit(c):
			checkParse(t, "${A"+s+"}", ref("A"+s))
			checkParse(t, "${_"+s+"?}", opt("_"+s, 5))
		case c == '}':
			checkParse(t, "${A}}", ref("A"), lit("}"))
		case kindOf(s) != 0:
			checkParse(t, "${A"+s+"}", opt("A", kindOf(s)))
			checkParse(t, "${A"+s+"b}", opt("A", kindOf(s), lit("b")))
		default:
			checkSyntax(t, "${A"+s+"}", "${A"+s, "${A"+s+"b}", "${A"+s+"$B}", "${A"+s+"}}")
		}
		if c != '}' {
			checkSyntax(t, "${A"+s, "${A"+s+s+s)
		}
	})
	checkParse(t, "${A}", ref("A"))
	checkParse(t, "${A}b", ref("A"), lit("b"))
	checkParse(t, "a${A}b${_b1}c", lit("a"), ref("A"), lit("b"), ref("_b1"), lit("c"))
	checkParse(t, "${A}${A}", ref("A"), ref("A"))
	checkSyntax(t, "${", "${}", "${ }", "${ A}", "${A }", "${A :-b}", "${1}", "${1A}", "${-}", "${-b}", "${:-b}", "${?}", "${+b}", "${A", "${A1_", "${AB", "${$A}", "${${A}}", "${{A}}", "${A.B}", "${A=b}", "${A!}", "${A${B}}", "${A$B}", "${A{}", "${A\n}", "${\n}", "${\u00e9}", "${A\u00e9}", "${A\x00}", "${#A}", "${!A}", "${A/b/c}", "${A,}", "${A[0]}")
}

// TestOperator: promise 13.1, each operator before templates of many kinds, and ":" alone and before each byte.
func TestOperator(t *testing.T) {
	for _, k := range kinds {
		open := "${A" + k.form
		checkParse(t, open+"}", opt("A", k.number))
		checkParse(t, open+"}}", opt("A", k.number), lit("}"))
		checkParse(t, open+" }", opt("A", k.number, lit(" ")))
		checkParse(t, open+"b}", opt("A", k.number, lit("b")))
		checkParse(t, open+"$A}", opt("A", k.number, ref("A")))
		checkParse(t, open+"${A}}", opt("A", k.number, ref("A")))
		checkParse(t, open+"{}", opt("A", k.number, lit("{")))
		checkParse(t, open+"{}}", opt("A", k.number, lit("{")), lit("}"))
		checkParse(t, open+"a b${C}d$E f$$}g", opt("A", k.number, lit("a b"), ref("C"), lit("d"), ref("E"), lit(" f$")), lit("g"))
		checkParse(t, open+"\x00\n\xff\u00e9}", opt("A", k.number, lit("\x00\n\xff\u00e9")))
		for _, other := range kinds {
			checkParse(t, open+other.form+"}", opt("A", k.number, lit(other.form)))
			checkParse(t, open+other.form+"b"+other.form+"}", opt("A", k.number, lit(other.form+"b"+other.form)))
			checkParse(t, open+"${B"+other.form+"c}}", opt("A", k.number, opt("B", other.number, lit("c"))))
			checkParse(t, open+"}${A"+other.form+"}", opt("A", k.number), opt("A", other.number))
			checkSyntax(t, open+"${B"+other.form+"c}", open+"}"+"${A"+other.form)
		}
		eachByte(func(c byte, s string) {
			switch c {
			case '$':
				checkSyntax(t, open+"$}", open+"$", open+"a$}", open+"$}}")
			case '}':
				checkParse(t, open+"a}", opt("A", k.number, lit("a")))
			default:
				checkParse(t, open+s+"}", opt("A", k.number, lit(s)))
				checkParse(t, open+"a"+s+s+"}"+s, opt("A", k.number, lit("a"+s+s)), lit(s))
			}
		})
		checkSyntax(t, open, open+"b", open+"$B", open+"${B}", open+"${B", open+"$$", open+"{", open+"\x00", open+"b${C}", open+"$1}", open+"${}}", open+"${1}}", open+"${B:}}")
	}
	eachByte(func(c byte, s string) {
		if number := kindOf(":" + s); number != 0 {
			checkParse(t, "${A:"+s+"}", opt("A", number))
			return
		}
		checkSyntax(t, "${A:"+s+"}", "${A:"+s, "${A:"+s+"-}", "${A:"+s+":-b}")
	})
	checkSyntax(t, "${A:", "${A:}", "${A:b}", "${A::-b}", "${A: -b}", "${A :-b}", "${A:=b}", "${A=b}", "${A:$B}", "${A:${B}}", "${:}")
}

// TestClosing: promise 13.1, a "}" is literal outside of references, and the first one within one ends it.
func TestClosing(t *testing.T) {
	checkParse(t, "a}b", lit("a}b"))
	checkParse(t, "${A:-b}c}", opt("A", 2, lit("b")), lit("c}"))
	checkParse(t, "${A:-}}", opt("A", 2), lit("}"))
	checkParse(t, "${A:-{b}}", opt("A", 2, lit("{b")), lit("}"))
	checkParse(t, "${A:-{{}}", opt("A", 2, lit("{{")), lit("}"))
	checkParse(t, "${A:-$B}", opt("A", 2, ref("B")))
	checkParse(t, "${A:-$B}}", opt("A", 2, ref("B")), lit("}"))
	checkParse(t, "${A:-${B}}", opt("A", 2, ref("B")))
	checkParse(t, "${A:-${B}}}", opt("A", 2, ref("B")), lit("}"))
	checkParse(t, "${A:-${B:-c}d}e}", opt("A", 2, opt("B", 2, lit("c")), lit("d")), lit("e}"))
	checkParse(t, "${A:-b${C+d}${E?f}g}", opt("A", 2, lit("b"), opt("C", 7, lit("d")), opt("E", 5, lit("f")), lit("g")))
	checkParse(t, "}${A-}}${B}}", lit("}"), opt("A", 3), lit("}"), ref("B"), lit("}"))
	checkParse(t, "${A-'}'}", opt("A", 3, lit("'")), lit("'}"))
	checkParse(t, `${A-\}}`, opt("A", 3, lit(`\`)), lit("}"))
	checkParse(t, "${A-}${B?}${C+x}${D:+y}${E:?z}", opt("A", 3), opt("B", 5), opt("C", 7, lit("x")), opt("D", 6, lit("y")), opt("E", 4, lit("z")))
}

// innermost are references without others within them.
var innermost = []struct {
	form string
	part Part
}{{"$B", ref("B")}, {"${B}", ref("B")}, {"${B:-}", opt("B", 2)}, {"${B-x}", opt("B", 3, lit("x"))}, {"${B:?$$}", opt("B", 4, lit("$"))}, {"${B?x y}", opt("B", 5, lit("x y"))}, {"${B:+{}", opt("B", 6, lit("{"))}, {"${B+-}", opt("B", 7, lit("-"))}}

// bare are beginnings of a "$" that is no "$$", those of no reference among them.
var bare = []string{"$B", "${B}", "${B:-}", "${B-x}", "${B", "${B:", "${B:-", "${B:x}", "${B*}", "${", "${}", "${1}", "$1", "$", "$ ", "$}", "$-", "$\xff", "$" + strings.Repeat("B", longName), "$" + strings.Repeat("B", longName+1), "${" + strings.Repeat("B", longName+1) + "}", "${A:-${B:-${C}}}"}

// TestDeepest: promises 13.1 and 13.2, references of each depth, the greatest one that is allowed, and greater ones.
func TestDeepest(t *testing.T) {
	for _, k := range kinds {
		for count := range 12 {
			for _, in := range innermost {
				if count >= mostDeep {
					checkError(t, closed(k.form, count, in.form), api.ErrBound)
					checkError(t, nested(k.form, count, in.form), api.ErrBound)
					continue
				}
				want := inside(k.number, count, in.part)
				checkParse(t, closed(k.form, count, in.form), want...)
				checkDeep(t, want, count+1)
				want = inside(k.number, count, lit("a$"), in.part, in.part, lit(" b"))
				checkParse(t, closed(k.form, count, "a$$"+in.form+in.form+" b"), want...)
				if count > 0 {
					checkError(t, nested(k.form, count, in.form), api.ErrSyntax)
					checkError(t, nested(k.form, count, in.form)+strings.Repeat("}", count-1), api.ErrSyntax)
				}
			}
			checkNoReference(t, k, count)
		}
	}
}

// checkNoReference checks what is no reference within count references.
func checkNoReference(t *testing.T, k kind, count int) {
	t.Helper()
	for _, x := range []struct{ form, text string }{{"", ""}, {"a", "a"}, {"$$", "$"}, {"$$$$", "$$"}, {"$$B", "$B"}, {"$${B", "${B"}, {"x$$1", "x$1"}} {
		if count > mostDeep {
			checkError(t, closed(k.form, count, x.form), api.ErrBound)
			continue
		}
		var sub []Part
		if x.text != "" {
			sub = []Part{lit(x.text)}
		}
		want := inside(k.number, count, sub...)
		checkParse(t, closed(k.form, count, x.form), want...)
		checkDeep(t, want, count)
	}
}

// TestTooDeep: promise 13.1, a "$" within eight references, wherever it stands there and whatever is behind it.
func TestTooDeep(t *testing.T) {
	for _, s := range bare {
		for _, before := range []string{"", "a", "$$", "$$$$a", "{"} {
			for _, behind := range []string{"", "a", " $$", " $", " $1", "}", "}}}}}}}}", "}}}}}}}}}", "}}}}}}}}$1", " ${A:-", "}$B"} {
				checkError(t, nested(":-", mostDeep, before+s+behind), api.ErrBound)
				checkError(t, "$X${Y}"+nested("+", mostDeep, before+s+behind), api.ErrBound)
				checkError(t, "a${X-b}"+nested("?", mostDeep-1, "$B${A:?"+before+s+behind), api.ErrBound)
			}
		}
	}
	deep := closed("-", mostDeep, "")
	checkParts(t, deep+deep, slices.Concat(inside(3, mostDeep), inside(3, mostDeep)))
	checkParts(t, deep+"$B"+deep, slices.Concat(inside(3, mostDeep), []Part{ref("B")}, inside(3, mostDeep)))
	checkParts(t, nested("-", mostDeep, "}$B")+strings.Repeat("}", mostDeep-1), inside(3, mostDeep-1, opt("A", 3), ref("B")))
	checkError(t, deep+nested("-", mostDeep, "$B"), api.ErrBound)
	checkError(t, strings.Repeat("${A:-", 1<<16), api.ErrBound)
	checkError(t, nested(":-", 1<<16, strings.Repeat("}", 1<<16)), api.ErrBound)
}

// TestFirst: promise 13.1, the first of several errors from the left.
func TestFirst(t *testing.T) {
	tooDeep := nested("-", mostDeep, "$B")
	for _, wrong := range []string{"$1", "$ ", "$}", "${}", "${1}", "${A*}", "${A:}", "${A:b", "${A ", "${ ", "${A${B-", "$" + strings.Repeat("A", longName+1), "${" + strings.Repeat("A", longName+1)} {
		for _, between := range []string{" ", "}", " $B", " ${B:-c}", "-$$", "}}}}}}}}"} {
			checkError(t, wrong+between+tooDeep, api.ErrSyntax)
			checkError(t, "${B}"+wrong+between+tooDeep+strings.Repeat("}", mostDeep), api.ErrSyntax)
			checkError(t, tooDeep+between+wrong, api.ErrBound)
			checkError(t, tooDeep+strings.Repeat("}", mostDeep)+between+wrong, api.ErrBound)
		}
		for count := range mostDeep {
			checkError(t, nested(":-", count, "a"+wrong+" ")+tooDeep, api.ErrSyntax)
			checkError(t, nested(":-", count, tooDeep+" "+wrong), api.ErrBound)
			checkError(t, closed(":-", count, "$B"+wrong), api.ErrSyntax)
		}
		checkError(t, nested(":-", mostDeep, wrong), api.ErrBound)
	}
	checkError(t, tooDeep, api.ErrBound)
	checkError(t, nested("-", mostDeep, "$$ a"), api.ErrSyntax)
	checkError(t, nested("-", mostDeep, "a")+strings.Repeat("}", mostDeep-1), api.ErrSyntax)
	checkError(t, nested("-", mostDeep, "a}$1"), api.ErrSyntax)
	checkError(t, nested("-", mostDeep, "a}$B"), api.ErrSyntax)
	checkError(t, nested("-", mostDeep, "a}${A-$B"), api.ErrBound)
	checkError(t, "$$$"+tooDeep, api.ErrSyntax)
}

// TestText: promise 13.2, "$" in literal text, variables, and each operator with and without a template.
func TestText(t *testing.T) {
	checkText(t, nil, "")
	checkText(t, []Part{}, "")
	for _, x := range []struct{ text, form string }{{"a", "a"}, {"$", "$$"}, {"$$", "$$$$"}, {"$$$", "$$$$$$"}, {"a$b", "a$$b"}, {"$a", "$$a"}, {"a$", "a$$"}, {"${A}", "$${A}"}, {"$A", "$$A"}, {"}", "}"}, {"\x00\xff\u00e9$\n", "\x00\xff\u00e9$$\n"}} {
		checkText(t, []Part{lit(x.text)}, x.form)
		checkText(t, []Part{ref("A"), lit(x.text), ref("B")}, "${A}"+x.form+"${B}")
		checkText(t, []Part{lit(x.text), lit(x.text)}, x.form+x.form)
		for _, k := range kinds {
			checkText(t, []Part{opt("A", k.number, lit(x.text))}, "${A"+k.form+x.form+"}")
			checkText(t, []Part{opt("A_1", k.number, ref("B"), lit(x.text), opt("C", k.number, lit(x.text)))}, "${A_1"+k.form+"${B}"+x.form+"${C"+k.form+x.form+"}}")
		}
	}
	checkText(t, []Part{ref("A")}, "${A}")
	checkText(t, []Part{ref("A"), ref("A")}, "${A}${A}")
	checkText(t, []Part{lit("x"), ref("_a1"), lit("y")}, "x${_a1}y")
	for number, form := range []string{2: "${A:-}", 3: "${A-}", 4: "${A:?}", 5: "${A?}", 6: "${A:+}", 7: "${A+}"} {
		if form != "" {
			checkText(t, []Part{opt("A", number)}, form)
			checkText(t, []Part{opt("A", number, []Part{}...), lit("b")}, form+"b")
		}
	}
	checkText(t, inside(4, mostDeep), "${A:?${A:?${A:?${A:?${A:?${A:?${A:?${A:?}}}}}}}}")
}

// TestNames: promise 13.2, names in any order, that stand twice, and within references; text is no name.
func TestNames(t *testing.T) {
	checkNames(t, nil)
	checkNames(t, []Part{})
	checkNames(t, []Part{lit("A"), lit("$B")})
	checkNames(t, []Part{ref("A")}, "A")
	checkNames(t, []Part{ref("B"), lit("C"), ref("A")}, "A", "B")
	checkNames(t, []Part{ref("A"), ref("A"), ref("A")}, "A")
	checkNames(t, []Part{ref("z"), ref("_"), ref("Z"), ref("a1"), ref("a"), ref("A9"), ref("A10"), ref("a_"), ref("aA")}, "A10", "A9", "Z", "_", "a", "a1", "aA", "a_", "z")
	for _, k := range kinds {
		checkNames(t, []Part{opt("B", k.number)}, "B")
		checkNames(t, []Part{opt("B", k.number, lit("C"))}, "B")
		checkNames(t, []Part{opt("B", k.number, ref("A"))}, "A", "B")
		checkNames(t, []Part{opt("B", k.number, ref("B"))}, "B")
		checkNames(t, []Part{opt("B", k.number, lit("x"), ref("D"), opt("C", k.number, ref("A"), ref("D"))), ref("B"), ref("E")}, "A", "B", "C", "D", "E")
	}
	var l []Part
	var want []string
	for i := range 2 * mostDeep {
		want = append(want, "N"+strconv.Itoa(10+i))
	}
	for i := mostDeep - 1; i >= 0; i-- {
		l = []Part{opt(want[2*i+1], 3, l...), ref(want[2*i])}
	}
	checkNames(t, l, want...)
}

// TestDeep: promise 13.2, no parts, literal text alone, and the greatest of several depths, wherever it stands.
func TestDeep(t *testing.T) {
	checkDeep(t, nil, 0)
	checkDeep(t, []Part{}, 0)
	checkDeep(t, []Part{lit("a")}, 0)
	checkDeep(t, []Part{lit("$"), lit("${A}")}, 0)
	checkDeep(t, []Part{ref("A")}, 1)
	checkDeep(t, []Part{ref("A"), ref("B"), lit("c"), ref("D")}, 1)
	for _, k := range kinds {
		checkDeep(t, []Part{opt("A", k.number)}, 1)
		checkDeep(t, []Part{opt("A", k.number, lit("a"))}, 1)
		checkDeep(t, []Part{opt("A", k.number, ref("A"))}, 2)
		for first := range mostDeep + 1 {
			for second := range mostDeep + 1 {
				l := slices.Concat(inside(k.number, first), []Part{lit("x")}, inside(k.number, second))
				checkDeep(t, l, max(first, second))
				checkDeep(t, inside(3, 2, l...), 2+max(first, second))
			}
		}
	}
}

// token matches the bytes of a template that belong together at its beginning; names are checked apart from it.
var token = regexp.MustCompile(`^(?:\$\$|\$\{([A-Za-z_][A-Za-z0-9_]*)(?:\}|:?[-?+])|\$([A-Za-z_][A-Za-z0-9_]*)|[^$])`)

// model is another way to what all functions tell of a template: its text with braces around each name, its names and its depth.
type model struct {
	form  string
	names map[string]int
	deep  int
}

// modelOf reads a template token by token and counts the references that are open.
func modelOf(s string) (model, api.Errno) {
	m, open := model{names: map[string]int{}}, 0
	for s != "" {
		found := token.FindStringSubmatch(s)
		if s[0] == '$' && !strings.HasPrefix(s, "$$") {
			if open == mostDeep {
				return model{}, api.ErrBound
			}
			if found == nil || len(found[1]+found[2]) > longName {
				return model{}, api.ErrSyntax
			}
			m.names[found[1]+found[2]]++
			m.deep = max(m.deep, open+1)
		}
		switch one := found[0]; {
		case found[2] != "":
			m.form += "${" + found[2] + "}"
		case found[1] != "" && !strings.HasSuffix(one, "}"):
			open++
			m.form += one
		default:
			if one == "}" && open > 0 {
				open--
			}
			m.form += one
		}
		s = s[len(found[0]):]
	}
	if open > 0 {
		return model{}, api.ErrSyntax
	}
	return m, api.OK
}

// isRight reports whether l has the fields that parts have, within open references.
func isRight(l []Part, open int) bool {
	for i, p := range l {
		switch {
		case p.Op == 0 && (p.Text == "" || p.Name != "" || len(p.Sub) > 0):
			return false
		case p.Op == 0 && (i > 0 && l[i-1].Op == 0 || open > 0 && strings.Contains(p.Text, "}")):
			return false
		case p.Op != 0 && (p.Text != "" || p.Name == "" || p.Op < 0 || p.Op > 7 || open >= mostDeep):
			return false
		case p.Op == 1 && len(p.Sub) > 0, !isRight(p.Sub, open+1):
			return false
		}
	}
	return true
}

// checkModel checks all functions with any string by the model.
func checkModel(t *testing.T, s string) {
	t.Helper()
	want, wantE := modelOf(s)
	l, e := Parse(s)
	if e != wantE || e != api.OK && len(l) > 0 || !isRight(l, 0) {
		t.Errorf("Parse(%q) = %s, %v; want %v", cut(s), cut(show(l)), e, wantE)
		return
	}
	if e != api.OK {
		return
	}
	if got := canonical(l); got != want.form {
		t.Errorf("Parse(%q) = %s, which is written %q; want %q", cut(s), cut(show(l)), cut(got), cut(want.form))
	}
	checkText(t, l, want.form)
	checkNames(t, l, ascending(want.names)...)
	checkDeep(t, l, want.deep)
	if again, e := Parse(want.form); show(again) != show(l) || e != api.OK {
		t.Errorf("Parse(Text(Parse(%q))) = %s, %v; want %s", cut(s), cut(show(again)), e, cut(show(l)))
	}
	if s != "" && !strings.Contains(s, "$") && show(l) != show([]Part{lit(s)}) {
		t.Errorf("Parse(%q) = %s; want a single part", cut(s), cut(show(l)))
	}
}

// eachJoined calls check with all strings of up to most pieces.
func eachJoined(pieces []string, most int, check func(s string)) {
	check("")
	if most == 0 {
		return
	}
	for _, piece := range pieces {
		eachJoinedBehind(piece, pieces, most-1, check)
	}
}

// eachJoinedBehind calls check with all strings of up to most pieces behind s.
func eachJoinedBehind(s string, pieces []string, most int, check func(s string)) {
	check(s)
	if most == 0 {
		return
	}
	for _, piece := range pieces {
		eachJoinedBehind(s+piece, pieces, most-1, check)
	}
}

// TestAll: promises 13.1 to 13.3, all strings of few bytes, and of few greater pieces.
func TestAll(t *testing.T) {
	check := func(s string) { checkModel(t, s) }
	eachJoined([]string{"$", "{", "}", "A", "1", ":", "-", "\xff"}, 6, check)
	eachJoined([]string{"${A", "${_b:-", "$", "$$", "}", ":", "?", "+", "x"}, 5, check)
	eachJoined([]string{"${", "$A", "${B+", "${C}", "}", " ", strings.Repeat("d", longName), "${" + strings.Repeat("e", longName)}, 5, check)
}

// TestAllDeep: promises 13.1 to 13.3, all strings of few pieces within many references.
func TestAllDeep(t *testing.T) {
	for open := mostDeep - 2; open <= mostDeep+1; open++ {
		for _, closings := range []int{0, open - 1, open, open + 1} {
			eachJoined([]string{"$", "{", "}", "A", "${B:-", "$$", "1", ":?"}, 3, func(s string) {
				checkModel(t, nested("+", open, s)+strings.Repeat("}", closings))
			})
		}
	}
}

// drawnParts draws parts within open references.
func drawnParts(random *rand.Rand, open, most int) []Part {
	var l []Part
	for range random.Intn(most + 1) {
		if random.Intn(2) == 0 {
			if len(l) == 0 || l[len(l)-1].Op != 0 {
				l = append(l, lit(drawnText(random, open > 0)))
			}
			continue
		}
		if open == mostDeep {
			continue
		}
		p := ref(drawnName(random))
		if random.Intn(3) > 0 {
			p = opt(p.Name, 2+random.Intn(6), drawnParts(random, open+1, most)...)
		}
		l = append(l, p)
	}
	return l
}

// drawnText draws literal text, without a "}" if it stands within a reference.
func drawnText(random *rand.Rand, isWithin bool) string {
	pieces := []string{"a", "$", "{", " ", ":-", "?", "+", "${", "$A", "_1", "\x00", "\xff", "\u00e9", "\n", "}", "${B}", "}}"}
	if isWithin {
		pieces = pieces[:len(pieces)-3]
	}
	s := ""
	for range 1 + random.Intn(4) {
		s += pieces[random.Intn(len(pieces))]
	}
	return s
}

func drawnName(random *rand.Rand) string {
	const first, all = "AaZz_BQqx", "AaZz_BQqx0189"
	key := first[random.Intn(len(first)):][:1]
	for range []int{0, 0, 1, 2, random.Intn(longName), longName - 1}[random.Intn(6)] {
		key += all[random.Intn(len(all)):][:1]
	}
	return key
}

// drawnForm writes parts as a template, with braces or without them where there is a choice.
func drawnForm(random *rand.Rand, l []Part) string {
	s := ""
	for i := len(l) - 1; i >= 0; i-- {
		form, isLoose := "", s == "" || !isFirst(s[0]) && !isDigit(s[0])
		switch p := l[i]; {
		case p.Op == 0:
			form = strings.Join(strings.Split(p.Text, "$"), "$$")
		case p.Op == 1 && isLoose && random.Intn(2) == 0:
			form = "$" + p.Name
		case p.Op == 1:
			form = "${" + p.Name + "}"
		default:
			form = "${" + p.Name + kinds[p.Op-2].form + drawnForm(random, p.Sub) + "}"
		}
		s = form + s
	}
	return s
}

// TestDrawn: promises 13.1 to 13.3, drawn parts, each written in some ways, and these strings with some bytes altered.
func TestDrawn(t *testing.T) {
	random := rand.New(rand.NewSource(13))
	const others = "$${}}A1_:-?+ \xff"
	for range 4000 {
		l := drawnParts(random, 0, 4)
		if !isRight(l, 0) {
			t.Fatalf("%s are no parts", cut(show(l)))
		}
		for range 3 {
			s := drawnForm(random, l)
			checkParts(t, s, l)
			checkModel(t, s)
			for range 1 + random.Intn(2) {
				at := random.Intn(len(s) + 1)
				end := min(len(s), at+random.Intn(3))
				s = s[:at] + others[random.Intn(len(others)):][:1] + s[end:]
				checkModel(t, s)
			}
		}
	}
}

// TestLong: promises 13.1 to 13.3, long strings.
func TestLong(t *testing.T) {
	const count = 1 << 15
	for _, x := range []struct {
		form string
		part Part
	}{{"$A", ref("A")}, {"${A}", ref("A")}, {"${A-b$$}", opt("A", 3, lit("b$"))}, {"${A:-$B${C}}", opt("A", 2, ref("B"), ref("C"))}} {
		l, e := Parse(strings.Repeat(x.form, count))
		if len(l) != count || e != api.OK || slices.ContainsFunc(l, func(p Part) bool { return show([]Part{p}) != show([]Part{x.part}) }) {
			t.Errorf("Parse of %d times %q has %d parts, %v", count, x.form, len(l), e)
		}
		checkText(t, l, strings.Repeat(canonical([]Part{x.part}), count))
	}
	checkModel(t, strings.Repeat("$", count))
	checkModel(t, strings.Repeat("$", count+1))
	checkParts(t, strings.Repeat("$", count), []Part{lit(strings.Repeat("$", count/2))})
	checkParts(t, strings.Repeat("a$$}", count), []Part{lit(strings.Repeat("a$}", count))})
	checkParts(t, "${A?"+strings.Repeat("$$a", count)+"}", []Part{opt("A", 5, lit(strings.Repeat("$a", count)))})
	checkError(t, "${A?"+strings.Repeat("a", count), api.ErrSyntax)
	checkError(t, strings.Repeat("${A?b}", count)+"$", api.ErrSyntax)
}

// spoil overwrites all that l can reach, also behind the lengths of its lists.
func spoil(l []Part) {
	for i := range l {
		spoil(l[i].Sub)
		l[i] = opt("spoiled", 7, lit("spoiled"))
	}
	for i := range l[len(l):cap(l)] {
		l[:cap(l)][len(l)+i] = lit("spoiled")
	}
}

// TestMemory: the rules on memory: arguments are not changed, nothing behind their lengths is read, and no two answers, nor two lists of one, share memory.
func TestMemory(t *testing.T) {
	hidden := []Part{lit("a$"), opt("B", 2, lit("b"), ref("C")), ref("HIDDEN"), opt("HIDDEN", 3, ref("HIDDEN"))}
	sub := hidden[1].Sub
	hidden[1].Sub = sub[:1]
	before := show(hidden) + show(sub)
	checkText(t, hidden[:2], "a$$${B:-b}")
	checkNames(t, hidden[:2], "B")
	checkDeep(t, hidden[:2], 1)
	checkText(t, hidden[:0], "")
	checkNames(t, hidden[:0])
	checkDeep(t, hidden[:0], 0)
	if show(hidden)+show(sub) != before {
		t.Errorf("the parts have been changed to %s and %s", show(hidden), show(sub))
	}
	for _, s := range []string{"a", "$A$B$C", "${A:-b$C${D?e$$}}f", "${A-$B}${C-$D$E${F+$G}}h", closed(":+", mostDeep, "$$"), "${A-}"} {
		first, _ := Parse(s)
		want := show(first)
		for i := range first {
			other, _ := Parse(s)
			kept := show(slices.Concat(other[:i], other[i+1:]))
			spoil(other[i].Sub)
			if got := show(slices.Concat(other[:i], other[i+1:])); got != kept || other[i].Name != first[i].Name {
				t.Errorf("the lists of Parse(%q) share memory", s)
			}
		}
		second, _ := Parse(s)
		names, again := Names(second), Names(second)
		spoil(second)
		if len(names) > 0 {
			names[0] = "spoiled"
		}
		if show(first) != want || slices.Contains(again, "spoiled") {
			t.Errorf("two answers for %q share memory", s)
		}
	}
}

// TestWithoutEnd: promise P1, Text, Names and Deep end and do not panic, whatever they are given. What they answer for parts that Parse does not return is nowhere promised.
func TestWithoutEnd(t *testing.T) {
	ring := []Part{lit("a"), opt("A", 2)}
	ring[1].Sub = ring
	var rings []Part
	for i := range 100 {
		rings = append(rings, opt("N"+strconv.Itoa(i), 2+i%6))
	}
	for i := range rings {
		rings[i].Sub = rings
	}
	var far []Part
	for range 1 << 20 {
		far = []Part{opt("A", 3, far...)}
	}
	crossed := []Part{opt("A", 2), opt("B", 3)}
	crossed[0].Sub, crossed[1].Sub = crossed[1:], crossed[:1]
	for _, l := range [][]Part{ring, rings, far, crossed} {
		for _, all := range [][]Part{l, {opt("A", 2, l...)}, {lit("x"), ref("B"), opt("A", 7, append([]Part{ref("C")}, l...)...)}} {
			checkEnded(t, all)
		}
	}
	for _, number := range []int{-1, 1, 2, 3, 4, 5, 6, 7, 8} {
		self := []Part{opt("A", number)}
		self[0].Sub = self
		checkEnded(t, self)
		checkEnded(t, []Part{lit("a"), opt("B", number, self...)})
	}
}

// checkEnded checks that the answers for parts without an end are those for no parts.
func checkEnded(t *testing.T, l []Part) {
	t.Helper()
	if got := Text(l); got != "" {
		t.Errorf("Text of parts without an end = %q", cut(got))
	}
	if got := Names(l); len(got) != 0 {
		t.Errorf("Names of parts without an end = %q", got)
	}
	if got := Deep(l); got != 0 {
		t.Errorf("Deep of parts without an end = %d", got)
	}
}

// TestOtherParts: promise P1, parts that have an end, but that Parse does not return: deeper ones, and such with other fields.
func TestOtherParts(t *testing.T) {
	for _, count := range []int{9, 10, 100, 1000} {
		l := inside(2, count, ref("B"), lit("}"))
		checkText(t, l, closed(":-", count, "${B}}"))
		checkNames(t, l, "A", "B")
		checkDeep(t, l, count+1)
		checkError(t, Text(l), api.ErrBound)
	}
	for _, number := range []int{-1, 8, 9, 1 << 40, -1 << 62} {
		l := []Part{opt("A", number, ref("B")), {Op: number}, {Op: 0, Name: "C", Sub: []Part{ref("D")}}}
		checkText(t, l, "${A}${}")
		checkDeep(t, l, 2)
		if got := Names(l); !slices.Contains(got, "A") || slices.Contains(got, "C") {
			t.Errorf("Names(%s) = %q", show(l), got)
		}
	}
	checkText(t, []Part{{}, {Text: "", Op: 0}, lit("a"), lit("b")}, "ab")
	checkText(t, []Part{{Name: "A", Op: 1, Text: "x", Sub: []Part{ref("B")}}}, "${A}")
	literal := []Part{lit("a$"), ref("A")}
	literal[0].Sub = literal
	checkText(t, literal, "a$$${A}")
	checkNames(t, literal, "A")
	checkDeep(t, literal, 1)
}
