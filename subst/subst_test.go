package subst

import (
	"math/rand"
	"regexp"
	"slices"
	"strconv"
	"strings"
	"testing"

	"longshore/api"
	"longshore/env"
	"longshore/node"
	"longshore/tmpl"
)

// The limits as the document writes them.
const (
	mostText = 8192
	mostDeep = 8
	mostNest = 12
	mostSize = 2000
)

// forms are the operators as they are written; their kinds stand at the same places.
var (
	forms   = []string{":-", "-", ":?", "?", ":+", "+"}
	numbers = []int{tmpl.IfBlank, tmpl.IfUnset, tmpl.MustBlank, tmpl.MustUnset, tmpl.ElseBlank, tmpl.ElseUnset}
)

// vars returns variables; a name and its value stand in turns.
func vars(l ...string) []api.Var {
	var all []api.Var
	for i := 0; i < len(l); i += 2 {
		all = append(all, api.Var{Key: l[i], Val: l[i+1]})
	}
	return all
}

// sample returns an environment in which A is set, E is set and empty, N is not set, and X to Z are long.
func sample() []api.Var {
	return vars("A", "x", "B", "yy", "D", "$A${N?}", "E", "", "X", long("p", 5000), "Y", long("q", mostText), "Z", long("r", mostText+1))
}

// long returns a text of that many bytes.
func long(s string, length int) string {
	return strings.Repeat(s, length/len(s)+1)[:length]
}

// cut quotes a string for a message.
func cut(s string) string {
	if len(s) > 120 {
		return strconv.Quote(s[:120]) + "... (" + strconv.Itoa(len(s)) + " bytes)"
	}
	return strconv.Quote(s)
}

// brief writes variables for a message.
func brief(e []api.Var) string {
	s := ""
	for _, v := range e[:min(len(e), 12)] {
		s += " " + v.Key + "=" + cut(v.Val)
	}
	return strconv.Itoa(len(e)) + " variables" + s
}

// outcome is what all functions tell of a template in an environment.
type outcome struct {
	value    string
	errno    api.Errno
	key, why string
}

func valued(s string) outcome { return outcome{value: s} }

func failed(errno api.Errno) outcome { return outcome{errno: errno} }

func unset(key, why string) outcome { return outcome{errno: api.ErrUnset, key: key, why: why} }

// parsed returns the parts of a template, which must be one.
func parsed(t *testing.T, s string) []tmpl.Part {
	t.Helper()
	l, errno := tmpl.Parse(s)
	if errno != api.OK {
		t.Fatalf("tmpl.Parse(%s) = %v", cut(s), errno)
	}
	return l
}

// checkParts checks Expand and Needs.
func checkParts(t *testing.T, l []tmpl.Part, e []api.Var, want outcome) {
	t.Helper()
	if s, errno := Expand(l, e); s != want.value || errno != want.errno {
		t.Errorf("Expand of %s in %s = %s, %v; want %s, %v", cut(tmpl.Text(l)), brief(e), cut(s), errno, cut(want.value), want.errno)
	}
	if key, why := Needs(l, e); key != want.key || why != want.why {
		t.Errorf("Needs of %s in %s = %s, %s; want %s, %s", cut(tmpl.Text(l)), brief(e), cut(key), cut(why), cut(want.key), cut(want.why))
	}
}

// checkOnce checks a template by all functions.
func checkOnce(t *testing.T, s string, e []api.Var, want outcome) {
	t.Helper()
	if got, errno := Text(s, e); got != want.value || errno != want.errno {
		t.Errorf("Text(%s) in %s = %s, %v; want %s, %v", cut(s), brief(e), cut(got), errno, cut(want.value), want.errno)
	}
	n, errno := Node(node.Text(s), e)
	wantNode := node.Text(want.value)
	if want.errno != api.OK {
		wantNode = api.Node{}
	}
	if !node.Same(n, wantNode) || errno != want.errno {
		t.Errorf("Node of the text %s in %s = %s, %v; want %s, %v", cut(s), brief(e), cut(show(n)), errno, cut(show(wantNode)), want.errno)
	}
	l, errno := tmpl.Parse(s)
	if errno == api.OK {
		checkParts(t, l, e, want)
	}
	if got, want := Names(node.Text(s)), tmpl.Names(l); !slices.Equal(got, want) {
		t.Errorf("Names of the text %s = %q; want %q", cut(s), got, want)
	}
}

// check checks a template, which tmpl.Parse accepts, alone and where its value is used: between others and within references. With what is around it, its value may be too long.
func check(t *testing.T, s string, e []api.Var, want outcome) {
	t.Helper()
	checkOnce(t, s, e, want)
	e = env.Over(e, vars("IN", "in", "NO", ""))
	checkOnce(t, s+"${NO}", e, want)
	checkOnce(t, "${OUT}"+s, e, want)
	checkOnce(t, "$$"+s+" b", e, want.between("$", " b"))
	checkOnce(t, "${IN}"+s+"${IN}", e, want.between("in", "in"))
	if !isNestable(parsed(t, s)) {
		return
	}
	for _, open := range []string{"${OUT:-", "${NO:-", "${OUT-", "${IN:+", "${IN+", "${NO+"} {
		checkOnce(t, open+s+"}", e, want)
		checkOnce(t, "a"+open+"b$IN "+s+"$$c}d", e, want.between("abin ", "$cd"))
		checkOnce(t, "${IN:?"+s+"}"+open+open+s+"}}", e, want.between("in", ""))
	}
}

// between returns the outcome for a template between others.
func (w outcome) between(before, behind string) outcome {
	if w.errno != api.OK {
		return w
	}
	if len(before)+len(w.value)+len(behind) > mostText {
		return failed(api.ErrBound)
	}
	return valued(before + w.value + behind)
}

// isNestable reports whether a template of these parts may stand within two references.
func isNestable(l []tmpl.Part) bool {
	hasClosing := slices.ContainsFunc(l, func(p tmpl.Part) bool { return strings.Contains(p.Text, "}") })
	return !hasClosing && tmpl.Deep(l)+2 <= mostDeep
}

// checkUnused checks that a template does not matter where its value is not used.
func checkUnused(t *testing.T, s string, e []api.Var) {
	t.Helper()
	e = env.Over(e, vars("IN", "in", "NO", ""))
	for _, x := range []struct{ form, value string }{
		{"${IN:-", "in"}, {"${IN-", "in"}, {"${NO-", ""}, {"${IN:?", "in"}, {"${IN?", "in"}, {"${NO?", ""}, {"${OUT:+", ""}, {"${NO:+", ""}, {"${OUT+", ""},
	} {
		checkOnce(t, x.form+s+"}", e, valued(x.value))
		checkOnce(t, "a"+x.form+s+"}b", e, valued("a"+x.value+"b"))
		checkOnce(t, "${OUT:-"+x.form+s+"}}", e, valued(x.value))
		checkOnce(t, x.form+x.form+s+"}}", e, valued(x.value))
		checkOnce(t, x.form+s+"}"+x.form+s+"}", e, valued(x.value+x.value))
	}
}

// TestExample: promises 14.1 and 14.2, the chapter's examples, and the limits.
func TestExample(t *testing.T) {
	e := vars("A", "x")
	check(t, "${A}-${B:-$A}", e, valued("x-x"))
	check(t, "${B?gone}", e, unset("B", "gone"))
	if api.MaxText != mostText || tmpl.Deepest != mostDeep || api.MaxNest != mostNest || api.MaxNodes != mostSize {
		t.Errorf("MaxText = %d, Deepest = %d, MaxNest = %d, MaxNodes = %d", api.MaxText, tmpl.Deepest, api.MaxNest, api.MaxNodes)
	}
}

// TestNothing: promise 14.1, no parts, and literal parts alone.
func TestNothing(t *testing.T) {
	for _, e := range [][]api.Var{nil, {}, vars("A", "x"), sample()} {
		checkParts(t, nil, e, valued(""))
		checkParts(t, []tmpl.Part{}, e, valued(""))
		check(t, "", e, valued(""))
		for _, s := range []string{"a", " ", "A", "{A", ":-", "?", "\x00", "\n", "\xff\x80", "\u00e9", "a b-c:?d", long("ab ", 4000)} {
			check(t, s, e, valued(s))
			check(t, s+"$$"+s+"$$$$", e, valued(s+"$"+s+"$$"))
		}
		for _, s := range []string{"}", "{A}", "}{", "A}"} {
			check(t, s, e, valued(s))
		}
		check(t, "$$", e, valued("$"))
		check(t, "$$A", e, valued("$A"))
		check(t, "$${A:-b", e, valued("${A:-b"))
	}
	for b := range 256 {
		if s := string([]byte{byte(b)}); s != "$" {
			check(t, s, nil, valued(s))
		}
	}
}

// TestKinds: promise 14.1, each kind with a variable that is not set, set and empty, and set and not empty, and with a Sub of no parts, of literal text, and of references.
func TestKinds(t *testing.T) {
	e := sample()
	for _, sub := range []struct{ form, value, why string }{
		{"", "", ""}, {"b", "b", "b"}, {"b c$$", "b c$", "b c$$"}, {"$B", "yy", "${B}"}, {"${A}$B", "xyy", "${A}${B}"}, {"1${A}2$N.$E", "1x2.", "1${A}2${N}.${E}"}, {"${N:-${B:+$A$A}}", "xx", "${N:-${B:+${A}${A}}}"}, {"${E?$N}", "", "${E?${N}}"},
	} {
		for _, x := range []struct {
			name  string
			wants []string
		}{
			{"N", []string{"sub", "sub", "unset", "unset", "", ""}},
			{"E", []string{"sub", "", "unset", "", "", "sub"}},
			{"A", []string{"x", "x", "x", "x", "sub", "sub"}},
			{"B", []string{"yy", "yy", "yy", "yy", "sub", "sub"}},
		} {
			for i, form := range forms {
				want := valued(x.wants[i])
				switch x.wants[i] {
				case "sub":
					want = valued(sub.value)
				case "unset":
					want = unset(x.name, sub.why)
				}
				check(t, "${"+x.name+form+sub.form+"}", e, want)
				if l := parsed(t, "${"+x.name+form+sub.form+"}"); l[0].Op != numbers[i] {
					t.Errorf("the kind of %q is %d", form, l[0].Op)
				}
			}
		}
	}
	for _, x := range []struct{ name, value string }{{"N", ""}, {"E", ""}, {"A", "x"}, {"B", "yy"}} {
		check(t, "$"+x.name, e, valued(x.value))
		check(t, "${"+x.name+"}", e, valued(x.value))
	}
}

// TestOrder: promise 14.1, the values of several parts stand in the order of the parts.
func TestOrder(t *testing.T) {
	e := vars("A", "1", "B", "2", "C", "3", "E", "")
	check(t, "$A$B$C", e, valued("123"))
	check(t, "$C$A$B$A", e, valued("3121"))
	check(t, "a${B}b$N.${E:-c${C}d}$E${A:+$C$B}", e, valued("a2b.c3d32"))
	check(t, "${A:+${B:+${C:+${N:-${E:-a$A}b$B}c}d}e}f", e, valued("a1b2cdef"))
	check(t, "$A ${N} $B", e, valued("1  2"))
	check(t, strings.Repeat("$A$N${E}", 1000), e, valued(strings.Repeat("1", 1000)))
	for depth := 1; depth <= mostDeep; depth++ {
		check(t, strings.Repeat("${N:-<", depth)+strings.Repeat(">}", depth), e, valued(strings.Repeat("<", depth)+strings.Repeat(">", depth)))
	}
}

// TestEnvironment: promise 14.1, an empty environment, names that are alike, and a variable that stands more than once.
func TestEnvironment(t *testing.T) {
	for _, e := range [][]api.Var{nil, {}} {
		for i, form := range forms {
			want := []outcome{valued("s"), valued("s"), unset("A", "s"), unset("A", "s"), valued(""), valued("")}[i]
			check(t, "${A"+form+"s}", e, want)
		}
		check(t, "$A${B}.", e, valued("."))
	}
	alike := vars("A", "1", "A1", "2", "AA", "3", "_", "4", "_A", "5", "a", "6", "aa", "")
	check(t, "$A-$A1-$AA-$_-$_A-$a-$aa-$A_-$Aa-$b", alike, valued("1-2-3-4-5-6----"))
	check(t, "${A}A${A}1${a}a", alike, valued("1A116a"))
	check(t, "${B?}", alike, unset("B", ""))
	check(t, "${aa?}${aa:?}", alike, unset("aa", ""))
	for _, x := range []struct {
		e    []api.Var
		want string
	}{
		{vars("A", "1", "A", "2"), "2"}, {vars("A", "2", "A", "1"), "1"}, {vars("A", "", "A", "1"), "1"}, {vars("A", "1", "B", "x", "A", "3"), "3"}, {vars("A", "1", "A", "2", "A", "3", "B", "x"), "3"},
	} {
		checkOnce(t, "$A", x.e, valued(x.want))
		checkOnce(t, "${A:?}${A-no}${A:+b}", x.e, valued(x.want+x.want+"b"))
		check(t, "$A", env.Of(x.e...), valued(x.want))
	}
	checkOnce(t, "${A:-d}${A-d}", vars("A", "1", "A", ""), valued("d"))
	checkOnce(t, "${A:?w}", vars("A", "1", "A", ""), unset("A", "w"))
	var full []api.Var
	for i := range env.Most {
		full = append(full, vars("N"+strconv.Itoa(100+i), "v"+strconv.Itoa(i))...)
	}
	for i, v := range full {
		checkOnce(t, "${"+v.Key+"}", full, valued("v"+strconv.Itoa(i)))
		checkOnce(t, "$"+v.Key+"${"+v.Key+"0-}", full, valued("v"+strconv.Itoa(i)))
	}
}

// TestUnused: promise 14.1, a Sub whose value is not used does not matter, whatever it is.
func TestUnused(t *testing.T) {
	for _, s := range []string{"", "s", "$A", "${N?}", "${E:?w}", "$X$X", "$Z", "${Z}", long("a", mostText+1), "$Y.", "${N:-${N?}}", "${N:-$Z}", "$X$X${N?}", "${N?}$X$X", "${A?$Z}", "${A+${B+$Y$Y}}"} {
		checkUnused(t, s, sample())
	}
	for _, x := range []struct{ sub, why string }{{"", ""}, {"$M", "${M}"}, {"${M?}", "${M?}"}, {"$Z", "${Z}"}, {"${E:?$X$X}", "${E:?${X}${X}}"}} {
		check(t, "${N?"+x.sub+"}", sample(), unset("N", x.why))
		check(t, "${N:?"+x.sub+"}", sample(), unset("N", x.why))
		check(t, "${E:?"+x.sub+"}", sample(), unset("E", x.why))
	}
	check(t, "${A:+a}${Z:+b}${Z+c}", sample(), valued("abc"))
	check(t, "${Z:-a}", sample(), failed(api.ErrBound))
}

// TestFirst: promise 14.1, the first error from the left, in one list and within a Sub.
func TestFirst(t *testing.T) {
	e, bound := sample(), failed(api.ErrBound)
	gone, other := unset("N", ""), unset("M", "w")
	for _, x := range []struct {
		s    string
		want outcome
	}{
		{"${N?}", gone}, {"${M?w}", other}, {"${N?}${M?w}", gone}, {"${M?w}${N?}", other}, {"${E:?w$A}", unset("E", "w${A}")}, {"${A?}${M?w}${N?}", other},
		{"$X$X", bound}, {"$X$X${N?}", bound}, {"${N?}$X$X", gone}, {"$X${N?}$X", gone}, {"$Z${N?}", bound}, {"${N?}$Z", gone}, {"$Y.${N?}", bound}, {"${N?}.$Y", gone},
		{"${N:-$X$X}", bound}, {"${N:-$X$X${N?}}", bound}, {"${N:-${N?}$X$X}", gone}, {"${N:-${M?w}$Z}", other}, {"${N:-$Z${M?w}}", bound},
		{"${N:-${M?w}}${N?}", other}, {"${N?}${N:-${M?w}}", gone}, {"${A:+$X}$X", bound}, {"${A:+$X}${N?}$X", gone}, {"$X${A:+$X}${N?}", bound}, {"$X${A:+$X${N?}}", gone}, {"$X${A:+$X}${A:+${N?}}", bound}, {"$Y${A+.}${N?}", bound}, {"$Y${A+$Y.${N?}}", bound},
		{"${A:-${N?}}${M?w}", other}, {"${A:-$Z}${M?w}", other}, {"${N:+${N?}}${M?w}", other}, {"${E-${N?}}$Z", bound}, {"${E?$Z}${N?}", gone},
		{"${N:-${N-${E:-${A+${A:+${M?w}}}}}}", other}, {"${N:-${N-${E:-${A+${A:+$Z}}}}}${N?}", bound},
	} {
		check(t, x.s, e, x.want)
	}
	// What stands before ErrUnset in its own list is just not too long. What stands before that list is not counted, since the list has no value that would be put behind it.
	for _, s := range []string{"$Y${N?}", "$Y${N?}.", "$Y${A+$Y${N?}}", "${A+$Y${A+$Y${N?}}}", "$Y${A+${A+$Y${N?}}.}.", "$Y${A+${A+$Y}${N?}$A}"} {
		checkOnce(t, s, e, gone)
	}
	for _, s := range []string{".$Y${N?}", "$Y$$${N?}", "$Y${A+$Y.${N?}}", "$Y${A+.}${N?}", "${A+.$Y${A+$Y}}${N?}"} {
		checkOnce(t, s, e, bound)
	}
}

// TestBound: promise 14.1, values of exactly the greatest length, and of one byte more.
func TestBound(t *testing.T) {
	for _, length := range []int{0, 1, 2, 4096, mostText - 1, mostText, mostText + 1, 2*mostText + 3} {
		for _, split := range []int{0, 1, length / 2, length - 1, length} {
			if split >= 0 && split <= length {
				checkLength(t, long("abc", length), split)
			}
		}
	}
	e := sample()
	for form, value := range map[string]string{"$A": "x", "${N:-$$}": "$", "${A+$A}": "x", "$E$A$N": "x", "$$": "$", "${N-${E:-$A}}": "x"} {
		checkOnce(t, strings.Repeat(form, mostText-1), e, valued(strings.Repeat(value, mostText-1)))
		checkOnce(t, strings.Repeat(form, mostText), e, valued(strings.Repeat(value, mostText)))
		checkOnce(t, strings.Repeat(form, mostText+1), e, failed(api.ErrBound))
	}
	checkOnce(t, strings.Repeat("$E$N", 1<<15), e, valued(""))
	checkOnce(t, strings.Repeat("${N}", 1<<15)+"${N?}", e, unset("N", ""))
	check(t, "$Y$E$N${A:-$Z}${N+$Z}${E?$Z}", e, failed(api.ErrBound))
	check(t, "$Y$E$N${E:-}${N+$Z}${E?$Z}", e, valued(long("q", mostText)))
}

// checkLength checks a value in all ways that it can be put together, also from two pieces.
func checkLength(t *testing.T, s string, split int) {
	t.Helper()
	e := vars("A", "x", "E", "", "V", s, "V1", s[:split], "V2", s[split:])
	want := valued(s)
	if len(s) > mostText {
		want = failed(api.ErrBound)
	}
	one, two := s[:split], s[split:]
	for _, all := range []string{
		s, "$V", "${V}", "${V-}", "${V?}", "${N-" + s + "}", "${N:-$V}", "${E:-$V}", "${A+$V}", "${A:+" + s + "}", "${N-${N-${N-${V}}}}",
		one + "${V2}", "${V1}" + two, "$V1$V2", "${V1}${V2}", "${N-$V1}${V2-}", "${V1}${A+$V2}", "${A:+" + one + "}" + two, one + "${E:-" + two + "}", "${N:-$V1$V2}", "${N:-$V1${N-" + two + "}}", "${E:-" + one + "${V2}}", "$E${V1}$N${V2}$E", "${E+${V1}${A+${V2}${E}}}",
	} {
		if split == len(s)/2 {
			check(t, all, e, want)
		} else {
			checkOnce(t, all, e, want)
		}
	}
	if len(s) == mostText && split == len(s)/2 {
		for _, behind := range []string{".", "$A", "${N-.}", "${A+$A}", "$$", "${A:?}"} {
			for _, all := range []string{"$V" + behind, behind + "$V", "${V1}" + behind + "${V2}", "${N:-$V" + behind + "}", "${N:-" + behind + "$V}", "${A+$V}" + behind, behind + "${A+$V}"} {
				check(t, all, e, failed(api.ErrBound))
			}
		}
	}
}

// TestNotAgain: promise 14.1, the values of variables are not parsed again.
func TestNotAgain(t *testing.T) {
	for _, s := range []string{"$", "$$", "$A", "${A}", "${N?}", "${N:-", "}", "$1", "a$A}b", "$D", "${D}", "$$$A", long("$", mostText), long("${N?}", mostText), "\x00$\xff"} {
		e := vars("A", "x", "D", s)
		for _, form := range []string{"$D", "${D}", "${D:-}", "${D-$N}", "${D:?}", "${D?w}", "${N-$D}", "${A+$D}", "${D:+$D}", "${D+${D:-}}"} {
			check(t, form, e, valued(s))
		}
		check(t, "${D:+a}$A", e, valued("ax"))
	}
}

// TestRejected: promise 14.1, Text of strings that tmpl.Parse rejects, with each of its errors, ahead of those of Expand.
func TestRejected(t *testing.T) {
	e, deep := sample(), strings.Repeat("${A:-", mostDeep)
	for _, s := range []string{"$", "$1", "a$", "${", "${}", "${A", "${A:-b", "${A:b}", "$-", "${N?}$", "$Z$", "${N?", "${A:-${N?}", "$" + long("A", 25), "${A:-$}", "${A:-$1}", "$X$X${", "$$$"} {
		for _, before := range []string{"", "a", "${N?}", "$Z", "$X$X", "${N:-${M?w}}", "${A?}"} {
			checkOnce(t, before+s, e, failed(api.ErrSyntax))
		}
	}
	end := strings.Repeat("}", mostDeep)
	for _, s := range []string{deep + "$A" + end, deep + "${N?}" + end, strings.Repeat("${N?", mostDeep) + "$A" + end, deep + "$A", deep + end + deep + "$A"} {
		for _, before := range []string{"", "a", "${N?}", "$Z", "${A?}"} {
			checkOnce(t, before+s, e, failed(api.ErrBound))
		}
	}
	checkOnce(t, deep+end, e, valued("x"))
	checkOnce(t, strings.Repeat("${N:-", mostDeep)+"$$"+end, e, valued("$"))
	checkOnce(t, strings.Repeat("${N:-", mostDeep-1)+"$A"+end[1:], e, valued("x"))
	checkOnce(t, strings.Repeat("${N:-", mostDeep-1)+"${M?}"+end[1:], e, unset("M", ""))
}

// TestNeeds: promise 14.1, where Expand returns no error, ErrBound and ErrUnset, with any Sub, wherever the cause stands.
func TestNeeds(t *testing.T) {
	e := sample()
	for _, x := range []struct{ s, key, why string }{
		{"", "", ""}, {"a", "", ""}, {"$N", "", ""}, {"${A?}", "", ""}, {"${A:?w}", "", ""}, {"${E?w}", "", ""}, {"${N-${A?w}}", "", ""}, {"${A-${N?w}}", "", ""},
		{"$X$X", "", ""}, {"$X$X${N?w}", "", ""}, {"${N:-$Z}${N?w}", "", ""}, {"$Z", "", ""},
		{"${N?}", "N", ""}, {"${N:?}", "N", ""}, {"${E:?}", "E", ""}, {"${N?w}", "N", "w"}, {"${E:?w}", "E", "w"}, {"${N? w }", "N", " w "}, {"${N?a$$b}", "N", "a$$b"}, {"${N?$$}", "N", "$$"}, {"${N?$A}", "N", "${A}"}, {"${N?$M}", "N", "${M}"},
		{"${N?it's $A, ${B:-c$D}$$}", "N", "it's ${A}, ${B:-c${D}}$$"}, {"${N?${M?${E:?v}}}", "N", "${M?${E:?v}}"}, {"${N?$Z$Z}", "N", "${Z}${Z}"}, {"${N?{}", "N", "{"},
		{"${M:-${N?w}}", "N", "w"}, {"a${M-b${M-c${E:-d${N:?$A}}}}", "N", "${A}"}, {"${A+${N?w}}", "N", "w"}, {"${A:+${A+${N?}}}", "N", ""},
		{"${N?1}${M?2}", "N", "1"}, {"${M?2}${N?1}", "M", "2"}, {"${A?0}${N?1}${M?2}", "N", "1"}, {"${A:-${N?1}}${M?2}", "M", "2"}, {"${N:+${N?1}}${M?2}", "M", "2"}, {"${N:-a}${E?0}${E:?1}${M?2}", "E", "1"}, {"${O:-${N?1}${M?2}}", "N", "1"}, {"${O:-${N:-${M?2}}}${N?1}", "M", "2"}, {"${N?1}${N?2}", "N", "1"}, {"${E?1}${E:?2}", "E", "2"},
	} {
		l := parsed(t, x.s)
		if key, why := Needs(l, e); key != x.key || why != x.why {
			t.Errorf("Needs of %s = %q, %q; want %q, %q", cut(x.s), key, why, x.key, x.why)
		}
		if _, errno := Expand(l, e); (errno == api.ErrUnset) != (x.key != "") {
			t.Errorf("Expand of %s returns %v", cut(x.s), errno)
		}
	}
	for i := range 300 {
		s := strings.Repeat("$A${A?no}", i%20) + "${N" + strconv.Itoa(i) + "?" + strings.Repeat("$$", i%7) + "}" + strings.Repeat("${M?no}", i%3)
		check(t, s, e, unset("N"+strconv.Itoa(i), strings.Repeat("$$", i%7)))
	}
}

// show writes a node so that two are written alike exactly if they are equal.
func show(n api.Node) string {
	var b strings.Builder
	var write func(n api.Node)
	write = func(n api.Node) {
		b.WriteString(strconv.Itoa(n.Kind) + strconv.Quote(n.Text) + "(")
		for _, key := range n.Keys {
			b.WriteString(strconv.Quote(key) + ":")
		}
		for _, kid := range n.Kids {
			write(kid)
		}
		b.WriteString(")")
	}
	write(n)
	return b.String()
}

// mapping returns a map with these keys and kids.
func mapping(keys []string, kids ...api.Node) api.Node {
	return api.Node{Kind: api.Map, Keys: keys, Kids: kids}
}

// checkNode checks Node, that its argument stays as it was, and that its result is valid.
func checkNode(t *testing.T, n api.Node, e []api.Var, want api.Node, wantE api.Errno) {
	t.Helper()
	before := show(n)
	got, errno := Node(n, e)
	if show(got) != show(want) || errno != wantE {
		t.Errorf("Node(%s) in %s = %s, %v; want %s, %v", cut(before), brief(e), cut(show(got)), errno, cut(show(want)), wantE)
	}
	if show(n) != before {
		t.Errorf("Node has changed %s to %s", cut(before), cut(show(n)))
	}
	if !node.Right(n) || !node.Right(got) {
		t.Errorf("Node(%s) = %s, which is not valid, or what it was given is not", cut(before), cut(show(got)))
	}
}

// places put a node at the root, and into sequences and maps. Some have a text beside it, which is given too.
var places = []func(n, beside api.Node) api.Node{
	func(n, beside api.Node) api.Node { return n },
	func(n, beside api.Node) api.Node { return node.Seq(n) },
	func(n, beside api.Node) api.Node { return node.Seq(beside, n, api.Node{}, beside) },
	func(n, beside api.Node) api.Node { return mapping([]string{"$A"}, n) },
	func(n, beside api.Node) api.Node {
		return mapping([]string{"${A", "${N?}", "$$", "$A"}, beside, n, node.Seq(), beside)
	},
	func(n, beside api.Node) api.Node {
		return node.Seq(mapping(nil), mapping([]string{"k"}, node.Seq(node.Seq(), mapping([]string{"$", ""}, n, beside))))
	},
	func(n, beside api.Node) api.Node {
		return mapping([]string{"z", "$1", "a"}, node.Seq(node.Seq(n), node.Seq()), mapping([]string{"$$$"}, beside), mapping(nil))
	},
}

// checkPlaces checks Node with a node, which has no more than one level of kids, in all places.
func checkPlaces(t *testing.T, n api.Node, e []api.Var, want api.Node, wantE api.Errno) {
	t.Helper()
	for _, place := range places {
		after := api.Node{}
		if wantE == api.OK {
			after = place(want, node.Text("$x"))
		}
		checkNode(t, place(n, node.Text("$$${A:-no}")), e, after, wantE)
	}
}

// TestNode: promise 14.2, texts at the root, in sequences and maps and below these, keys with "$", nodes without texts, and nodes that are not changed.
func TestNode(t *testing.T) {
	e := sample()
	for _, n := range []api.Node{{}, node.Text(""), node.Text("a"), node.Text("}{ :-"), node.Text("~"), node.Text("null"), node.Seq(), mapping(nil), node.Seq(api.Node{}), node.Seq(node.Seq(), mapping(nil)), mapping([]string{"$A", "${N?}", "${", "$", "", "a"}, api.Node{}, node.Seq(), mapping(nil), api.Node{}, node.Text(""), node.Text("b"))} {
		for _, vars := range [][]api.Var{e, vars("A", "x")} {
			checkPlaces(t, n, vars, n, api.OK)
		}
	}
	for _, x := range []struct {
		s    string
		want outcome
	}{
		{"$A", valued("x")}, {"${N}", valued("")}, {"$E", valued("")}, {"${N:-q}", valued("q")}, {"$D", valued("$A${N?}")}, {"a$$b", valued("a$b")}, {"$Y", valued(long("q", mostText))},
		{"${N?}", unset("N", "")}, {"$Z", failed(api.ErrBound)}, {"$", failed(api.ErrSyntax)}, {strings.Repeat("${A+", mostDeep) + "$A", failed(api.ErrBound)},
	} {
		want := node.Text(x.want.value)
		if x.want.errno != api.OK {
			want = api.Node{}
		}
		checkPlaces(t, node.Text(x.s), e, want, x.want.errno)
	}
	checkPlaces(t, node.Seq(node.Text("$A"), node.Text("$B"), node.Text("$A")), e, node.Seq(node.Text("x"), node.Text("yy"), node.Text("x")), api.OK)
	checkPlaces(t, mapping([]string{"b", "$A", "a"}, node.Text("$B"), node.Text("$N"), api.Node{}), e, mapping([]string{"b", "$A", "a"}, node.Text("yy"), node.Text(""), api.Node{}), api.OK)
}

// TestNodeFirst: promise 14.2, the first of several errors in the order of the texts.
func TestNodeFirst(t *testing.T) {
	e := sample()
	all := []struct {
		s     string
		errno api.Errno
	}{{"${N?}", api.ErrUnset}, {"$X$X", api.ErrBound}, {"${", api.ErrSyntax}, {strings.Repeat("${A-", mostDeep) + "${A}", api.ErrBound}, {"$A", api.OK}, {"b", api.OK}}
	for _, first := range all {
		for _, second := range all {
			for _, third := range all {
				errno := first.errno
				if errno == api.OK {
					errno = second.errno
				}
				if errno == api.OK {
					errno = third.errno
				}
				if errno == api.OK {
					continue
				}
				a, b, c := node.Text(first.s), node.Text(second.s), node.Text(third.s)
				checkPlaces(t, node.Seq(a, b, c), e, api.Node{}, errno)
				checkPlaces(t, mapping([]string{"z", "$B", "a"}, a, b, c), e, api.Node{}, errno)
				checkNode(t, node.Seq(node.Seq(a), mapping([]string{"k"}, b), c), e, api.Node{}, errno)
				checkNode(t, mapping([]string{"z", "a"}, mapping([]string{"b", "a"}, a, node.Seq(api.Node{}, b)), node.Seq(c)), e, api.Node{}, errno)
			}
		}
	}
}

// TestNodeLarge: promise 14.2, the greatest depth and the greatest number of nodes.
func TestNodeLarge(t *testing.T) {
	e := sample()
	n, want := node.Text("${N:-$A}"), node.Text("x")
	for depth := 1; depth < mostNest; depth++ {
		if depth%2 == 0 {
			n, want = node.Seq(n), node.Seq(want)
		} else {
			n, want = mapping([]string{"$A"}, n), mapping([]string{"$A"}, want)
		}
	}
	checkNode(t, n, e, want, api.OK)
	checkNames(t, n, "A", "N")
	var before, after []api.Node
	for i := range mostSize - 1 {
		before = append(before, node.Text("${N"+strconv.Itoa(i)+"-"+strconv.Itoa(i)+"}$A"))
		after = append(after, node.Text(strconv.Itoa(i)+"x"))
	}
	checkNode(t, node.Seq(before...), e, node.Seq(after...), api.OK)
	if got := Names(node.Seq(before...)); len(got) != mostSize || !slices.IsSorted(got) || got[0] != "A" || got[1] != "N0" {
		t.Errorf("Names of %d texts has %d names", mostSize-1, len(got))
	}
	before[mostSize-2] = node.Text("${N?}")
	checkNode(t, node.Seq(before...), e, api.Node{}, api.ErrUnset)
	before[mostSize-3] = node.Text("$Z")
	checkNode(t, node.Seq(before...), e, api.Node{}, api.ErrBound)
}

func checkNames(t *testing.T, n api.Node, want ...string) {
	t.Helper()
	before := show(n)
	if got := Names(n); !slices.Equal(got, want) {
		t.Errorf("Names(%s) = %q; want %q", cut(before), got, want)
	}
	if show(n) != before {
		t.Errorf("Names has changed %s to %s", cut(before), cut(show(n)))
	}
}

// TestNames: promise 14.2, no texts, texts that tmpl.Parse rejects beside others, and names that stand twice and within a Sub.
func TestNames(t *testing.T) {
	checkNames(t, api.Node{})
	checkNames(t, node.Seq())
	checkNames(t, mapping(nil))
	checkNames(t, mapping([]string{"$A", "${B}"}, api.Node{}, node.Seq()))
	deep := strings.Repeat("${D-", mostDeep) + "$E" + strings.Repeat("}", mostDeep)
	for _, x := range []struct {
		texts, want []string
	}{
		{nil, nil}, {[]string{"", "a", "$$A"}, nil}, {[]string{"$A"}, []string{"A"}}, {[]string{"$B$A"}, []string{"A", "B"}}, {[]string{"$B", "$A"}, []string{"A", "B"}},
		{[]string{"$A", "$A"}, []string{"A"}}, {[]string{"$A$A${A-$A}"}, []string{"A"}}, {[]string{"$B", "$A", "$B"}, []string{"A", "B"}},
		{[]string{"${C:-$B${A?$D}}"}, []string{"A", "B", "C", "D"}}, {[]string{"${C+x}", "${B:?${C:+$A}}"}, []string{"A", "B", "C"}}, {[]string{"${N?}", "$Z$Z", "${A-${E:?}}"}, []string{"A", "E", "N", "Z"}},
		{[]string{"$"}, nil}, {[]string{"$A$"}, nil}, {[]string{"${A"}, nil}, {[]string{deep}, nil}, {[]string{"$A", "$B$", "$C"}, []string{"A", "C"}}, {[]string{"$", "$C"}, []string{"C"}}, {[]string{"$C", deep, "$A$1", "$B"}, []string{"B", "C"}}, {[]string{"$A", "$A$"}, []string{"A"}},
		{[]string{"$b", "$_", "$a1", "$a", "$B", "$aA"}, []string{"B", "_", "a", "a1", "aA", "b"}}, {[]string{"$A10$A9", "$A1"}, []string{"A1", "A10", "A9"}},
	} {
		var l []api.Node
		m := api.Node{Kind: api.Map}
		for i, s := range x.texts {
			l = append(l, node.Text(s))
			m.Keys = append(m.Keys, "$K"+strconv.Itoa(i))
		}
		m.Kids = l
		checkNames(t, node.Seq(l...), x.want...)
		checkNames(t, m, x.want...)
		checkNames(t, node.Seq(m, api.Node{}, mapping([]string{"$$"}, node.Seq(m))), x.want...)
		if len(l) > 0 {
			checkNames(t, node.Seq(node.Seq(l[1:]...), mapping([]string{"${Q}"}, l[0])), x.want...)
		}
	}
}

// token matches the bytes of a template that belong together at its beginning.
var token = regexp.MustCompile(`^(?:\$\$|\$\{([A-Za-z_][A-Za-z0-9_]*)(\}|:?[-?+])|\$([A-Za-z_][A-Za-z0-9_]*)|\}|[^$}]+)`)

// level is a template within a reference, as far as it has been read.
type level struct {
	text   []byte
	isUsed bool
}

// modelOf is another way to what all functions tell of a string: it goes through the tokens and keeps the references that are open, without making parts.
func modelOf(s string, e []api.Var) outcome {
	if _, errno := tmpl.Parse(s); errno != api.OK {
		return failed(errno)
	}
	set := map[string]string{}
	for _, v := range e {
		set[v.Key] = v.Val
	}
	levels := []level{{isUsed: true}}
	for s != "" {
		found := token.FindStringSubmatch(s)
		s = s[len(found[0]):]
		top := &levels[len(levels)-1]
		op := found[2]
		switch {
		case found[0] == "$$":
			top.text = append(top.text, '$')
		case found[3] != "" || op == "}":
			top.text = append(top.text, set[found[1]+found[3]]...)
		case op != "":
			value, isSet := set[found[1]]
			isSet = isSet && (value != "" || len(op) == 1)
			if strings.HasSuffix(op, "?") && !isSet && top.isUsed {
				return unset(found[1], writtenUpToEnd(s))
			}
			if isSet && !strings.HasSuffix(op, "+") {
				top.text = append(top.text, value...)
			}
			isUsed := strings.HasSuffix(op, "-") && !isSet || strings.HasSuffix(op, "+") && isSet
			levels = append(levels, level{isUsed: top.isUsed && isUsed})
		case found[0] == "}" && len(levels) > 1:
			levels = levels[:len(levels)-1]
			if top.isUsed {
				below := &levels[len(levels)-1]
				below.text = append(below.text, top.text...)
			}
		default:
			top.text = append(top.text, found[0]...)
		}
		for _, l := range levels {
			if l.isUsed && len(l.text) > mostText {
				return failed(api.ErrBound)
			}
		}
	}
	return valued(string(levels[0].text))
}

// writtenUpToEnd writes a template that stands within a reference, up to the end of this, with braces around each name.
func writtenUpToEnd(s string) string {
	written, open := "", 1
	for {
		found := token.FindStringSubmatch(s)
		s = s[len(found[0]):]
		switch {
		case found[0] == "}":
			open--
		case found[2] != "" && found[2] != "}":
			open++
		}
		if open == 0 {
			return written
		}
		if found[3] != "" {
			written += "${" + found[3] + "}"
		} else {
			written += found[0]
		}
	}
}

// eachTemplate calls check with all strings of up to most pieces, with an end for each reference that is open.
func eachTemplate(pieces []string, most int, check func(s string)) {
	var extend func(s string, open, left int)
	extend = func(s string, open, left int) {
		check(s + strings.Repeat("}", open))
		if left == 0 {
			return
		}
		for _, piece := range pieces {
			opened := strings.Count(piece, "{") - strings.Count(piece, "}")
			extend(s+piece, max(0, open+opened), left-1)
		}
	}
	extend("", 0, most)
}

// TestAll: promises 14.1 and 14.2, all templates of few pieces.
func TestAll(t *testing.T) {
	e := sample()
	checkModel := func(s string) { checkOnce(t, s, e, modelOf(s, e)) }
	eachTemplate([]string{"${A:-", "${E:-", "${N:-", "${A-", "${E-", "${N-", "${A:?", "${E:?", "${N:?", "${A?", "${E?", "${N?", "${A:+", "${E:+", "${N:+", "${A+", "${E+", "${N+", "$B", "}", "$$", "c"}, 3, checkModel)
	eachTemplate([]string{"${A:-", "${E:-", "${N-", "${N?", "${E?", "${A+", "$B", "}", "c$"}, 5, checkModel)
	eachTemplate([]string{"${N-", "${A+", "${A:-", "}", "$X", "$Y", "${M?", "${E}"}, 5, checkModel)
}

// drawnTemplate draws a template within open references.
func drawnTemplate(random *rand.Rand, open int) string {
	s := ""
	for range random.Intn(5) {
		key := []string{"A", "B", "D", "E", "N", "M", "X", "Y", "Z", "A", "E", "N"}[random.Intn(12)]
		switch kind := random.Intn(8); {
		case kind == 0:
			s += "${" + key + "}"
		case kind == 1:
			s += "$" + key + " "
		case kind == 2:
			s += drawnLiteral(random, open > 0)
		case open < mostDeep:
			s += "${" + key + forms[random.Intn(len(forms))] + drawnTemplate(random, open+1) + "}"
		}
	}
	return s
}

// drawnLiteral draws literal text, without a "}" if it stands within a reference.
func drawnLiteral(random *rand.Rand, isWithin bool) string {
	if random.Intn(20) == 0 {
		return []string{long("t", 3000), long("$$", mostText), long("u", mostText)}[random.Intn(3)]
	}
	all := []string{"$$", " ", "a", "{", "b c", ":-", "$$$$A", "\xff", "}", "a}b"}
	if isWithin {
		all = all[:len(all)-2]
	}
	return all[random.Intn(len(all))]
}

// drawnValues are the values that variables are drawn with.
var drawnValues = []string{"", "v", "$A", "}", "ab", long("w", 2000), long("w", 4096), long("w", 4097), long("w", mostText), long("w", mostText+1)}

// drawnVars draws an environment with some of the names that templates are drawn with.
func drawnVars(random *rand.Rand) []api.Var {
	var e []api.Var
	for _, key := range []string{"A", "B", "D", "E", "N", "M", "X", "Y", "Z"} {
		if random.Intn(3) > 0 {
			e = append(e, vars(key, drawnValues[random.Intn(len(drawnValues))])...)
		}
	}
	return env.Of(e...)
}

// TestDrawn: promises 14.1 to 14.3, drawn templates in drawn environments, and in others that agree on their names.
func TestDrawn(t *testing.T) {
	random := rand.New(rand.NewSource(14))
	counts := map[api.Errno]int{}
	for range 20000 {
		s, e := drawnTemplate(random, 0), drawnVars(random)
		want := modelOf(s, e)
		counts[want.errno]++
		checkOnce(t, s, e, want)
		l, _ := tmpl.Parse(s)
		agreeing := vars("0", "bad", "AA", "no", "A_", "no", "a", "no", "_", "no", "z", "no")
		for _, v := range drawnVars(random) {
			if !slices.Contains(tmpl.Names(l), v.Key) {
				agreeing = append(agreeing, v)
			}
		}
		for _, v := range e {
			if slices.Contains(tmpl.Names(l), v.Key) {
				agreeing = append(agreeing, v)
			}
		}
		checkOnce(t, s, env.Of(agreeing...), want)
	}
	for _, errno := range []api.Errno{api.OK, api.ErrUnset, api.ErrBound} {
		if counts[errno] < 1000 {
			t.Errorf("%v has been drawn %d times", errno, counts[errno])
		}
	}
}

// concatenated returns what two lists of parts have together, told by the values of the lists and of the beginnings of the second one.
func concatenated(a, b []tmpl.Part, e []api.Var) outcome {
	first, errno := Expand(a, e)
	if errno != api.OK {
		key, why := Needs(a, e)
		return outcome{errno: errno, key: key, why: why}
	}
	for end := range len(b) + 1 {
		second, errno := Expand(b[:end], e)
		if errno == api.OK && len(first)+len(second) > mostText {
			return failed(api.ErrBound)
		}
		if errno != api.OK {
			key, why := Needs(b, e)
			return outcome{errno: errno, key: key, why: why}
		}
	}
	second, _ := Expand(b, e)
	return valued(first + second)
}

// TestConcatenated: promise 14.3, the value of two concatenated lists of parts is the concatenation of their values.
func TestConcatenated(t *testing.T) {
	random := rand.New(rand.NewSource(143))
	for range 6000 {
		e := drawnVars(random)
		a, _ := tmpl.Parse(drawnTemplate(random, 0))
		b, _ := tmpl.Parse(drawnTemplate(random, 0))
		checkParts(t, slices.Concat(a, b), e, concatenated(a, b, e))
		checkParts(t, slices.Concat(a, nil), e, concatenated(nil, a, e))
		checkParts(t, slices.Concat(a, a), e, concatenated(a, a, e))
	}
	for first := mostText - 3; first <= mostText+1; first++ {
		for second := range 5 {
			e := vars("A", long("a", first), "B", long("b", second))
			want := valued(long("a", first) + long("b", second))
			if first+second > mostText {
				want = failed(api.ErrBound)
			}
			checkParts(t, slices.Concat(parsed(t, "$A"), parsed(t, "$B")), e, want)
			checkParts(t, slices.Concat(parsed(t, "${N-$A}"), parsed(t, long("b", second))), e, want)
			checkParts(t, slices.Concat(parsed(t, long("a", first)), parsed(t, long("b", second))), e, want)
		}
	}
}

// drawnNode draws a node of a depth of at most nest, with texts that are drawn by draw.
func drawnNode(random *rand.Rand, nest int, draw func() string) api.Node {
	kind := random.Intn(6)
	if nest == 1 {
		kind = random.Intn(3)
	}
	switch kind {
	case 0:
		return api.Node{}
	case 1, 2:
		return node.Text(draw())
	}
	n := api.Node{Kind: api.Seq}
	if kind == 3 {
		n.Kind = api.Map
	}
	for i := range random.Intn(4) {
		n.Kids = append(n.Kids, drawnNode(random, nest-1, draw))
		if n.Kind == api.Map {
			n.Keys = append(n.Keys, []string{"$A", "k", "${N?}", "$", "$Z"}[random.Intn(5)]+strconv.Itoa(i))
		}
	}
	return n
}

// texts returns the places of all texts of n in their order.
func texts(n *api.Node) []*api.Node {
	var l []*api.Node
	if n.Kind == api.Text {
		l = append(l, n)
	}
	for i := range n.Kids {
		l = append(l, texts(&n.Kids[i])...)
	}
	return l
}

// deepCopy returns a node that shares no memory with n.
func deepCopy(n api.Node) api.Node {
	n.Keys, n.Kids = slices.Clone(n.Keys), slices.Clone(n.Kids)
	for i, kid := range n.Kids {
		n.Kids[i] = deepCopy(kid)
	}
	return n
}

// TestDrawnNodes: promise 14.2, drawn nodes with drawn templates, some of which are rejected, by the values of their texts one by one.
func TestDrawnNodes(t *testing.T) {
	random := rand.New(rand.NewSource(142))
	counts := map[api.Errno]int{}
	for round := range 6000 {
		e := drawnVars(random)
		draw := func() string {
			switch odd := random.Intn(30); {
			case odd == 0:
				return []string{"$", "${A", "$A$", strings.Repeat("${A-", mostDeep+1)}[random.Intn(4)]
			case odd == 1 || round%2 == 0:
				return drawnTemplate(random, 0)
			}
			return []string{"$A", "${B}", "${N:-a}", "$$", "c", "", "${M:+$D}"}[random.Intn(7)]
		}
		n := drawnNode(random, 1+random.Intn(mostNest/2), draw)
		want, names := deepCopy(n), map[string]int{}
		errno := api.OK
		for _, place := range texts(&want) {
			for _, key := range wordNames(place.Text) {
				names[key]++
			}
			w := modelOf(place.Text, e)
			place.Text = w.value
			if errno == api.OK {
				errno = w.errno
			}
		}
		counts[errno]++
		if errno != api.OK {
			want = api.Node{}
		}
		checkNode(t, n, e, want, errno)
		var sorted []string
		for key := range names {
			sorted = append(sorted, key)
		}
		slices.Sort(sorted)
		checkNames(t, n, sorted...)
	}
	for _, errno := range []api.Errno{api.OK, api.ErrUnset, api.ErrBound, api.ErrSyntax} {
		if counts[errno] < 50 {
			t.Errorf("%v has been drawn %d times", errno, counts[errno])
		}
	}
}

// wordNames returns the names in a template, in their order, by its tokens, or none if tmpl.Parse rejects it.
func wordNames(s string) []string {
	if _, errno := tmpl.Parse(s); errno != api.OK {
		return nil
	}
	var l []string
	for s != "" {
		found := token.FindStringSubmatch(s)
		if key := found[1] + found[3]; key != "" {
			l = append(l, key)
		}
		s = s[len(found[0]):]
	}
	return l
}

// showParts writes parts so that two lists are written alike exactly if they are equal.
func showParts(l []tmpl.Part) string {
	s := "["
	for _, p := range l {
		s += strconv.Itoa(p.Op) + strconv.Quote(p.Name) + strconv.Quote(p.Text) + showParts(p.Sub)
	}
	return s + "]"
}

// TestMemory: the rules on memory: arguments are not changed, nothing behind their lengths is read, and what is called for next does not depend on it.
func TestMemory(t *testing.T) {
	l := parsed(t, "a$A${N:-b$B${N?no}}${N?no}")
	l[2].Sub = l[2].Sub[:2]
	e := vars("A", "x", "B", "y", "N", "no")
	before := showParts(l) + showParts(l[2].Sub[:3])
	for range 3 {
		checkParts(t, l[:3], e[:2], valued("axby"))
		checkParts(t, l[:2], e[:1], valued("ax"))
		checkParts(t, l[:0], e[:0], valued(""))
		checkParts(t, l, e[:2], unset("N", "no"))
		checkParts(t, l, e, valued("axnono"))
		checkOnce(t, "$A$B$N", e[:2], valued("xy"))
	}
	if showParts(l)+showParts(l[2].Sub[:3]) != before || brief(e) != brief(vars("A", "x", "B", "y", "N", "no")) {
		t.Errorf("the arguments have been changed to %s and %s", showParts(l), brief(e))
	}
	kids := []api.Node{node.Text("$A"), node.Text("$B"), node.Text("${N?}")}
	n := node.Seq()
	n.Kids = kids[:2]
	checkNode(t, n, e[:2], node.Seq(node.Text("x"), node.Text("y")), api.OK)
	checkNames(t, n, "A", "B")
	if show(node.Seq(kids...)) != show(node.Seq(node.Text("$A"), node.Text("$B"), node.Text("${N?}"))) {
		t.Errorf("the kids have been changed to %s", show(node.Seq(kids...)))
	}
	names := Names(n)
	names[0] = "spoiled"
	checkNames(t, n, "A", "B")
}

// TestWithoutEnd: promise P1, all functions end and do not panic for parts that contain themselves. What they answer for these is nowhere promised, but for an error's other results; references that are deeper than Parse allows are ErrBound here too, if their values are used.
func TestWithoutEnd(t *testing.T) {
	for op := -1; op <= tmpl.ElseUnset+1; op++ {
		for _, key := range []string{"N", "E", "A", ""} {
			ring := []tmpl.Part{{Text: "a"}, {Name: key, Op: op}}
			ring[1].Sub = ring
			wide := make([]tmpl.Part, 200)
			for i := range wide {
				wide[i] = tmpl.Part{Name: key, Op: op, Sub: wide}
			}
			far := []tmpl.Part{{Text: "end"}}
			for range 1 << 16 {
				far = []tmpl.Part{{Name: key, Op: op, Sub: far}}
			}
			want := failed(api.ErrBound)
			if op == tmpl.IfUnset && key == "N" || op == tmpl.ElseUnset && key == "A" {
				for _, l := range [][]tmpl.Part{ring, wide, far} {
					checkParts(t, l, sample(), want)
				}
			}
			for _, l := range [][]tmpl.Part{ring, wide, far, {{Name: "N", Op: tmpl.IfUnset, Sub: ring}}, {{Text: "a"}, {Name: "N", Op: tmpl.MustUnset, Sub: wide}}} {
				checkEnded(t, l)
			}
		}
	}
	checkParts(t, []tmpl.Part{{Name: "N", Op: tmpl.Plain}, {Name: "A", Op: tmpl.Plain}}, sample(), valued("x"))
}

// checkEnded checks that the answers for parts that Parse does not return go together.
func checkEnded(t *testing.T, l []tmpl.Part) {
	t.Helper()
	for _, e := range [][]api.Var{nil, sample()} {
		s, errno := Expand(l, e)
		if errno != api.OK && s != "" {
			t.Errorf("Expand returns %s and %v", cut(s), errno)
		}
		if key, why := Needs(l, e); errno != api.ErrUnset && key+why != "" {
			t.Errorf("Needs returns %s and %s where Expand returns %v", cut(key), cut(why), errno)
		}
	}
}

// TestOtherNodes: promise P1, Node and Names end and do not panic for nodes that are not valid.
func TestOtherNodes(t *testing.T) {
	ring := api.Node{Kind: api.Seq, Kids: make([]api.Node, 2)}
	ring.Kids[0], ring.Kids[1] = node.Text("$A"), ring
	ring.Kids[1].Kids = ring.Kids
	for _, n := range []api.Node{ring, {Kind: 4}, {Kind: -1}, {Kind: api.Map, Keys: []string{"a"}}, {Kind: api.Map, Kids: []api.Node{node.Text("$A")}}, {Kind: api.Text, Text: "$A", Keys: []string{"b"}}, {Kind: api.Null, Text: "$A"}, {Kind: api.Seq, Kids: []api.Node{{Kind: 9}, node.Text("$A")}}, {Kind: api.Map, Keys: []string{"a", "a"}, Kids: make([]api.Node, 2)}} {
		if got, errno := Node(n, sample()); errno != api.OK && show(got) != show(api.Node{}) {
			t.Errorf("Node returns %s and %v", cut(show(got)), errno)
		}
		Names(n)
	}
}
