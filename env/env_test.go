package env

import (
	"math/rand"
	"regexp"
	"slices"
	"sort"
	"strconv"
	"strings"
	"testing"

	"longshore/api"
)

// The limits as the document writes them.
const (
	mostText  = 8192
	mostNames = 64
	longName  = 24
)

// vars returns variables; a name and its value stand in turns.
func vars(l ...string) []api.Var {
	var all []api.Var
	for i := 0; i < len(l); i += 2 {
		all = append(all, api.Var{Key: l[i], Val: l[i+1]})
	}
	return all
}

// brief writes variables for a message.
func brief(l []api.Var) string {
	s := strconv.Itoa(len(l)) + " variables"
	for _, v := range l[:min(len(l), 6)] {
		s += " " + v.Key + "=" + cut(v.Val)
	}
	return s
}

// cut quotes a string for a message.
func cut(s string) string {
	if len(s) > 200 {
		return strconv.Quote(s[:200]) + "... (" + strconv.Itoa(len(s)) + " bytes)"
	}
	return strconv.Quote(s)
}

func checkVars(t *testing.T, call string, got, want []api.Var) {
	t.Helper()
	if !slices.Equal(got, want) {
		t.Errorf("%s = %s; want %s", call, brief(got), brief(want))
	}
}

func checkGet(t *testing.T, l []api.Var, key, val string, found bool) {
	t.Helper()
	if got, ok := Get(l, key); got != val || ok != found {
		t.Errorf("Get(%s, %q) = %s, %t; want %s, %t", brief(l), key, cut(got), ok, cut(val), found)
	}
}

func checkFile(t *testing.T, s string, want []api.Var, no int, e api.Errno) {
	t.Helper()
	got, gotNo, gotE := Parse(s)
	if !slices.Equal(got, want) || gotNo != no || gotE != e {
		t.Errorf("Parse(%s) = %s, %d, %v; want %s, %d, %v", cut(s), brief(got), gotNo, gotE, brief(want), no, e)
	}
}

// checkParse checks a valid file; a name and its value stand in turns.
func checkParse(t *testing.T, s string, l ...string) {
	t.Helper()
	checkFile(t, s, vars(l...), 0, api.OK)
}

// checkInvalid checks a file whose line no is the first invalid one.
func checkInvalid(t *testing.T, s string, no int) {
	t.Helper()
	checkFile(t, s, nil, no, api.ErrSyntax)
}

// checkLine checks a line with one variable, alone and between others, with and without spaces around it and a line feed behind it.
func checkLine(t *testing.T, line, key, val string) {
	t.Helper()
	for _, before := range []string{"", " ", "     "} {
		for _, behind := range []string{"", " ", "     "} {
			s := before + line + behind
			checkParse(t, s, key, val)
			checkParse(t, s+"\n", key, val)
			checkParse(t, "\n"+s+"\n\n", key, val)
			checkParse(t, "# x\n  \n"+s+"\n  # y='", key, val)
			checkParse(t, key+"=other\n"+s, key, val)
			checkParse(t, s+"\n"+key+"=other", key, "other")
			checkParse(t, s+"\n"+s+"\n", key, val)
			checkFile(t, "_="+`"\""`+"\n"+s+"\nz=\n", Of(append(vars("_", `"`, key, val), vars("z", "")...)...), 0, api.OK)
		}
	}
}

// checkValue checks what stands behind the "=", for some names, with and without an "export".
func checkValue(t *testing.T, written, val string) {
	t.Helper()
	checkLine(t, "A="+written, "A", val)
	checkLine(t, "export a_1="+written, "a_1", val)
	checkLine(t, "export="+written, "export", val)
}

// checkBad checks lines that are invalid wherever they stand.
func checkBad(t *testing.T, lines ...string) {
	t.Helper()
	for _, line := range lines {
		for _, s := range []string{line, " " + line, line + " ", "   " + line + "   "} {
			checkInvalid(t, s, 1)
			checkInvalid(t, s+"\n", 1)
			checkInvalid(t, s+"\nA=1\n", 1)
			checkInvalid(t, "A=1\n"+s, 2)
			checkInvalid(t, "\n\n# x\n"+s+"\n"+s+"\n", 4)
			checkInvalid(t, "A='1'\nexport B=2 # x\n   \n  #\n"+s+"\nA=\n", 5)
		}
	}
}

// checkBadValue checks what must not stand behind an "=".
func checkBadValue(t *testing.T, all ...string) {
	t.Helper()
	for _, written := range all {
		checkBad(t, "A="+written, "export A="+written, "export="+written)
	}
}

// allBytes returns a string of each byte.
func allBytes() []string {
	var l []string
	for b := range 256 {
		l = append(l, string([]byte{byte(b)}))
	}
	return l
}

func isPrint(c byte) bool { return c >= 32 && c <= 126 || c > 127 }

// numbered returns count names in ascending order, all as long as a name may be.
func numbered(count int) []string {
	var l []string
	for i := range count {
		s := strconv.Itoa(1000 + i)
		l = append(l, "N"+strings.Repeat("_", longName-1-len(s))+s)
	}
	return l
}

// valued returns a variable with each name, whose value is the name with something before it.
func valued(names []string, before string) []api.Var {
	var l []api.Var
	for _, s := range names {
		l = append(l, api.Var{Key: s, Val: before + s})
	}
	return l
}

// TestExample: promises 12.1 and 12.2, the chapter's example.
func TestExample(t *testing.T) {
	checkParse(t, "# a\nexport X=1 # so\nY='a b'", "X", "1", "Y", "a b")
	checkParse(t, "# a\nexport X=1 # so\nY='a b'\n", "X", "1", "Y", "a b")
	l, _, _ := Parse("# a\nexport X=1 # so\nY='a b'")
	checkGet(t, l, "X", "1", true)
	checkGet(t, l, "Y", "a b", true)
	checkGet(t, l, "Z", "", false)
	if got := Text(l); got != "X=\"1\"\nY=\"a b\"\n" {
		t.Errorf("Text = %q", got)
	}
	if Most != mostNames || api.MaxText != mostText || api.MaxName != longName {
		t.Errorf("Most = %d, MaxText = %d, MaxName = %d", Most, api.MaxText, api.MaxName)
	}
}

func checkOf(t *testing.T, l []api.Var, want ...string) {
	t.Helper()
	checkVars(t, "Of("+brief(l)+")", Of(l...), vars(want...))
	checkVars(t, "Over("+brief(l)+", nil)", Over(l, nil), vars(want...))
	checkVars(t, "Over(nil, "+brief(l)+")", Over(nil, l), vars(want...))
	checkVars(t, "Of(Of("+brief(l)+"))", Of(Of(l...)...), vars(want...))
}

// TestOf: promise 12.1, no variables, names in any order, and names that stand twice or more.
func TestOf(t *testing.T) {
	checkOf(t, nil)
	checkOf(t, []api.Var{})
	if got := Of(); len(got) != 0 {
		t.Errorf("Of() = %s", brief(got))
	}
	checkOf(t, vars("A", "1"), "A", "1")
	checkOf(t, vars("A", ""), "A", "")
	checkOf(t, vars("B", "2", "A", "1"), "A", "1", "B", "2")
	checkOf(t, vars("A", "1", "B", "2"), "A", "1", "B", "2")
	checkOf(t, vars("A", "1", "A", "2"), "A", "2")
	checkOf(t, vars("A", "2", "A", "1"), "A", "1")
	checkOf(t, vars("A", "1", "A", ""), "A", "")
	checkOf(t, vars("A", "", "A", "1"), "A", "1")
	checkOf(t, vars("A", "1", "A", "1"), "A", "1")
	checkOf(t, vars("A", "3", "A", "1", "A", "2"), "A", "2")
	checkOf(t, vars("B", "1", "A", "1", "B", "2", "C", "1", "A", "2", "B", "3"), "A", "2", "B", "3", "C", "1")
	checkOf(t, vars("z", "1", "a", "2", "_", "3", "Z", "4", "A", "5", "_1", "6", "a1", "7", "a_", "8", "aa", "9", "aA", "0"), "A", "5", "Z", "4", "_", "3", "_1", "6", "a", "2", "a1", "7", "aA", "0", "a_", "8", "aa", "9", "z", "1")
	checkOf(t, vars("A10", "1", "A9", "2", "A1", "3", "A", "4"), "A", "4", "A1", "3", "A10", "1", "A9", "2")
	checkOf(t, vars("a", "1", "A", "2"), "A", "2", "a", "1")
	checkOf(t, vars("A", "a\nb\x00\xff\"'# $A"), "A", "a\nb\x00\xff\"'# $A")
	checkOf(t, vars("export", "export"), "export", "export")
	long := strings.Repeat("x", 1<<20)
	checkOf(t, vars("B", long, "A", long+"y"), "A", long+"y", "B", long)
}

// TestOfNames: promise 12.1, invalid names among valid ones, which do not override them either.
func TestOfNames(t *testing.T) {
	long := strings.Repeat("a", longName)
	for _, bad := range []string{"", "1", "1A", "-", "A-", "A.B", "A B", " A", "A ", "A=", "A=B", "#A", "A\n", "\x00", "A\x00", "\u00e9", "A\xff", "'A'", `"A"`, "$A", long + "a", strings.Repeat("a", 1<<16)} {
		checkOf(t, vars(bad, "x"))
		checkOf(t, vars(bad, "x", bad, "y"))
		checkOf(t, vars(bad, "x", "A", "1"), "A", "1")
		checkOf(t, vars("A", "1", bad, "x"), "A", "1")
		checkOf(t, vars("B", "2", bad, "x", "A", "1", bad, "", "B", "3"), "A", "1", "B", "3")
		checkGet(t, Of(vars("A", "1", bad, "x")...), bad, "", false)
		checkVars(t, "Over", Over(vars("A", "1", bad, "x"), vars(bad, "y", "B", "2")), vars("A", "1", "B", "2"))
	}
	checkOf(t, vars("-", "x", "A", "1", "=", "y", "", "z", "B", "2"), "A", "1", "B", "2")
	for _, good := range []string{"a", "Z", "_", "__", "_1", "A1", "aB_9", long, "_" + long[1:], "export"} {
		checkOf(t, vars(good, "x"), good, "x")
		checkOf(t, vars("-", "1", good, "x", "-", "2"), good, "x")
	}
	for _, c := range allBytes() {
		isFirst := regexp.MustCompile(`^[a-zA-Z_]\z`).MatchString(c)
		isOther := regexp.MustCompile(`^[a-zA-Z0-9_]\z`).MatchString(c)
		for s, ok := range map[string]bool{c: isFirst, c + "A": isFirst, "A" + c: isOther, "A" + c + "B": isOther} {
			want := []string{s, "x"}
			if !ok {
				want = nil
			}
			checkOf(t, vars(s, "x"), want...)
		}
	}
}

// shuffled returns variables in a drawn order.
func shuffled(random *rand.Rand, l []api.Var) []api.Var {
	l = slices.Clone(l)
	random.Shuffle(len(l), func(i, j int) { l[i], l[j] = l[j], l[i] })
	return l
}

// TestOfMost: promise 12.1, up to Most names and more, of which the last in the order are dropped, whatever their order in the list is.
func TestOfMost(t *testing.T) {
	random := rand.New(rand.NewSource(12))
	for _, count := range []int{1, mostNames - 1, mostNames, mostNames + 1, mostNames + 2, 2 * mostNames, 1000} {
		names := numbered(count)
		l := valued(names, "=")
		want := l[:min(count, mostNames)]
		backward := slices.Clone(l)
		slices.Reverse(backward)
		for _, x := range [][]api.Var{l, backward, shuffled(random, l), slices.Concat(valued(names, "old"), shuffled(random, l)), slices.Concat(backward, vars("", "x", "0", "y"), l), slices.Concat(valued(numbered(count/2), "old"), backward)} {
			checkVars(t, "Of", Of(x...), want)
			for i := range 4 {
				at := len(x) * i / 3
				checkVars(t, "Over", Over(x[:at], x[at:]), want)
			}
		}
		checkVars(t, "Of", Of(slices.Concat(l, valued(names, "new"))...), valued(names, "new")[:min(count, mostNames)])
		checkVars(t, "Of", Of(slices.Concat(l, vars(names[count-1], "new"))...), slices.Concat(l[:count-1], vars(names[count-1], "new"))[:min(count, mostNames)])
		first := slices.Concat(vars("A", "1"), l)
		checkVars(t, "Of", Of(slices.Concat(l, vars("A", "1"))...), first[:min(count+1, mostNames)])
		checkVars(t, "Over", Over(l, vars("A", "1")), first[:min(count+1, mostNames)])
		last := slices.Concat(l, vars("a", "1"))
		checkVars(t, "Of", Of(slices.Concat(vars("a", "1"), l)...), last[:min(count+1, mostNames)])
		checkVars(t, "Over", Over(vars("a", "1"), l), last[:min(count+1, mostNames)])
		checkVars(t, "Over", Over(l, vars("a", "1")), last[:min(count+1, mostNames)])
	}
}

// TestOfInvalidMost: promise 12.1, invalid names and names that stand often take no place.
func TestOfInvalidMost(t *testing.T) {
	l := valued(numbered(mostNames), "=")
	var invalid, often []api.Var
	for i := range 300 {
		invalid = append(invalid, api.Var{Key: strconv.Itoa(i), Val: "x"})
		often = append(often, api.Var{Key: l[0].Key, Val: strconv.Itoa(i)})
	}
	checkVars(t, "Of", Of(slices.Concat(invalid, l)...), l)
	checkVars(t, "Of", Of(slices.Concat(l, invalid)...), l)
	checkVars(t, "Of", Of(slices.Concat(often, l)...), l)
	checkVars(t, "Of", Of(slices.Concat(l, often)...), slices.Concat(vars(l[0].Key, "299"), l[1:]))
	checkVars(t, "Of", Of(invalid...), nil)
	checkVars(t, "Of", Of(often...), vars(l[0].Key, "299"))
}

// TestGet: promise 12.1, names that are there, that are not, and invalid ones, and empty values.
func TestGet(t *testing.T) {
	for _, l := range [][]api.Var{nil, {}, vars("A", "1"), vars("A", ""), vars("AB", "2", "A_", "3", "A__B", "4", "a", "5")} {
		for _, key := range []string{"", "B", "AA", "1", "-", "A=", "A ", " A", "A=1", "A\x00", "\x00", "\xff", "_A", "aa", "b", strings.Repeat("A", 25), strings.Repeat("A", 1<<20)} {
			checkGet(t, Of(l...), key, "", false)
		}
	}
	checkGet(t, nil, "A", "", false)
	checkGet(t, vars("A", "1"), "A", "1", true)
	checkGet(t, vars("A", "1"), "a", "", false)
	checkGet(t, vars("A", ""), "A", "", true)
	checkGet(t, vars("A", "", "B", "x"), "A", "", true)
	checkGet(t, vars("A", "x", "B", ""), "B", "", true)
	checkGet(t, vars("A", "A", "B", "B", "C", "C"), "B", "B", true)
	checkGet(t, vars("A", "B", "C", "D"), "B", "", false)
	checkGet(t, vars("AB", "x"), "A", "", false)
	checkGet(t, vars("A", "x"), "AB", "", false)
	checkGet(t, vars("A", "a\nb\x00"), "A", "a\nb\x00", true)
	for count := range mostNames + 1 {
		names := numbered(mostNames + 1)
		l := valued(names[:count], "=")
		for i, key := range names {
			if i < count {
				checkGet(t, l, key, "="+key, true)
			} else {
				checkGet(t, l, key, "", false)
			}
			checkGet(t, l, key[:longName-1], "", false)
		}
	}
}

// TestGetLast: not promised, lists that are no environments, in which the last variable with a name counts, as for Of.
func TestGetLast(t *testing.T) {
	checkGet(t, vars("A", "1", "A", "2"), "A", "2", true)
	checkGet(t, vars("A", "1", "A", ""), "A", "", true)
	checkGet(t, vars("B", "1", "A", "2", "B", "3", "C", "4"), "B", "3", true)
	checkGet(t, vars("B", "1", "A", "2"), "A", "2", true)
	checkGet(t, vars("B", "1", "A", "2"), "B", "1", true)
	checkGet(t, valued(numbered(1000), "="), numbered(1000)[999], "="+numbered(1000)[999], true)
}

// TestGetDropped: promise 12.1, names that found no room in an environment.
func TestGetDropped(t *testing.T) {
	names := numbered(mostNames + 9)
	for i, key := range names {
		found, val := i < mostNames, "="+key
		if !found {
			val = ""
		}
		checkGet(t, Of(valued(names, "=")...), key, val, found)
		checkGet(t, Over(valued(names[:40], "old"), valued(names, "=")), key, val, found)
		checkGet(t, Over(valued(names[40:], "="), valued(names[:40], "=")), key, val, found)
	}
}

// TestOver: promise 12.1, variables in one, in the other, in both and in neither, and lists that are no environments.
func TestOver(t *testing.T) {
	for _, x := range []struct{ a, b, want []api.Var }{
		{nil, nil, nil}, {vars(), []api.Var{}, nil}, {vars("A", "1"), nil, vars("A", "1")}, {nil, vars("A", "1"), vars("A", "1")},
		{vars("A", "1"), vars("A", "2"), vars("A", "2")}, {vars("A", "1"), vars("A", ""), vars("A", "")}, {vars("A", ""), vars("A", "1"), vars("A", "1")}, {vars("A", "1"), vars("B", "2"), vars("A", "1", "B", "2")}, {vars("B", "2"), vars("A", "1"), vars("A", "1", "B", "2")}, {vars("A", "1"), vars("a", "2"), vars("A", "1", "a", "2")},
		{vars("A", "1", "B", "2", "C", "3"), vars("B", "4"), vars("A", "1", "B", "4", "C", "3")}, {vars("B", "4"), vars("A", "1", "B", "2", "C", "3"), vars("A", "1", "B", "2", "C", "3")}, {vars("A", "1", "C", "3"), vars("B", "2", "D", "4"), vars("A", "1", "B", "2", "C", "3", "D", "4")},
		{vars("B", "1", "A", "2", "B", "3"), vars("C", "1", "A", "4", "C", "2"), vars("A", "4", "B", "3", "C", "2")}, {vars("A", "1", "1", "x"), vars("2", "y", "", "z"), vars("A", "1")}, {vars("A", "1", "A", "2"), vars("A", "4", "A", "3"), vars("A", "3")}, {vars("A=", "1"), vars("A", "2", "A=", "3"), vars("A", "2")},
	} {
		checkVars(t, "Over("+brief(x.a)+", "+brief(x.b)+")", Over(x.a, x.b), x.want)
	}
}

// checkOver checks promise 12.3 for two environments that have at most Most names in all: each name has its value in b or otherwise that in a.
func checkOver(t *testing.T, a, b []api.Var, names []string) {
	t.Helper()
	over := Over(a, b)
	count := 0
	for _, key := range names {
		val, found := find(b, key)
		if !found {
			val, found = find(a, key)
		}
		checkGet(t, over, key, val, found)
		if found {
			count++
		}
	}
	if len(over) != count || !isEnvironment(over) {
		t.Errorf("Over(%s, %s) = %s", brief(a), brief(b), brief(over))
	}
}

// find looks for a name without Get.
func find(l []api.Var, key string) (string, bool) {
	if i := slices.IndexFunc(l, func(v api.Var) bool { return v.Key == key }); i >= 0 {
		return l[i].Val, true
	}
	return "", false
}

var validName = regexp.MustCompile(`^[a-zA-Z_][a-zA-Z0-9_]{0,23}\z`)

// isEnvironment tells whether a list is what the chapter calls an environment.
func isEnvironment(l []api.Var) bool {
	for i, v := range l {
		if !validName.MatchString(v.Key) || i > 0 && l[i-1].Key >= v.Key {
			return false
		}
	}
	return len(l) <= mostNames
}

// TestOverAll: promise 12.3, all pairs of environments of up to four names and three values.
func TestOverAll(t *testing.T) {
	names := []string{"A", "AB", "_", "a"}
	var all [][]api.Var
	for n := range 256 {
		var l []api.Var
		for i, key := range names {
			if v := n >> (2 * i) & 3; v > 0 {
				l = append(l, api.Var{Key: key, Val: []string{"", "x", "y\n"}[v-1]})
			}
		}
		all = append(all, l)
	}
	for _, a := range all {
		for _, b := range all {
			checkOver(t, a, b, append(slices.Clone(names), "", "B", "1"))
		}
	}
}

// TestOverDrawn: promises 12.1 and 12.3, drawn environments (fixed seed), also of more than Most names in all, of which the last in the order are dropped.
func TestOverDrawn(t *testing.T) {
	random := rand.New(rand.NewSource(121))
	for _, count := range []int{5, mostNames, mostNames + 1, 100, 2 * mostNames} {
		names := numbered(count)
		for range 300 {
			a, b := Of(someOf(random, valued(names, "a"))...), Of(someOf(random, valued(names, "b"))...)
			var both []string
			for _, key := range names {
				_, inA := find(a, key)
				if _, inB := find(b, key); inA || inB {
					both = append(both, key)
				}
			}
			if len(both) <= mostNames {
				checkOver(t, a, b, names)
				continue
			}
			for _, key := range both[mostNames:] {
				checkGet(t, Over(a, b), key, "", false)
			}
			inRoom := func(v api.Var) bool { return v.Key <= both[mostNames-1] }
			checkOver(t, chosen(a, inRoom), chosen(b, inRoom), both[:mostNames])
			checkVars(t, "Over", Over(a, b), Over(chosen(a, inRoom), chosen(b, inRoom)))
		}
	}
}

// someOf returns a drawn part of some variables.
func someOf(random *rand.Rand, l []api.Var) []api.Var {
	share := random.Intn(5)
	return chosen(l, func(api.Var) bool { return random.Intn(4) < share })
}

// chosen returns the variables that a condition holds for.
func chosen(l []api.Var, holds func(api.Var) bool) []api.Var {
	return slices.DeleteFunc(slices.Clone(l), func(v api.Var) bool { return !holds(v) })
}

// TestParseEmpty: promise 12.2, files without variables: empty ones, empty lines, lines of spaces, and comments.
func TestParseEmpty(t *testing.T) {
	lines := []string{"", " ", "     ", "#", "##", "# a", "#a", "  # a", " #", "# A=1", "#A='", `#"`, "# \t\x00\r\x7f\xff", "  #\x01  ", "# # #", "#export", strings.Repeat(" ", 100) + "#"}
	for _, a := range lines {
		checkParse(t, a)
		checkParse(t, a+"\n")
		checkParse(t, a+"\n\n\n")
		for _, b := range lines {
			checkParse(t, a+"\n"+b)
			checkParse(t, a+"\n"+b+"\n")
			checkParse(t, a+"\nA=1\n"+b, "A", "1")
			checkInvalid(t, a+"\n"+b+"\nA", 3)
			checkInvalid(t, a+"\n"+b+"\n=\n"+a+"\n"+b, 3)
		}
	}
	checkParse(t, strings.Join(lines, "\n"))
	checkParse(t, strings.Repeat("\n", mostText))
	checkParse(t, strings.Repeat(" ", mostText))
	checkParse(t, "#"+strings.Repeat("'", mostText-1))
	checkBad(t, "\t", "\t# a", "\r", "\x00", "\u00a0", "\u00a0# a", ";", "; a", "// a", "-", "\ufeff", "\ufeff# a")
}

// TestParseLines: promise 12.2, several lines in any order, names that stand twice or more, and a last line without its line feed.
func TestParseLines(t *testing.T) {
	checkParse(t, "A=1", "A", "1")
	checkParse(t, "A=1\n", "A", "1")
	checkParse(t, "A=1\nB=2", "A", "1", "B", "2")
	checkParse(t, "B=2\nA=1\n", "A", "1", "B", "2")
	checkParse(t, "B=2\nA=1\nB=3\n", "A", "1", "B", "3")
	checkParse(t, "A=1\nA=2", "A", "2")
	checkParse(t, "A=2\nA=1", "A", "1")
	checkParse(t, "A=1\nA=", "A", "")
	checkParse(t, "A=\nA=1", "A", "1")
	checkParse(t, "A='x'\nexport A=y # z\n A=\"w\"\nexport   A='v' #\n", "A", "v")
	checkParse(t, "A=1\n\n\n  \n# A=2\nB=2\n", "A", "1", "B", "2")
	checkParse(t, "a=1\nA=2\n_=3\na1=4\nA1=5", "A", "2", "A1", "5", "_", "3", "a", "1", "a1", "4")
	checkInvalid(t, "A='1\nB=2'\n", 1)
	checkInvalid(t, "A=\"1\nB=2\"\n", 1)
	checkInvalid(t, "A=1\r\nB=2\r\n", 1)
	checkInvalid(t, "A=1\nB=2\r\n", 2)
	checkInvalid(t, "A=1\rB=2", 1)
	checkParse(t, "A=1\\\nB=2", "A", `1\`, "B", "2")
	checkParse(t, "# a\\\nB=2 # \r\n# \r\n", "B", "2")
	checkParse(t, "A=$B ${C:-x}\nB=`ls`", "A", "$B ${C:-x}", "B", "`ls`")
}

// TestParseExport: promise 12.2, "export" with spaces behind it, and as a name.
func TestParseExport(t *testing.T) {
	for _, spaces := range []string{" ", "  ", "       "} {
		checkLine(t, "export"+spaces+"X=1", "X", "1")
		checkLine(t, "export"+spaces+"X=", "X", "")
		checkLine(t, "export"+spaces+"X='a b' # c", "X", "a b")
		checkLine(t, "export"+spaces+"export=1", "export", "1")
		checkLine(t, "export"+spaces+"export=", "export", "")
		checkLine(t, "export"+spaces+"exportX=1", "exportX", "1")
		checkLine(t, "export"+spaces+"export_=export a=b", "export_", "export a=b")
		checkBad(t, "export"+spaces+"=1", "export"+spaces+"=", "export"+spaces+"X", "export"+spaces+"X =1", "export"+spaces+"X= 1", "export"+spaces+"1=1", "export"+spaces+"export", "export"+spaces+"export X=1", "export"+spaces+"export"+spaces+"export=1", "export"+spaces+"# X=1", "export"+spaces+"#", "export"+spaces+"'X'=1", "export"+spaces+"\tX=1", "export"+spaces+"X=1"+"\t", "export"+spaces+"X=1\x00")
	}
	checkLine(t, "export=1", "export", "1")
	checkLine(t, "export=", "export", "")
	checkLine(t, "export=export=1", "export", "export=1")
	checkLine(t, "export='X=1'", "export", "X=1")
	checkLine(t, "exportX=1", "exportX", "1")
	checkLine(t, "export_X=1", "export_X", "1")
	checkLine(t, "export1=1", "export1", "1")
	checkLine(t, "expor=1", "expor", "1")
	checkLine(t, "Export=1", "Export", "1")
	checkLine(t, "A=export B=1", "A", "export B=1")
	checkBad(t, "export", "export #", "export # a", "export#", "export\tX=1", "export\x00X=1", "export\u00a0X=1", "EXPORT X=1", "Export X=1", "xexport X=1", "export-X=1", "export.X=1", "export:X=1", "expor X=1", "exports X=1", "export= 1", "export =1", "export = 1", "export X", "set X=1", "'export' X=1")
}

// TestParseNames: promise 12.2, valid and invalid names, up to the longest, and lines without a name or without "=".
func TestParseNames(t *testing.T) {
	long := strings.Repeat("a", longName)
	for _, key := range []string{"a", "Z", "_", "__", "_1", "A1", "aB_9", long, "_" + long[1:], long[1:] + "9"} {
		checkLine(t, key+"=x", key, "x")
		checkLine(t, key+"=", key, "")
		checkLine(t, "export "+key+"='x'", key, "x")
	}
	for _, key := range []string{"", "1", "1A", "9_", "-", "A-B", "A.B", "A B", "A:", "A+", "A[0]", "$A", "'A'", `"A"`, "A'", "A\t", "\tA", "A\x00", "\x01A", "\u00e9", "A\u00e9", "A\xff", long + "a", long + "_", strings.Repeat("a", 200), "A#", "A #", "A #B", "- A", "?A", "A\\", "{A}", "(A"} {
		checkBad(t, key+"=x", key+"=", key+"='x'", "export "+key+"=x", key+"=x=y")
	}
	checkBad(t, "A", "AB_1", long, "A:1", "A: 1", "A 1", "A'1'", `A"1"`, "A # =", "A #B=1", "=", "==", "=A", "=A=1", "='A=1'", "'A=1'", `"A=1"`, "A+1", "-A=1", "A;B=1", "A,B=1")
}

// TestParseEquals: promise 12.2, spaces and other bytes on either side of the "=", and further "=" in the value.
func TestParseEquals(t *testing.T) {
	checkBad(t, "A =1", "A  =1", "A= 1", "A=  1", "A = 1", "A =", "A = ''", "A= ''", `A= "x"`, "A =''", "A= # x", "A= #", "A=  # x", "A= =", "A= =1", "A =#", "A\t=1", "A=\t1", "A=\t", "A\xa0=1", "A= \x00")
	checkValue(t, "=", "=")
	checkValue(t, "==", "==")
	checkValue(t, "b=c", "b=c")
	checkValue(t, "b = c", "b = c")
	checkValue(t, "b= c =d", "b= c =d")
	checkValue(t, "=b", "=b")
	checkValue(t, "b=", "b=")
	checkValue(t, "= b", "= b")
	checkValue(t, "b=' # '", "b='")
	checkValue(t, `="b"`, `="b"`)
	checkValue(t, "'='", "=")
	checkValue(t, `"= "`, "= ")
}

// TestParseBare: promise 12.2, empty values and others without quotes around them, with spaces, quotes and other bytes within them.
func TestParseBare(t *testing.T) {
	checkValue(t, "", "")
	for _, s := range []string{"1", "a", "-", "a b", "a  b", "a   b  c", "it's", "don't won't", `a"b"`, `a "b"`, "a 'b", `a'"`, "a''", `\`, `\n`, `a\tb`, `\"`, `\'`, `\x41`, "$A", "${A:-b c}", "`a`", "~", "null", "[a, b]", "{a: b}", "a,b", "a: b", ": a", "- a", "http://a:80/b?c=d&e", "!", "@", "%", "*", "|", ">", "?", "\u00e9", "caf\u00e9 x", "\xff", "\x80", "\xff \x80", "\u00a0", "a\u00a0", "export", "export B=1", ";", "a;b", "\\#"} {
		checkValue(t, s, s)
		checkValue(t, s+" # x", s)
	}
	for b, c := range allBytes() {
		switch {
		case c == "\n":
			continue
		case !isPrint(byte(b)):
			checkBadValue(t, c, c+"a", "a"+c, "a"+c+"b", "a "+c+" b", c+" # x", "a"+c+" # x", "a "+c+" # x", "a# "+c+"b", c+"'a'")
			checkValue(t, "a # "+c, "a")
			checkValue(t, "a #"+c+c+" b", "a")
		default:
			checkValue(t, "a"+c+"b", "a"+c+"b")
			checkValue(t, "ab"+c+" "+c+" #"+c, strings.TrimRight("ab"+c+strings.TrimSuffix(" "+c, " #"), " "))
		}
	}
}

// TestParseHash: promise 12.2, "#" in values without quotes, with and without a space ahead, and trailing spaces.
func TestParseHash(t *testing.T) {
	checkValue(t, "#", "#")
	checkValue(t, "##", "##")
	checkValue(t, "#a", "#a")
	checkValue(t, "# a", "# a")
	checkValue(t, "# #", "#")
	checkValue(t, "# a # b", "# a")
	checkValue(t, "a#", "a#")
	checkValue(t, "a#b", "a#b")
	checkValue(t, "a# b", "a# b")
	checkValue(t, "a## b#c", "a## b#c")
	checkValue(t, "a#b #c", "a#b")
	checkValue(t, "a #", "a")
	checkValue(t, "a #b", "a")
	checkValue(t, "a # b", "a")
	checkValue(t, "a  #b", "a")
	checkValue(t, "a     # b", "a")
	checkValue(t, "a #b #c", "a")
	checkValue(t, "a ##", "a")
	checkValue(t, "a b  #c", "a b")
	checkValue(t, "a  b  # c  ", "a  b")
	checkValue(t, "a b# c #d", "a b# c")
	checkValue(t, "a #'", "a")
	checkValue(t, "a 'b #' c", "a 'b")
	checkValue(t, `a" #"`, `a"`)
	checkValue(t, "it's # it's", "it's")
	checkValue(t, "a\u00a0# b", "a\u00a0# b")
	checkValue(t, "1 #=2", "1")
	checkValue(t, "a # \t\x00\x7f", "a")
	checkValue(t, "a #\r", "a")
	checkBadValue(t, "a\t# b", "a\t #b", "a \t# b", "#\t", "a\x00 # b", " #", "  #a", " # a")
}

// TestParseQuoted: promise 12.2, values in double and in single quotes, with escapes and bytes that would mean something elsewhere.
func TestParseQuoted(t *testing.T) {
	for _, x := range [][2]string{
		{`""`, ""}, {`"a"`, "a"}, {`"a b"`, "a b"}, {`" a "`, " a "}, {`"   "`, "   "}, {`"#"`, "#"}, {`" # "`, " # "}, {`"a # b"`, "a # b"}, {`"'"`, "'"}, {`"it's"`, "it's"}, {`"''"`, "''"}, {`"="`, "="}, {`"A=1"`, "A=1"}, {`"\\"`, `\`}, {`"\""`, `"`}, {`"\n"`, "\n"}, {`"a\nb\n"`, "a\nb\n"}, {`"\t"`, "\t"}, {`"\x00"`, "\x00"}, {`"\x41\x4a\xfF"`, "AJ\xff"}, {`"\x7f\x0d"`, "\x7f\r"}, {`"\\n"`, `\n`}, {`"\"a\" # \""`, `"a" # "`}, {"\"caf\u00e9\xff\"", "caf\u00e9\xff"}, {`"$A"`, "$A"},
		{"''", ""}, {"'a'", "a"}, {"'a b'", "a b"}, {"' a '", " a "}, {"'   '", "   "}, {"'#'", "#"}, {"' # '", " # "}, {"'a # b'", "a # b"}, {`'"'`, `"`}, {`'a"b'`, `a"b`}, {"'it''s'", "it's"}, {"''''", "'"}, {"''''''", "''"}, {"'='", "="}, {"'A=1'", "A=1"}, {`'\'`, `\`}, {`'\n'`, `\n`}, {`'\"'`, `\"`}, {"'caf\u00e9\xff'", "caf\u00e9\xff"}, {"'$A'", "$A"}, {"''' # '", "' # "},
	} {
		checkValue(t, x[0], x[1])
		for _, comment := range []string{" #", " # x", " #x", "   #", "     # x y  ", " ##", " # #", " #'", ` #"`, " # \t\x00\x7f\xff", " #=", " # '' # ''"} {
			checkValue(t, x[0]+comment, x[1])
		}
		checkBadValue(t, x[0]+"#", x[0]+"# x", x[0]+"a", x[0]+" a", x[0]+" a # b", x[0]+"a # b", x[0]+"\t", x[0]+" \t", x[0]+"\t# x", x[0]+" \t# x", x[0]+"\x00", x[0]+";", x[0]+"=", x[0]+" =", x[0]+" - # x", x[0]+"\\", x[0]+"\xff", x[0]+"\u00a0# x", x[0]+" \r")
		other := map[byte]string{'"': "'b'", '\'': `"b"`}[x[0][0]]
		same := x[0][:1] + "b" + x[0][:1]
		checkBadValue(t, x[0]+other, x[0]+" "+other, x[0]+" "+same, x[0]+other+" # x", x[0]+" "+same+" # x", " "+x[0], "  "+x[0]+" # x")
		checkValue(t, "b"+x[0][:1]+x[0][:1], "b"+x[0][:1]+x[0][:1])
	}
}

// TestParseUnquoted: promise 12.2, quoted strings that do not end, or contain a byte or an escape that is not allowed.
func TestParseUnquoted(t *testing.T) {
	checkBadValue(t, `"`, `"a`, `"a b`, `"a\"`, `"\\\"`, `"""`, `"a""`, `"a"b"`, `"'`, `"a'`, `"\`, `"a\`, `"\a"`, `"\'"`, `"\ "`, `"\x"`, `"\x1"`, `"\x1g"`, `"\X41"`, `"\u0041"`, `"\r"`, `"\0"`, `"\N"`, `"\x 1"`, `"a # b`, `"a #`, `" # x`)
	checkBadValue(t, "'", "'a", "'a b", "'a''", "'''", "'''''", "'it's'", `'"`, `'a"`, "'a # b", "'a #", "' # x", "'a\\''")
	for b, c := range allBytes() {
		if isPrint(byte(b)) {
			continue
		}
		if c != "\n" {
			checkBadValue(t, `"`+c+`"`, "'"+c+"'", `"a`+c+`b"`, "'a"+c+"b' # x", `"`+c, "'"+c)
		}
		checkValue(t, `"\x`+string("01234567"[b>>4])+string("0123456789ABCDEF"[b&15])+`"`, c)
	}
}

// TestParseFirst: promise 12.2, the number of the first invalid line of several.
func TestParseFirst(t *testing.T) {
	invalid := []string{"A", "1=1", "A =1", "A= 1", "A='1", `A="\q"`, "A='1'#", "export", "A=\x01", "\t", "="}
	valid := []string{"", "   ", "# a", "A=1", "export B='2' # x", "A="}
	for _, first := range invalid {
		for _, second := range invalid {
			checkInvalid(t, first+"\n"+second, 1)
			for i := range len(valid) + 1 {
				before := strings.Join(append(slices.Clone(valid[:i]), first), "\n")
				checkInvalid(t, before, i+1)
				checkInvalid(t, before+"\n"+second+"\n", i+1)
				checkInvalid(t, before+"\n"+strings.Join(valid, "\n")+"\n"+second, i+1)
			}
		}
	}
	for _, n := range []int{0, 1, 9, 100, 4000, mostText - 1} {
		checkInvalid(t, strings.Repeat("\n", n)+"A", n+1)
	}
	checkInvalid(t, strings.Repeat("A=1\n", 2000)+"A", 2001)
}

// TestParseText: promise 12.2, files of MaxText bytes and of more, with and without an invalid line.
func TestParseText(t *testing.T) {
	long := strings.Repeat("x", mostText)
	for _, head := range []string{"A=", "export A=", "B=1\nA=", "\n\n  A="} {
		val := long[len(head):]
		want := vars("A", val)
		if strings.HasPrefix(head, "B") {
			want = vars("A", val, "B", "1")
		}
		checkFile(t, head+val, want, 0, api.OK)
		checkFile(t, head+val+"x", nil, 0, api.ErrBound)
		checkFile(t, head+val+"\n", nil, 0, api.ErrBound)
		checkFile(t, head+val+" ", nil, 0, api.ErrBound)
		checkFile(t, head+val+"\x00", nil, 0, api.ErrBound)
	}
	checkInvalid(t, long, 1)
	checkInvalid(t, "A=\n"+long[3:], 2)
	checkInvalid(t, long[:mostText-1]+"\n", 1)
	for _, s := range []string{long + "x", "A\n" + long, "A=1\n=\n" + long, strings.Repeat("\n", mostText+1), strings.Repeat(" ", mostText+1), "#" + long, "A=" + long, strings.Repeat("A\n", mostText), strings.Repeat(long, 100), strings.Repeat("\t", mostText+1)} {
		checkFile(t, s, nil, 0, api.ErrBound)
	}
	checkFile(t, "A='"+long[4:]+"'", vars("A", long[4:]), 0, api.OK)
	checkFile(t, "A='"+long[4:]+"y'", nil, 0, api.ErrBound)
	checkParse(t, "A=1\n#"+long[5:], "A", "1")
	checkParse(t, "A="+strings.Repeat(" ", mostText-2), "A", "")
}

// lined returns a line for each name.
func lined(names []string) string {
	s := ""
	for _, key := range names {
		s += key + "=" + key[:1] + "\n"
	}
	return s
}

// TestParseMost: promise 12.2, up to Most names in a file and more, with and without an invalid line.
func TestParseMost(t *testing.T) {
	for _, count := range []int{mostNames - 1, mostNames, mostNames + 1, mostNames + 2, 200} {
		names := numbered(count)
		var want []api.Var
		for _, key := range names {
			want = append(want, api.Var{Key: key, Val: "N"})
		}
		e := api.OK
		if count > mostNames {
			want, e = nil, api.ErrBound
		}
		backward := slices.Clone(names)
		slices.Reverse(backward)
		for _, s := range []string{lined(names), lined(backward), lined(names[count/2:]) + lined(names[:count/2])} {
			checkFile(t, s, want, 0, e)
			checkFile(t, "\n"+s+"#", want, 0, e)
			checkFile(t, strings.TrimSuffix(s, "\n"), want, 0, e)
			checkFile(t, s+lined(names[:10]), want, 0, e)
			for _, bad := range []string{"A", "A =1", "1=1", "A='"} {
				checkInvalid(t, bad+"\n"+s, 1)
				checkInvalid(t, s+bad, count+1)
				checkInvalid(t, s+bad+"\n"+bad+"\n", count+1)
			}
		}
	}
	checkParse(t, strings.Repeat("A=1\n", 1000)+"A=2", "A", "2")
	checkParse(t, strings.Repeat("A=1\nB=2\nA=3\n", 500), "A", "3", "B", "2")
}

// latin returns a string with a rune for each byte of s, since patterns do not see single bytes.
func latin(s string) string {
	l := make([]rune, len(s))
	for i := range len(s) {
		l[i] = rune(s[i])
	}
	return string(l)
}

// unlatin returns the string of whose bytes latin made s.
func unlatin(s string) string {
	var l []byte
	for _, r := range s {
		l = append(l, byte(r))
	}
	return string(l)
}

// A line as a pattern. A value without quotes is divided before each byte but spaces, so that no part of it begins with a space and a "#".
const (
	doubleForm = `"((?:[ !#-\[\]-~\x{80}-\x{ff}]|\\[\\"nt]|\\x[0-9a-fA-F]{2})*)"`
	singleForm = `'((?:[ -&(-~\x{80}-\x{ff}]|'')*)'`
	bareForm   = `([!#-&(-~\x{80}-\x{ff}](?: *[!"$-~\x{80}-\x{ff}]|#)*)`
	valueForm  = `(?:(?:` + doubleForm + `|` + singleForm + `|` + bareForm + `)(?: +#.*)?)?`
)

var linePattern = regexp.MustCompile(`^(?s) *(?:|#.*|(?:export +)?([a-zA-Z_][a-zA-Z0-9_]{0,23})=` + valueForm + `) *$`)

// parsedByPattern tells by the pattern what Parse is to answer.
func parsedByPattern(s string) ([]api.Var, int, api.Errno) {
	if len(s) > mostText {
		return nil, 0, api.ErrBound
	}
	var keys []string
	vals := map[string]string{}
	for i, line := range strings.Split(s, "\n") {
		parts := linePattern.FindStringSubmatch(latin(line))
		if parts == nil {
			return nil, i + 1, api.ErrSyntax
		}
		key, val := parts[1], denoted(parts[2])+strings.ReplaceAll(parts[3], "''", "'")+parts[4]
		if key != "" {
			keys = append(keys, key)
			vals[key] = unlatin(val)
		}
	}
	sort.Strings(keys)
	var l []api.Var
	for _, key := range slices.Compact(keys) {
		l = append(l, api.Var{Key: key, Val: vals[key]})
	}
	if len(l) > mostNames {
		return nil, 0, api.ErrBound
	}
	return l, 0, api.OK
}

// denoted replaces the escapes of a value in double quotes; runes below 256 stand for bytes.
func denoted(s string) string {
	return regexp.MustCompile(`\\(x..|.)`).ReplaceAllStringFunc(s, func(form string) string {
		switch c := form[1:]; {
		case c == "n":
			return "\n"
		case c == "t":
			return "\t"
		case c[0] == 'x':
			b, _ := strconv.ParseUint(c[1:], 16, 8)
			return string(rune(b))
		default:
			return c
		}
	})
}

func checkByPattern(t *testing.T, s string) {
	t.Helper()
	l, no, e := parsedByPattern(s)
	checkFile(t, s, l, no, e)
}

// joined calls a function with all strings of up to most of the pieces.
func joined(pieces []string, most int, f func(string)) {
	var grow func(s string, more int)
	grow = func(s string, more int) {
		f(s)
		if more == 0 {
			return
		}
		for _, p := range pieces {
			grow(s+p, more-1)
		}
	}
	grow("", most)
}

// TestParseAll: promises 12.2 and P1, all files of up to a few pieces of some kinds, and all values of up to two bytes, against the pattern.
func TestParseAll(t *testing.T) {
	check := func(s string) { checkByPattern(t, s) }
	joined([]string{"A", "=", " ", "#", "'", `"`, "\n"}, 6, check)
	joined([]string{"export", " ", "=", "A", "1", "#", "\n"}, 6, check)
	joined([]string{"A=", "\n", " ", "\t", "b", "#", "'"}, 5, check)
	joined([]string{"A=", "B='", "b", "' #", " ", "\n", `C="`, `\n`, `"`}, 5, check)
	inValue := func(s string) {
		check("A=" + s)
		check("A=b" + s)
		check("export A='" + s)
		check(`A="` + s)
	}
	joined([]string{"'", `"`, " ", "#", "b", "=", `\`}, 5, inValue)
	joined([]string{`\`, "x", "4", "f", "n", `"`, "'"}, 5, inValue)
	joined(allBytes(), 2, inValue)
	joined(allBytes(), 2, check)
}

// TestParseBytes: promises 12.2 and P1, each byte at each place of some files, and in place of each of their bytes, and each beginning and end of them, against the pattern.
func TestParseBytes(t *testing.T) {
	for _, s := range []string{"A=b", "export A=b", "  A=b c # d  ", "export  AB='it''s' # c\n", ` C="a\n\x4F # \"" # d`, "# a\n\nA=1\nB=2 #\nA=''", "export=export", "A1='' #", strings.Repeat("a", 23) + "=1", "A=b # c # d=' #"} {
		for i := range len(s) + 1 {
			checkByPattern(t, s[:i])
			checkByPattern(t, s[i:])
			for _, c := range allBytes() {
				checkByPattern(t, s[:i]+c+s[i:])
				if i < len(s) {
					checkByPattern(t, s[:i]+c+s[i+1:])
				}
			}
			for j := i + 1; j <= len(s); j++ {
				checkByPattern(t, s[:i]+s[j:])
			}
		}
	}
}

// TestParseDrawn: promise 12.2, files of drawn lines and of drawn pieces (fixed seed), up to more than MaxText bytes and Most names, against the pattern.
func TestParseDrawn(t *testing.T) {
	random := rand.New(rand.NewSource(122))
	of := func(l ...string) string { return l[random.Intn(len(l))] }
	line := func(many int) string {
		key := "k" + strconv.Itoa(random.Intn(many))
		val := of("", "a", "a b", "it's", "'a b'", "''", `"a\tb"`, `"\""`, "'it''s'", "a#b", "#", "\xff", "x=y")
		return of("", "", " ", "   ") + of("", "", "export ", "export   ") + key + "=" + val + of("", "", " ", "  ") + of("", " # x", " #", " # '\t")
	}
	for n := range 3000 {
		s := ""
		for range random.Intn(n/10 + 2) {
			s += of(line(n/20+1), line(n/20+1), line(n/20+1), line(10), "", "  ", " # x") + "\n"
		}
		checkByPattern(t, s)
		checkByPattern(t, s+of("A", "A =1", "A='", "export", "A=1\t", "\x00")+"\n"+s)
		if i := random.Intn(len(s) + 1); i < len(s) {
			checkByPattern(t, s[:i]+of("'", `"`, " ", "#", "=", "\n", "\t", "")+s[i+1:])
		}
	}
}

func checkText(t *testing.T, want string, l ...string) {
	t.Helper()
	if got := Text(vars(l...)); got != want {
		t.Errorf("Text(%s) = %s; want %s", brief(vars(l...)), cut(got), cut(want))
	}
}

// TestText: promise 12.2, no variables, and values that need quoting and that do not, which are all quoted.
func TestText(t *testing.T) {
	checkText(t, "")
	if got := Text([]api.Var{}); got != "" {
		t.Errorf("Text = %q", got)
	}
	checkText(t, "A=\"\"\n", "A", "")
	checkText(t, "A=\"1\"\n", "A", "1")
	checkText(t, "A=\"3\"\nB=\"2\"\n", "A", "3", "B", "2")
	checkText(t, "A=\"a b\"\nB=\" # '\"\nexport=\"A=1\"\n", "A", "a b", "B", " # '", "export", "A=1")
	checkText(t, `A="\"\\"`+"\n"+`B="\n\t\x00\x0d\x7f"`+"\n", "A", `"\`, "B", "\n\t\x00\r\x7f")
	checkText(t, "A=\"caf\u00e9\xff\"\n", "A", "caf\u00e9\xff")
	checkText(t, `A="\\n$B"`+"\n", "A", `\n$B`)
	for b, c := range allBytes() {
		form := c
		switch {
		case c == `"` || c == `\`:
			form = `\` + c
		case c == "\n":
			form = `\n`
		case c == "\t":
			form = `\t`
		case !isPrint(byte(b)):
			form = `\x` + string("01234567"[b>>4]) + string("0123456789abcdef"[b&15])
		}
		checkText(t, `A="`+form+"\"\n"+`B="a`+form+`b"`+"\n", "A", c, "B", "a"+c+"b")
	}
	long := strings.Repeat("x", 1<<20)
	checkText(t, "A=\""+long+"\"\nB=\""+long+"\"\n", "A", long, "B", long)
	want := ""
	l := valued(numbered(mostNames), "=")
	for _, v := range l {
		want += v.Key + "=\"" + v.Val + "\"\n"
	}
	if got := Text(l); got != want {
		t.Errorf("Text = %s; want %s", cut(got), cut(want))
	}
}

// checkRoundTrip checks promise 12.3 for an environment: its text is parsed as the environment, also with other lines around it, unless it is too long.
func checkRoundTrip(t *testing.T, l ...api.Var) {
	t.Helper()
	s := Text(l)
	if !isEnvironment(l) {
		t.Fatalf("%s are no environment", brief(l))
	}
	if len(s) > mostText {
		checkFile(t, s, nil, 0, api.ErrBound)
		return
	}
	checkFile(t, s, l, 0, api.OK)
	checkByPattern(t, s)
	if len(s)+4 <= mostText {
		checkFile(t, " #\n"+s+"#", l, 0, api.OK)
	}
	if strings.Count(s, "\n") != len(l) {
		t.Errorf("Text(%s) = %s", brief(l), cut(s))
	}
}

// TestRoundTrip: promise 12.3, environments of many kinds: all names of up to three bytes of some kinds, hard values, each byte, and all values of a few pieces.
func TestRoundTrip(t *testing.T) {
	checkRoundTrip(t)
	joined([]string{"a", "Z", "_", "9"}, 3, func(key string) {
		if validName.MatchString(key) {
			checkRoundTrip(t, vars(key, "x")...)
			checkRoundTrip(t, Of(vars(key, "", "export", key, "A_", "='"+key)...)...)
		}
	})
	hard := []string{"", " ", "  a  ", "#", " #", "# a", "a # b", "'", `"`, "''", `""`, `'"`, "it's", `\`, `\n`, `\"`, `\\`, "\n", "\n\n", "a\nb=c\n", "\t", "\r\n", "\x00", "\x7f", "\xff", "\u00e9", "=", "A=1", "export A=1", "$A", "~", "null", `\x41`}
	for _, x := range hard {
		for _, y := range hard {
			checkRoundTrip(t, vars("A", x, "B", y)...)
			checkRoundTrip(t, vars("export", x+y, "x", y)...)
		}
	}
	for _, x := range allBytes() {
		checkRoundTrip(t, vars("A", x, "B", x+x, "C", "a"+x+"b", "D", " "+x+" ")...)
	}
	joined([]string{" ", "#", "'", `"`, `\`, "n", "\n"}, 5, func(s string) { checkRoundTrip(t, vars("A", s)...) })
}

// TestRoundTripBounds: promise 12.3, environments of Most names, and those whose texts have about MaxText bytes.
func TestRoundTripBounds(t *testing.T) {
	random := rand.New(rand.NewSource(123))
	long := strings.Repeat("x", mostText)
	for n := mostText - 12; n <= mostText; n++ {
		checkRoundTrip(t, vars("A", long[:n])...)
		checkRoundTrip(t, vars("A", "1", "export", long[:n-15])...)
		checkRoundTrip(t, vars("A", "\x00"+long[:n-8], "B", "")...)
	}
	checkRoundTrip(t, vars("A", long[:mostText-5])...)
	if s := Text(vars("A", long[:mostText-5])); len(s) != mostText {
		t.Errorf("the text has %d bytes", len(s))
	}
	checkFile(t, Text(vars("A", long[:mostText-4])), nil, 0, api.ErrBound)
	checkRoundTrip(t, valued(numbered(mostNames), "")...)
	checkRoundTrip(t, valued(numbered(mostNames), strings.Repeat("x", 76))...)
	for range 2000 {
		var l []api.Var
		for _, key := range numbered(random.Intn(mostNames + 1)) {
			val := make([]byte, random.Intn(120))
			for i := range val {
				val[i] = byte(random.Intn(256))
			}
			l = append(l, api.Var{Key: key[random.Intn(3)*4:][:1+random.Intn(3)] + key[longName-3:], Val: string(val)})
		}
		checkRoundTrip(t, Of(chosen(l, func(v api.Var) bool { return validName.MatchString(v.Key) })...)...)
	}
}

// guarded returns a list with other variables behind its length, and a check that neither these nor its own have changed.
func guarded(t *testing.T, l []api.Var) ([]api.Var, func(call string)) {
	whole := append(slices.Clone(l), vars("A", "hidden", "HIDDEN", "x")...)
	before := slices.Clone(whole)
	return whole[:len(l)], func(call string) {
		t.Helper()
		if !slices.Equal(whole, before) {
			t.Errorf("%s changed its argument to %s; it was %s", call, brief(whole), brief(before))
		}
	}
}

// TestMemory: general rules R4 and R5, no argument is modified, what is behind a length is not read, no result shares memory with an argument or with another result, and a further call returns the same.
func TestMemory(t *testing.T) {
	of := [][]api.Var{nil, vars("A", "1"), vars("B", "2"), vars("A", "1", "B", "2"), vars("B", "1", "A", "2", "B", "3"), vars("-", "x", "A", "y"), valued(numbered(mostNames), ""), valued(numbered(mostNames+1), "x")}
	for _, l := range of {
		for _, m := range of {
			a, checkA := guarded(t, l)
			b, checkB := guarded(t, m)
			for _, x := range []struct {
				call string
				f    func() []api.Var
				want []api.Var
			}{
				{"Of", func() []api.Var { return Of(a...) }, Of(l...)},
				{"Over", func() []api.Var { return Over(a, b) }, Over(l, m)},
				{"Parse", func() []api.Var { v, _, _ := Parse(Text(Of(b...))); return v }, Of(m...)},
			} {
				got, again := x.f(), x.f()
				checkVars(t, x.call, got, x.want)
				got = got[:cap(got)]
				for i := range got {
					got[i] = api.Var{Key: "written", Val: "written"}
				}
				checkVars(t, x.call+", after another result was written,", again, x.want)
				checkA(x.call)
				checkB(x.call)
			}
			if Text(a) != Text(l) || Text(a) != Text(a) {
				t.Errorf("Text(%s) = %s", brief(l), cut(Text(a)))
			}
			checkGet(t, a, "HIDDEN", "", false)
			checkA("Text or Get")
		}
	}
}

// TestAnyArguments: promise P1, lists that are no environments, and very long ones: all calls end, and Of and Over return environments whatever they are given.
func TestAnyArguments(t *testing.T) {
	random := rand.New(rand.NewSource(124))
	var long []api.Var
	for range 100000 {
		key := make([]byte, random.Intn(4))
		for i := range key {
			key[i] = "aZ_09-\x00\xff ="[random.Intn(10)]
		}
		long = append(long, api.Var{Key: string(key), Val: strconv.Itoa(random.Intn(9))})
	}
	for at := 1; at <= len(long); at *= 3 {
		a, b := long[:at], long[len(long)-at:]
		for _, l := range [][]api.Var{Of(a...), Over(a, b), Over(b, a)} {
			if !isEnvironment(l) {
				t.Errorf("%s are no environment", brief(l))
			}
			checkRoundTrip(t, l...)
		}
		checkVars(t, "Over", Over(a, b), Of(slices.Concat(a, b)...))
		if got := Text(a); strings.Count(got, `="`) < at {
			t.Errorf("Text of %d variables has %d lines", at, strings.Count(got, "\n"))
		}
		Get(a, "-")
	}
}
