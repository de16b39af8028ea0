package name

import (
	"math/rand"
	"regexp"
	"slices"
	"sort"
	"strconv"
	"strings"
	"testing"

	"longshore/api"
)

const (
	lower  = "abcdefghijklmnopqrstuvwxyz"
	upper  = "ABCDEFGHIJKLMNOPQRSTUVWXYZ"
	digits = "0123456789"
)

// nameKind is a kind of names: the function that tells them, which bytes they begin with, and which ones follow.
type nameKind struct {
	call         string
	f            func(string) bool
	first, other string
}

func nameKinds() []nameKind {
	return []nameKind{
		{"Service", Service, lower + upper + digits, lower + upper + digits + "-_."},
		{"Variable", Variable, lower + upper + "_", lower + upper + digits + "_"},
		{"Project", Project, lower + digits, lower + digits + "-_"},
	}
}

func checkName(t *testing.T, k nameKind, s string, want bool) {
	t.Helper()
	if got := k.f(s); got != want {
		t.Errorf("%s(%q) = %t; want %t", k.call, s, got, want)
	}
}

// TestNames: promise 2.1, names of each kind and strings that are none.
func TestNames(t *testing.T) {
	for _, x := range []struct {
		s                          string
		service, variable, project bool
	}{
		{"web-1", true, false, true}, {"web", true, true, true}, {"a", true, true, true}, {"Web.x", true, false, false}, {"WEB", true, true, false}, {"aB", true, true, false},
		{"1", true, false, true}, {"1a", true, false, true}, {"12", true, false, true}, {"a1", true, true, true}, {"A_1", true, true, false}, {"a_1", true, true, true},
		{"_", false, true, false}, {"__", false, true, false}, {"_a", false, true, false}, {"_A1", false, true, false}, {"_1", false, true, false}, {"_-", false, false, false},
		{"a-", true, false, true}, {"a_", true, true, true}, {"a.", true, false, false}, {"a.b", true, false, false}, {"a--b", true, false, true}, {"0-_.", true, false, false},
		{"", false, false, false}, {"-", false, false, false}, {".", false, false, false}, {"-a", false, false, false}, {".a", false, false, false},
		{" ", false, false, false}, {"a b", false, false, false}, {" a", false, false, false}, {"a ", false, false, false}, {"a\n", false, false, false}, {"a\t", false, false, false},
		{"a\x00", false, false, false}, {"\x00", false, false, false}, {"a/b", false, false, false}, {"a:b", false, false, false}, {"a,b", false, false, false}, {"a=b", false, false, false}, {"a+b", false, false, false},
		{"\u00e9", false, false, false}, {"a\u00e9", false, false, false}, {"\u0661", false, false, false}, {"a\u0430", false, false, false}, {"a\xff", false, false, false}, {"\uff41", false, false, false},
	} {
		for i, want := range []bool{x.service, x.variable, x.project} {
			checkName(t, nameKinds()[i], x.s, want)
		}
	}
}

// TestNameBytes: promise 2.1, every byte as the only one, the first, the second, one in the middle and the last.
func TestNameBytes(t *testing.T) {
	for _, k := range nameKinds() {
		for b := range 256 {
			s := string([]byte{byte(b)})
			first, other := strings.Contains(k.first, s), strings.Contains(k.other, s)
			checkName(t, k, s, first)
			checkName(t, k, s+"a", first)
			checkName(t, k, s+strings.Repeat("a", api.MaxName-1), first)
			checkName(t, k, "a"+s, other)
			checkName(t, k, "ab"+s+"c", other)
			checkName(t, k, strings.Repeat("a", api.MaxName-1)+s, other)
		}
	}
}

// TestNameLengths: promises 2.1 and P1, no byte, each length up to MaxName and beyond, counted in bytes, and very long strings.
func TestNameLengths(t *testing.T) {
	for _, k := range nameKinds() {
		for n := range 3 * api.MaxName {
			checkName(t, k, strings.Repeat("a", n), 1 <= n && n <= api.MaxName)
			checkName(t, k, strings.Repeat("\u00e9", n), false)
		}
		checkName(t, k, "a"+strings.Repeat("_", api.MaxName-1), true)
		checkName(t, k, "a"+strings.Repeat("_", api.MaxName), false)
		checkName(t, k, strings.Repeat("a", api.MaxName)+"!", false)
		for _, n := range []int{256, 256 + 1, 1 << 16, 1<<16 + 1, 1 << 20} {
			checkName(t, k, strings.Repeat("a", n), false)
		}
	}
	if api.MaxName != 24 {
		t.Errorf("MaxName = %d", api.MaxName)
	}
}

// joined returns all strings of up to most of the pieces.
func joined(pieces []string, most int) []string {
	all, last := []string{""}, []string{""}
	for range most {
		var next []string
		for _, s := range last {
			for _, p := range pieces {
				next = append(next, s+p)
			}
		}
		all, last = append(all, next...), next
	}
	return all
}

// TestAllNames: promises 2.1 and 2.3, every string of up to five bytes of a few kinds against the patterns of the names; every project name is a service name.
func TestAllNames(t *testing.T) {
	patterns := []*regexp.Regexp{
		regexp.MustCompile(`^[a-zA-Z0-9][a-zA-Z0-9_.-]{0,23}\z`),
		regexp.MustCompile(`^[a-zA-Z_][a-zA-Z0-9_]{0,23}\z`),
		regexp.MustCompile(`^[a-z0-9][a-z0-9_-]{0,23}\z`),
	}
	for _, s := range joined(strings.Split("a z A Z 0 9 - _ . /", " "), 5) {
		for i, k := range nameKinds() {
			checkName(t, k, s, patterns[i].MatchString(s))
		}
		if Project(s) && !Service(s) {
			t.Errorf("%q is a project name, but no service name", s)
		}
	}
}

func checkList(t *testing.T, call string, got, want []string) {
	t.Helper()
	if len(got) != len(want) {
		t.Errorf("%s = %q; want %q", call, got, want)
		return
	}
	for i := range want {
		if got[i] != want[i] {
			t.Errorf("%s = %q; want %q", call, got, want)
			return
		}
	}
}

// TestSorted: promise 2.2, empty and nil lists, duplicates, and byte order.
func TestSorted(t *testing.T) {
	for _, x := range []struct{ l, want []string }{
		{nil, nil}, {[]string{}, nil}, {[]string{""}, []string{""}}, {[]string{"", ""}, []string{""}}, {[]string{"a"}, []string{"a"}},
		{[]string{"b", "a", "b"}, []string{"a", "b"}}, {[]string{"a", "b", "c"}, []string{"a", "b", "c"}}, {[]string{"c", "b", "a"}, []string{"a", "b", "c"}},
		{[]string{"a", "a", "a"}, []string{"a"}}, {[]string{"a", "a", "b", "b", "c", "c"}, []string{"a", "b", "c"}}, {[]string{"b", "a", "b", "a", "b"}, []string{"a", "b"}},
		{[]string{"ab", "a", "", "abc", "b"}, []string{"", "a", "ab", "abc", "b"}},
		{[]string{"a10", "a9", "a1", "10", "9"}, []string{"10", "9", "a1", "a10", "a9"}},
		{[]string{"a", "Z", "_", "A", "z", "0", "-", "."}, []string{"-", ".", "0", "A", "Z", "_", "a", "z"}},
		{[]string{"\xff", "\u00e9", "\U0001f600", "\uffff", "~", "\x00", "", "\x80"}, []string{"", "\x00", "~", "\x80", "\u00e9", "\uffff", "\U0001f600", "\xff"}},
		{[]string{"e\u0301", "\u00e9", "e"}, []string{"e", "e\u0301", "\u00e9"}}, {[]string{"a\x00", "a"}, []string{"a", "a\x00"}},
	} {
		checkList(t, "Sorted("+strconv.Quote(strings.Join(x.l, ","))+")", Sorted(x.l), x.want)
	}
}

// TestBothAndWithout: promise 2.2, empty and nil lists, lists in any order with duplicates, and lists that overlap or not.
func TestBothAndWithout(t *testing.T) {
	for _, x := range []struct{ a, b, both, without []string }{
		{nil, nil, nil, nil}, {[]string{}, nil, nil, nil}, {nil, []string{}, nil, nil}, {[]string{""}, nil, []string{""}, []string{""}}, {nil, []string{""}, []string{""}, nil},
		{[]string{"b", "a", "b"}, nil, []string{"a", "b"}, []string{"a", "b"}}, {nil, []string{"b", "a", "b"}, []string{"a", "b"}, nil},
		{[]string{"b", "a", "b"}, []string{"a"}, []string{"a", "b"}, []string{"b"}}, {[]string{"b", "a", "b"}, []string{"b"}, []string{"a", "b"}, []string{"a"}},
		{[]string{"a", "b"}, []string{"b", "a"}, []string{"a", "b"}, nil}, {[]string{"a", "b"}, []string{"d", "c"}, []string{"a", "b", "c", "d"}, []string{"a", "b"}},
		{[]string{"c", "a", "e"}, []string{"d", "c", "b", "c"}, []string{"a", "b", "c", "d", "e"}, []string{"a", "e"}},
		{[]string{"", "a"}, []string{""}, []string{"", "a"}, []string{"a"}}, {[]string{"a"}, []string{"A", "ab", ""}, []string{"", "A", "a", "ab"}, []string{"a"}},
		{[]string{"\xff", "z"}, []string{"\u00e9"}, []string{"z", "\u00e9", "\xff"}, []string{"z", "\xff"}},
	} {
		of := "(" + strconv.Quote(strings.Join(x.a, ",")) + ", " + strconv.Quote(strings.Join(x.b, ",")) + ")"
		checkList(t, "Both"+of, Both(x.a, x.b), x.both)
		checkList(t, "Without"+of, Without(x.a, x.b), x.without)
	}
}

// TestInAndAt: promise 2.2, strings that occur once, several times or not at all, in lists in any order.
func TestInAndAt(t *testing.T) {
	long := []string{"c", "a", "b", "a", "", "c", "Z"}
	for _, x := range []struct {
		l  []string
		s  string
		at int
	}{
		{nil, "", -1}, {nil, "a", -1}, {[]string{}, "", -1}, {[]string{}, "a", -1}, {[]string{""}, "", 0}, {[]string{""}, "a", -1}, {[]string{"a"}, "", -1},
		{long, "c", 0}, {long, "a", 1}, {long, "b", 2}, {long, "", 4}, {long, "Z", 6}, {long, "z", -1}, {long, "C", -1}, {long, "aa", -1}, {long, "d", -1}, {long, "\x00", -1},
		{[]string{"b", "b", "b"}, "b", 0}, {[]string{"a", "b", "b"}, "b", 1}, {[]string{"web-1", "web", "web-2"}, "web", 1}, {[]string{"web-1"}, "web", -1}, {[]string{"web"}, "web-1", -1},
		{[]string{"\u00e9"}, "e\u0301", -1}, {[]string{"\ufffd"}, "\xff", -1},
	} {
		if got := At(x.l, x.s); got != x.at {
			t.Errorf("At(%q, %q) = %d; want %d", x.l, x.s, got, x.at)
		}
		if got := In(x.l, x.s); got != (x.at >= 0) {
			t.Errorf("In(%q, %q) = %t", x.l, x.s, got)
		}
	}
}

// TestSame: promise 2.2, nil and empty lists, other lengths, another order, and another string at each index.
func TestSame(t *testing.T) {
	for _, x := range []struct {
		a, b []string
		want bool
	}{
		{nil, nil, true}, {nil, []string{}, true}, {[]string{}, []string{}, true}, {nil, []string{""}, false}, {[]string{""}, []string{""}, true}, {[]string{""}, []string{"", ""}, false},
		{[]string{"b", "a", "b"}, []string{"b", "a", "b"}, true}, {[]string{"a", "b"}, []string{"b", "a"}, false}, {[]string{"a", "b"}, []string{"a", "b", "b"}, false}, {[]string{"a"}, []string{"a", "a"}, false},
		{[]string{"a", "b", "c"}, []string{"x", "b", "c"}, false}, {[]string{"a", "b", "c"}, []string{"a", "x", "c"}, false}, {[]string{"a", "b", "c"}, []string{"a", "b", "x"}, false},
		{[]string{"a"}, []string{"A"}, false}, {[]string{"ab", "c"}, []string{"a", "bc"}, false}, {[]string{"a", ""}, []string{"a"}, false}, {[]string{"\xff"}, []string{"\ufffd"}, false},
	} {
		if got := Same(x.a, x.b); got != x.want {
			t.Errorf("Same(%q, %q) = %t; want %t", x.a, x.b, got, x.want)
		}
		if got := Same(x.b, x.a); got != x.want {
			t.Errorf("Same(%q, %q) = %t; want %t", x.b, x.a, got, x.want)
		}
	}
}

// lists returns all lists of up to most of the strings, in every order and with duplicates.
func lists(of []string, most int) [][]string {
	all, last := [][]string{nil}, [][]string{nil}
	for range most {
		var next [][]string
		for _, l := range last {
			for _, s := range of {
				next = append(next, append(slices.Clip(l), s))
			}
		}
		all, last = append(all, next...), next
	}
	return all
}

// places tells by a map where a list's strings occur first.
func places(l []string) map[string]int {
	at := map[string]int{}
	for i, s := range l {
		if _, known := at[s]; !known {
			at[s] = i
		}
	}
	return at
}

// chosen sorts the keys of a map that a condition holds for.
func chosen(at map[string]int, holds func(string) bool) []string {
	var l []string
	for s := range at {
		if holds(s) {
			l = append(l, s)
		}
	}
	sort.Strings(l)
	return l
}

// isAscending reports whether each string is greater than the one before it.
func isAscending(l []string) bool {
	for i := 1; i < len(l); i++ {
		if l[i-1] >= l[i] {
			return false
		}
	}
	return true
}

// checkPair holds what is answered for two lists against what maps of their strings tell, and promise 2.3.
func checkPair(t *testing.T, a, b []string, asked []string) {
	t.Helper()
	inA, inB, inAny := places(a), places(b), places(append(slices.Clip(a), b...))
	both, without := Both(a, b), Without(a, b)
	all := func(string) bool { return true }
	checkList(t, "Sorted", Sorted(a), chosen(inA, all))
	checkList(t, "Both", both, chosen(inAny, all))
	checkList(t, "Without", without, chosen(inA, func(s string) bool { _, no := inB[s]; return !no }))
	if !isAscending(both) || !isAscending(without) || !isAscending(Sorted(a)) {
		t.Errorf("not ascending for %q and %q", a, b)
	}
	for _, s := range asked {
		at, known := inA[s]
		if !known {
			at = -1
		}
		if At(a, s) != at || In(a, s) != known {
			t.Errorf("At(%q, %q) = %d, In %t", a, s, At(a, s), In(a, s))
		}
		if In(both, s) != (In(a, s) || In(b, s)) {
			t.Errorf("%q in Both(%q, %q): %t", s, a, b, In(both, s))
		}
		if In(without, s) != (In(a, s) && !In(b, s)) {
			t.Errorf("%q in Without(%q, %q): %t", s, a, b, In(without, s))
		}
	}
	same := len(a) == len(b)
	for i := 0; same && i < len(a); i++ {
		same = a[i] == b[i]
	}
	if Same(a, b) != same {
		t.Errorf("Same(%q, %q) = %t", a, b, !same)
	}
}

// TestAllShortLists: promises 2.2 and 2.3, all pairs of short lists, in every order and with duplicates.
func TestAllShortLists(t *testing.T) {
	all := lists([]string{"b", "", "a", "B"}, 4)
	for _, a := range all {
		for _, b := range all {
			checkPair(t, a, b, []string{"", "a", "b", "B", "c"})
		}
	}
}

// TestLongLists: promises 2.2, 2.3 and P1, long lists without order and with many duplicates.
func TestLongLists(t *testing.T) {
	random := rand.New(rand.NewSource(2))
	draw := func(n, most int) []string {
		l := make([]string, n)
		for i := range l {
			l[i] = strconv.Itoa(random.Intn(most))
		}
		return l
	}
	for _, n := range []int{13, 100, 1000, 50000} {
		for _, most := range []int{2, n / 2, 2 * n} {
			checkPair(t, draw(n, most), draw(n, most), draw(3, 2*most))
		}
	}
}

// guarded returns a list with other strings behind its length, and a check that neither these nor its own have changed.
func guarded(t *testing.T, l []string) ([]string, func(call string)) {
	whole := append(slices.Clone(l), "hidden", "a", "")
	before := slices.Clone(whole)
	return whole[:len(l)], func(call string) {
		t.Helper()
		if !slices.Equal(whole, before) {
			t.Errorf("%s changed its argument to %q; it was %q", call, whole, before)
		}
	}
}

// TestMemory: promise 2.2 with the rules on memory: no argument is modified, what is behind a length is not read, and no result shares memory with an argument or with another result.
func TestMemory(t *testing.T) {
	of := lists([]string{"b", "a"}, 3)
	for _, l := range of {
		for _, m := range of {
			a, checkA := guarded(t, l)
			b, checkB := guarded(t, m)
			for _, x := range []struct {
				call string
				f    func() []string
				want []string
			}{
				{"Sorted", func() []string { return Sorted(a) }, Sorted(l)},
				{"Both", func() []string { return Both(a, b) }, Both(l, m)},
				{"Without", func() []string { return Without(a, b) }, Without(l, m)},
			} {
				got, again := x.f(), x.f()
				checkList(t, x.call, got, x.want)
				got = got[:cap(got)]
				for i := range got {
					got[i] = "written"
				}
				checkList(t, x.call+", after another result was written,", again, x.want)
				checkA(x.call)
				checkB(x.call)
			}
			if In(a, "hidden") || At(a, "hidden") != -1 || Same(a, b) != slices.Equal(l, m) {
				t.Errorf("what is behind the length of %q or %q is read", l, m)
			}
			checkA("In, At or Same")
			checkB("In, At or Same")
		}
	}
}

// TestOneListTwice: promise 2.2, both arguments may be the same list, or overlap.
func TestOneListTwice(t *testing.T) {
	l, check := guarded(t, []string{"c", "a", "b", "a"})
	checkList(t, "Both", Both(l, l), []string{"a", "b", "c"})
	checkList(t, "Without", Without(l, l), nil)
	checkList(t, "Both", Both(l[:2], l[1:3]), []string{"a", "b", "c"})
	checkList(t, "Without", Without(l, l[2:]), []string{"c"})
	if !Same(l, l) || Same(l[:2], l[2:]) {
		t.Error("Same of one list")
	}
	check("Both or Without")
}
