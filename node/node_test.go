package node

import (
	"math/rand"
	"slices"
	"sort"
	"strconv"
	"strings"
	"testing"

	"longshore/api"
)

// The limits as the chapter writes them.
const (
	mostNest  = 12
	mostNodes = 2000
)

// text, seq and dict write nodes without the functions that are tested; dict takes a key and its value in turns.
func text(s string) api.Node { return api.Node{Kind: 1, Text: s} }

func seq(l ...api.Node) api.Node { return api.Node{Kind: 2, Kids: l} }

func dict(l ...any) api.Node {
	n := api.Node{Kind: 3}
	for i := 0; i < len(l); i += 2 {
		n.Keys, n.Kids = append(n.Keys, l[i].(string)), append(n.Kids, l[i+1].(api.Node))
	}
	return n
}

// show writes a node, valid or not, so that two nodes are written alike exactly if they are equal. Of nodes that have no end it writes a part.
func show(n api.Node) string {
	var b strings.Builder
	write(&b, n, 0)
	return b.String()
}

func write(b *strings.Builder, n api.Node, depth int) {
	if depth > 1<<17 || b.Len() > 1<<24 {
		b.WriteString("...")
		return
	}
	b.WriteString(strconv.Itoa(n.Kind))
	if n.Text != "" {
		b.WriteString(strconv.Quote(n.Text))
	}
	for _, key := range n.Keys {
		b.WriteString(":" + strconv.Quote(key))
	}
	b.WriteString("<")
	for _, kid := range n.Kids {
		write(b, kid, depth+1)
	}
	b.WriteString(">")
}

// brief cuts what show writes for a message.
func brief(n api.Node) string {
	s := show(n)
	if len(s) > 200 {
		return s[:200] + "... (" + strconv.Itoa(len(s)) + " bytes)"
	}
	return s
}

// tally counts the nodes of what show wrote, and how deep they are nested; no text and no key of these tests has its brackets.
func tally(n api.Node) (count, depth int) {
	open := 0
	for _, c := range show(n) {
		switch c {
		case '<':
			count++
			open++
			depth = max(depth, open)
		case '>':
			open--
		}
	}
	return count, depth
}

// isValid is what the chapter says of valid nodes.
func isValid(n api.Node) bool {
	count, depth := tally(n)
	return count <= mostNodes && depth <= mostNest && isClean(n)
}

// isClean is what the chapter says of the form of a node and of all nodes in it.
func isClean(n api.Node) bool {
	if n.Kind < 0 || n.Kind > 3 || n.Text != "" && n.Kind != 1 || len(n.Keys) > 0 && n.Kind != 3 || len(n.Kids) > 0 && n.Kind < 2 {
		return false
	}
	seen := map[string]int{}
	for _, key := range n.Keys {
		seen[key]++
	}
	if n.Kind == 3 && (len(n.Keys) != len(n.Kids) || len(seen) != len(n.Keys)) {
		return false
	}
	for _, kid := range n.Kids {
		if !isClean(kid) {
			return false
		}
	}
	return true
}

// sized returns all valid nodes of exactly count nodes, of a few texts and keys.
func sized(count int) []api.Node {
	if count == 1 {
		return []api.Node{{}, text(""), text("x"), seq(), dict()}
	}
	var all []api.Node
	for _, kids := range rows(count - 1) {
		all = append(all, seq(kids...))
		for _, keys := range choices([]string{"b", "", "a"}, len(kids)) {
			all = append(all, api.Node{Kind: 3, Keys: keys, Kids: kids})
		}
	}
	return all
}

// rows returns all lists of nodes that have exactly count nodes in all.
func rows(count int) [][]api.Node {
	if count == 0 {
		return [][]api.Node{nil}
	}
	var all [][]api.Node
	for first := 1; first <= count; first++ {
		for _, head := range sized(first) {
			for _, tail := range rows(count - first) {
				all = append(all, append([]api.Node{head}, tail...))
			}
		}
	}
	return all
}

// choices returns all lists of exactly length of the strings, each at most once.
func choices(of []string, length int) [][]string {
	if length == 0 {
		return [][]string{nil}
	}
	var all [][]string
	for i, s := range of {
		others := slices.Delete(slices.Clone(of), i, i+1)
		for _, tail := range choices(others, length-1) {
			all = append(all, append([]string{s}, tail...))
		}
	}
	return all
}

// small returns all valid nodes of up to most nodes.
func small(most int) []api.Node {
	var all []api.Node
	for count := 1; count <= most; count++ {
		all = append(all, sized(count)...)
	}
	return all
}

// draw returns a valid node of up to nodes nodes and up to nest deep.
func draw(random *rand.Rand, nodes, nest int) api.Node {
	kind := 2 + random.Intn(2)
	if nodes < 2 || nest < 2 || random.Intn(8) == 0 {
		kind = random.Intn(4)
	}
	n := api.Node{Kind: kind}
	if kind == 1 {
		n.Text = "t" + strconv.Itoa(random.Intn(100))
	}
	for room := nodes - 1; kind >= 2 && nest > 1 && room > 0 && random.Intn(10) > 0; {
		kid := draw(random, 1+random.Intn(room), nest-1)
		count, _ := tally(kid)
		room -= count
		n.Kids = append(n.Kids, kid)
		if kind == 3 {
			n.Keys = append(n.Keys, strconv.Itoa(random.Intn(1000))+"k"+strconv.Itoa(len(n.Kids)))
		}
	}
	return n
}

// drawn calls a function with nodes of many sizes and depths, from a fixed seed.
func drawn(seed int64, f func(random *rand.Rand, n api.Node)) {
	random := rand.New(rand.NewSource(seed))
	for i := range 400 {
		f(random, draw(random, 1+random.Intn(60), 1+i%mostNest))
	}
	for range 20 {
		f(random, draw(random, mostNodes, mostNest))
	}
}

// everywhere calls a function with n in which v stands in the place of each node in turn.
func everywhere(n, v api.Node, f func(api.Node)) {
	f(v)
	for i, kid := range n.Kids {
		everywhere(kid, v, func(other api.Node) {
			kids := slices.Clone(n.Kids)
			kids[i] = other
			f(api.Node{Kind: n.Kind, Text: n.Text, Keys: n.Keys, Kids: kids})
		})
	}
}

// nested returns n within levels of sequences and maps, by the pattern: "s" for a sequence, "m" for a map.
func nested(n api.Node, levels int, pattern string) api.Node {
	for i := range levels {
		if pattern[i%len(pattern)] == 's' {
			n = seq(n)
		} else {
			n = dict("k", n)
		}
	}
	return n
}

// wide returns a map with as many keys, "0" and on, to Null.
func wide(keys int) api.Node {
	n := api.Node{Kind: 3, Kids: make([]api.Node, keys)}
	for i := range keys {
		n.Keys = append(n.Keys, strconv.Itoa(i))
	}
	return n
}

// ringed returns sequences and maps that contain themselves, alone or many times.
func ringed() []api.Node {
	var all []api.Node
	for _, length := range []int{1, 2, 3, 1000} {
		kids := make([]api.Node, length)
		keys := wide(length).Keys
		for i := range kids {
			kids[i] = api.Node{Kind: 2 + i%2, Kids: kids}
			if i%2 == 1 {
				kids[i].Keys = keys
			}
		}
		all = append(all, seq(kids...), seq(text("x"), kids[0], text("y")), api.Node{Kind: 3, Keys: keys, Kids: kids}, dict("a", text("x"), "b", kids[0]))
	}
	return all
}

// shared returns nodes without an end to be reached: their kids are a thousand times the same node, level by level.
func shared() []api.Node {
	var all []api.Node
	for _, levels := range []int{11, 12, 40} {
		n := text("x")
		for range levels {
			kids := make([]api.Node, 1000)
			for i := range kids {
				kids[i] = n
			}
			n = seq(kids...)
		}
		all = append(all, n, dict("a", n))
	}
	return all
}

// checkNode checks a node that is returned.
func checkNode(t *testing.T, call string, got, want api.Node) {
	t.Helper()
	if show(got) != show(want) {
		t.Errorf("%s = %s; want %s", call, brief(got), brief(want))
	}
}

func checkRight(t *testing.T, n api.Node, want bool) {
	t.Helper()
	if got := Right(n); got != want {
		t.Errorf("Right(%s) = %t; want %t", brief(n), got, want)
	}
}

// TestRightForms: promise 8.1, each kind with each field that is not its own, and kinds that are none.
func TestRightForms(t *testing.T) {
	a, one := []string{"a"}, []api.Node{text("x")}
	for _, n := range []api.Node{
		{}, {Kind: 1}, {Kind: 1, Text: "x"}, {Kind: 1, Text: "\x00\xff\n"}, {Kind: 2}, {Kind: 2, Kids: one}, {Kind: 3}, {Kind: 3, Keys: a, Kids: one},
		{Keys: []string{}, Kids: []api.Node{}}, {Kind: 1, Keys: []string{}, Kids: []api.Node{}}, {Kind: 2, Keys: []string{}, Kids: []api.Node{}}, {Kind: 3, Keys: []string{}, Kids: []api.Node{}}, {Kind: 3, Keys: []string{}}, {Kind: 3, Kids: []api.Node{}},
		{Kind: 3, Keys: []string{""}, Kids: one}, dict("", text(""), "a", text("")), dict("a", seq(), "b", dict(), "c", api.Node{}), dict("a", text("x"), "A", text("x"), "a ", text("x"), "\xff", text("x")),
		dict("a", dict("a", dict("a", text("a")))), seq(seq(), seq(seq()), dict()), text(strings.Repeat("x", 1<<20)), dict(strings.Repeat("x", 1<<20), text("x")),
	} {
		checkRight(t, n, true)
	}
	for _, n := range []api.Node{
		{Kind: -1}, {Kind: 4}, {Kind: 5}, {Kind: -4}, {Kind: 1 << 32}, {Kind: 1<<32 + 1}, {Kind: -1 << 63}, {Kind: 1<<63 - 1}, {Kind: 4, Text: "x"}, {Kind: 4, Kids: one}, {Kind: -1, Keys: a, Kids: one},
		{Text: "x"}, {Keys: a}, {Keys: []string{""}}, {Kids: one}, {Kids: []api.Node{{}}}, {Keys: a, Kids: one},
		{Kind: 1, Keys: a}, {Kind: 1, Kids: one}, {Kind: 1, Text: "x", Keys: a}, {Kind: 1, Text: "x", Keys: []string{""}}, {Kind: 1, Text: "x", Kids: one}, {Kind: 1, Text: "x", Kids: []api.Node{{}}}, {Kind: 1, Keys: a, Kids: one},
		{Kind: 2, Text: "x"}, {Kind: 2, Text: "x", Kids: one}, {Kind: 2, Keys: a}, {Kind: 2, Keys: []string{""}}, {Kind: 2, Keys: a, Kids: one},
		{Kind: 3, Text: "x"}, {Kind: 3, Text: "x", Keys: a, Kids: one}, {Kind: 3, Keys: a}, {Kind: 3, Keys: []string{""}}, {Kind: 3, Kids: one}, {Kind: 3, Kids: []api.Node{{}}},
		{Kind: 3, Keys: []string{"a", "b"}, Kids: one}, {Kind: 3, Keys: a, Kids: []api.Node{{}, {}}}, {Kind: 3, Keys: []string{"a", "b", "c"}, Kids: []api.Node{{}, {}}}, {Kind: 3, Keys: []string{"a", "b"}, Kids: []api.Node{{}, {}, {}}},
		dict("a", text("x"), "a", text("x")), dict("a", text("x"), "a", text("y")), dict("", text("x"), "", text("x")), dict("a", text("x"), "b", text("x"), "a", text("x")), dict("b", text("x"), "a", text("x"), "a", text("x")), dict("a", text("x"), "b", text("x"), "c", text("x"), "b", text("x")),
	} {
		checkRight(t, n, false)
	}
}

// raws calls a function with all nodes, valid or not, that have these kids.
func raws(kids []api.Node, f func(api.Node)) {
	for kind := -1; kind <= 4; kind++ {
		for _, s := range []string{"", "x"} {
			for _, keys := range [][]string{nil, {""}, {"a"}, {"a", "b"}, {"a", "a"}, {"b", "a", ""}} {
				f(api.Node{Kind: kind, Text: s, Keys: keys, Kids: kids})
			}
		}
	}
}

// bare returns all nodes, valid or not, of raws without kids.
func bare() []api.Node {
	var all []api.Node
	raws(nil, func(n api.Node) { all = append(all, n) })
	return all
}

// TestRightAll: promise 8.1, all nodes of a few fields with up to two such nodes as kids, and some with three.
func TestRightAll(t *testing.T) {
	count := 0
	check := func(n api.Node) {
		if Right(n) != isValid(n) {
			checkRight(t, n, isValid(n))
		}
		count++
	}
	all := bare()
	raws(nil, check)
	for _, a := range all {
		raws([]api.Node{a}, check)
		raws([]api.Node{text("x"), seq(dict("k", a)), {}}, check)
		for _, b := range all {
			raws([]api.Node{a, b}, check)
		}
	}
	if count < 300000 {
		t.Error(count)
	}
}

// TestRightDeepFaults: promise 8.1, each invalid node at each place of a valid one.
func TestRightDeepFaults(t *testing.T) {
	invalid := []api.Node{seq(wide(1000), wide(1000)), nested(text("x"), 12, "sm"), dict("a", api.Node{}, "b", api.Node{}, "a", api.Node{}), seq(text("x"), api.Node{Text: "x"})}
	for _, n := range bare() {
		if !isValid(n) {
			invalid = append(invalid, n)
		}
	}
	whole := seq(text("x"), dict("a", seq(dict(), nested(seq(text("x"), text("y")), 5, "sm"), api.Node{}), "b", dict("c", text("x"), "", seq()), "c", text("z")))
	checkRight(t, whole, true)
	for _, v := range append(invalid, ringed()...) {
		everywhere(whole, v, func(n api.Node) { checkRight(t, n, false) })
	}
	for _, v := range small(2) {
		everywhere(whole, v, func(n api.Node) { checkRight(t, n, true) })
	}
}

// TestRightNesting: promise 8.1, depths of 12 and of 13, by sequences, by maps and by both, above each kind of node, at the first and the last place of a node.
func TestRightNesting(t *testing.T) {
	for _, leaf := range []api.Node{{}, text(""), text("x"), seq(), dict()} {
		for _, pattern := range []string{"s", "m", "sm", "ms", "ssm", "mms", "sssm"} {
			for levels := range 20 {
				n := nested(leaf, levels, pattern)
				checkRight(t, n, levels < mostNest)
				for _, v := range []api.Node{seq(n, text("x")), seq(text("x"), n), dict("a", n, "b", text("x")), dict("a", text("x"), "b", seq(), "c", n), seq(n, n), seq(seq(), n, dict())} {
					checkRight(t, v, levels+1 < mostNest)
				}
			}
			for _, levels := range []int{1 << 10, 1 << 16, 1<<16 + 1, 1 << 17} {
				checkRight(t, nested(leaf, levels, pattern), false)
			}
		}
	}
}

// TestRightNodes: promise 8.1, 2000 and 2001 nodes, in nodes of several shapes, and far more.
func TestRightNodes(t *testing.T) {
	for _, count := range []int{1998, 1999, 2000, 2001, 2002, 2003, 4000, 1 << 16, 1<<16 + 1, 1<<16 + 2} {
		kids := make([]api.Node, count-1)
		if count%2 == 0 {
			for i := range kids {
				kids[i] = text("x")
			}
		}
		few := slices.Clone(kids[:count-11])
		for _, n := range []api.Node{seq(kids...), wide(count - 1), seq(seq(kids[1:]...)), seq(wide(count - 2)), dict("a", seq(kids[2:]...), "b", text("x")), dict("a", text("x"), "b", wide(count-3)), seq(append(slices.Clone(kids[2:]), seq(seq()))...), nested(seq(few...), 10, "s"), nested(wide(count-11), 10, "ms"), seq(seq(kids[:count/2]...), seq(kids[count/2:count-3]...)), seq(wide(count/2), wide(count-3-count/2))} {
			if got, _ := tally(n); got != count {
				t.Fatalf("%d nodes; want %d", got, count)
			}
			checkRight(t, n, count <= mostNodes)
		}
	}
	checkRight(t, seq(make([]api.Node, 1<<20)...), false)
	checkRight(t, wide(1<<20), false)
	pairs := make([]api.Node, 1000)
	for i := range pairs {
		pairs[i] = seq(text("x"))
	}
	checkRight(t, seq(pairs...), false)
	checkRight(t, seq(pairs[1:]...), true)
	checkRight(t, seq(append(pairs[1:], text("x"))...), true)
	checkRight(t, seq(append(pairs[1:], text("x"), text("x"))...), false)
	many := wide(1999)
	checkRight(t, many, true)
	many.Keys[1998] = "0"
	checkRight(t, many, false)
	many.Keys[1998] = "1997"
	checkRight(t, many, false)
	checkRight(t, api.Node{Kind: 3, Keys: make([]string, 1<<22), Kids: make([]api.Node, 1)}, false)
	checkRight(t, api.Node{Kind: 3, Keys: []string{"a"}, Kids: make([]api.Node, 1<<22)}, false)
}

// TestRightEnds: promises 8.1 and P1, nodes that contain themselves, and those that contain one node many times.
func TestRightEnds(t *testing.T) {
	for _, n := range append(ringed(), shared()...) {
		if Right(n) {
			t.Error("a node without an end is valid")
		}
	}
	x := dict("a", text("x"))
	checkRight(t, seq(x, x, seq(x, x)), true)
}

// TestRightDrawn: promise 8.1, drawn nodes, which are valid.
func TestRightDrawn(t *testing.T) {
	drawn(81, func(random *rand.Rand, n api.Node) {
		checkRight(t, n, true)
		if !isValid(n) {
			t.Errorf("a drawn node is not valid: %s", brief(n))
		}
	})
}

func checkSame(t *testing.T, a, b api.Node, want bool) {
	t.Helper()
	if got := Same(a, b); got != want {
		t.Errorf("Same(%s, %s) = %t; want %t", brief(a), brief(b), got, want)
	}
	if got := Same(b, a); got != want {
		t.Errorf("Same(%s, %s) = %t; want %t", brief(b), brief(a), got, want)
	}
}

// TestSameNamed: promise 8.1, the order of keys and of kids, and nil and empty slices.
func TestSameNamed(t *testing.T) {
	x, y := text("x"), text("y")
	for _, l := range [][2]api.Node{
		{{}, {}}, {x, x}, {seq(), seq()}, {dict(), dict()}, {dict("a", x, "b", y), dict("a", x, "b", y)}, {seq(x, y), seq(x, y)},
		{{}, {Keys: []string{}, Kids: []api.Node{}}}, {x, {Kind: 1, Text: "x", Keys: []string{}, Kids: []api.Node{}}}, {{Kind: 2}, {Kind: 2, Keys: []string{}, Kids: []api.Node{}}}, {{Kind: 3}, {Kind: 3, Keys: []string{}, Kids: []api.Node{}}}, {{Kind: 3, Keys: []string{}}, {Kind: 3, Kids: []api.Node{}}},
		{seq(seq()), seq(api.Node{Kind: 2, Kids: []api.Node{}})}, {dict("a", dict()), dict("a", api.Node{Kind: 3, Keys: []string{}, Kids: []api.Node{}})},
	} {
		checkSame(t, l[0], l[1], true)
	}
	for _, l := range [][2]api.Node{
		{{}, text("")}, {{}, seq()}, {{}, dict()}, {text(""), seq()}, {text(""), dict()}, {seq(), dict()}, {x, y}, {x, text("X")}, {x, text("xx")}, {x, text("")}, {text("\xff"), text("\ufffd")}, {text("a\x00"), text("a")},
		{seq(x), x}, {seq(x), seq(y)}, {seq(x), seq()}, {seq(x), seq(x, x)}, {seq(x, y), seq(y, x)}, {seq(seq(x), y), seq(seq(x, y))}, {seq(seq(x), seq(y)), seq(seq(x, y), seq())}, {seq(x, y, x), seq(x, y, y)}, {seq(x, y, x), seq(x, x, x)}, {seq(x, y, x), seq(y, y, x)}, {seq(api.Node{}), seq()}, {seq(api.Node{}), seq(text(""))},
		{dict("a", x, "b", y), dict("b", y, "a", x)}, {dict("a", x, "b", y), dict("a", y, "b", x)}, {dict("a", x, "b", y), dict("b", x, "a", y)}, {dict("a", x), dict("b", x)}, {dict("a", x), dict("A", x)}, {dict("a", x), dict("a", y)}, {dict("a", x), dict("", x)}, {dict("a", x), dict("a", x, "b", x)}, {dict("a", api.Node{}), dict()}, {dict("a", x), seq(x)},
		{dict("a", dict("b", x, "c", y)), dict("a", dict("c", y, "b", x))}, {seq(dict("b", x, "c", y)), seq(dict("c", y, "b", x))}, {dict("ab", x, "c", y), dict("a", x, "bc", y)},
	} {
		checkSame(t, l[0], l[1], false)
	}
}

// TestSameAll: promise 8.1, all pairs of nodes of up to three nodes.
func TestSameAll(t *testing.T) {
	all := small(3)
	for i, a := range all {
		for j, b := range all {
			if Same(a, b) != (i == j) {
				checkSame(t, a, b, i == j)
			}
		}
	}
	for _, n := range small(4) {
		checkSame(t, n, copied(n), true)
	}
}

// copied returns a node that shares no memory with n.
func copied(n api.Node) api.Node {
	other := api.Node{Kind: n.Kind, Text: strings.Clone(n.Text), Keys: append([]string{}, n.Keys...)}
	for _, kid := range n.Kids {
		other.Kids = append(other.Kids, copied(kid))
	}
	return other
}

// TestSameDrawn: promise 8.1, drawn nodes, with one node in them exchanged, whose keys are in another order, and whose kids are.
func TestSameDrawn(t *testing.T) {
	for _, n := range []api.Node{wide(1999), nested(seq(text("x"), text("y")), 10, "sm")} {
		checkSame(t, n, copied(n), true)
	}
	random := rand.New(rand.NewSource(82))
	for i := range 300 {
		n := draw(random, 1+random.Intn(40), 1+i%mostNest)
		checkSame(t, n, copied(n), true)
		everywhere(n, text("other"), func(m api.Node) { checkSame(t, n, m, false) })
		if last := len(n.Kids) - 1; last > 0 {
			m := copied(n)
			m.Kids[0], m.Kids[last] = m.Kids[last], m.Kids[0]
			checkSame(t, n, m, show(n.Kids[0]) == show(n.Kids[last]))
			m = copied(n)
			slices.Reverse(m.Keys)
			checkSame(t, n, m, n.Kind == 2)
		}
	}
}

func checkSize(t *testing.T, n api.Node, count, depth int) {
	t.Helper()
	if Count(n) != count || Deep(n) != depth {
		t.Errorf("Count(%s) = %d, Deep %d; want %d, %d", brief(n), Count(n), Deep(n), count, depth)
	}
}

// TestCountAndDeep: promise 8.1, Null, a text, empty and nested sequences and maps, all small nodes, drawn ones, and the greatest.
func TestCountAndDeep(t *testing.T) {
	x := text("x")
	checkSize(t, api.Node{}, 1, 1)
	checkSize(t, text(""), 1, 1)
	checkSize(t, x, 1, 1)
	checkSize(t, seq(), 1, 1)
	checkSize(t, dict(), 1, 1)
	checkSize(t, seq(api.Node{}), 2, 2)
	checkSize(t, dict("a", api.Node{}), 2, 2)
	checkSize(t, seq(seq(), dict()), 3, 2)
	checkSize(t, seq(x, x, x), 4, 2)
	checkSize(t, dict("a", x, "b", x), 3, 2)
	checkSize(t, dict("a", seq(x, dict("b", text("y")))), 5, 4)
	checkSize(t, seq(seq(seq(x)), seq(x)), 6, 4)
	checkSize(t, seq(seq(x), seq(seq(x))), 6, 4)
	checkSize(t, seq(seq(x), seq(seq(x)), x), 7, 4)
	checkSize(t, dict("a", dict("b", dict("c", dict()))), 4, 4)
	checkSize(t, seq(make([]api.Node, 1999)...), 2000, 2)
	checkSize(t, wide(1999), 2000, 2)
	checkSize(t, seq(nested(x, 10, "s"), wide(1986)), 1+11+1987, 12)
	for levels := range mostNest {
		for _, pattern := range []string{"s", "m", "sm"} {
			checkSize(t, nested(x, levels, pattern), levels+1, levels+1)
		}
	}
	for _, n := range small(4) {
		count, depth := tally(n)
		checkSize(t, n, count, depth)
	}
	drawn(83, func(random *rand.Rand, n api.Node) {
		count, depth := tally(n)
		checkSize(t, n, count, depth)
	})
}

// TestTextAndSeq: promise 8.1, texts and sequences, also such that are not valid.
func TestTextAndSeq(t *testing.T) {
	for _, s := range []string{"", "x", "null", "a b\n\x00\xff", strings.Repeat("x", 1<<16)} {
		checkNode(t, "Text", Text(s), api.Node{Kind: 1, Text: s})
	}
	checkNode(t, "Seq()", Seq(), api.Node{Kind: 2})
	all := small(3)
	for i, n := range all {
		checkNode(t, "Seq", Seq(n), api.Node{Kind: 2, Kids: []api.Node{n}})
		checkNode(t, "Seq", Seq(all[:i]...), api.Node{Kind: 2, Kids: all[:i]})
	}
	deep := nested(text("x"), 11, "s")
	checkNode(t, "Seq", Seq(deep), api.Node{Kind: 2, Kids: []api.Node{deep}})
	checkNode(t, "Seq", Seq(make([]api.Node, 2000)...), api.Node{Kind: 2, Kids: make([]api.Node, 2000)})
}

// checkMap checks the map of keys and kids, or that there is none.
func checkMap(t *testing.T, keys []string, kids []api.Node, valid bool) {
	t.Helper()
	want := api.Node{}
	if valid {
		want = api.Node{Kind: 3, Keys: keys, Kids: kids}
	}
	checkNode(t, "Map("+strings.Join(keys, ",")+", "+brief(seq(kids...))+")", Map(keys, kids), want)
}

// TestMap: promise 8.1, no key, and keys and kids that make a valid node or none.
func TestMap(t *testing.T) {
	x := text("x")
	checkMap(t, nil, nil, true)
	checkMap(t, []string{}, nil, true)
	checkMap(t, nil, []api.Node{}, true)
	checkMap(t, []string{""}, []api.Node{x}, true)
	checkMap(t, []string{"b", "a"}, []api.Node{x, {}}, true)
	checkMap(t, []string{"b", "a", ""}, []api.Node{seq(x), dict("b", x), {}}, true)
	checkMap(t, []string{"a"}, nil, false)
	checkMap(t, nil, []api.Node{x}, false)
	checkMap(t, []string{"a", "b"}, []api.Node{x}, false)
	checkMap(t, []string{"a"}, []api.Node{x, x}, false)
	checkMap(t, []string{"a", "a"}, []api.Node{x, x}, false)
	checkMap(t, []string{"a", "b", "a"}, []api.Node{x, {}, x}, false)
	checkMap(t, []string{"", ""}, []api.Node{x, x}, false)
	for _, pattern := range []string{"s", "m", "ms"} {
		checkMap(t, []string{"a"}, []api.Node{nested(x, 10, pattern)}, true)
		checkMap(t, []string{"a"}, []api.Node{nested(x, 11, pattern)}, false)
		checkMap(t, []string{"a", "b"}, []api.Node{x, nested(x, 11, pattern)}, false)
	}
	for _, length := range []int{1998, 1999, 2000, 2001, 1 << 16} {
		n := wide(length)
		checkMap(t, n.Keys, n.Kids, length <= 1999)
		checkMap(t, []string{"a"}, []api.Node{seq(n.Kids[1:]...)}, length <= 1999)
		checkMap(t, []string{"a", "b"}, []api.Node{x, seq(n.Kids[2:]...)}, length <= 1999)
	}
}

// TestMapAll: promises 8.1 and P1, all lists of a few keys and kids, valid or not.
func TestMapAll(t *testing.T) {
	for _, n := range append(bare(), seq(x13()), dict("a", text("x"), "a", text("x"))) {
		raws([]api.Node{n}, func(m api.Node) {
			checkMap(t, m.Keys, m.Kids, isValid(api.Node{Kind: 3, Keys: m.Keys, Kids: m.Kids}))
		})
		raws([]api.Node{{}, n, seq(n)}, func(m api.Node) {
			checkMap(t, m.Keys, m.Kids, isValid(api.Node{Kind: 3, Keys: m.Keys, Kids: m.Kids}))
		})
	}
	for _, n := range append(ringed(), shared()...) {
		if m := Map([]string{"a", "b"}, []api.Node{n, text("x")}); show(m) != show(api.Node{}) {
			t.Error("a map of a node without an end")
		}
	}
}

// x13 returns a node that is one level too deep.
func x13() api.Node { return nested(text("x"), 12, "s") }

// pair is a key with its value.
type pair struct {
	key string
	val api.Node
}

// pairs returns the keys and values of a map.
func pairs(n api.Node) []pair {
	var l []pair
	for i, key := range n.Keys {
		l = append(l, pair{key, n.Kids[i]})
	}
	return l
}

// unpaired returns the map of keys and values.
func unpaired(l []pair) api.Node {
	n := api.Node{Kind: 3}
	for _, p := range l {
		n.Keys, n.Kids = append(n.Keys, p.key), append(n.Kids, p.val)
	}
	return n
}

func checkGet(t *testing.T, n api.Node, key string, want api.Node, found bool) {
	t.Helper()
	got, ok := Get(n, key)
	if show(got) != show(want) || ok != found {
		t.Errorf("Get(%s, %q) = %s, %t; want %s, %t", brief(n), key, brief(got), ok, brief(want), found)
	}
}

// TestGet: promise 8.2, a key that is first, in the middle, last and missing, and nodes of each other kind.
func TestGet(t *testing.T) {
	n := dict("b", text("x"), "a", seq(text("y")), "", dict("d", text("z")), "c", api.Node{})
	checkGet(t, n, "b", text("x"), true)
	checkGet(t, n, "a", seq(text("y")), true)
	checkGet(t, n, "", dict("d", text("z")), true)
	checkGet(t, n, "c", api.Node{}, true)
	for _, key := range []string{"d", "B", "b ", "ab", "x", "0", "\x00", "\xff"} {
		checkGet(t, n, key, api.Node{}, false)
	}
	for _, key := range []string{"", "a", "x", "0", "1", "2"} {
		for _, other := range []api.Node{{}, text(""), text("x"), text("a"), seq(), seq(text("a")), seq(text("x"), text("y"), seq(), dict("a", text("x"))), dict()} {
			checkGet(t, other, key, api.Node{}, false)
		}
	}
	many := wide(1999)
	many.Kids[0], many.Kids[1000], many.Kids[1998] = text("first"), text("middle"), text("last")
	checkGet(t, many, "0", text("first"), true)
	checkGet(t, many, "1000", text("middle"), true)
	checkGet(t, many, "1998", text("last"), true)
	checkGet(t, many, "1997", api.Node{}, true)
	checkGet(t, many, "1999", api.Node{}, false)
	checkGet(t, many, "01", api.Node{}, false)
}

func checkWith(t *testing.T, n api.Node, key string, v, want api.Node) {
	t.Helper()
	checkNode(t, "With("+brief(n)+", "+strconv.Quote(key)+", "+brief(v)+")", With(n, key, v), want)
}

// TestWith: promise 8.2, a new key, which is appended after all others, an existing one, which is replaced in its place, and nodes of each other kind.
func TestWith(t *testing.T) {
	x, y := text("x"), text("y")
	checkWith(t, dict(), "a", x, dict("a", x))
	checkWith(t, dict("b", x), "a", y, dict("b", x, "a", y))
	checkWith(t, dict("b", x, "c", x), "a", y, dict("b", x, "c", x, "a", y))
	checkWith(t, dict("b", x), "", y, dict("b", x, "", y))
	checkWith(t, dict("b", x, "a", x, "c", x), "b", y, dict("b", y, "a", x, "c", x))
	checkWith(t, dict("b", x, "a", x, "c", x), "a", y, dict("b", x, "a", y, "c", x))
	checkWith(t, dict("b", x, "a", x, "c", x), "c", y, dict("b", x, "a", x, "c", y))
	checkWith(t, dict("", x, "a", x), "", y, dict("", y, "a", x))
	checkWith(t, dict("a", x), "a", x, dict("a", x))
	checkWith(t, dict("a", x), "a", api.Node{}, dict("a", api.Node{}))
	checkWith(t, dict("a", seq(x)), "a", dict("b", y), dict("a", dict("b", y)))
	checkWith(t, api.Node{}, "a", x, dict("a", x))
	checkWith(t, api.Node{}, "", api.Node{}, dict("", api.Node{}))
	checkWith(t, api.Node{Keys: []string{}, Kids: []api.Node{}}, "a", x, dict("a", x))
	for _, n := range []api.Node{text(""), x, text("a"), seq(), seq(x), seq(dict("a", x))} {
		for _, key := range []string{"", "a", "x", "0"} {
			checkWith(t, n, key, y, n)
		}
	}
	n := dict("a", x)
	checkWith(t, n, "a", n, dict("a", dict("a", x)))
	checkWith(t, n, "b", n, dict("a", x, "b", dict("a", x)))
	checkWith(t, n, "b", nested(x, 11, "s"), dict("a", x, "b", nested(x, 11, "s")))
	full := wide(1999)
	checkWith(t, full, "a", x, unpaired(append(pairs(full), pair{"a", x})))
}

func checkLess(t *testing.T, n api.Node, key string, want api.Node) {
	t.Helper()
	checkNode(t, "Less("+brief(n)+", "+strconv.Quote(key)+")", Less(n, key), want)
}

// TestLess: promise 8.2, a key that is first, in the middle, last, the only one and missing, and nodes of each other kind.
func TestLess(t *testing.T) {
	x, y, z := text("x"), text("y"), text("z")
	n := dict("b", x, "a", y, "", z)
	checkLess(t, n, "b", dict("a", y, "", z))
	checkLess(t, n, "a", dict("b", x, "", z))
	checkLess(t, n, "", dict("b", x, "a", y))
	checkLess(t, dict("a", x), "a", dict())
	for _, other := range []api.Node{{}, text(""), x, text("a"), seq(), seq(x), seq(text("a"), dict("a", x)), dict(), dict("b", x), dict("b", x, "c", dict("a", y)), dict("A", x, "aa", x)} {
		checkLess(t, other, "a", other)
	}
	checkLess(t, n, "c", n)
	many := wide(1999)
	for _, i := range []int{0, 1, 1000, 1997, 1998} {
		checkLess(t, many, strconv.Itoa(i), unpaired(slices.Delete(pairs(many), i, i+1)))
	}
	checkLess(t, many, "1999", many)
}

// checkKey holds Get, With and Less of a key and a value against lists of pairs, and promise 8.4 for all asked keys.
func checkKey(t *testing.T, n api.Node, key string, v api.Node, asked []string) {
	t.Helper()
	with := With(n, key, v)
	if n.Kind == 1 || n.Kind == 2 {
		checkNode(t, "With", with, n)
		checkNode(t, "Less", Less(n, key), n)
		checkGet(t, n, key, api.Node{}, false)
		return
	}
	l := pairs(n)
	at := slices.IndexFunc(l, func(p pair) bool { return p.key == key })
	if at < 0 {
		checkNode(t, "With", with, unpaired(append(l, pair{key, v})))
		checkNode(t, "Less", Less(n, key), n)
		checkGet(t, n, key, api.Node{}, false)
	} else {
		checkGet(t, n, key, l[at].val, true)
		l[at].val = v
		checkNode(t, "With", with, unpaired(l))
		checkNode(t, "Less", Less(n, key), unpaired(slices.Delete(l, at, at+1)))
	}
	checkGet(t, with, key, v, true)
	for _, other := range asked {
		if other != key {
			before, had := Get(n, other)
			checkGet(t, with, other, before, had)
			checkGet(t, Less(n, key), other, before, had)
		}
	}
	checkNode(t, "Less of With", Less(With(Less(n, key), key, v), key), unpaired(pairs(Less(n, key))))
	checkGet(t, Less(n, key), key, api.Node{}, false)
}

// TestKeysAll: promises 8.2 and 8.4, all small nodes with all small values by known and unknown keys.
func TestKeysAll(t *testing.T) {
	keys := []string{"", "a", "b", "c"}
	for _, n := range small(4) {
		for _, key := range keys {
			checkKey(t, n, key, text("y"), keys)
		}
	}
	for _, n := range small(3) {
		for _, key := range keys {
			for _, v := range small(2) {
				checkKey(t, n, key, v, keys)
			}
		}
	}
}

// TestKeysDrawn: promises 8.2 and 8.4, drawn nodes with drawn values by their own keys and by others.
func TestKeysDrawn(t *testing.T) {
	drawn(84, func(random *rand.Rand, n api.Node) {
		v := draw(random, 20, mostNest)
		asked := append([]string{"", "0k1", "500k1", "zz"}, n.Keys...)
		for range 4 {
			checkKey(t, n, asked[random.Intn(len(asked))], v, asked)
		}
	})
}

// found collects what stands at each path of a node, with all paths written as their lengths and elements.
func found(n api.Node, path string, at map[string]api.Node) {
	at[path] = n
	for i, kid := range n.Kids {
		step := strconv.Itoa(i)
		if n.Kind == 3 {
			step = n.Keys[i]
		}
		found(kid, path+"/"+strconv.Quote(step), at)
	}
}

func checkAt(t *testing.T, n api.Node, path []string, want api.Node, ok bool) {
	t.Helper()
	if got, gotOk := At(n, path...); show(got) != show(want) || gotOk != ok {
		t.Errorf("At(%s, %q) = %s, %t; want %s, %t", brief(n), path, brief(got), gotOk, brief(want), ok)
	}
}

// TestAt: promise 8.2, the empty path, paths through maps and sequences, indexes of each kind, and paths that go on behind a text or Null.
func TestAt(t *testing.T) {
	x, y := text("x"), text("y")
	n := dict("a", seq(x, dict("b", y)))
	checkAt(t, n, []string{"a", "1", "b"}, y, true)
	checkAt(t, n, []string{"a", "0"}, x, true)
	checkAt(t, n, []string{"a", "1"}, dict("b", y), true)
	checkAt(t, n, []string{"a"}, seq(x, dict("b", y)), true)
	for _, other := range append(small(3), n) {
		checkAt(t, other, nil, other, true)
		checkAt(t, other, []string{}, other, true)
	}
	l := seq(x, y, seq(y, x), dict("0", x, "k", y), api.Node{})
	for i, kid := range l.Kids {
		checkAt(t, l, []string{strconv.Itoa(i)}, kid, true)
	}
	checkAt(t, l, []string{"2", "1"}, x, true)
	checkAt(t, l, []string{"3", "0"}, x, true)
	checkAt(t, seq(seq(seq(x))), []string{"0", "0", "0"}, x, true)
	checkAt(t, dict("", dict("", x)), []string{"", ""}, x, true)
	for _, step := range []string{"5", "6", "10", "-1", "-0", "+0", "+1", "00", "01", "04", "000", " 0", "0 ", "1.0", "1e0", "0x1", "1_0", "", "a", "k", "\u0661", "9223372036854775807", "9223372036854775808", "18446744073709551615", "18446744073709551616", "18446744073709551617", "4294967296", "4294967297", "99999999999999999999999999999999", strings.Repeat("1", 1<<16), "-9223372036854775808"} {
		checkAt(t, l, []string{step}, api.Node{}, false)
		checkAt(t, l, []string{step, "0"}, api.Node{}, false)
		checkAt(t, l, []string{"2", step}, api.Node{}, false)
		checkAt(t, seq(), []string{step}, api.Node{}, false)
		checkAt(t, dict("0", l), []string{"0", step}, api.Node{}, false)
		checkAt(t, dict(step, x), []string{step}, x, true)
		checkAt(t, seq(dict(step, x)), []string{"0", step}, x, true)
	}
	checkAt(t, seq(), []string{"0"}, api.Node{}, false)
	checkAt(t, seq(x), []string{"1"}, api.Node{}, false)
	for _, path := range [][]string{{"0"}, {"1"}, {"b"}, {"A"}, {""}, {"a", "b"}, {"a", "2"}, {"a", "1", "0"}, {"a", "1", "c"}, {"a", "0", "0"}, {"a", "0", ""}, {"a", "0", "x"}, {"a", "1", "b", "0"}, {"a", "1", "b", "y"}, {"a", "1", "b", ""}, {"b", "a"}, {"a", "2", "b"}, {"", "a"}, {"a", ""}, {"a", "1", ""}} {
		checkAt(t, n, path, api.Node{}, false)
	}
	for _, end := range []api.Node{{}, text(""), x, text("0")} {
		for _, step := range []string{"", "0", "a", "x"} {
			checkAt(t, end, []string{step}, api.Node{}, false)
			checkAt(t, dict("a", end), []string{"a", step}, api.Node{}, false)
			checkAt(t, seq(end), []string{"0", step, step}, api.Node{}, false)
		}
	}
	many := seq(make([]api.Node, 1999)...)
	many.Kids[1998] = x
	checkAt(t, many, []string{"1998"}, x, true)
	checkAt(t, many, []string{"1999"}, api.Node{}, false)
	for levels := range mostNest {
		path := make([]string, levels)
		for i := range path {
			path[i] = "0"
		}
		checkAt(t, nested(x, levels, "s"), path, x, true)
		checkAt(t, nested(x, levels, "s"), append(path, "0"), api.Node{}, false)
	}
}

// TestAtAll: promises 8.2 and P1, all paths of up to three elements in all small nodes, against a list of what stands in them.
func TestAtAll(t *testing.T) {
	steps := []string{"", "a", "b", "0", "1", "2", "00", "-1"}
	for _, n := range small(4) {
		at := map[string]api.Node{}
		found(n, "", at)
		var grow func(path []string, written string)
		grow = func(path []string, written string) {
			want, ok := at[written]
			if got, gotOk := At(n, path...); gotOk != ok || show(got) != show(want) {
				checkAt(t, n, path, want, ok)
			}
			if len(path) == 3 {
				return
			}
			for _, step := range steps {
				grow(append(slices.Clip(path), step), written+"/"+strconv.Quote(step))
			}
		}
		grow(nil, "")
	}
}

// TestAtDrawn: promise 8.2, everything in drawn nodes by its path, and paths that lead nowhere.
func TestAtDrawn(t *testing.T) {
	drawn(85, func(random *rand.Rand, n api.Node) {
		if count, _ := tally(n); count > 300 {
			return
		}
		var visit func(kid api.Node, path []string)
		visit = func(kid api.Node, path []string) {
			checkAt(t, n, path, kid, true)
			checkAt(t, n, append(slices.Clip(path), "none"), api.Node{}, false)
			checkAt(t, n, append(slices.Clip(path), strconv.Itoa(len(kid.Kids))), api.Node{}, false)
			for i, next := range kid.Kids {
				step := strconv.Itoa(i)
				if kid.Kind == 3 {
					step = kid.Keys[i]
				}
				visit(next, append(slices.Clip(path), step))
			}
		}
		visit(n, nil)
	})
}

// inOrder sorts the pairs of all maps of a node.
func inOrder(n api.Node) api.Node {
	other := api.Node{Kind: n.Kind, Text: n.Text}
	for _, kid := range n.Kids {
		other.Kids = append(other.Kids, inOrder(kid))
	}
	if n.Kind != 3 {
		return other
	}
	other.Keys = n.Keys
	l := pairs(other)
	sort.SliceStable(l, func(i, j int) bool { return l[i].key < l[j].key })
	return unpaired(l)
}

func checkSorted(t *testing.T, n, want api.Node) {
	t.Helper()
	got := Sorted(n)
	checkNode(t, "Sorted("+brief(n)+")", got, want)
	checkNode(t, "Sorted of Sorted", Sorted(got), want)
	before, after := map[string]api.Node{}, map[string]api.Node{}
	found(n, "", before)
	found(got, "", after)
	if len(before) != len(after) {
		t.Errorf("Sorted(%s) has %d paths; want %d", brief(n), len(after), len(before))
	}
	for path, kid := range before {
		other, ok := after[path]
		if !ok || other.Kind != kid.Kind || other.Text != kid.Text || len(other.Keys) != len(kid.Keys) || len(other.Kids) != len(kid.Kids) {
			t.Errorf("Sorted(%s) has %s at %s; want what is as %s", brief(n), brief(other), path, brief(kid))
		}
	}
}

// TestSorted: promise 8.3, the order of keys, in maps within maps and within sequences, whose own order stays.
func TestSorted(t *testing.T) {
	x, y, z := text("x"), text("y"), text("z")
	for _, n := range []api.Node{{}, text(""), x, seq(), dict(), seq(y, x, z), seq(x, y), dict("a", x), dict("a", x, "b", y), seq(seq(z, y), x, api.Node{}), dict("", x, "a", seq(z, y, x))} {
		checkSorted(t, n, n)
	}
	checkSorted(t, dict("b", x, "a", y), dict("a", y, "b", x))
	checkSorted(t, dict("c", x, "a", y, "b", z), dict("a", y, "b", z, "c", x))
	checkSorted(t, dict("b", x, "c", y, "a", z), dict("a", z, "b", x, "c", y))
	checkSorted(t, dict("a", x, "", y), dict("", y, "a", x))
	checkSorted(t, dict("a10", x, "a9", y, "a1", z, "10", x, "9", y), dict("10", x, "9", y, "a1", z, "a10", x, "a9", y))
	checkSorted(t, dict("b", x, "B", y, "_", z, "-", x, "\xff", y, "\u00e9", z, "~", x), dict("-", x, "B", y, "_", z, "b", x, "~", x, "\u00e9", z, "\xff", y))
	checkSorted(t, dict("b", dict("d", x, "c", y), "a", dict("f", z, "e", dict("h", x, "g", y))), dict("a", dict("e", dict("g", y, "h", x), "f", z), "b", dict("c", y, "d", x)))
	checkSorted(t, seq(dict("b", x, "a", y), x, dict("d", z, "c", x)), seq(dict("a", y, "b", x), x, dict("c", x, "d", z)))
	checkSorted(t, dict("b", seq(z, dict("d", x, "c", y), y), "a", seq()), dict("a", seq(), "b", seq(z, dict("c", y, "d", x), y)))
	checkSorted(t, seq(seq(seq(dict("b", x, "a", seq(dict("d", y, "c", z)))))), seq(seq(seq(dict("a", seq(dict("c", z, "d", y)), "b", x)))))
	checkSorted(t, dict("a", dict("c", x, "b", y)), dict("a", dict("b", y, "c", x)))
	checkSorted(t, dict("b", x, "a", api.Node{}), dict("a", api.Node{}, "b", x))
	checkSorted(t, wide(1999), inOrder(wide(1999)))
	checkSorted(t, nested(dict("b", x, "a", y), 10, "sm"), nested(dict("a", y, "b", x), 10, "sm"))
}

// TestSortedAll: promise 8.3, all small nodes, and drawn ones.
func TestSortedAll(t *testing.T) {
	for _, n := range small(4) {
		checkSorted(t, n, inOrder(n))
	}
	for _, kids := range rows(3) {
		for _, keys := range choices([]string{"b", "a", "c", ""}, len(kids)) {
			n := api.Node{Kind: 3, Keys: keys, Kids: kids}
			checkSorted(t, n, inOrder(n))
		}
	}
	drawn(86, func(random *rand.Rand, n api.Node) { checkSorted(t, n, inOrder(n)) })
}

// texts returns the texts of a node in document order.
func texts(n api.Node) []string {
	if n.Kind == 1 {
		return []string{n.Text}
	}
	var l []string
	for _, kid := range n.Kids {
		l = append(l, texts(kid)...)
	}
	return l
}

// replacedBy returns a node with the next of the texts in each text's place.
func replacedBy(n api.Node, next *[]string) api.Node {
	if n.Kind == 1 {
		s := (*next)[0]
		*next = (*next)[1:]
		return text(s)
	}
	other := api.Node{Kind: n.Kind, Keys: n.Keys}
	for _, kid := range n.Kids {
		other.Kids = append(other.Kids, replacedBy(kid, next))
	}
	return other
}

// checkEach checks the calls of f and the result, if f fails at its call number fail (from 0), or never if there are fewer.
func checkEach(t *testing.T, n api.Node, fail int, e api.Errno) {
	t.Helper()
	var calls, answers []string
	f := func(s string) (string, api.Errno) {
		calls = append(calls, s)
		answers = append(answers, s+"!"+strconv.Itoa(len(calls)))
		if len(calls)-1 == fail {
			return "wrong", e
		}
		return answers[len(answers)-1], api.OK
	}
	got, gotE := Each(n, f)
	wantCalls, want, wantE := texts(n), api.Node{}, e
	if fail < len(wantCalls) {
		wantCalls = wantCalls[:fail+1]
	} else {
		next := slices.Clone(answers)
		want, wantE = replacedBy(n, &next), api.OK
	}
	if !slices.Equal(calls, wantCalls) {
		t.Errorf("Each(%s) calls f with %q; want %q", brief(n), calls, wantCalls)
	}
	checkNode(t, "Each("+brief(n)+")", got, want)
	if gotE != wantE {
		t.Errorf("Each(%s) returns %v; want %v", brief(n), gotE, wantE)
	}
	if wantE != api.OK && (got.Kind != 0 || got.Text != "" || len(got.Keys) != 0 || len(got.Kids) != 0) {
		t.Errorf("Each(%s) returns %s beside %v", brief(n), brief(got), gotE)
	}
}

// never is more than any node has texts.
const never = 1 << 30

// TestEach: promise 8.3, the order of the calls, errors from the first, a middle and the last text, nodes without texts, and keys, which stay.
func TestEach(t *testing.T) {
	x, y, z := text("x"), text("y"), text("z")
	for _, n := range []api.Node{{}, seq(), dict(), seq(api.Node{}, dict(), seq()), dict("b", seq(), "a", api.Node{}, "", dict("x", dict())), wide(1999), seq(make([]api.Node, 1999)...)} {
		called := 0
		got, e := Each(n, func(string) (string, api.Errno) { called++; return "wrong", api.ErrArg })
		checkNode(t, "Each without texts", got, n)
		if called != 0 || e != api.OK {
			t.Errorf("Each(%s) calls f %d times and returns %v", brief(n), called, e)
		}
	}
	nodes := []api.Node{x, text(""), seq(x), seq(z, x, y), dict("b", x, "a", y), dict("c", z, "b", y, "a", x), seq(seq(x, y), z), seq(x, seq(y, z)), dict("b", seq(x, dict("d", y, "c", x)), "a", z), seq(api.Node{}, x, seq(), y, dict(), z), seq(x, x, x), seq(text(""), text("")), nested(seq(x, y), 10, "sm"), dict("x", y, "y", x)}
	for _, n := range nodes {
		for fail := range len(texts(n)) {
			for _, e := range []api.Errno{api.ErrNil, api.ErrArg, api.ErrUnset, api.ErrBound, api.ErrForm, -1, 99} {
				checkEach(t, n, fail, e)
			}
		}
		checkEach(t, n, never, api.OK)
	}
	got, e := Each(dict("x", x, "a", y), func(s string) (string, api.Errno) { return "", api.OK })
	checkNode(t, "Each", got, dict("x", text(""), "a", text("")))
	if e != api.OK {
		t.Error(e)
	}
	same, e := Each(nodes[8], func(s string) (string, api.Errno) { return s, api.OK })
	checkNode(t, "Each", same, nodes[8])
	if e != api.OK {
		t.Error(e)
	}
}

// TestEachAll: promise 8.3, all small nodes and drawn ones, without an error and with one from each text or from some.
func TestEachAll(t *testing.T) {
	for _, n := range small(4) {
		for fail := range len(texts(n)) {
			checkEach(t, n, fail, api.ErrUnset)
		}
		checkEach(t, n, never, api.OK)
	}
	drawn(87, func(random *rand.Rand, n api.Node) {
		checkEach(t, n, never, api.OK)
		if count := len(texts(n)); count > 0 {
			for _, fail := range []int{0, random.Intn(count), count - 1} {
				checkEach(t, n, fail, api.ErrSyntax)
			}
		}
	})
}

// TestEachWithin: promise 8.3, a function that calls Each itself.
func TestEachWithin(t *testing.T) {
	n := seq(text("x"), dict("a", text("y")))
	got, e := Each(n, func(s string) (string, api.Errno) {
		inner, _ := Each(n, func(q string) (string, api.Errno) { return q + s, api.OK })
		return strings.Join(texts(inner), ""), api.OK
	})
	checkNode(t, "Each", got, seq(text("xxyx"), dict("a", text("xyyy"))))
	if e != api.OK {
		t.Error(e)
	}
}

// guarded returns a copy of a node with other elements behind the length of each slice, and a check that nothing of it has changed.
func guarded(t *testing.T, n api.Node) (api.Node, func(call string)) {
	var checks []func() bool
	var guard func(n api.Node) api.Node
	guard = func(n api.Node) api.Node {
		keys := append(slices.Clone(n.Keys), "hidden", "a", "")
		var kids []api.Node
		for _, kid := range n.Kids {
			kids = append(kids, guard(kid))
		}
		kids = append(kids, text("hidden"), dict("a", text("hidden")), api.Node{})
		keysBefore, kidsBefore := slices.Clone(keys), show(seq(kids...))
		checks = append(checks, func() bool { return slices.Equal(keys, keysBefore) && show(seq(kids...)) == kidsBefore })
		return api.Node{Kind: n.Kind, Text: n.Text, Keys: keys[:len(n.Keys)], Kids: kids[:len(n.Kids)]}
	}
	return guard(n), func(call string) {
		t.Helper()
		for _, unchanged := range checks {
			if !unchanged() {
				t.Errorf("%s changed its argument %s", call, brief(n))
			}
		}
	}
}

// TestMemory: promises 8.1 to 8.3 with the rules on memory: no argument is modified, and what is behind a length is not read.
func TestMemory(t *testing.T) {
	v, checkV := guarded(t, dict("b", text("v"), "a", seq()))
	f := func(s string) (string, api.Errno) { return s + "!", api.OK }
	for _, plain := range small(4) {
		n, check := guarded(t, plain)
		checkRight(t, n, true)
		checkSame(t, n, plain, true)
		count, depth := tally(plain)
		checkSize(t, n, count, depth)
		checkNode(t, "Seq", Seq(n.Kids...), seq(plain.Kids...))
		checkNode(t, "Map", Map(n.Keys, n.Kids), Map(plain.Keys, plain.Kids))
		for _, key := range []string{"", "a", "b", "hidden"} {
			want, ok := Get(plain, key)
			checkGet(t, n, key, want, ok)
			checkNode(t, "With", With(n, key, v), With(plain, key, v))
			checkNode(t, "Less", Less(n, key), Less(plain, key))
		}
		for _, step := range []string{"", "a", "hidden", "0", "1", "2", "3", "4"} {
			want, ok := At(plain, step)
			checkAt(t, n, []string{step}, want, ok)
		}
		checkNode(t, "Sorted", Sorted(n), Sorted(plain))
		got, _ := Each(n, f)
		want, _ := Each(plain, f)
		checkNode(t, "Each", got, want)
		check("one of the functions")
	}
	checkV("With")
}

// TestLaterUse: promises 8.1 and 8.2 with the rules on memory: lists that were passed to Seq and Map may be written to again, and two maps that were made from one node do not meet.
func TestLaterUse(t *testing.T) {
	x, y := text("x"), text("y")
	keys, kids := []string{"a", "b"}, []api.Node{x, y}
	l, m := Seq(kids...), Map(keys, kids)
	keys[0], keys[1], kids[0], kids[1] = "c", "d", seq(), dict()
	checkNode(t, "Seq", l, seq(x, y))
	checkNode(t, "Map", m, dict("a", x, "b", y))
	path := []string{"a", "0"}
	At(m, path...)
	if !slices.Equal(path, []string{"a", "0"}) {
		t.Errorf("At changed the path to %q", path)
	}
	for range 4 {
		one, two, three := With(m, "c", x), With(m, "c", y), With(m, "d", y)
		less, other := Less(m, "a"), Less(m, "b")
		checkNode(t, "With", one, unpaired(append(pairs(m), pair{"c", x})))
		checkNode(t, "With", two, unpaired(append(pairs(m), pair{"c", y})))
		checkNode(t, "With", three, unpaired(append(pairs(m), pair{"d", y})))
		checkNode(t, "Less", less, unpaired(pairs(m)[1:]))
		checkNode(t, "Less", other, unpaired(slices.Delete(pairs(m), 1, 2)))
		checkNode(t, "With of Less", With(less, "x", x), unpaired(append(pairs(m)[1:], pair{"x", x})))
		checkNode(t, "Less", less, unpaired(pairs(m)[1:]))
		m = With(m, strconv.Itoa(len(m.Keys)), y)
	}
}

// call calls every function with a node, valid or not.
func call(n api.Node) {
	Right(n)
	Same(n, n)
	Same(n, api.Node{})
	Count(n)
	Deep(n)
	Seq(n)
	Map([]string{"a"}, []api.Node{n})
	Map(n.Keys, n.Kids)
	for _, key := range []string{"", "a", "b", "0", "1"} {
		Get(n, key)
		Get(With(n, key, n), key)
		With(api.Node{}, key, n)
		Less(Less(n, key), key)
		At(n, key, key)
		At(n, "0", key)
		At(n, "a", key)
	}
	Sorted(n)
	Each(n, func(s string) (string, api.Errno) { return s, api.OK })
	Each(n, func(s string) (string, api.Errno) { return s, api.ErrForm })
	Each(n, nil)
}

// TestInvalid: promise P1, no function panics, whatever node it is given, and each one ends.
func TestInvalid(t *testing.T) {
	all := bare()
	for _, a := range all {
		call(a)
		raws([]api.Node{a}, call)
		raws([]api.Node{a, a, seq(a)}, call)
	}
	for _, n := range append(ringed(), shared()...) {
		call(n)
	}
	for _, levels := range []int{12, 13, 1 << 10, 1 << 15} {
		call(nested(text("x"), levels, "sm"))
	}
}

// TestOtherKinds: promise 8.2, nodes that are no maps by their kind, although they have keys, are without values.
func TestOtherKinds(t *testing.T) {
	x := text("x")
	for _, kind := range []int{-1 << 63, -4, -1, 0, 1, 2, 4, 7, 1<<63 - 1} {
		n := api.Node{Kind: kind, Keys: []string{"0", "a"}, Kids: []api.Node{seq(x), x}}
		for _, key := range []string{"0", "a", "b"} {
			checkGet(t, n, key, api.Node{}, false)
			checkLess(t, n, key, n)
			if kind != 0 {
				checkWith(t, n, key, x, n)
			}
			if kind != 2 {
				checkAt(t, n, []string{key}, api.Node{}, false)
			}
		}
	}
}

// TestGreat: promise P1, what is returned for nodes that are valid but for their size, and for those without an end, which is nowhere promised.
func TestGreat(t *testing.T) {
	for _, n := range []api.Node{x13(), nested(dict("b", text("x"), "a", text("y")), 30, "s"), dict("b", wide(4000), "a", seq(make([]api.Node, 4000)...)), seq(make([]api.Node, 1<<16-1)...), wide(1<<16 - 1), nested(text("x"), 1<<16-1, "s")} {
		count, depth := tally(n)
		checkSize(t, n, count, depth)
		checkSame(t, n, copied(n), true)
		checkEach(t, n, never, api.OK)
		checkNode(t, "Sorted", Sorted(n), inOrder(n))
	}
	f := func(s string) (string, api.Errno) { t.Error("f is called"); return s, api.OK }
	for _, n := range append(append(ringed(), shared()...), seq(make([]api.Node, 1<<16)...)) {
		if Same(n, n) || Count(n) != 1<<16+1 {
			t.Errorf("a node of too many nodes is the same as itself, or has %d", Count(n))
		}
		checkNode(t, "Sorted", Sorted(n), api.Node{})
		if got, e := Each(n, f); show(got) != show(api.Node{}) || e != api.ErrBound {
			t.Errorf("Each of too many nodes = %s, %v", brief(got), e)
		}
	}
	for _, n := range []api.Node{text("x"), seq(api.Node{}, text("x"))} {
		if got, e := Each(n, nil); show(got) != show(api.Node{}) || e != api.ErrNil {
			t.Errorf("Each(%s, nil) = %s, %v", brief(n), brief(got), e)
		}
	}
	if got, e := Each(seq(), nil); show(got) != show(seq()) || e != api.OK {
		t.Errorf("Each without texts and without f = %s, %v", brief(got), e)
	}
}
