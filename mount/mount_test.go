package mount

import (
	"math/rand"
	"regexp"
	"slices"
	"strconv"
	"strings"
	"testing"

	"longshore/api"
)

// made returns a mount.
func made(source, target string, readOnly bool) api.Mount {
	return api.Mount{Source: source, Target: target, ReadOnly: readOnly}
}

// brief writes a mount for a message.
func brief(m api.Mount) string {
	return "{" + cut(m.Source) + " " + cut(m.Target) + " " + strconv.FormatBool(m.ReadOnly) + "}"
}

// briefs writes mounts for a message.
func briefs(l []api.Mount) string {
	text := strconv.Itoa(len(l)) + " mounts"
	for _, m := range l[:min(len(l), 20)] {
		text += " " + brief(m)
	}
	return text
}

// cut quotes a string for a message.
func cut(s string) string {
	if len(s) > 200 {
		return strconv.Quote(s[:200]) + "... (" + strconv.Itoa(len(s)) + " bytes)"
	}
	return strconv.Quote(s)
}

const (
	// componentPattern is that of components but "." and "..": up to two points and another byte, or three points.
	componentPattern = `(?:\.{0,2}[A-Za-z0-9_-][A-Za-z0-9._-]*|\.{3}[A-Za-z0-9._-]*)`
	targetPattern    = `/(?:` + componentPattern + `(?:/` + componentPattern + `)*)?`
	namePattern      = `[A-Za-z0-9][A-Za-z0-9._-]{0,23}`
	sourcePattern    = `(?:` + namePattern + `|[./][A-Za-z0-9._/-]{0,63})`
)

var (
	nameForm   = regexp.MustCompile(`\A` + namePattern + `\z`)
	sourceForm = regexp.MustCompile(`\A` + sourcePattern + `?\z`)
	targetForm = regexp.MustCompile(`\A` + targetPattern + `\z`)
	mountForm  = regexp.MustCompile(`\A(?:(` + sourcePattern + `):)?(` + targetPattern + `)(:ro|:rw)?\z`)
)

// model returns the mount of a text, or false if s is none.
func model(s string) (api.Mount, bool) {
	found := mountForm.FindStringSubmatch(s)
	if found == nil || len(found[2]) > 64 {
		return api.Mount{}, false
	}
	return made(found[1], found[2], found[3] == ":ro"), true
}

// isRight is another way of telling valid mounts.
func isRight(m api.Mount) bool {
	return sourceForm.MatchString(m.Source) && targetForm.MatchString(m.Target) && len(m.Target) <= 64
}

// isNamed is another way of telling mounts of volumes.
func isNamed(m api.Mount) bool {
	return nameForm.MatchString(m.Source) && isRight(m)
}

// modelText returns the text of a mount, part by part.
func modelText(m api.Mount) string {
	if !isRight(m) {
		return ""
	}
	var text strings.Builder
	text.WriteString(m.Source)
	if text.Len() > 0 {
		text.WriteByte(':')
	}
	text.WriteString(m.Target)
	text.WriteString(map[bool]string{true: ":ro"}[m.ReadOnly])
	return text.String()
}

// modelSorted keeps a mount for each target, and takes off the one with the least target again and again.
func modelSorted(l []api.Mount) []api.Mount {
	left := map[string]api.Mount{}
	for _, m := range l {
		left[m.Target] = m
	}
	var sorted []api.Mount
	for len(left) > 0 {
		var least api.Mount
		begun := false
		for _, m := range left {
			if !begun || m.Target < least.Target {
				least, begun = m, true
			}
		}
		delete(left, least.Target)
		sorted = append(sorted, least)
	}
	return sorted
}

// modelVolumes puts each name at its place.
func modelVolumes(l []api.Mount) []string {
	var volumes []string
	for _, m := range l {
		if !isNamed(m) || slices.Contains(volumes, m.Source) {
			continue
		}
		i := 0
		for i < len(volumes) && volumes[i] < m.Source {
			i++
		}
		volumes = slices.Insert(volumes, i, m.Source)
	}
	return volumes
}

// checkParse checks the mount of a text.
func checkParse(t *testing.T, s string, want api.Mount) {
	t.Helper()
	if m, errno := Parse(s); m != want || errno != api.OK {
		t.Errorf("Parse(%s) = %s, %v; want %s", cut(s), brief(m), errno, brief(want))
	}
}

// checkNone checks that a string is the text of no mount.
func checkNone(t *testing.T, s string) {
	t.Helper()
	if m, errno := Parse(s); m != (api.Mount{}) || errno != api.ErrSyntax {
		t.Errorf("Parse(%s) = %s, %v; want the zero value, %v", cut(s), brief(m), errno, api.ErrSyntax)
	}
}

// checkModel checks a string of any kind.
func checkModel(t *testing.T, s string) {
	t.Helper()
	if m, ok := model(s); ok {
		checkParse(t, s, m)
	} else {
		checkNone(t, s)
	}
}

// checkMount checks whether a mount is valid, its text, and what is parsed of it.
func checkMount(t *testing.T, m api.Mount, text string) {
	t.Helper()
	if ok := Right(m); ok != (text != "") {
		t.Errorf("Right(%s) = %v; want %v", brief(m), ok, text != "")
	}
	if s := Text(m); s != text {
		t.Errorf("Text(%s) = %s; want %s", brief(m), cut(s), cut(text))
	}
	if text == "" {
		if Named(m) {
			t.Errorf("Named(%s) = true; want false, as the mount is not valid", brief(m))
		}
		return
	}
	checkParse(t, Text(m), m)
	if !m.ReadOnly {
		checkParse(t, text+":rw", m)
	}
}

// checkNamed checks whether a mount has a volume name.
func checkNamed(t *testing.T, m api.Mount, want bool) {
	t.Helper()
	if got := Named(m); got != want {
		t.Errorf("Named(%s) = %v; want %v", brief(m), got, want)
	}
}

// checkSorted checks the order of mounts, that each target is there once, and that another sorting changes nothing.
func checkSorted(t *testing.T, l []api.Mount, want ...api.Mount) {
	t.Helper()
	given := slices.Clone(l)
	sorted := Sorted(l)
	if !slices.Equal(sorted, want) {
		t.Errorf("Sorted(%s) = %s; want %s", briefs(l), briefs(sorted), briefs(want))
	}
	for i := 1; i < len(sorted); i++ {
		if sorted[i-1].Target >= sorted[i].Target {
			t.Errorf("Sorted(%s) has the target %s ahead of %s", briefs(l), cut(sorted[i-1].Target), cut(sorted[i].Target))
		}
	}
	if again := Sorted(sorted); !slices.Equal(again, want) {
		t.Errorf("Sorted(%s) = %s; want the same", briefs(sorted), briefs(again))
	}
	if !slices.Equal(l, given) {
		t.Errorf("Sorted(%s) has changed the list to %s", briefs(given), briefs(l))
	}
}

// checkVolumes checks the names in a list, which stays as it is.
func checkVolumes(t *testing.T, l []api.Mount, want ...string) {
	t.Helper()
	given := slices.Clone(l)
	if volumes := Volumes(l); !slices.Equal(volumes, want) {
		t.Errorf("Volumes(%s) = %q; want %q", briefs(l), volumes, want)
	}
	if !slices.Equal(l, given) {
		t.Errorf("Volumes(%s) has changed the list to %s", briefs(given), briefs(l))
	}
}

// eachString calls f for all strings of up to so many pieces.
func eachString(pieces []string, most int, f func(s string)) {
	var extend func(s string, left int)
	extend = func(s string, left int) {
		f(s)
		if left == 0 {
			return
		}
		for _, p := range pieces {
			extend(s+p, left-1)
		}
	}
	extend("", most)
}

// eachList calls f for all lists of up to so many of the mounts.
func eachList(mounts []api.Mount, most int, f func(l []api.Mount)) {
	var extend func(l []api.Mount, left int)
	extend = func(l []api.Mount, left int) {
		f(slices.Clone(l))
		if left == 0 {
			return
		}
		for _, m := range mounts {
			extend(append(slices.Clone(l), m), left-1)
		}
	}
	extend(nil, most)
}

// eachByte calls f for each byte as a string.
func eachByte(f func(c string)) {
	for n := range 256 {
		f(string([]byte{byte(n)}))
	}
}

// sized returns a string of so many bytes that begins with s and goes on with copies of its last byte.
func sized(s string, length int) string {
	return s + strings.Repeat(s[len(s)-1:], length-len(s))
}

// The values of each field, by what they are.
var (
	volumeNames = []string{
		"data", "ro", "rw", "a", "z", "A", "Z", "0", "9", "a.b", "a..b", "a.", "a..", "a-", "a_", "a-b", "a_b", "0.", "1.2.3.4", "var", "volume-1", "aB", "Ro", "RO", "tmp", "null", "8080", sized("x", 23), sized("x", 24), sized("9", 24), sized("a.", 24), sized("a-", 24), sized("Z_", 24),
	}
	sourcePaths = []string{
		".", "..", "...", "/", "//", "///", "./", "../", "./a", "../a", "/a", "/a/", "//a", "/a//b", "/a/../b", "/a/./b", "/.", "/..", "/...", "./..", "../..", ".a", ".-", "._", ".0", ".A", "..a", "./-", "/-", "/_", "/0", "/A/z", ".a.b", "/ro", "/rw", "./ro", ".ro", "./src", "/var/lib", sized("/", 64), sized(".", 64), sized("/x", 23), sized("/x", 24), sized("/x", 25), sized("./x", 63), sized("./x", 64), sized(".x", 64), sized("/x", 63), sized("/x", 64), sized(".-", 64),
	}
	noSources = []string{
		"-a", "_a", "-", "_", "a/b", "a/", "a//b", "data/", "a/.", "-/a", "_/a", "~", "~/a", "$A", "${A}", "\\a", "C:\\a", "a b", " a", "a ", " ", "\t", "\n", "a\n", "\na", ".\n", "/a\n", "/ a", "/a b", "./a b", "/a,b", "./a*", "/a?", "/a~", "/a@", "/a+b", "/a%20", "/a=b", "/a\\b", "a@b", "a+b", "a,b", "a*", ":", "a:", ":a", "a:b", "/a:", "/a:b", ":/a", "./a:ro", "/a:ro", "a:ro", ":ro", ":rw", "é", "aé", "/é", ".é", "ａ", "/ａ", "\u00a0", "a\u2003", "\ufeffa", "\x00", "a\x00", "/\x00", ".\x00", "\xff", "/\xff", "a\xff", "\x80", "٠", sized("x", 25), sized("9", 25), sized("a.", 25), sized("x", 63), sized("x", 64), sized("x", 65), sized("/", 65), sized(".", 65), sized("/x", 65), sized("./x", 65), sized(".x", 65), sized("/x", 128), sized("./x", 320), sized("/x", 256), sized(".x", 300), sized("x", 280),
	}
	someTargets = []string{
		"/", "/a", "/A", "/0", "/9", "/z", "/Z", "/-", "/_", "/...", "/....", "/.a", "/..a", "/a.", "/a..", "/a..b", "/a.b", "/.-", "/.._", "/..0", "/a/b", "/a/b/c", "/a/.b", "/a/..b", "/a/b..", "/a/b.", "/a/...", "/.../a", "/.a/b", "/..a/b", "/a../b", "/a./b", "/-/-", "/_/_", "/0/1", "/var/lib", "/tmp", "/src", "/ro", "/rw", "/a/ro", "/ro/rw", "/a/b/c/d/e/f/g/h/i/j/k/l/m/n/o/p", sized("/x", 23), sized("/x", 24), sized("/x", 25), sized("/x", 63), sized("/x", 64), sized("/.", 63), sized("/.", 64), sized("/a/b", 64), sized("/-", 64), strings.Repeat("/a", 31), strings.Repeat("/a", 32), strings.Repeat("/a", 31) + "b", strings.Repeat("/bcd", 16),
	}
	noTargets = []string{
		"", "//", "///", "/a/", "//a", "/a//", "/a//b", "/a///b", "/a/b/", "/a/b//c", "/.", "/..", "/./", "/../", "/./a", "/../a", "/a/.", "/a/..", "/a/./b", "/a/../b", "/a/./", "/a/../", "/./.", "/../..", "/.a/.", "/..a/..", "/a./.", "/.../.", "/.../..", "/./...", "/../...", "/a/b/..", "/a/b/.", "//.", "//..", "/.//", "/..//a",
		".", "..", "...", "a", "A", "0", "-", "_", "./a", "../a", "./", "../", "a/", "a/b", "a//b", "a/.", ".a", "..a", "ro", "rw", "data", "var/lib", "~", "~/a", "$A", "C:\\a", "\\a",
		" ", " /a", "/a ", "/ a", "/a b", "/ ", "\t", "/\t", "/a\t", "\n", "/\n", "/a\n", "\n/a", "/a\r", "/a,b", "/a*", "/a?", "/a~", "/~", "/a@b", "/a+b", "/a%20b", "/a=b", "/a\\b", "/a\"b", "/a'b", "/a#b", "/a&b", "/a;b", "/[a]", "/{a}", "/(a)", "/<a>", "/a|b", "/`a`", "/^", "/!", "/$A",
		":", "/:", ":/", "/a:", ":/a", "/a:b", "/a:/b", "/a:ro", "/a:rw", "/a:RO", ":ro", ":rw", "/é", "/aé", "/ａ", "/٠", "/\u00a0", "/\u2003", "/\ufeffa", "/\x00", "/a\x00", "/\xff", "/a\xff", "/\x80", "\x00/a", "\xff/a",
		sized("/x", 65), sized("/x", 66), sized("/.", 65), sized("/a/b", 65), strings.Repeat("/a", 32) + "b", strings.Repeat("/a", 33), sized("/x", 128), sized("/x", 256), sized("/x", 257), sized("/x", 320), sized("/a/", 64), sized("/", 64), sized("/", 65), sized("x", 64), strings.Repeat("/a", 31) + "/.", strings.Repeat("/a", 31) + "//", strings.Repeat("/", 63) + "a", strings.Repeat("/a", 30) + "a/..", strings.Repeat("/a", 31) + "b/",
	}
)

// rightSources returns all sources of the lists.
func rightSources() []string {
	return slices.Concat([]string{""}, volumeNames, sourcePaths)
}

// TestExamples: promises 17.1 and 17.3, the examples of the chapter.
func TestExamples(t *testing.T) {
	checkMount(t, made("data", "/var/lib", true), "data:/var/lib:ro")
	checkMount(t, made("./src", "/src", false), "./src:/src")
	checkMount(t, made("", "/tmp", false), "/tmp")
}

// TestLimit: promise 17.1, the limit of the chapter.
func TestLimit(t *testing.T) {
	if MaxPath != 64 {
		t.Errorf("MaxPath = %d; want 64", MaxPath)
	}
}

// TestParse: promise 17.1, texts of each form, with each mode.
func TestParse(t *testing.T) {
	for _, x := range []struct{ s, source, target string }{
		{"/", "", "/"}, {"/a", "", "/a"}, {"/tmp", "", "/tmp"}, {"/ro", "", "/ro"}, {"/rw", "", "/rw"}, {"/a/b", "", "/a/b"}, {"/...", "", "/..."}, {"/.a", "", "/.a"}, {"/a..b", "", "/a..b"}, {"/-", "", "/-"}, {"/_", "", "/_"},
		{"a:/b", "a", "/b"}, {"a:/", "a", "/"}, {"ro:/a", "ro", "/a"}, {"rw:/a", "rw", "/a"}, {"ro:/ro", "ro", "/ro"}, {"rw:/rw", "rw", "/rw"}, {"A:/b", "A", "/b"}, {"0:/b", "0", "/b"}, {"8080:/80", "8080", "/80"}, {"a.b:/c", "a.b", "/c"}, {"a-b_c.:/c", "a-b_c.", "/c"}, {"data:/var/lib", "data", "/var/lib"},
		{"/a:/b", "/a", "/b"}, {"/:/", "/", "/"}, {"//:/a", "//", "/a"}, {"/a/:/b", "/a/", "/b"}, {"/a//b:/b", "/a//b", "/b"}, {"/a/../b:/b", "/a/../b", "/b"}, {"/ro:/a", "/ro", "/a"}, {"/rw:/ro", "/rw", "/ro"},
		{".:/b", ".", "/b"}, {"..:/b", "..", "/b"}, {"...:/b", "...", "/b"}, {"./:/b", "./", "/b"}, {"./a:/b", "./a", "/b"}, {"../a:/b", "../a", "/b"}, {".a:/b", ".a", "/b"}, {".ro:/ro", ".ro", "/ro"}, {"./src:/src", "./src", "/src"},
	} {
		checkParse(t, x.s, made(x.source, x.target, false))
		checkParse(t, x.s+":rw", made(x.source, x.target, false))
		checkParse(t, x.s+":ro", made(x.source, x.target, true))
		checkMount(t, made(x.source, x.target, false), x.s)
		checkMount(t, made(x.source, x.target, true), x.s+":ro")
	}
}

// TestParseNone: promise 17.1, strings that are the text of no mount, each also with what may follow or precede a text.
func TestParseNone(t *testing.T) {
	none := []string{
		// No target, or no colon ahead of one.
		"", "a", "data", "ro", "rw", ".", "..", "...", "./a", "../a", ".a", "a/b", "a.b", "a//b", "-a", "_a", "data/var", "A", "0", "-", "_",
		// Colons without a source, without a target, or without both.
		":", "::", ":::", "::::", ":/", ":/a", ":a", "a:", ":a:", "a::", "::a", "::/a", ":/a:", ":/a:/b", "/a::/b", "a::/b", "/a::", "/a:::", "/a:", "/:", "a:/b:", "a:/b::", ":a:/b", "::a:/b", "a:b:/c", "a:/b:c", "a:/b:/c", "/a:/b:/c", "/a:/b:c", "a:b:c", "a:b", "/a:b", "a:/b:c:/d", "a:/b:/c:/d", "./a:./b", "/a:./b", "/a:.", "/a:..", "a:.", "/a:a", "a:b/c",
		// Ends that are taken for modes, though what is left is no text.
		":ro", ":rw", ":ro:ro", ":rw:rw", ":rw:ro", ":ro:rw", "ro:ro", "rw:rw", "ro:rw", "rw:ro", "a:ro", "a:rw", "data:ro", ".:ro", "./a:ro", "../a:rw", "a/b:ro", "ro:ro:ro", "/a:ro:ro", "/a:rw:rw", "/a:ro:rw", "/a:rw:ro", "a:/b:ro:ro", "a:/b:rw:rw", "a:/b:ro:rw", "a:/b:rw:ro", "/a:/b:ro:ro", "/a:/b:rw:ro", "a:/b:ro:ro:ro", ":/a:ro", ":/a:rw", "::ro", "::rw", ":::ro", "a::ro", "a::rw", "/a::ro", "/a::rw", "a:/b::ro", "a:/b::rw", "//:ro", "/a/:ro", "/a/..:rw",
		// Modes ahead of the end.
		"ro:/a:/b", "rw:/a:/b", ":ro:/a", ":rw:/a", "/a:ro:/b", "/a:rw:/b", "a:ro:/b", "a:rw:/b", "a:/b:ro:", "a:/b:rw:", "a:/b:ro:/c", "a:/b:rw:c", "/a:ro:", "/a:ro:b", "ro:a:/b", "a:ro:/b:ro",
		// Other modes.
		"/a:RO", "/a:RW", "/a:Ro", "/a:rO", "/a:Rw", "a:/b:RO", "a:/b:RW", "a:/b:Ro", "a:/b:r", "a:/b:o", "a:/b:w", "a:/b:ro,z", "a:/b:z", "a:/b:Z", "a:/b:ro,rw", "a:/b:rro", "a:/b:roo", "a:/b:rw,", "a:/b:rwx", "a:/b:row", "a:/b:wo", "a:/b:wr", "a:/b:or", "a:/b: ro", "a:/b:ro ", "a:/b :ro", "a:/b:ro\n", "a:/b:\nro", "a:/b:ro\x00", "a:/b:nocopy", "a:/b:cached", "a:/b:consistent", "a:/b:true", "a:/b:readonly", "a:/b;ro", "a:/b,ro", "a:/b ro", "a:/b=ro", "a:/b\\:ro", "a:/b:\\ro", "a:/b/:ro",
		// Quotes, variables, and texts of other systems.
		`"a:/b"`, `'a:/b'`, "$A:/b", "${A}:/b", "~:/b", "~/a:/b", "C:\\a:/b", "C:/a:/b", "a:\\b", "\\\\a:/b", "a=/b", "a,/b", "a;/b", "a->/b", "a /b", "[a:/b]", "{a: /b}", "null", "~", "/~", "a:/$B", "http://a:/b", "file:///a", "a:/*", "a:/b?", "*:/b", "a:/b c", "a b:/c", "٠:/a", "a:/٠", "ａ:/b", "a：/b", "\xff", "\xff:/a", "a:/\xff", "\x00", "\x00:/a", "a:/\x00",
	}
	for _, s := range none {
		checkNone(t, s)
		if m, ok := model(s); ok {
			t.Errorf("the pattern takes %s for %s", cut(s), brief(m))
		}
		for _, end := range []string{":ro", ":rw", ":RO", ":ro:ro", ":rw:rw", ":ro:rw", ":rw:ro", ":", "::", ": ro", ":a", "\n", " ", "\x00", ":ro ", ":rw\n"} {
			checkModel(t, s+end)
		}
		for _, start := range []string{":", "::", "ro:", ":ro", ":ro:", "a:", "/a:", "./a:", "a", "/", ".", " ", "\n", "-", "\x00"} {
			checkModel(t, start+s)
		}
	}
}

// TestParseModes: promise 17.1, what may follow a text and what may not, and the same at other places.
func TestParseModes(t *testing.T) {
	texts := map[string]api.Mount{
		"/":           made("", "/", false),
		"/a":          made("", "/a", false),
		"/ro":         made("", "/ro", false),
		"/a/rw":       made("", "/a/rw", false),
		"a:/":         made("a", "/", false),
		"a:/b":        made("a", "/b", false),
		"ro:/a":       made("ro", "/a", false),
		"rw:/rw":      made("rw", "/rw", false),
		"/ro:/ro":     made("/ro", "/ro", false),
		"./a:/b":      made("./a", "/b", false),
		".:/ro":       made(".", "/ro", false),
		"data:/a/b.c": made("data", "/a/b.c", false),
	}
	ends := []string{":ro", ":rw", ":", "::", ":r", ":o", ":w", ":RO", ":RW", ":Ro", ":rO", ":rW", ":rx", ":no", ":ow", ":or", ":wr", ":rro", ":roo", ":rww", ":row", ":rwo", ":rorw", ":rwro", ":ro,rw", ":ro,", ":,ro", ":rw,z", ":z", ":Z", "::ro", "::rw", ":ro:", ":rw:", ": ro", ": rw", ":ro ", ":rw ", ":ro\n", ":\tro", " :ro", " :rw", ":/ro/", ":ro/", ":rw/", "://ro", ":./ro", ":0", ":true", ":\x00", ":ro\x00", ":r\xff", "\xff:ro", "：ro", ":ｒo", "\\:ro", ",ro", ";ro", "=ro", " ro"}
	for text, m := range texts {
		for _, x := range ends {
			switch x {
			case ":ro":
				readOnly := m
				readOnly.ReadOnly = true
				checkParse(t, text+x, readOnly)
			case ":rw":
				checkParse(t, text+x, m)
			default:
				checkNone(t, text+x)
			}
			checkNone(t, x)
			for _, y := range ends {
				checkNone(t, text+x+y)
				checkNone(t, x+y)
			}
			for i := range len(text) + 1 {
				checkModel(t, text[:i]+x+text[i:])
				checkModel(t, text[:i]+x+text[i:]+":ro")
				checkModel(t, text[:i]+x+text[i:]+":rw")
				checkModel(t, text[:i]+x+text[i:]+x)
			}
		}
	}
}

// TestFields: promises 17.1 and 17.3, each source, with each target, valid or not, with and without ReadOnly.
func TestFields(t *testing.T) {
	for _, source := range rightSources() {
		start := source + ":"
		if source == "" {
			start = ""
		}
		for _, target := range someTargets {
			checkMount(t, made(source, target, false), start+target)
			checkMount(t, made(source, target, true), start+target+":ro")
			checkNone(t, ":"+start+target)
			checkNone(t, start+":"+target)
			checkNone(t, start+target+":")
		}
		for _, target := range noTargets {
			checkMount(t, made(source, target, false), "")
			checkMount(t, made(source, target, true), "")
			checkModel(t, start+target)
			checkModel(t, start+target+":ro")
			checkModel(t, start+target+":rw")
		}
	}
	for _, source := range noSources {
		for _, target := range slices.Concat(someTargets, noTargets) {
			checkMount(t, made(source, target, false), "")
			checkMount(t, made(source, target, true), "")
			checkModel(t, source+":"+target)
			checkModel(t, source+":"+target+":ro")
			checkModel(t, source+":"+target+":rw")
		}
	}
	checkMount(t, api.Mount{}, "")
	checkMount(t, made("", "", true), "")
}

// TestFieldsNone: promise 17.1, a text with a source or a target that is none is no text.
func TestFieldsNone(t *testing.T) {
	for _, mode := range []string{"", ":ro", ":rw"} {
		for _, target := range noTargets {
			if strings.Contains(target, ":") { // of "/a:/b", the beginning is a source
				continue
			}
			for _, start := range []string{"", ":", "a:", "./a:"} { // not "/a:", which makes a text with the mode of "ro"
				checkNone(t, start+target+mode)
			}
		}
		for _, source := range noSources {
			for _, target := range someTargets {
				checkNone(t, source+":"+target+mode)
			}
		}
	}
}

// TestLengths: promises 17.1 and 17.3, paths and names of each length.
func TestLengths(t *testing.T) {
	for n := range 400 {
		more := strings.Repeat("x", n)
		target := "/" + more
		text := target
		if n+1 > 64 {
			text = ""
		}
		checkMount(t, made("", target, false), text)
		checkModel(t, target)
		checkModel(t, target+":ro")
		for _, source := range []string{"a" + more, "9" + more, "/" + more, "." + more, "./" + more, more + "/", "/" + more + "/", "a" + strings.Repeat(".", n), "." + strings.Repeat("/", n)} {
			m := made(source, "/a", true)
			text := source + ":/a:ro"
			isName := 'a' <= source[0] && source[0] <= 'x' || source[0] == '9'
			if isName && (len(source) > 24 || strings.Contains(source, "/")) || len(source) > 64 {
				text = ""
			}
			checkMount(t, m, text)
			checkNamed(t, m, text != "" && isName)
			checkModel(t, source+":/a:ro")
			checkModel(t, source+":/a:rw")
			checkModel(t, source+":"+target)
		}
	}
}

// TestParseBytes: promise 17.1, each byte in place of, ahead of and behind each byte of a text, and each byte taken away.
func TestParseBytes(t *testing.T) {
	texts := []string{"", "/", "/a", "/a/b", "/...", "/ro", "/a:ro", "/a:rw", "a:/b", "a:/", "ro:/x", "a-b:/c_d", "data:/var/lib:ro", "./src:/src:rw", "/a:/b:ro", ".:/a", "..:/a:rw", "//:/.a", "A0:/a..b", "a.b:/z", sized("x", 24) + ":/a", sized("/x", 64), sized("./x", 64) + ":/b:ro"}
	for _, s := range texts {
		eachByte(func(c string) {
			for i := range len(s) + 1 {
				checkModel(t, s[:i]+c+s[i:])
				checkModel(t, s[:i]+c+c+s[i:])
				if i < len(s) {
					checkModel(t, s[:i]+c+s[i+1:])
				}
				// A mount's text has no other bytes than these.
				if !strings.Contains("abcdefghijklmnopqrstuvwxyzABCDEFGHIJKLMNOPQRSTUVWXYZ0123456789._-/:", c) {
					checkNone(t, s[:i]+c+s[i:])
				}
			}
		})
		for i := range s {
			for k := i; k <= len(s); k++ {
				checkModel(t, s[:i]+s[k:])
				checkModel(t, s[i:k])
				checkModel(t, s[:k]+s[i:])
			}
		}
	}
}

// TestFieldBytes: promises 17.1 and 17.2, each byte at each place of a source and of a target.
func TestFieldBytes(t *testing.T) {
	for _, s := range []string{"", "a", "A", "0", ".", "/", "a.b", "./a", "/a", "ro", sized("x", 23), sized("x", 24), sized("/x", 63), sized(".x", 64)} {
		eachByte(func(c string) {
			for i := range len(s) + 1 {
				for _, source := range []string{s[:i] + c + s[i:], s[:i] + c + s[min(i+1, len(s)):], s[:i] + c + c + s[i:]} {
					m := made(source, "/a", i%2 > 0)
					checkMount(t, m, modelText(m))
					checkNamed(t, m, nameForm.MatchString(source))
				}
			}
		})
	}
	for _, s := range []string{"", "/", "/a", "/a/b", "/.", "/..", "/...", "/a/..", "/a/.b", "//", sized("/x", 63), sized("/x", 64), "a"} {
		eachByte(func(c string) {
			for i := range len(s) + 1 {
				for _, target := range []string{s[:i] + c + s[i:], s[:i] + c + s[min(i+1, len(s)):], s[:i] + c + c + s[i:]} {
					for _, source := range []string{"", "a", "./a"} {
						m := made(source, target, i%2 > 0)
						checkMount(t, m, modelText(m))
						checkNamed(t, m, source == "a" && isRight(m))
					}
				}
			}
		})
	}
}

// TestPathBytes: promise 17.1, the bytes of paths, told one by one.
func TestPathBytes(t *testing.T) {
	eachByte(func(c string) {
		ok := "a" <= c && c <= "z" || "A" <= c && c <= "Z" || "0" <= c && c <= "9" || c == "." || c == "_" || c == "-"
		for target, want := range map[string]bool{"/a" + c: ok, "/" + c + "b": ok, "/a" + c + "b": ok || c == "/"} {
			if Right(made("", target, false)) != want {
				t.Errorf("Right of the target %s = %v; want %v", cut(target), !want, want)
			}
		}
		for _, source := range []string{"/" + c, "." + c, "./" + c, "/a" + c + "b"} {
			if want := ok || c == "/"; Right(made(source, "/a", false)) != want {
				t.Errorf("Right of the source %s = %v; want %v", cut(source), !want, want)
			}
		}
	})
}

// TestParseAll: promise 17.1, all strings of up to a few pieces against a pattern.
func TestParseAll(t *testing.T) {
	check := func(s string) { checkModel(t, s) }
	eachString([]string{"a", "/", ".", ":", ":ro", ":rw", "-"}, 6, check)
	eachString([]string{"a", "/a", ":", "ro", "..", "/", ":ro", "RO", " ", "./", "_b", "0"}, 5, check)
	eachString([]string{":", "/", ".", "r", "o", "w"}, 7, check)
}

// TestTargetsAll: promise 17.1, all targets and sources of up to a few pieces.
func TestTargetsAll(t *testing.T) {
	eachString([]string{"/", ".", "a", "-", ":", " "}, 7, func(s string) {
		for _, m := range []api.Mount{made("", s, false), made("a", s, true), made(s, "/a", false), made(s, s, false)} {
			checkMount(t, m, modelText(m))
			checkNamed(t, m, isNamed(m))
		}
	})
}

// drawnPath returns a path, mostly a valid one, of up to some 70 bytes.
func drawnPath(r *rand.Rand, start string) string {
	pieces := []string{"a", "b", "Z", "0", "9", ".", "..", "_", "-", "/", "/a", "/..a", "/.b", "/...", "ro", "/ro", "rw"}
	path := start
	for range r.Intn([]int{4, 12, 45}[r.Intn(3)]) {
		path += pieces[r.Intn(len(pieces))]
	}
	return path
}

// drawnMount returns a mount with drawn fields, which are valid mostly.
func drawnMount(r *rand.Rand) api.Mount {
	m := made("", drawnPath(r, "/"), r.Intn(2) == 0)
	if r.Intn(2) == 0 {
		m.Target = strings.TrimRight(strings.NewReplacer("//", "/x", "/./", "/x/", "/../", "/x/").Replace(m.Target), "/.") + "/a"
	}
	switch r.Intn(4) {
	case 0:
		m.Source = drawnPath(r, []string{"/", ".", "./", "../"}[r.Intn(4)])
	case 1:
		m.Source = strings.ReplaceAll(drawnPath(r, []string{"a", "B", "7"}[r.Intn(3)]), "/", "_")
		m.Source = m.Source[:min(len(m.Source), 20+r.Intn(10))]
	case 2:
		sources := rightSources()
		m.Source = sources[r.Intn(len(sources))]
	}
	switch r.Intn(12) {
	case 0:
		m.Source = noSources[r.Intn(len(noSources))]
	case 1:
		m.Target = noTargets[r.Intn(len(noTargets))]
	case 2:
		m.Target = someTargets[r.Intn(len(someTargets))]
	}
	return m
}

// altered returns a string with a few bytes changed, added, doubled or taken away.
func altered(r *rand.Rand, s string) string {
	const bytes = "abzAZ09._-/:row \x00\xff\n"
	for range 1 + r.Intn(2) {
		i := r.Intn(len(s) + 1)
		k := min(i+r.Intn(3), len(s))
		c := bytes[r.Intn(len(bytes))]
		s = []string{s[:i] + string([]byte{c}) + s[i:], s[:i] + string([]byte{c}) + s[k:], s[:i] + s[k:], s[:k] + s[i:]}[r.Intn(4)]
	}
	return s
}

// TestDrawn: promises 17.1 to 17.3, drawn mounts and their texts, and altered ones against a pattern.
func TestDrawn(t *testing.T) {
	r := rand.New(rand.NewSource(17))
	valid := 0
	for range 60000 {
		m := drawnMount(r)
		text := modelText(m)
		checkMount(t, m, text)
		checkNamed(t, m, isNamed(m))
		checkModel(t, altered(r, text))
		checkModel(t, altered(r, m.Source)+":"+altered(r, m.Target))
		if text != "" {
			valid++
			checkNone(t, text+":ro:rw")
			checkNone(t, text+":rw:ro")
			checkNone(t, text+":rw:rw")
		}
		if m.ReadOnly {
			checkNone(t, text+":ro")
			checkNone(t, text+":rw")
		}
	}
	if valid < 20000 || valid > 50000 {
		t.Errorf("%d of 60000 drawn mounts are valid", valid)
	}
}

// TestNamed: promise 17.2, sources of each kind, beside a target and beside none.
func TestNamed(t *testing.T) {
	for _, readOnly := range []bool{false, true} {
		for _, target := range someTargets {
			for _, source := range volumeNames {
				checkNamed(t, made(source, target, readOnly), true)
			}
			for _, source := range slices.Concat([]string{""}, sourcePaths, noSources) {
				checkNamed(t, made(source, target, readOnly), false)
			}
		}
		for _, target := range noTargets {
			for _, source := range slices.Concat(rightSources(), noSources) {
				checkNamed(t, made(source, target, readOnly), false)
			}
		}
	}
	checkNamed(t, api.Mount{}, false)
	checkNamed(t, made("data", "", false), false)
	checkNamed(t, made("data", "/a", false), true)
	checkNamed(t, made("./data", "/a", false), false)
	checkNamed(t, made("", "/a", false), false)
}

// TestSorted: promise 17.2, lists of a few mounts.
func TestSorted(t *testing.T) {
	base := made("a", "/b", false)
	checkSorted(t, nil)
	checkSorted(t, []api.Mount{})
	checkSorted(t, []api.Mount{{}}, api.Mount{})
	checkSorted(t, []api.Mount{{}, {}}, api.Mount{})
	checkSorted(t, []api.Mount{base}, base)
	checkSorted(t, []api.Mount{base, base}, base)
	checkSorted(t, slices.Repeat([]api.Mount{base}, 40), base)
	for _, x := range [][2]string{
		{"/a", "/b"}, {"/", "/a"}, {"/a", "/a/b"}, {"/a", "/aa"}, {"/a", "/a-"}, {"/a-", "/a/b"}, {"/a.b", "/a/b"}, {"/a/b", "/a0"}, {"/a/b", "/aa"}, {"/A", "/a"}, {"/Z", "/a"}, {"/0", "/A"}, {"/9", "/A"}, {"/10", "/9"}, {"/-", "/."}, {"/.", "/0"}, {"/Z", "/_"}, {"/_", "/a"},
		{"", "/"}, {"", "\x00"}, {"", "a"}, {"/a", "/a\x00"}, {"/", "a"}, {".", "/"}, {"//", "/a"}, {"/a", "/a/"}, {"a", "b"}, {"B", "a"}, {"a", "aa"}, {"/z", "/é"}, {"é", "\xff"}, {"\uffff", "\U00010000"}, {"/a", "/a:ro"}, {" ", "/"}, {sized("/x", 64), sized("/x", 65)}, {sized("/x", 64), sized("/x", 63) + "y"},
	} {
		// Which other fields they have does not matter: the target alone decides.
		for _, y := range [][2]api.Mount{
			{made("", x[0], false), made("", x[1], false)}, {made("a", x[0], false), made("a", x[1], false)}, {made("z", x[0], false), made("a", x[1], false)}, {made("a", x[0], true), made("z", x[1], false)}, {made("", x[0], true), made("z", x[1], true)}, {made("z", x[0], false), made("", x[1], true)}, {made("-", x[0], false), made("./a", x[1], true)},
		} {
			low, high := y[0], y[1]
			for _, l := range [][]api.Mount{{low, high}, {high, low}, {low, low, high}, {low, high, low}, {high, low, low}, {high, high, low}, {high, low, high}, {low, high, high}, {low, high, low, high}, {high, low, high, low}, {high, high, low, low}} {
				checkSorted(t, l, low, high)
			}
		}
	}
}

// TestSortedLast: promises 17.2 and 17.3, of several mounts with one target the last one is kept, whatever its other fields are.
func TestSortedLast(t *testing.T) {
	for _, target := range []string{"/a", "/", "", "a", "/a/", ":", "\xff", sized("/x", 65)} {
		var all []api.Mount
		for _, source := range []string{"", "a", "b", "./a", "/", "-", ":", "\x00"} {
			all = append(all, made(source, target, false), made(source, target, true))
		}
		low, high := made("x", "", false), made("x", "\xff\xff", true)
		for _, a := range all {
			for _, b := range all {
				checkSorted(t, []api.Mount{a, b}, b)
				checkSorted(t, []api.Mount{a, high, b}, b, high)
				checkSorted(t, []api.Mount{high, a, b}, b, high)
				checkSorted(t, []api.Mount{a, b, high}, b, high)
				if target != "" {
					checkSorted(t, []api.Mount{a, low, b}, low, b)
					checkSorted(t, []api.Mount{b, high, low, a, b}, low, b, high)
				}
				for _, c := range all {
					checkSorted(t, []api.Mount{a, b, c}, c)
				}
			}
		}
		// Many of one target, in any order.
		checkSorted(t, all, all[len(all)-1])
		for i := range all {
			l := slices.Concat(all[i:], all[:i])
			checkSorted(t, l, l[len(l)-1])
			checkSorted(t, slices.Repeat(l, 5), l[len(l)-1])
		}
	}
}

// ladder returns mounts with ascending targets, valid ones and others.
func ladder() []api.Mount {
	targets := slices.Concat(someTargets, noTargets)
	slices.Sort(targets)
	sources := slices.Concat(rightSources(), noSources)
	var all []api.Mount
	for i, target := range slices.Compact(targets) {
		all = append(all, made(sources[(i*7)%len(sources)], target, i%3 == 0))
	}
	return all
}

// TestSortedLadder: promise 17.2, a list of valid and invalid mounts as it is, in descending order, drawn, and with others of the same targets ahead.
func TestSortedLadder(t *testing.T) {
	want := ladder()
	checkSorted(t, want, want...)
	back := slices.Clone(want)
	slices.Reverse(back)
	checkSorted(t, back, want...)
	checkSorted(t, slices.Concat(want, want), want...)
	checkSorted(t, slices.Concat(back, want, back), want...)
	r := rand.New(rand.NewSource(172))
	for range 200 {
		first := slices.Clone(want)
		for i := range first {
			first[i].Source, first[i].ReadOnly = "other", r.Intn(2) == 0
		}
		last := slices.Clone(want)
		for _, l := range [][]api.Mount{first, last} {
			r.Shuffle(len(l), func(i, k int) { l[i], l[k] = l[k], l[i] })
		}
		checkSorted(t, last, want...)
		checkSorted(t, slices.Concat(first, last), want...)
		checkSorted(t, slices.Concat(first[:r.Intn(len(first))], last), want...)
	}
	for i, low := range want {
		for _, high := range want[i+1:] {
			checkSorted(t, []api.Mount{high, low}, low, high)
		}
	}
}

// TestSortedAll: promises 17.2 and 17.3, all lists of up to five of some mounts, and drawn ones, against another way.
func TestSortedAll(t *testing.T) {
	some := []api.Mount{made("", "/a", false), made("b", "/a", false), made("a", "/a", true), made("a", "/b", false), made("", "/b", true), made("./c", "/a/b", false), {}}
	eachList(some, 5, func(l []api.Mount) { checkSorted(t, l, modelSorted(l)...) })
	r := rand.New(rand.NewSource(173))
	all := ladder()
	for range 3000 {
		var l []api.Mount
		few := 1 + r.Intn(len(all))
		for i := range r.Intn(60) {
			m := all[r.Intn(few)]
			if r.Intn(2) == 0 {
				m.Source = "v" + strconv.Itoa(i)
			}
			l = append(l, m)
		}
		if r.Intn(2) == 0 {
			for i := range l {
				l[i] = drawnMount(r)
			}
		}
		checkSorted(t, l, modelSorted(l)...)
	}
}

// TestVolumes: promise 17.2, lists with names, without them, and with one several times.
func TestVolumes(t *testing.T) {
	a, b, upper := made("a", "/x", false), made("b", "/a", true), made("B", "/x", false)
	path, none := made("./c", "/x", false), made("", "/x", false)
	noTarget, noSource := made("z", "x", false), made("-z", "/x", false)
	for _, x := range []struct {
		l    []api.Mount
		want []string
	}{
		{nil, nil}, {[]api.Mount{}, nil}, {[]api.Mount{{}}, nil}, {[]api.Mount{none}, nil}, {[]api.Mount{path}, nil}, {[]api.Mount{path, none, path}, nil}, {[]api.Mount{noTarget}, nil}, {[]api.Mount{noSource}, nil}, {[]api.Mount{noTarget, noSource, {}, none, path}, nil},
		{[]api.Mount{a}, []string{"a"}}, {[]api.Mount{a, a}, []string{"a"}}, {[]api.Mount{a, a, a, a}, []string{"a"}}, {[]api.Mount{a, made("a", "/y", false), made("a", "/x", true)}, []string{"a"}},
		{[]api.Mount{a, b}, []string{"a", "b"}}, {[]api.Mount{b, a}, []string{"a", "b"}}, {[]api.Mount{b, a, b}, []string{"a", "b"}}, {[]api.Mount{a, b, upper}, []string{"B", "a", "b"}}, {[]api.Mount{upper, b, a}, []string{"B", "a", "b"}},
		// Mounts of one target each have their names, as Volumes does not take the last one alone.
		{[]api.Mount{a, upper}, []string{"B", "a"}}, {[]api.Mount{upper, a}, []string{"B", "a"}}, {[]api.Mount{a, none}, []string{"a"}}, {[]api.Mount{a, path, none}, []string{"a"}},
		{[]api.Mount{none, b, path, noTarget, a, noSource, {}}, []string{"a", "b"}}, {[]api.Mount{noTarget, a}, []string{"a"}}, {[]api.Mount{made("a", "x", false), a}, []string{"a"}}, {[]api.Mount{a, made("a", "x", false)}, []string{"a"}}, {[]api.Mount{made("a", "", false), b}, []string{"b"}},
		{[]api.Mount{made("10", "/", false), made("9", "/", false), made("1", "/", false)}, []string{"1", "10", "9"}}, {[]api.Mount{made("a.b", "/", false), made("a-b", "/", false), made("a", "/", false), made("a_b", "/", false), made("aa", "/", false)}, []string{"a", "a-b", "a.b", "a_b", "aa"}},
		{[]api.Mount{made(sized("x", 25), "/", false), made(sized("x", 24), "/", false), made(sized("x", 23), "/", false)}, []string{sized("x", 23), sized("x", 24)}},
	} {
		checkVolumes(t, x.l, x.want...)
		checkVolumes(t, slices.Concat(x.l, x.l), x.want...)
	}
	eachList([]api.Mount{a, b, upper, path, none, noTarget, noSource}, 5, func(l []api.Mount) { checkVolumes(t, l, modelVolumes(l)...) })
	var all []api.Mount
	for _, source := range slices.Concat(rightSources(), noSources) {
		all = append(all, made(source, "/a", false))
	}
	want := slices.Clone(volumeNames)
	slices.Sort(want)
	checkVolumes(t, all, want...)
	slices.Reverse(all)
	checkVolumes(t, all, want...)
	r := rand.New(rand.NewSource(174))
	for range 3000 {
		l := make([]api.Mount, r.Intn(40))
		for i := range l {
			l[i] = drawnMount(r)
		}
		checkVolumes(t, l, modelVolumes(l)...)
	}
}

// TestMemory: general rules R4 and R5, lists that are passed stay as they are, what stands behind their ends is neither read nor written, and results are new.
func TestMemory(t *testing.T) {
	a, b, c := made("a", "/b", true), made("b", "/a", false), made("c", "/b", false)
	whole := []api.Mount{a, b, c, a, b, {}, c}
	given := slices.Clone(whole)
	for n := range len(whole) {
		for range 2 { // the same again
			want := modelSorted(given[:n])
			sorted := Sorted(whole[:n])
			if !slices.Equal(sorted, want) {
				t.Errorf("Sorted(%s) = %s; want %s", briefs(whole[:n]), briefs(sorted), briefs(want))
			}
			names := modelVolumes(given[:n])
			volumes := Volumes(whole[:n])
			if !slices.Equal(volumes, names) {
				t.Errorf("Volumes(%s) = %q; want %q", briefs(whole[:n]), volumes, names)
			}
			// Whoever gets a list may write to it, and behind it.
			second, secondVolumes := Sorted(whole[:n]), Volumes(whole[:n])
			for i := range sorted[:cap(sorted)] {
				sorted[:cap(sorted)][i] = made("mine", "mine", true)
			}
			for i := range volumes[:cap(volumes)] {
				volumes[:cap(volumes)][i] = "mine"
			}
			_ = append(sorted, made("mine", "mine", true))
			_ = append(volumes, "mine")
			if !slices.Equal(second, want) || !slices.Equal(secondVolumes, names) {
				t.Errorf("two results share memory: %s, %q", briefs(second), secondVolumes)
			}
			if !slices.Equal(whole, given) {
				t.Fatalf("Sorted and Volumes have changed %s to %s", briefs(given), briefs(whole))
			}
		}
	}
	// A list that is sorted already is copied, too.
	for _, l := range [][]api.Mount{{b}, {b, c}, {{}, b, c}, {b, a}} {
		given, sorted := slices.Clone(l), Sorted(l)
		sorted[0] = made("mine", "mine", true)
		if !slices.Equal(l, given) {
			t.Errorf("Sorted(%s) has returned the list itself", briefs(given))
		}
	}
}

// TestLong: promises 17.1, 17.2 and P1, the calls end soon for long strings and lists of any kind.
func TestLong(t *testing.T) {
	const times = 1 << 20
	for _, x := range []string{"a", "0", ".", "..", "/", "/a", "/.", "/..", "/...", "-", ":", "::", ":/", ":/a", "a:", "/a:", "a:/b", "a:/b:", ":ro", ":rw", ":ro:", "ro", " ", "\x00", "\xff", "é"} {
		s := strings.Repeat(x, times)
		for _, text := range []string{s, "/" + s, "a:/" + s, "./a:/" + s, s + ":/a", "/" + s + ":/a", "." + s + ":/a", s + "/a", "a:/b" + s, s + ":ro", s + ":rw", "/a" + s + ":ro", "a:/b:ro" + s, s + "a:/b:ro"} {
			checkNone(t, text)
		}
		for _, m := range []api.Mount{made(s, "/a", false), made("", s, false), made("a", s, true), made("/"+s, "/a", true), made("."+s, "/a", false), made("a"+s, "/a", false), made("a", "/"+s, false), made("a", "/a"+s, false), made(s, s, true)} {
			checkMount(t, m, "")
		}
	}
	many := make([]api.Mount, 1<<17)
	want := make([]api.Mount, len(many))
	names := make([]string, len(many))
	for i := range many {
		n := strconv.Itoa(1<<20 + i)
		want[i] = made("v"+n, "/"+n, i%2 == 0)
		many[len(many)-1-i] = want[i]
		names[i] = "v" + n
	}
	checkSorted(t, many, want...)
	checkSorted(t, slices.Repeat(many, 3), want...)
	checkVolumes(t, many, names...)
	checkVolumes(t, slices.Repeat(many, 3), names...)
	for i := range many {
		many[i].Target = "/a"
	}
	checkSorted(t, many, many[len(many)-1])
}
