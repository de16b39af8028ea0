package port

import (
	"math"
	"math/rand"
	"regexp"
	"slices"
	"strconv"
	"strings"
	"testing"

	"longshore/api"
)

// made returns a port.
func made(host string, out, in int, proto string) api.Port {
	return api.Port{Host: host, Out: out, In: in, Proto: proto}
}

// brief writes a port for a message.
func brief(p api.Port) string {
	return "{" + cut(p.Host) + " " + strconv.Itoa(p.Out) + " " + strconv.Itoa(p.In) + " " + cut(p.Proto) + "}"
}

// briefs writes ports for a message.
func briefs(l []api.Port) string {
	text := strconv.Itoa(len(l)) + " ports"
	for _, p := range l[:min(len(l), 20)] {
		text += " " + brief(p)
	}
	return text
}

// cut quotes a string for a message.
func cut(s string) string {
	if len(s) > 200 {
		return strconv.Quote(s[:200]) + "... (" + strconv.Itoa(len(s)) + " bytes)"
	}
	return strconv.Quote(s)
}

const (
	numberPattern  = `(?:[1-9][0-9]{0,3}|[1-5][0-9]{4}|6[0-4][0-9]{3}|65[0-4][0-9]{2}|655[0-2][0-9]|6553[0-5])`
	partPattern    = `(?:[0-9]|[1-9][0-9]|1[0-9][0-9]|2[0-4][0-9]|25[0-5])`
	addressPattern = partPattern + `\.` + partPattern + `\.` + partPattern + `\.` + partPattern
)

var (
	addressForm = regexp.MustCompile(`\A` + addressPattern + `\z`)
	portForm    = regexp.MustCompile(`\A(?:(` + addressPattern + `):(` + numberPattern + `)?:|(` + numberPattern + `):)?(` + numberPattern + `)(/tcp|/udp)?\z`)
)

// model returns the port of a text, or false if s is none.
func model(s string) (api.Port, bool) {
	found := portForm.FindStringSubmatch(s)
	if found == nil {
		return api.Port{}, false
	}
	p := api.Port{Host: found[1], Proto: "tcp"}
	p.Out, _ = strconv.Atoi(found[2] + found[3])
	p.In, _ = strconv.Atoi(found[4])
	if found[5] == "/udp" {
		p.Proto = "udp"
	}
	return p, true
}

// isRight is another way of telling valid ports.
func isRight(p api.Port) bool {
	switch {
	case p.In < 1 || p.In > 65535, p.Out < 0 || p.Out > 65535:
		return false
	case p.Proto != "tcp" && p.Proto != "udp":
		return false
	}
	return p.Host == "" || addressForm.MatchString(p.Host)
}

// modelText returns the text of a port, field by field.
func modelText(p api.Port) string {
	if !isRight(p) {
		return ""
	}
	text := p.Host
	if text != "" {
		text += ":"
	}
	if p.Out > 0 {
		text += strconv.Itoa(p.Out)
	}
	if text != "" {
		text += ":"
	}
	text += strconv.Itoa(p.In)
	return text + map[string]string{"udp": "/udp"}[p.Proto]
}

// modelClash is another way of telling ports that clash.
func modelClash(a, b api.Port) bool {
	if a.Out != b.Out || a.Proto != b.Proto || a.Out < 1 {
		return false
	}
	hosts := map[string]int{a.Host: 1, b.Host: 1}
	delete(hosts, "")
	return len(hosts) < 2
}

// modelFirst looks at all pairs, and keeps the least.
func modelFirst(l []api.Port) (int, int, bool) {
	best := []int{len(l), len(l)}
	for k := range l {
		for i := range k {
			if modelClash(l[i], l[k]) && slices.Compare([]int{i, k}, best) < 0 {
				best = []int{i, k}
			}
		}
	}
	if best[0] == len(l) {
		return 0, 0, false
	}
	return best[0], best[1], true
}

// isBefore reports whether a comes before b in the order of ports.
func isBefore(a, b api.Port) bool {
	if a.In != b.In {
		return a.In < b.In
	}
	if a.Proto != b.Proto {
		return a.Proto < b.Proto
	}
	if a.Host != b.Host {
		return a.Host < b.Host
	}
	return a.Out < b.Out
}

// modelSorted takes off the least port again and again.
func modelSorted(l []api.Port) []api.Port {
	left := map[api.Port]int{}
	for _, p := range l {
		left[p]++
	}
	var sorted []api.Port
	for len(left) > 0 {
		var least api.Port
		begun := false
		for p := range left {
			if !begun || isBefore(p, least) {
				least, begun = p, true
			}
		}
		delete(left, least)
		sorted = append(sorted, least)
	}
	return sorted
}

// checkParse checks the port of a text.
func checkParse(t *testing.T, s string, want api.Port) {
	t.Helper()
	if p, errno := Parse(s); p != want || errno != api.OK {
		t.Errorf("Parse(%s) = %s, %v; want %s", cut(s), brief(p), errno, brief(want))
	}
}

// checkNone checks that a string is the text of no port.
func checkNone(t *testing.T, s string) {
	t.Helper()
	if p, errno := Parse(s); p != (api.Port{}) || errno != api.ErrSyntax {
		t.Errorf("Parse(%s) = %s, %v; want the zero value, %v", cut(s), brief(p), errno, api.ErrSyntax)
	}
}

// checkModel checks a string of any kind.
func checkModel(t *testing.T, s string) {
	t.Helper()
	if p, ok := model(s); ok {
		checkParse(t, s, p)
	} else {
		checkNone(t, s)
	}
}

// checkPort checks whether a port is valid, its text, and what is parsed of it.
func checkPort(t *testing.T, p api.Port, text string) {
	t.Helper()
	if ok := Right(p); ok != (text != "") {
		t.Errorf("Right(%s) = %v; want %v", brief(p), ok, text != "")
	}
	if s := Text(p); s != text {
		t.Errorf("Text(%s) = %s; want %s", brief(p), cut(s), cut(text))
	}
	if text != "" {
		checkParse(t, Text(p), p)
	}
}

// checkSorted checks the order of ports, and that another sorting changes nothing.
func checkSorted(t *testing.T, l []api.Port, want ...api.Port) {
	t.Helper()
	given := slices.Clone(l)
	sorted := Sorted(l)
	if !slices.Equal(sorted, want) {
		t.Errorf("Sorted(%s) = %s; want %s", briefs(l), briefs(sorted), briefs(want))
	}
	if again := Sorted(sorted); !slices.Equal(again, want) {
		t.Errorf("Sorted(%s) = %s; want the same", briefs(sorted), briefs(again))
	}
	if !slices.Equal(l, given) {
		t.Errorf("Sorted(%s) has changed the list to %s", briefs(given), briefs(l))
	}
}

// checkClash checks two ports in both orders, each of them also with another value of the field that does not matter.
func checkClash(t *testing.T, a, b api.Port, want bool) {
	t.Helper()
	for _, in := range [][2]int{{a.In, b.In}, {80, 80}, {80, 81}, {0, -1}} {
		a.In, b.In = in[0], in[1]
		if Clash(a, b) != want {
			t.Errorf("Clash(%s, %s) = %v; want %v", brief(a), brief(b), !want, want)
		}
		if Clash(b, a) != want {
			t.Errorf("Clash(%s, %s) = %v; want %v", brief(b), brief(a), !want, want)
		}
	}
}

// checkFirst checks the first pair of a list, which stays as it is.
func checkFirst(t *testing.T, l []api.Port, i, k int, ok bool) {
	t.Helper()
	given := slices.Clone(l)
	if gotI, gotK, gotOk := First(l); gotI != i || gotK != k || gotOk != ok {
		t.Errorf("First(%s) = %d, %d, %v; want %d, %d, %v", briefs(l), gotI, gotK, gotOk, i, k, ok)
	}
	if !slices.Equal(l, given) {
		t.Errorf("First(%s) has changed the list to %s", briefs(given), briefs(l))
	}
}

// eachString calls f for all strings of up to so many pieces.
func eachString(pieces []string, most int, f func(s string)) {
	var extend func(s string, left int)
	extend = func(s string, left int) {
		f(s)
		if left == 0 {
			return
		}
		for _, p := range pieces {
			extend(s+p, left-1)
		}
	}
	extend("", most)
}

// eachList calls f for all lists of up to so many of the ports.
func eachList(ports []api.Port, most int, f func(l []api.Port)) {
	var extend func(l []api.Port, left int)
	extend = func(l []api.Port, left int) {
		f(slices.Clone(l))
		if left == 0 {
			return
		}
		for _, p := range ports {
			extend(append(slices.Clone(l), p), left-1)
		}
	}
	extend(nil, most)
}

// eachByte calls f for each byte as a string.
func eachByte(f func(c string)) {
	for n := range 256 {
		f(string([]byte{byte(n)}))
	}
}

// The values of each field, valid and invalid ones.
var (
	someHosts = []string{
		"", "0.0.0.0", "127.0.0.1", "255.255.255.255", "10.0.0.1", "1.2.3.4", "9.9.9.9", "99.100.199.200", "249.250.251.255",
		"1.2.3", "1.2.3.4.5", "1.2", "1", "1.2.3.256", "256.2.3.4", "1.256.3.4", "1.2.256.4", "1.2.3.300", "1.2.3.999", "1.2.3.1000", "1.2.3.18446744073709551617", "1.2.3.04", "01.2.3.4", "1.00.3.4", "1.2.3.000", "1.2.3.", ".1.2.3", "1..2.3", "1...4", "...", ".", "..", "....", "1.2.3.4.", ".1.2.3.4",
		"1.2.3.-4", "-1.2.3.4", "1.2.3.-0", "1.2.3.+4", "+1.2.3.4", "1.2.3.a", "a.2.3.4", "1.2.3.4a", "1.2.3.0x1", "1.2.3.1e1", "1.2.3.4 ", " 1.2.3.4", "1. 2.3.4", "1.2 .3.4", "1.2.3.4\n", "\n1.2.3.4", "1.2.3.4\x00", "1,2,3,4", "1.2.3,4", "1.2.3.4:", ":1.2.3.4", "1:2.3.4", "1.2.3.4/8", "1.2.3.4/tcp", " ", "\t", "localhost", "host", "*", "::", "::1", "[::1]", "tcp", "1.2.3.٤", "１.2.3.4", "1.2.3.\xff",
	}
	someOuts   = []int{0, 1, 2, 9, 10, 80, 99, 100, 8080, 9999, 10000, 32767, 32768, 65534, 65535, -1, -2, -80, -65535, -65536, 65536, 65537, 65616, 70000, 99999, 100000, 1 << 31, 1 << 32, 1<<32 + 80, 1 << 53, 1<<53 + 1, math.MaxInt, math.MinInt, math.MinInt + 80, -1 << 32}
	someProtos = []string{"tcp", "udp", "", "TCP", "UDP", "Tcp", "tcP", "uDp", "sctp", "icmp", "tc", "ud", "cp", "dp", "t", "u", "tcp ", " tcp", "udp ", " udp", "udp\n", "\ttcp", "/tcp", "/udp", "tcp/", "udp/", "/", "tcptcp", "tcpudp", "udpudp", "tcp/udp", "udp/tcp", "tcp,udp", "tcp\x00", "udp\xff", "utp", "tdp", "80", "0", "1.2.3.4", ":"}
)

// TestExamples: promises 16.1 and 16.3, the examples of the chapter.
func TestExamples(t *testing.T) {
	checkPort(t, made("127.0.0.1", 8080, 80, "udp"), "127.0.0.1:8080:80/udp")
	checkPort(t, made("", 8080, 80, "tcp"), "8080:80")
	checkPort(t, made("127.0.0.1", 0, 80, "tcp"), "127.0.0.1::80")
	checkPort(t, made("", 0, 80, "tcp"), "80")
}

// TestParse: promise 16.1, texts of each form, with each end.
func TestParse(t *testing.T) {
	for _, x := range []struct {
		s       string
		host    string
		out, in int
	}{
		{"80", "", 0, 80}, {"1", "", 0, 1}, {"9", "", 0, 9}, {"10", "", 0, 10}, {"65535", "", 0, 65535}, {"65534", "", 0, 65534}, {"59999", "", 0, 59999},
		{"8080:80", "", 8080, 80}, {"1:1", "", 1, 1}, {"65535:65535", "", 65535, 65535}, {"1:65535", "", 1, 65535}, {"65535:1", "", 65535, 1}, {"80:80", "", 80, 80}, {"2:3", "", 2, 3},
		{"1.2.3.4::80", "1.2.3.4", 0, 80}, {"0.0.0.0::1", "0.0.0.0", 0, 1}, {"255.255.255.255::65535", "255.255.255.255", 0, 65535}, {"10.20.30.40::9", "10.20.30.40", 0, 9},
		{"1.2.3.4:5:6", "1.2.3.4", 5, 6}, {"0.0.0.0:1:1", "0.0.0.0", 1, 1}, {"255.255.255.255:65535:65535", "255.255.255.255", 65535, 65535}, {"127.0.0.1:8080:80", "127.0.0.1", 8080, 80}, {"192.168.100.200:1:65535", "192.168.100.200", 1, 65535}, {"0.1.0.1:65535:1", "0.1.0.1", 65535, 1}, {"249.250.199.99:10:100", "249.250.199.99", 10, 100},
	} {
		checkParse(t, x.s, made(x.host, x.out, x.in, "tcp"))
		checkParse(t, x.s+"/tcp", made(x.host, x.out, x.in, "tcp"))
		checkParse(t, x.s+"/udp", made(x.host, x.out, x.in, "udp"))
		checkPort(t, made(x.host, x.out, x.in, "tcp"), x.s)
		checkPort(t, made(x.host, x.out, x.in, "udp"), x.s+"/udp")
	}
}

// TestParseNone: promise 16.1, strings that are the text of no port, each also with what may follow a text.
func TestParseNone(t *testing.T) {
	none := []string{
		// No port in the container, or none that may be.
		"", "0", "00", "-1", "-80", "+80", "-0", "65536", "65537", "70000", "99999", "100000", "650000", "080", "0080", "00080", "065535", "080:80", "8080:0", "8080:080", "8080:65536", "8080:-80", "8080:+80", "8080:", "1.2.3.4:8080:", "1.2.3.4:8080:0", "1.2.3.4:8080:080", "1.2.3.4:8080:65536", "1.2.3.4::0", "1.2.3.4::", "1.2.3.4::080", "1.2.3.4::65536", "18446744073709551616", "18446744073709551696", "4294967376", "80.0", "80.", ".80", "8e1", "0x50", "8_0", "1e4", "a", "http", "80a", "a80", "8a0", "٨٠", "８０", "80\x00", "\xff", "99999999999999999999999999", "000000000000000000080",
		// No port of the host that may be.
		"0:80", "00:80", "-1:80", "-0:80", "+1:80", "01:80", "08080:80", "65536:80", "65537:80", "99999:80", "100000:80", "18446744073709551617:80", "4294967297:80", ":80", "::80", ":8080:80", ":0:80", "a:80", "8080a:80", "80.80:80", "1.2.3.4:0:80", "1.2.3.4:00:80", "1.2.3.4:-1:80", "1.2.3.4:+1:80", "1.2.3.4:01:80", "1.2.3.4:08080:80", "1.2.3.4:65536:80", "1.2.3.4:18446744073709551617:80", "1.2.3.4:a:80",
		// No address, or one without the other.
		"1.2.3.4:80", "1.2.3.4", "1.2.3.4:", "1.2.3.4:8080:", "0.0.0.0:80", "1.2.3.4.80", "80:1.2.3.4", "8080:1.2.3.4:80", "8080:80:1.2.3.4", "8080:80:1.2.3.4:", "1.2.3.4:1.2.3.4:80", "::1.2.3.4", "1.2.3.4::1.2.3.4", "1:2:3", "80:80:80", "0:0:80", "0::80", "1::80", "80::80",
		// Too few colons or too many.
		":", "::", ":::", "::::", ":::::", ":::80", "::::80", "80:", "80::", "80:::", "8080::80", "1:2:3:4", "1:2:3:4:5", "1.2.3.4:::80", "1.2.3.4::80:", "1.2.3.4:8080::80", "1.2.3.4::8080:80", ":1.2.3.4::80", ":1.2.3.4:8080:80", "::1.2.3.4:8080:80", "1.2.3.4:8080:80:", "1.2.3.4:5:6:7", "1.2.3.4:5:6:7:8", "1.2.3.4:1.2.3.4:5:6", "1.2.3.4:5:1.2.3.4:5:6", "[::1]:8080:80", "::1:8080:80", "[::]::80", ":::8080:80",
		// Other signs and ranges.
		"80-81", "8080-8081:80-81", "80,81", "80;81", "80 81", "8080=80", "8080->80", "8080.80", "8080/80", "*:80", "*:8080:80", "localhost:8080:80", "$A", "null", "~", "{}", "[80]", `"80"`, "'80'",
	}
	for _, h := range someHosts {
		if !addressForm.MatchString(h) {
			none = append(none, h+":8080:80", h+"::80")
		}
		none = append(none, h+":80:", h+":0:80")
		if h != "1" && h != "1.2.3.4:" { // these are a port, and an address with its colon
			none = append(none, h, h+":80")
		}
	}
	for _, s := range none {
		checkNone(t, s)
		for _, end := range []string{"/tcp", "/udp", "/", "/sctp", "/TCP", "/UDP", "/tcp/tcp", "/udp/tcp", "tcp", " /tcp"} {
			checkNone(t, s+end)
		}
		for _, c := range []string{" ", "\n", ":", "/", "-"} {
			checkNone(t, c+s)
			checkNone(t, s+c)
		}
	}
}

// TestParseProto: promise 16.1, what may follow a port and what may not, and the same at other places.
func TestParseProto(t *testing.T) {
	texts := map[string]api.Port{
		"80":               made("", 0, 80, "tcp"),
		"8080:80":          made("", 8080, 80, "tcp"),
		"1.2.3.4::80":      made("1.2.3.4", 0, 80, "tcp"),
		"1.2.3.4:8080:80":  made("1.2.3.4", 8080, 80, "tcp"),
		"0.0.0.0:65535:1":  made("0.0.0.0", 65535, 1, "tcp"),
		"255.255.255.0::9": made("255.255.255.0", 0, 9, "tcp"),
	}
	ends := []string{"/tcp", "/udp", "/", "/sctp", "/TCP", "/UDP", "/Tcp", "/tcP", "/udP", "/t", "/tc", "/u", "/ud", "/cp", "/dp", "//", "//tcp", "//udp", "/tcp/", "/udp/", "/tcp:", "/udp:", "tcp", "udp", ":tcp", ":udp", "\\tcp", "/ tcp", " /tcp", "/tcp ", "/udp ", "/udp\n", "/tcp\x00", "/tcpx", "/udpx", "/xtcp", "/tcp,udp", "/tcpudp", "/0", "/80", "/17", "/6", "/http", "/any", "/tcp6", "/udp4"}
	for text, p := range texts {
		for _, x := range ends {
			checkNone(t, x)
			switch x {
			case "/tcp":
				checkParse(t, text+x, p)
			case "/udp":
				u := p
				u.Proto = "udp"
				checkParse(t, text+x, u)
			default:
				checkNone(t, text+x)
			}
			for _, y := range ends {
				checkNone(t, x+y)
				if x != "/" { // which makes an end of tcp and udp
					checkNone(t, text+x+y)
				}
			}
			for i := range text {
				checkNone(t, text[:i]+x+text[i:])
				checkNone(t, text[:i]+x+text[i:]+x)
			}
		}
	}
}

// TestParseNumbers: promises 16.1 and 16.3, each number as a port of the container and of the host, and the numbers around the limits with zeros and signs ahead.
func TestParseNumbers(t *testing.T) {
	for n := range 66000 {
		s := strconv.Itoa(n)
		if n < 1 || n > 65535 {
			for _, text := range []string{s, s + ":1", "1:" + s, "1.2.3.4::" + s, "1.2.3.4:1:" + s, "1.2.3.4:" + s + ":1", s + ":" + s} {
				checkNone(t, text)
				checkNone(t, text+"/tcp")
				checkNone(t, text+"/udp")
			}
			continue
		}
		checkPort(t, made("", 0, n, "tcp"), s)
		checkPort(t, made("", n, 1, "udp"), s+":1/udp")
		checkPort(t, made("1.2.3.4", n, 65535, "tcp"), "1.2.3.4:"+s+":65535")
		checkPort(t, made("1.2.3.4", 0, n, "udp"), "1.2.3.4::"+s+"/udp")
		checkPort(t, made("", n, n, "tcp"), s+":"+s)
		checkParse(t, s+"/tcp", made("", 0, n, "tcp"))
	}
	for _, n := range []int{0, 1, 9, 80, 65535, 65536} {
		for _, ahead := range []string{"0", "00", "+", "-", " ", "+0", "-0", "00000000000000000000", "0x", "\t", ".", "#", "٠"} {
			s := ahead + strconv.Itoa(n)
			for _, text := range []string{s, s + ":1", "1:" + s, "1.2.3.4::" + s, "1.2.3.4:1:" + s, "1.2.3.4:" + s + ":1", s + ":" + s} {
				checkNone(t, text)
				checkNone(t, text+"/udp")
			}
		}
	}
	for _, n := range []string{"4294967296", "4294967297", "9007199254740992", "9007199254740993", "9223372036854775807", "9223372036854775808", "18446744073709551615", "18446744073709551617", "184467440737095516160", strings.Repeat("9", 5000), strings.Repeat("1", 70000)} {
		for _, text := range []string{n, n + ":1", "1:" + n, "1.2.3.4::" + n, "1.2.3.4:1:" + n, "1.2.3.4:" + n + ":1", n + ".2.3.4::1", "1.2.3." + n + "::1"} {
			checkNone(t, text)
			checkNone(t, text+"/tcp")
		}
	}
}

// TestHosts: promises 16.1 and 16.3, each number at each place of an address, and addresses of other forms.
func TestHosts(t *testing.T) {
	for n := range 1100 {
		s := strconv.Itoa(n)
		for _, h := range []string{s + ".0.0.0", "0." + s + ".0.0", "0.0." + s + ".0", "0.0.0." + s, s + "." + s + "." + s + "." + s, "255." + s + ".255.255"} {
			p := made(h, 8080, 80, "tcp")
			if n > 255 {
				checkPort(t, p, "")
				checkNone(t, h+":8080:80")
				checkNone(t, h+"::80")
				continue
			}
			checkPort(t, p, h+":8080:80")
			p.Out = 0
			checkPort(t, p, h+"::80")
		}
		for _, h := range []string{"0" + s + ".1.1.1", "1.0" + s + ".1.1", "1.1.0" + s + ".1", "1.1.1.0" + s, "1.1.1.00" + s, "1.1.1.+" + s, "1.1.1.-" + s, "-" + s + ".1.1.1", "1.1.1." + s + ".", "." + s + ".1.1.1", "1.1.1." + s + " ", "1.1." + s, s + ".1.1", "1.1.1.1." + s, s + ".1.1.1.1", s} {
			checkPort(t, made(h, 8080, 80, "tcp"), "")
			checkPort(t, made(h, 0, 80, "udp"), "")
			checkNone(t, h+":8080:80")
			checkNone(t, h+"::80")
		}
	}
	// All short strings that look like addresses.
	eachString([]string{"0", "2", "5", ".", ".25", "255", "1.2", " "}, 5, func(h string) {
		p := made(h, 1, 2, "udp")
		checkPort(t, p, modelText(p))
		if h != "" {
			checkModel(t, h+":1:2/udp")
			checkModel(t, h+"::2")
		}
	})
}

// TestParseBytes: promise 16.1, each byte in place of, ahead of and behind each byte of a text, and each byte taken away.
func TestParseBytes(t *testing.T) {
	texts := []string{"", "1", "80", "65535", "8080:80", "1:1", "65535:65535", "1.2.3.4::80", "0.0.0.0::1", "127.0.0.1:8080:80", "255.255.255.255:65535:65535", "80/tcp", "80/udp", "8080:80/tcp", "8080:80/udp", "10.0.0.1::80/tcp", "10.0.0.1::80/udp", "127.0.0.1:8080:80/tcp", "255.255.255.255:65535:65535/udp"}
	for _, s := range texts {
		eachByte(func(c string) {
			for i := range len(s) + 1 {
				checkModel(t, s[:i]+c+s[i:])
				checkModel(t, s[:i]+c+c+s[i:])
				if i < len(s) {
					checkModel(t, s[:i]+c+s[i+1:])
				}
			}
			// A port's text has no other bytes than these.
			if !strings.Contains("0123456789.:/tcpud", c) {
				for i := range len(s) + 1 {
					checkNone(t, s[:i]+c+s[i:])
				}
			}
		})
		for i := range s {
			for k := i; k <= len(s); k++ {
				checkModel(t, s[:i]+s[k:])
				checkModel(t, s[i:k])
				checkModel(t, s[:k]+s[i:])
			}
		}
	}
}

// TestParseSpaces: promise 16.1, no blanks and no ends of lines may stand anywhere.
func TestParseSpaces(t *testing.T) {
	for _, s := range []string{"80", "8080:80", "1.2.3.4::80", "127.0.0.1:8080:80", "127.0.0.1:8080:80/udp", "80/tcp"} {
		for _, c := range []string{" ", "  ", "\t", "\n", "\r", "\r\n", "\v", "\f", "\x00", "\u00a0", "\u2003", "\ufeff"} {
			for i := range len(s) + 1 {
				checkNone(t, s[:i]+c+s[i:])
			}
			checkNone(t, c+s+c)
			checkNone(t, c)
		}
	}
}

// TestParseAll: promise 16.1, all strings of up to a few pieces against a pattern.
func TestParseAll(t *testing.T) {
	check := func(s string) { checkModel(t, s) }
	eachString([]string{"0", "1", ":", ".", "/", "/tcp", "/udp"}, 6, check)
	eachString([]string{"80", "65535", "65536", ":", "::", "1.2.3.4", "/tcp", "/udp", "0", " ", "1.2.3.256", "-1"}, 5, check)
	eachString([]string{":", ".", "1", "255", "256", "0"}, 5, func(s string) {
		checkModel(t, "1.2."+s)
		checkModel(t, s+":1")
		checkModel(t, s+".3.4::1")
	})
}

// drawnPort returns a port with drawn fields, which are valid mostly.
func drawnPort(r *rand.Rand) api.Port {
	p := made("", r.Intn(65536), 1+r.Intn(65535), "tcp")
	if r.Intn(3) == 0 {
		p.Out = 0
	}
	if r.Intn(2) == 0 {
		p.Proto = "udp"
	}
	if r.Intn(2) == 0 {
		for i := range 4 {
			p.Host += "."[:min(i, 1)] + strconv.Itoa(r.Intn(256))
		}
	}
	switch r.Intn(12) {
	case 0:
		p.In = someOuts[r.Intn(len(someOuts))]
	case 1:
		p.Out = someOuts[r.Intn(len(someOuts))]
	case 2:
		p.Proto = someProtos[r.Intn(len(someProtos))]
	case 3:
		p.Host = someHosts[r.Intn(len(someHosts))]
	}
	return p
}

// altered returns a string with a few bytes changed, added, doubled or taken away.
func altered(r *rand.Rand, s string) string {
	const bytes = "0123456789.:/tcpud -+\x00\xff\n"
	for range 1 + r.Intn(2) {
		i := r.Intn(len(s) + 1)
		k := min(i+r.Intn(3), len(s))
		c := bytes[r.Intn(len(bytes))]
		s = []string{s[:i] + string(c) + s[i:], s[:i] + string(c) + s[k:], s[:i] + s[k:], s[:k] + s[i:]}[r.Intn(4)]
	}
	return s
}

// TestDrawn: promises 16.1 and 16.3, drawn ports and their texts, and altered ones against a pattern.
func TestDrawn(t *testing.T) {
	r := rand.New(rand.NewSource(16))
	for range 100000 {
		p := drawnPort(r)
		text := modelText(p)
		checkPort(t, p, text)
		checkModel(t, altered(r, text))
		if text != "" && p.Proto == "tcp" {
			checkParse(t, text+"/tcp", p)
			checkNone(t, text+"/tcp/tcp")
			checkNone(t, text+"/tcp/udp")
		} else {
			checkNone(t, text+"/tcp")
		}
	}
}

// TestRight: promises 16.1 and 16.3, each value of each field beside each one of the others.
func TestRight(t *testing.T) {
	if Right(api.Port{}) || Text(api.Port{}) != "" {
		t.Error("the zero value is no valid port")
	}
	for _, h := range someHosts {
		for _, out := range someOuts {
			for _, in := range someOuts {
				for _, proto := range []string{"tcp", "udp", "", "TCP", "sctp", "/udp"} {
					p := made(h, out, in, proto)
					checkPort(t, p, modelText(p))
				}
			}
		}
		for _, proto := range someProtos {
			p := made(h, 8080, 80, proto)
			checkPort(t, p, modelText(p))
			p.Out = 0
			checkPort(t, p, modelText(p))
		}
	}
	eachByte(func(c string) {
		for _, p := range []api.Port{made(c, 1, 1, "tcp"), made("1.2.3."+c, 1, 1, "tcp"), made("1.2.3.4"+c, 1, 1, "tcp"), made(c+"1.2.3.4", 1, 1, "udp"), made("1"+c+"2.3.4", 1, 1, "udp"), made("", 1, 1, c), made("", 1, 1, "tcp"+c), made("", 1, 1, c+"udp"), made("", 1, 1, "t"+c+"p"), made("", 1, 1, "ud"+c)} {
			checkPort(t, p, modelText(p))
		}
	})
}

// TestSorted: promise 16.2, lists of a few ports.
func TestSorted(t *testing.T) {
	base := made("1.1.1.1", 100, 100, "tcp")
	checkSorted(t, nil)
	checkSorted(t, []api.Port{})
	checkSorted(t, []api.Port{{}}, api.Port{})
	checkSorted(t, []api.Port{base}, base)
	checkSorted(t, []api.Port{base, base}, base)
	checkSorted(t, slices.Repeat([]api.Port{base}, 40), base)
	// The two ports of each pair differ in one field alone.
	for _, x := range [][2]api.Port{
		{made("1.1.1.1", 100, 99, "tcp"), base}, {base, made("1.1.1.1", 100, 101, "tcp")}, {made("1.1.1.1", 100, 9, "tcp"), base}, {made("1.1.1.1", 100, -1, "tcp"), base}, {made("1.1.1.1", 100, 0, "tcp"), base}, {base, made("1.1.1.1", 100, 65536, "tcp")}, {base, made("1.1.1.1", 100, 1000, "tcp")}, {made("1.1.1.1", 100, math.MinInt, "tcp"), base}, {base, made("1.1.1.1", 100, math.MaxInt, "tcp")},
		{base, made("1.1.1.1", 100, 100, "udp")}, {made("1.1.1.1", 100, 100, ""), base}, {made("1.1.1.1", 100, 100, "TCP"), base}, {made("1.1.1.1", 100, 100, "UDP"), base}, {made("1.1.1.1", 100, 100, "sctp"), base}, {made("1.1.1.1", 100, 100, "tc"), base}, {base, made("1.1.1.1", 100, 100, "tcp ")}, {base, made("1.1.1.1", 100, 100, "tcp\x00")}, {base, made("1.1.1.1", 100, 100, "\xff")}, {base, made("1.1.1.1", 100, 100, "é")},
		{made("", 100, 100, "tcp"), base}, {base, made("1.1.1.2", 100, 100, "tcp")}, {base, made("1.1.1.10", 100, 100, "tcp")}, {base, made("10.1.1.1", 100, 100, "tcp")}, {base, made("2.1.1.1", 100, 100, "tcp")}, {base, made("1.1.10.1", 100, 100, "tcp")}, {made("0.1.1.1", 100, 100, "tcp"), base}, {made("1.1.1", 100, 100, "tcp"), base}, {made(" ", 100, 100, "tcp"), base}, {base, made("a", 100, 100, "tcp")}, {base, made("A", 100, 100, "tcp")}, {base, made("1.1.1.1\x00", 100, 100, "tcp")}, {base, made("\xff", 100, 100, "tcp")},
		{made("1.1.1.1", 99, 100, "tcp"), base}, {base, made("1.1.1.1", 101, 100, "tcp")}, {made("1.1.1.1", 9, 100, "tcp"), base}, {made("1.1.1.1", 0, 100, "tcp"), base}, {made("1.1.1.1", -1, 100, "tcp"), base}, {base, made("1.1.1.1", 65536, 100, "tcp")}, {base, made("1.1.1.1", 1000, 100, "tcp")}, {made("1.1.1.1", math.MinInt, 100, "tcp"), base}, {base, made("1.1.1.1", math.MaxInt, 100, "tcp")},
		// In byte order: 10 comes before 9, letters of the upper case before those of the lower, and é behind all of them.
		{made("10.0.0.0", 1, 1, "tcp"), made("9.0.0.0", 1, 1, "tcp")}, {made("1.0.0.0", 1, 1, "tcp"), made("10.0.0.0", 1, 1, "tcp")}, {made("", 1, 1, "B"), made("", 1, 1, "a")}, {made("", 1, 1, "z"), made("", 1, 1, "é")}, {made("\uffff", 1, 1, "tcp"), made("\U00010000", 1, 1, "tcp")}, {made("", 9, 1, "tcp"), made("", 10, 1, "tcp")}, {made("", 1, 9, "tcp"), made("", 1, 10, "tcp")}, {made("", math.MinInt, 1, "tcp"), made("", math.MaxInt, 1, "tcp")}, {made("", 1, math.MinInt, "tcp"), made("", 1, math.MaxInt, "tcp")},
		// The field that is compared first decides, whatever the others are.
		{made("9.9.9.9", 9, 1, "udp"), made("", 1, 2, "tcp")}, {made("9.9.9.9", 9, 1, "tcp"), made("", 1, 1, "udp")}, {made("1.1.1.1", 9, 1, "tcp"), made("2.2.2.2", 1, 1, "tcp")}, {made("", 65535, 80, "tcp"), made("0.0.0.0", 0, 80, "tcp")}, {made("", 1, 80, "udp"), made("", 0, 81, "tcp")}, {made("9.9.9.9", 0, 80, "tcp"), made("0.0.0.0", 0, 80, "udp")},
	} {
		low, high := x[0], x[1]
		for _, l := range [][]api.Port{{low, high}, {high, low}, {low, low, high}, {low, high, low}, {high, low, low}, {high, high, low}, {high, low, high}, {low, high, high}, {low, high, low, high}, {high, low, high, low}, {high, high, low, low}} {
			checkSorted(t, l, low, high)
		}
	}
}

// ladder returns ports in ascending order of which each two neighbors differ in one field more or another.
func ladder() []api.Port {
	var all []api.Port
	for _, in := range []int{math.MinInt, -1, 0, 1, 80, 65535, 65536, math.MaxInt} {
		for _, proto := range []string{"", "TCP", "tcp", "udp"} {
			for _, host := range []string{"", "1.2.3.4", "10.0.0.1", "9.0.0.1", "host"} {
				for _, out := range []int{-1, 0, 1, 80, 65536} {
					all = append(all, made(host, out, in, proto))
				}
			}
		}
	}
	return all
}

// TestSortedLadder: promise 16.2, a list of valid and invalid ports as it is, in descending order, drawn, and doubled.
func TestSortedLadder(t *testing.T) {
	want := ladder()
	for i := range want[1:] {
		if !isBefore(want[i], want[i+1]) {
			t.Fatalf("%s is not before %s", brief(want[i]), brief(want[i+1]))
		}
	}
	checkSorted(t, want, want...)
	back := slices.Clone(want)
	slices.Reverse(back)
	checkSorted(t, back, want...)
	checkSorted(t, slices.Concat(want, want), want...)
	checkSorted(t, slices.Concat(back, want, back), want...)
	r := rand.New(rand.NewSource(162))
	for range 200 {
		l := slices.Concat(want, want[:r.Intn(len(want))])
		r.Shuffle(len(l), func(i, k int) { l[i], l[k] = l[k], l[i] })
		checkSorted(t, l, want...)
	}
	for i, low := range want {
		for _, high := range want[i+1:] {
			checkSorted(t, []api.Port{high, low}, low, high)
		}
	}
}

// TestSortedAll: promise 16.2, all lists of up to five of some ports, and drawn ones, against the order.
func TestSortedAll(t *testing.T) {
	some := []api.Port{made("", 0, 1, "tcp"), made("", 1, 1, "tcp"), made("1.1.1.1", 0, 1, "tcp"), made("", 0, 1, "udp"), made("", 0, 2, "tcp"), made("1.1.1.1", 1, 2, "udp"), {}}
	eachList(some, 5, func(l []api.Port) { checkSorted(t, l, modelSorted(l)...) })
	r := rand.New(rand.NewSource(163))
	all := ladder()
	for range 3000 {
		var l []api.Port
		few := 1 + r.Intn(len(all))
		for range r.Intn(60) {
			l = append(l, all[r.Intn(few)])
		}
		if r.Intn(2) == 0 {
			for i := range l {
				l[i] = drawnPort(r)
			}
		}
		checkSorted(t, l, modelSorted(l)...)
	}
}

// TestClash: promises 16.2 and 16.3, ports with equal and different fields.
func TestClash(t *testing.T) {
	for _, x := range []struct {
		a, b api.Port
		want bool
	}{
		{made("", 80, 1, "tcp"), made("", 80, 2, "tcp"), true}, {made("", 80, 1, "udp"), made("", 80, 2, "udp"), true}, {made("", 1, 1, "tcp"), made("", 1, 1, "tcp"), true}, {made("", 65535, 1, "tcp"), made("", 65535, 1, "tcp"), true},
		{made("1.1.1.1", 80, 1, "tcp"), made("1.1.1.1", 80, 2, "tcp"), true}, {made("", 80, 1, "tcp"), made("1.1.1.1", 80, 2, "tcp"), true}, {made("", 80, 1, "udp"), made("255.255.255.255", 80, 2, "udp"), true},
		// An address of all numbers 0 is an address, and not empty.
		{made("0.0.0.0", 80, 1, "tcp"), made("1.1.1.1", 80, 1, "tcp"), false}, {made("0.0.0.0", 80, 1, "tcp"), made("", 80, 1, "tcp"), true}, {made("1.1.1.1", 80, 1, "tcp"), made("2.2.2.2", 80, 1, "tcp"), false}, {made("1.1.1.1", 80, 1, "tcp"), made("1.1.1.10", 80, 1, "tcp"), false},
		{made("", 80, 1, "tcp"), made("", 81, 1, "tcp"), false}, {made("", 80, 1, "tcp"), made("", 0, 1, "tcp"), false}, {made("", 80, 1, "tcp"), made("", -80, 1, "tcp"), false}, {made("1.1.1.1", 80, 1, "tcp"), made("1.1.1.1", 81, 1, "tcp"), false}, {made("", 80, 1, "tcp"), made("", 80+1<<32, 1, "tcp"), false},
		{made("", 0, 1, "tcp"), made("", 0, 1, "tcp"), false}, {made("1.1.1.1", 0, 1, "tcp"), made("1.1.1.1", 0, 1, "tcp"), false}, {made("", -1, 1, "tcp"), made("", -1, 1, "tcp"), false}, {made("", math.MinInt, 1, "tcp"), made("", math.MinInt, 1, "tcp"), false}, {made("1.1.1.1", -80, 1, "udp"), made("", -80, 1, "udp"), false}, {api.Port{}, api.Port{}, false},
		{made("", 80, 1, "tcp"), made("", 80, 1, "udp"), false}, {made("1.1.1.1", 80, 1, "tcp"), made("1.1.1.1", 80, 1, "udp"), false}, {made("", 80, 1, "tcp"), made("", 80, 1, "TCP"), false}, {made("", 80, 1, "tcp"), made("", 80, 1, ""), false},
		// Ports that are not valid clash by their fields, too.
		{made("", 80, 1, ""), made("", 80, 1, ""), true}, {made("", 80, 0, "sctp"), made("host", 80, -1, "sctp"), true}, {made("", 65536, 1, "tcp"), made("", 65536, 1, "tcp"), true}, {made("", math.MaxInt, 1, "tcp"), made("", math.MaxInt, 1, "tcp"), true}, {made("host", 80, 1, "tcp"), made("host", 80, 1, "tcp"), true}, {made("host", 80, 1, "tcp"), made("Host", 80, 1, "tcp"), false}, {made(" ", 80, 1, "tcp"), made("1.1.1.1", 80, 1, "tcp"), false}, {made(":", 80, 1, "tcp"), made("1.1.1.1", 80, 1, "tcp"), false},
	} {
		checkClash(t, x.a, x.b, x.want)
	}
	hosts := []string{"", "1.2.3.4", "1.2.3.40", "0.0.0.0", "host"}
	outs := []int{math.MinInt, -1, 0, 1, 2, 80, 65535, 65536, math.MaxInt}
	protos := []string{"", "tcp", "udp", "TCP"}
	var all []api.Port
	for _, h := range hosts {
		for _, out := range outs {
			for _, proto := range protos {
				all = append(all, made(h, out, 1, proto))
			}
		}
	}
	for _, a := range all {
		for _, b := range all {
			checkClash(t, a, b, modelClash(a, b))
		}
	}
}

// TestFirst: promise 16.2, lists with and without ports that clash.
func TestFirst(t *testing.T) {
	free := made("", 0, 80, "tcp") // clashes with none
	any1, any2 := made("", 1, 80, "tcp"), made("", 2, 80, "tcp")
	one1, two1 := made("1.1.1.1", 1, 80, "tcp"), made("2.2.2.2", 1, 80, "tcp")
	other := made("", 1, 80, "udp")
	for _, x := range []struct {
		l    []api.Port
		i, k int
	}{
		{nil, 0, 0}, {[]api.Port{}, 0, 0}, {[]api.Port{any1}, 0, 0}, {[]api.Port{free}, 0, 0}, {[]api.Port{{}, {}}, 0, 0},
		{[]api.Port{free, free}, 0, 0}, {[]api.Port{any1, any2}, 0, 0}, {[]api.Port{one1, two1}, 0, 0}, {[]api.Port{any1, other}, 0, 0}, {[]api.Port{one1, two1, any2, other, free, free}, 0, 0},
		{[]api.Port{any1, any1}, 0, 1}, {[]api.Port{any1, one1}, 0, 1}, {[]api.Port{one1, any1}, 0, 1}, {[]api.Port{any1, any1, any1}, 0, 1}, {[]api.Port{any1, one1, two1}, 0, 1},
		{[]api.Port{free, any1, any1}, 1, 2}, {[]api.Port{any1, free, any1}, 0, 2}, {[]api.Port{one1, two1, any1}, 0, 2}, {[]api.Port{two1, one1, any1}, 0, 2}, {[]api.Port{free, free, free, other, any1, any2, any1}, 4, 6},
		// The smallest first index comes first, though another pair ends earlier or stands nearer.
		{[]api.Port{any1, any2, any2, any1}, 0, 3}, {[]api.Port{any1, any2, any1, any2}, 0, 2}, {[]api.Port{any1, any2, any2, any2, one1}, 0, 4}, {[]api.Port{one1, two1, two1, one1}, 0, 3}, {[]api.Port{free, any1, other, other, any2, any2, any1}, 1, 6},
		// Then the smallest second index.
		{[]api.Port{any1, any2, any1, any1}, 0, 2}, {[]api.Port{any1, free, one1, any1, two1}, 0, 2}, {[]api.Port{free, one1, two1, any1, one1}, 1, 3}, {[]api.Port{free, one1, two1, one1, any1}, 1, 3}, {[]api.Port{any2, any1, one1, two1}, 1, 2},
		// A port that clashes with itself is no pair.
		{[]api.Port{any1, free}, 0, 0}, {[]api.Port{free, any1}, 0, 0},
	} {
		checkFirst(t, x.l, x.i, x.k, x.k > 0)
	}
}

// TestFirstAll: promise 16.2, all lists of up to six of some ports, one pair at each place of longer ones, and drawn ones.
func TestFirstAll(t *testing.T) {
	check := func(l []api.Port) {
		i, k, ok := modelFirst(l)
		checkFirst(t, l, i, k, ok)
	}
	eachList([]api.Port{made("", 0, 1, "tcp"), made("", 1, 1, "tcp"), made("1.1.1.1", 1, 1, "tcp"), made("2.2.2.2", 1, 2, "tcp"), made("2.2.2.2", 1, 2, "udp"), made("", 2, 2, "tcp")}, 6, check)
	for i := range 20 {
		for k := range 20 {
			l := make([]api.Port, 20)
			for m := range l {
				l[m] = made("", m+100, 80, "tcp")
			}
			l[i].Out, l[k].Out = 7, 7
			checkFirst(t, l, min(i, k)*min(max(i-k, k-i), 1), max(i, k)*min(max(i-k, k-i), 1), i != k)
		}
	}
	r := rand.New(rand.NewSource(164))
	for range 20000 {
		l := make([]api.Port, r.Intn(12))
		most := 1 + r.Intn(40)
		for i := range l {
			l[i] = made([]string{"", "1.1.1.1", "2.2.2.2", "3.3.3.3"}[r.Intn(4)], r.Intn(most)-1, r.Intn(3), []string{"tcp", "udp"}[r.Intn(2)])
		}
		check(l)
	}
}

// TestMemory: general rules R4 and R5, lists that are passed stay as they are, what stands behind their ends is neither read nor written, and results are new.
func TestMemory(t *testing.T) {
	a, b, c := made("", 80, 1, "tcp"), made("1.1.1.1", 81, 2, "tcp"), made("", 80, 0, "tcp")
	whole := []api.Port{b, a, b, c, c, a}
	given := slices.Clone(whole)
	for n := range len(whole) {
		for range 2 { // the same again
			want := modelSorted(given[:n])
			sorted := Sorted(whole[:n])
			if !slices.Equal(sorted, want) {
				t.Errorf("Sorted(%s) = %s; want %s", briefs(whole[:n]), briefs(sorted), briefs(want))
			}
			i, k, ok := modelFirst(given[:n])
			checkFirst(t, whole[:n], i, k, ok)
			// Whoever gets the list may write to it, and behind it.
			second := Sorted(whole[:n])
			for i := range sorted[:cap(sorted)] {
				sorted[:cap(sorted)][i] = made("mine", i, i, "mine")
			}
			_ = append(sorted, made("mine", 1, 1, "mine"))
			if !slices.Equal(second, want) {
				t.Errorf("two results share memory: %s", briefs(second))
			}
			if !slices.Equal(whole, given) {
				t.Fatalf("Sorted and First have changed %s to %s", briefs(given), briefs(whole))
			}
		}
	}
	// A list that is sorted already is copied, too.
	for _, l := range [][]api.Port{{c}, {c, a}, {c, a, b}, {a, b}} {
		given, sorted := slices.Clone(l), Sorted(l)
		sorted[0] = made("mine", 1, 1, "mine")
		if !slices.Equal(l, given) {
			t.Errorf("Sorted(%s) has returned the list itself", briefs(given))
		}
	}
}

// TestLong: promises 16.1, 16.2 and P1, the calls end soon for long strings and lists of any kind.
func TestLong(t *testing.T) {
	const times = 1 << 20
	for _, x := range []string{"0", "1", "9", ":", ".", "/", "-", " ", "\x00", "\xff", "1.", ".1", "1:", ":1", "1.2.3.4:", "80/", "/tcp", "/udp", "80/tcp", "1.2.3.4::80"} {
		s := strings.Repeat(x, times)
		for _, text := range []string{s, s + "80", "80" + s, s + ":8080:80", "1.2.3.4:" + s + ":80", "1.2.3.4:8080:" + s, "80/" + s, s + "/tcp", s + "/udp"} {
			checkNone(t, text)
		}
		checkPort(t, made(s, 8080, 80, "tcp"), "")
		checkPort(t, made("1.2.3.4"+s, 8080, 80, "tcp"), "")
		checkPort(t, made("", 8080, 80, s), "")
		checkPort(t, made("", 8080, 80, "tcp"+s), "")
	}
	many := make([]api.Port, 1<<17)
	for i := range many {
		many[i] = made("", 0, len(many)-i, "tcp")
	}
	want := slices.Clone(many)
	slices.Reverse(want)
	checkSorted(t, many, want...)
	checkSorted(t, slices.Repeat(many, 3), want...)
	few := slices.Clone(many[:4000])
	for i := range few {
		few[i].Out = i + 1
	}
	checkFirst(t, few, 0, 0, false)
	few[len(few)-2].Out = len(few)
	checkFirst(t, few, len(few)-2, len(few)-1, true)
}
