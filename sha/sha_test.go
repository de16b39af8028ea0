package sha

import (
	"crypto/sha256"
	"encoding"
	"encoding/binary"
	"encoding/hex"
	"math"
	"math/big"
	"math/rand"
	"slices"
	"strings"
	"testing"
	"unsafe"
)

// publishedConstants returns the constants of the rounds as FIPS 180-4 prints them.
func publishedConstants() []uint32 {
	return []uint32{
		0x428a2f98, 0x71374491, 0xb5c0fbcf, 0xe9b5dba5, 0x3956c25b, 0x59f111f1, 0x923f82a4, 0xab1c5ed5,
		0xd807aa98, 0x12835b01, 0x243185be, 0x550c7dc3, 0x72be5d74, 0x80deb1fe, 0x9bdc06a7, 0xc19bf174,
		0xe49b69c1, 0xefbe4786, 0x0fc19dc6, 0x240ca1cc, 0x2de92c6f, 0x4a7484aa, 0x5cb0a9dc, 0x76f988da,
		0x983e5152, 0xa831c66d, 0xb00327c8, 0xbf597fc7, 0xc6e00bf3, 0xd5a79147, 0x06ca6351, 0x14292967,
		0x27b70a85, 0x2e1b2138, 0x4d2c6dfc, 0x53380d13, 0x650a7354, 0x766a0abb, 0x81c2c92e, 0x92722c85,
		0xa2bfe8a1, 0xa81a664b, 0xc24b8b70, 0xc76c51a3, 0xd192e819, 0xd6990624, 0xf40e3585, 0x106aa070,
		0x19a4c116, 0x1e376c08, 0x2748774c, 0x34b0bcb5, 0x391c0cb3, 0x4ed8aa4a, 0x5b9cca4f, 0x682e6ff3,
		0x748f82ee, 0x78a5636f, 0x84c87814, 0x8cc70208, 0x90befffa, 0xa4506ceb, 0xbef9a3f7, 0xc67178f2,
	}
}

// publishedState returns the initial state as FIPS 180-4 prints it.
func publishedState() State {
	return State{0x6a09e667, 0xbb67ae85, 0x3c6ef372, 0xa54ff53a, 0x510e527f, 0x9b05688c, 0x1f83d9ab, 0x5be0cd19}
}

// sieve returns the primes up to most.
func sieve(most int) []int {
	var primes []int
	crossed := make([]bool, most+1)
	for n := 2; n <= most; n++ {
		if crossed[n] {
			continue
		}
		primes = append(primes, n)
		for m := n * n; m <= most; m += n {
			crossed[m] = true
		}
	}
	return primes
}

func checkPrimes(t *testing.T, n int, want []int) {
	t.Helper()
	if got := Primes(n); !slices.Equal(got, want) {
		t.Errorf("Primes(%d) = %v; want %v", n, got, want)
	}
}

// TestPrimes: promise 5.1, the first primes, and both ends of the numbers that have any.
func TestPrimes(t *testing.T) {
	for n, want := range [][]int{{}, {2}, {2, 3}, {2, 3, 5}, {2, 3, 5, 7}, {2, 3, 5, 7, 11}, {2, 3, 5, 7, 11, 13}, {2, 3, 5, 7, 11, 13, 17}, {2, 3, 5, 7, 11, 13, 17, 19}} {
		checkPrimes(t, n, want)
	}
	for _, x := range [][2]int{{10, 29}, {25, 97}, {30, 113}, {64, 311}, {99, 523}, {100, 541}} {
		if got := Primes(x[0]); len(got) != x[0] || got[len(got)-1] != x[1] {
			t.Errorf("Primes(%d) = %v; want %d of them, up to %d", x[0], got, x[0], x[1])
		}
	}
	for _, n := range []int{-1, -2, -64, -100, math.MinInt + 1, math.MinInt, 101, 102, 128, 200, 1000, 1 << 32, 1<<32 + 1, math.MaxInt - 1, math.MaxInt} {
		checkPrimes(t, n, nil)
	}
}

// TestPrimesAll: promise 5.1, every number that has primes, and those around, against a sieve.
func TestPrimesAll(t *testing.T) {
	all := sieve(1000)
	for n := -300; n <= 400; n++ {
		if n < 0 || n > 100 {
			checkPrimes(t, n, nil)
		} else {
			checkPrimes(t, n, all[:n])
		}
	}
}

// TestPrimesAreNew: rules R4 and R5, an answer that is written to changes no other answer.
func TestPrimesAreNew(t *testing.T) {
	before := Print("abc")
	for _, n := range []int{8, 64, 100} {
		got := Primes(n)
		for i := range got {
			got[i] = 4
		}
		_ = append(got, 6)
		checkPrimes(t, n, sieve(1000)[:n])
	}
	if after := Print("abc"); after != before {
		t.Errorf("Print(abc) = %s after its primes were written to; want %s", after, before)
	}
}

func checkRoot(t *testing.T, p, kind int, want uint32) {
	t.Helper()
	if got := Root(p, kind); got != want {
		t.Errorf("Root(%d, %d) = %#x; want %#x", p, kind, got, want)
	}
}

// TestRootPublished: promise 5.1, the cube roots of the first 64 primes and the square roots of the first 8.
func TestRootPublished(t *testing.T) {
	primes := sieve(311)
	if len(primes) != 64 {
		t.Fatal(len(primes))
	}
	for i, want := range publishedConstants() {
		checkRoot(t, primes[i], 3, want)
	}
	for i, want := range publishedState() {
		checkRoot(t, primes[i], 2, want)
	}
}

// TestRoot: promise 5.1, both ends of the numbers that have roots, perfect squares and cubes and their neighbors.
func TestRoot(t *testing.T) {
	for _, x := range []struct {
		p            int
		square, cube uint32
	}{
		{0, 0, 0}, {1, 0, 0}, {2, 0x6a09e667, 0x428a2f98}, {3, 0xbb67ae85, 0x71374491}, {4, 0, 0x965fea53}, {8, 0xd413cccf, 0},
		{26, 0x195957c4, 0xf6662470}, {27, 0x32370b90, 0}, {28, 0x4a9fea74, 0x095de515},
		{63, 0xefefdfaf, 0xfaa37e40}, {64, 0, 0}, {65, 0x0ff01fb0, 0x054e4887}, {512, 0xa09e667f, 0},
		{728, 0xfb41f432, 0xfef22e5d}, {729, 0, 0}, {730, 0x04bd36b6, 0x010d927e},
		{899, 0xfbbb6e04, 0xa6bcafdb}, {900, 0, 0xa7a71f83}, {960, 0xfbdeb14f, 0xdd66b2b0}, {961, 0, 0xde4719a7}, {962, 0x0420c1e6, 0xdf2758c8},
		{998, 0x9754d1e0, 0xfe4acd3e}, {999, 0x9b61d023, 0xff25794b}, {1000, 0x9f6e4990, 0}, {1001, 0, 0},
	} {
		checkRoot(t, x.p, 2, x.square)
		checkRoot(t, x.p, 3, x.cube)
	}
	for n := 1; n*n <= 1000; n++ {
		checkRoot(t, n*n, 2, 0)
	}
	for n := 1; n*n*n <= 1000; n++ {
		checkRoot(t, n*n*n, 3, 0)
	}
}

// TestRootOthers: promise 5.1, other kinds, and numbers that have no roots, up to the least and greatest integers.
func TestRootOthers(t *testing.T) {
	far := []int{math.MinInt, math.MinInt + 1, math.MinInt + 2, math.MinInt + 3, -1 << 32, -1<<32 + 2, -1000, -4, -3, -2, -1, 0, 1001, 1002, 1009, 1024, 2000, 1<<32 + 2, 1<<32 + 3, 1<<53 + 1, 1 << 62, math.MaxInt - 2, math.MaxInt - 1, math.MaxInt}
	for _, p := range far {
		for kind := -1; kind <= 6; kind++ {
			checkRoot(t, p, kind, 0)
		}
		for _, kind := range far {
			checkRoot(t, p, kind, 0)
		}
	}
	for p := 1; p <= 1000; p++ {
		for _, kind := range append(far, 1, 4, 5, 6, 7, 8, 32, 64) {
			checkRoot(t, p, kind, 0)
		}
	}
}

// isRoot reports whether the whole part and the 32 bits behind the point are the greatest x with x^kind <= p*2^(32*kind).
func isRoot(p, kind int, whole int64, part uint32) bool {
	most := new(big.Int).Lsh(big.NewInt(int64(p)), uint(32*kind))
	x := big.NewInt(whole<<32 + int64(part))
	above := new(big.Int).Add(x, big.NewInt(1))
	degree := big.NewInt(int64(kind))
	return x.Exp(x, degree, nil).Cmp(most) <= 0 && above.Exp(above, degree, nil).Cmp(most) > 0
}

// TestRootAll: promise 5.1, the roots of every number that has any, against what a root is.
func TestRootAll(t *testing.T) {
	for p := 1; p <= 1000; p++ {
		square, cube := int64(1), int64(1)
		for (square+1)*(square+1) <= int64(p) {
			square++
		}
		for (cube+1)*(cube+1)*(cube+1) <= int64(p) {
			cube++
		}
		if got := Root(p, 2); !isRoot(p, 2, square, got) {
			t.Errorf("Root(%d, 2) = %#x is not the greatest", p, got)
		}
		if got := Root(p, 3); !isRoot(p, 3, cube, got) {
			t.Errorf("Root(%d, 3) = %#x is not the greatest", p, got)
		}
	}
}

// kinds returns strings of n bytes: of one byte each, among them those that Pad adds, and of all bytes in turns.
func kinds(n int) []string {
	turns := make([]byte, n)
	for i := range turns {
		turns[i] = byte(i*7 + n)
	}
	return []string{strings.Repeat("x", n), strings.Repeat("\x00", n), strings.Repeat("\x80", n), strings.Repeat("\xff", n), string(turns)}
}

// checkPad holds Pad against the parts of which it consists, and its length against the lengths that are long enough.
func checkPad(t *testing.T, s string) {
	t.Helper()
	got := Pad(s)
	if len(got)%64 != 0 || len(got) < len(s)+9 || len(got) >= len(s)+9+64 {
		t.Fatalf("Pad of %d bytes has %d bytes", len(s), len(got))
	}
	if got[:len(s)] != s {
		t.Errorf("Pad of %d bytes does not begin with them", len(s))
	}
	end := got[len(s):]
	length := binary.BigEndian.AppendUint64(nil, uint64(len(s))*8)
	if want := "\x80" + strings.Repeat("\x00", len(end)-9) + string(length); end != want {
		t.Errorf("Pad of %d bytes ends with %x; want %x", len(s), end, want)
	}
}

// TestPad: promise 5.2, the number of zeros around the lengths at which a block more is needed, and the length in bits.
func TestPad(t *testing.T) {
	for _, x := range []struct {
		bytes, zeros int
		length       string
	}{
		{0, 55, "\x00\x00"}, {1, 54, "\x00\x08"}, {31, 24, "\x00\xf8"}, {32, 23, "\x01\x00"}, {54, 1, "\x01\xb0"}, {55, 0, "\x01\xb8"}, {56, 63, "\x01\xc0"}, {57, 62, "\x01\xc8"},
		{62, 57, "\x01\xf0"}, {63, 56, "\x01\xf8"}, {64, 55, "\x02\x00"}, {65, 54, "\x02\x08"}, {118, 1, "\x03\xb0"}, {119, 0, "\x03\xb8"}, {120, 63, "\x03\xc0"}, {121, 62, "\x03\xc8"}, {128, 55, "\x04\x00"},
	} {
		for _, s := range kinds(x.bytes) {
			want := s + "\x80" + strings.Repeat("\x00", x.zeros) + "\x00\x00\x00\x00\x00\x00" + x.length
			if got := Pad(s); got != want {
				t.Errorf("Pad(%q) = %q; want %q", s, got, want)
			}
		}
	}
}

// TestPadAll: promises 5.2 and P1, every length up to some blocks, and those around each at which the length in bits gains a byte.
func TestPadAll(t *testing.T) {
	for n := range 700 {
		for _, s := range kinds(n) {
			checkPad(t, s)
		}
	}
	for _, n := range []int{1 << 13, 1 << 16, 1 << 20, 1 << 21, 1 << 24} {
		for d := -10; d <= 10; d++ {
			checkPad(t, strings.Repeat("x", n+d))
		}
	}
}

// TestPadLong: promise 5.2, a length whose bits are more than 32 bits can tell.
func TestPadLong(t *testing.T) {
	// Bytes that nobody writes to take no memory: only what Pad returns does.
	zeros := make([]byte, 1<<29+5)
	s := unsafe.String(&zeros[0], len(zeros))
	got := Pad(s)
	if want := "\x80" + strings.Repeat("\x00", 50) + "\x00\x00\x00\x01\x00\x00\x00\x28"; len(got) != 1<<29+64 || got[len(s):] != want {
		t.Errorf("Pad of %d bytes ends with %x; want %x", len(s), got[len(s):], want)
	}
}

// reference returns the state after a block, by the library: a hash whose state is replaced before it is given the block.
func reference(t *testing.T, h State, block string) State {
	t.Helper()
	digest := sha256.New()
	kept, err := digest.(encoding.BinaryMarshaler).MarshalBinary()
	if err != nil || len(kept) != 4+32+64+8 {
		t.Fatal(len(kept), err)
	}
	for i, w := range h {
		binary.BigEndian.PutUint32(kept[4+4*i:], w)
	}
	if err := digest.(encoding.BinaryUnmarshaler).UnmarshalBinary(kept); err != nil {
		t.Fatal(err)
	}
	digest.Write([]byte(block))
	if kept, err = digest.(encoding.BinaryMarshaler).MarshalBinary(); err != nil {
		t.Fatal(err)
	}
	var after State
	for i := range after {
		after[i] = binary.BigEndian.Uint32(kept[4+4*i:])
	}
	return after
}

func checkBlock(t *testing.T, h State, b string, want State) {
	t.Helper()
	given := h
	if got := Block(h, b); got != want {
		t.Errorf("Block(%x, %q) = %x; want %x", h, b, got, want)
	}
	if h != given {
		t.Errorf("Block(%x, %q) has written %x to its argument", given, b, h)
	}
}

// states returns the initial state, those whose words are all alike, those with one bit, and drawn ones.
func states(random *rand.Rand) []State {
	l := []State{publishedState(), {}, {1, 2, 3, 4, 5, 6, 7, 8}}
	for _, w := range []uint32{math.MaxUint32, math.MaxUint32 - 1, 1, 1 << 31, 1<<31 - 1, 0x55555555, 0xaaaaaaaa} {
		l = append(l, State{w, w, w, w, w, w, w, w})
	}
	for i := range 8 {
		one, all := State{}, State{math.MaxUint32, math.MaxUint32, math.MaxUint32, math.MaxUint32, math.MaxUint32, math.MaxUint32, math.MaxUint32, math.MaxUint32}
		one[i], all[i] = 1<<(4*i), 0
		l = append(l, one, all)
	}
	for range 20 {
		var h State
		for i := range h {
			h[i] = random.Uint32()
		}
		l = append(l, h)
	}
	return l
}

// drawn returns n drawn bytes.
func drawn(random *rand.Rand, n int) string {
	b := make([]byte, n)
	random.Read(b)
	return string(b)
}

// TestBlockPublished: promise 5.2, the states after the blocks of FIPS 180-4's examples.
func TestBlockPublished(t *testing.T) {
	checkBlock(t, publishedState(), "abc\x80"+strings.Repeat("\x00", 59)+"\x18", State{0xba7816bf, 0x8f01cfea, 0x414140de, 0x5dae2223, 0xb00361a3, 0x96177a9c, 0xb410ff61, 0xf20015ad})
	s := "abcdbcdecdefdefgefghfghighijhijkijkljklmklmnlmnomnopnopq"
	first := State{0x85e655d6, 0x417a1795, 0x3363376a, 0x624cde5c, 0x76e09589, 0xcac5f811, 0xcc4b32c1, 0xf20e533a}
	checkBlock(t, publishedState(), s+"\x80"+strings.Repeat("\x00", 7), first)
	checkBlock(t, first, strings.Repeat("\x00", 62)+"\x01\xc0", State{0x248d6a61, 0xd20638b8, 0xe5c02693, 0x0c3e6039, 0xa33ce459, 0x64ff2167, 0xf6ecedd4, 0x19db06c1})
}

// TestBlockShort: promises 5.2 and P1, fewer bytes than a block change nothing.
func TestBlockShort(t *testing.T) {
	random := rand.New(rand.NewSource(51))
	for _, h := range states(random) {
		checkBlock(t, h, "", h)
		for n := range 64 {
			for _, s := range kinds(n) {
				checkBlock(t, h, s, h)
			}
		}
	}
}

// TestBlock: promise 5.2, blocks and more than blocks of many kinds, of which only the first 64 bytes count, from many states.
func TestBlock(t *testing.T) {
	random := rand.New(rand.NewSource(52))
	for _, h := range states(random) {
		for _, block := range append(kinds(64), drawn(random, 64), drawn(random, 64)) {
			want := reference(t, h, block)
			if want == h {
				t.Fatalf("the reference of %x and %q changes nothing", h, block)
			}
			checkBlock(t, h, block, want)
			for _, more := range []string{"\x00", "x", "\xff", drawn(random, 63), block, block + "x", drawn(random, 128), strings.Repeat(block, 10)} {
				checkBlock(t, h, block+more, want)
			}
		}
	}
}

// TestBlockBytes: promise 5.2, every single bit of a block, and every byte of it.
func TestBlockBytes(t *testing.T) {
	random := rand.New(rand.NewSource(53))
	h, base := publishedState(), drawn(random, 64)
	for i := range 64 {
		for bit := range 8 {
			for _, whole := range []string{strings.Repeat("\x00", 64), base} {
				block := []byte(whole)
				block[i] ^= 1 << bit
				checkBlock(t, h, string(block), reference(t, h, string(block)))
			}
		}
	}
}

// TestHex: promise 5.3, no byte, some, and each one.
func TestHex(t *testing.T) {
	for _, x := range [][2]string{{"", ""}, {"\x00", "00"}, {"\x09", "09"}, {"\x0a", "0a"}, {"\x0f", "0f"}, {"\x10", "10"}, {"\x7f", "7f"}, {"\x80", "80"}, {"\x99", "99"}, {"\x9a", "9a"}, {"\xa9", "a9"}, {"\xff", "ff"}, {"\x00\xffA", "00ff41"}, {"\x01\x23\x45\x67\x89\xab\xcd\xef", "0123456789abcdef"}, {"abc", "616263"}, {"\u00e4", "c3a4"}, {"\x00\x00", "0000"}} {
		if got := Hex(x[0]); got != x[1] {
			t.Errorf("Hex(%q) = %q; want %q", x[0], got, x[1])
		}
	}
	for b := range 256 {
		for _, s := range []string{string([]byte{byte(b)}), string([]byte{'<', byte(b)}), string([]byte{byte(b), '>'}), string([]byte{byte(b), byte(b), 0xff})} {
			if got, want := Hex(s), hex.EncodeToString([]byte(s)); got != want {
				t.Errorf("Hex(%q) = %q; want %q", s, got, want)
			}
		}
	}
	for _, n := range []int{31, 32, 33, 64, 1000, 1 << 20} {
		for _, s := range kinds(n) {
			if Hex(s) != hex.EncodeToString([]byte(s)) {
				t.Errorf("Hex of %d bytes such as %x is wrong", n, s[:1])
			}
		}
	}
}

// checkSum holds Sum and Print against the hash in hexadecimal digits.
func checkSum(t *testing.T, s string, want string) {
	t.Helper()
	about := s[:min(len(s), 80)]
	bytes, err := hex.DecodeString(want)
	if err != nil || len(bytes) != 32 {
		t.Fatal(want, err)
	}
	if got := Sum(s); got != string(bytes) {
		t.Errorf("Sum of %d bytes (%q ..) = %x; want %s", len(s), about, got, want)
	}
	if got := Print(s); got != want {
		t.Errorf("Print of %d bytes (%q ..) = %q; want %s", len(s), about, got, want)
	}
}

// TestSumPublished: promise 5.3, the published examples.
func TestSumPublished(t *testing.T) {
	for _, x := range [][2]string{
		{"", "e3b0c44298fc1c149afbf4c8996fb92427ae41e4649b934ca495991b7852b855"},
		{"abc", "ba7816bf8f01cfea414140de5dae2223b00361a396177a9cb410ff61f20015ad"},
		{"abcdbcdecdefdefgefghfghighijhijkijkljklmklmnlmnomnopnopq", "248d6a61d20638b8e5c026930c3e6039a33ce45964ff2167f6ecedd419db06c1"},
		{"abcdefghbcdefghicdefghijdefghijkefghijklfghijklmghijklmnhijklmnoijklmnopjklmnopqklmnopqrlmnopqrsmnopqrstnopqrstu", "cf5b16a778af8380036ce59e7b0492370b249b11e8f07a51afac45037afee9d1"},
		{strings.Repeat("a", 1000000), "cdc76e5c9914fb9281a1c7e284d73e67f1809a48a497200e046d39ccc7112cd0"},
	} {
		checkSum(t, x[0], x[1])
	}
}

// checkLibrary holds Sum and Print against the library.
func checkLibrary(t *testing.T, s string) {
	t.Helper()
	want := sha256.Sum256([]byte(s))
	checkSum(t, s, hex.EncodeToString(want[:]))
}

// TestSumAll: promises 5.3 and P1, strings of each length from 0 to 200 bytes, and of some longer ones, against the library.
func TestSumAll(t *testing.T) {
	random := rand.New(rand.NewSource(54))
	for n := range 201 {
		for _, s := range append(kinds(n), drawn(random, n), drawn(random, n), drawn(random, n)) {
			checkLibrary(t, s)
		}
	}
	for _, n := range []int{255, 256, 257, 511, 512, 1000, 1 << 13, 1<<13 + 55, 1<<13 + 56, 1 << 16, 1 << 21} {
		for _, s := range append(kinds(n), drawn(random, n)) {
			checkLibrary(t, s)
		}
	}
	for b := range 256 {
		checkLibrary(t, string([]byte{byte(b)}))
		checkLibrary(t, string([]byte{'x', byte(b), 'x'}))
	}
}

// TestSumOfBlocks: promises 5.2 and 5.3, the hash is the state after all blocks of the padded string, each from the state after the one before it.
func TestSumOfBlocks(t *testing.T) {
	for n := range 300 {
		for _, s := range kinds(n) {
			h, bytes := publishedState(), []byte{}
			for rest := Pad(s); rest != ""; rest = rest[64:] {
				h = Block(h, rest)
			}
			for _, w := range h {
				bytes = binary.BigEndian.AppendUint32(bytes, w)
			}
			if got := Sum(s); got != string(bytes) {
				t.Errorf("Sum(%q) = %x; its blocks make %x", s, got, bytes)
			}
			if got := Print(s); got != Hex(Sum(s)) {
				t.Errorf("Print(%q) = %q; want %q", s, got, Hex(Sum(s)))
			}
		}
	}
}

// TestSumAgain: rule R5, an answer does not depend on the calls before it.
func TestSumAgain(t *testing.T) {
	first := Print("abc")
	Sum(strings.Repeat("x", 1000))
	Block(State{1}, strings.Repeat("x", 64))
	Root(7, 3)
	if again := Print("abc"); again != first {
		t.Errorf("Print(abc) = %s at first and %s again", first, again)
	}
}
