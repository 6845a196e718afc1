package mac_test

import (
	"crypto/hmac"
	"crypto/sha256"
	"encoding/hex"
	"math"
	"strings"
	"testing"

	"bulletin/api"
	"bulletin/mac"
	"bulletin/sha"
)

const (
	blockSize = 64
	codeSize  = 32
)

// anyBytes is a string with every byte once, so also bytes that are no text.
func anyBytes() string {
	b := make([]byte, 256)
	for i := range b {
		b[i] = byte(i)
	}
	return string(b)
}

// zeros is a string of n zero bytes.
func zeros(n int) string {
	return strings.Repeat("\x00", n)
}

// samples are strings of many lengths and contents, to be keys and messages.
func samples() []string {
	l := []string{
		"", "a", "b", "k", "s", "Jefe", "\x00", "a\x00", "\x00a", "\x36", "\x5c", "\x80", "\xff", "é", "\r\n", "hello",
		strings.Repeat("\x36", blockSize), strings.Repeat("\x5c", blockSize), strings.Repeat("\x6a", blockSize),
		anyBytes(), anyBytes() + anyBytes()[:77], sha.Sum("k"),
	}
	for _, n := range []int{2, 31, 32, 33, 55, 56, 63, 64, 65, 66, 127, 128, 129, 131} {
		l = append(l, strings.Repeat("x", n), zeros(n), anyBytes()[256-n:])
	}
	return l
}

// model is the library's code.
func model(key, s string) string {
	h := hmac.New(sha256.New, []byte(key))
	h.Write([]byte(s))
	return string(h.Sum(nil))
}

// flip returns s with one bit the other way.
func flip(s string, bit int) string {
	b := []byte(s)
	b[bit/8] ^= 1 << (bit % 8)
	return string(b)
}

func checkSum(t *testing.T, key, s, want string) {
	t.Helper()
	if sum := mac.Sum(key, s); sum != want {
		t.Errorf("Sum(%.40q of %d, %.40q of %d) = %x; want %x", key, len(key), s, len(s), sum, want)
	}
}

func checkFits(t *testing.T, key, s, sum string, want bool) {
	t.Helper()
	if mac.Fits(key, s, sum) != want {
		t.Errorf("Fits(%.40q, %.40q, %.80q) is not %v", key, s, sum, want)
	}
}

func TestErrorNumbers(t *testing.T) {
	if api.OK != 0 || api.ErrRange != 1 {
		t.Error("the errors of mac have other numbers than the chapter lists")
	}
}

// Promise 4.1: Sum, by the codes that RFC 4231 publishes, and by those of the empty key.
func TestSum(t *testing.T) {
	for _, c := range []struct{ key, s, sum string }{
		{"", "", "b613679a0814d9ec772f95d778c35fc5ff1697c493715653c6c712144292c5ad"},
		{"key", "The quick brown fox jumps over the lazy dog", "f7bc83f430538424b13298e6aa6fb143ef4d59a14946175997479dbc2d1a3cd8"},
		{strings.Repeat("\x0b", 20), "Hi There", "b0344c61d8db38535ca8afceaf0bf12b881dc200c9833da726e9376c2e32cff7"},
		{"Jefe", "what do ya want for nothing?", "5bdcc146bf60754e6a042426089575c75a003f089d2739839dec58b964ec3843"},
		{strings.Repeat("\xaa", 20), strings.Repeat("\xdd", 50), "773ea91e36800e46854db8ebd09181a72959098b3ef8c122d9635514ced565fe"},
		{anyBytes()[1:26], strings.Repeat("\xcd", 50), "82558a389a443c0ea4cc819899f2083a85f0faa3e578f8077a2e3ff46729665b"},
		{strings.Repeat("\xaa", 131), "Test Using Larger Than Block-Size Key - Hash Key First", "60e431591ee0b67f0d8a26aacbf5b77f8e0bc6213728c5140546040f0ee37f54"},
		{strings.Repeat("\xaa", 131), "This is a test using a larger than block-size key and a larger than block-size data. The key needs to be hashed before being used by the HMAC algorithm.", "9b09ffa71b942fcb27635fbcd5b0e944bfdc63644f0713938a7f51535c3a35e2"},
	} {
		if sum := hex.EncodeToString([]byte(mac.Sum(c.key, c.s))); sum != c.sum {
			t.Errorf("Sum(%.40q, %.40q) = %s; want %s", c.key, c.s, sum, c.sum)
		}
	}
}

// Promise 4.1: Sum returns bytes, not their digits, and always 32 of them.
func TestSumIsBytes(t *testing.T) {
	if sum := mac.Sum("Jefe", "what do ya want for nothing?"); !strings.HasPrefix(sum, "\x5b\xdc\xc1\x46") {
		t.Errorf("the code begins with % X", sum[:min(4, len(sum))])
	}
	for _, key := range samples() {
		for _, s := range samples() {
			if n := len(mac.Sum(key, s)); n != codeSize {
				t.Errorf("the code of %.40q under %.40q has %d bytes", s, key, n)
			}
		}
	}
}

// Promise 4.1: Sum against the library's, for every length of a key and of a string over several blocks, and for every byte.
func TestSumAsModel(t *testing.T) {
	check := func(key, s string) {
		checkSum(t, key, s, model(key, s))
	}
	for _, key := range samples() {
		for _, s := range samples() {
			check(key, s)
		}
	}
	for _, text := range []string{anyBytes(), zeros(256), strings.Repeat("\xff", 256)} {
		for n := range len(text) + 1 {
			check(text[:n], "what do ya want for nothing?")
			check(text[256-n:], "")
			check("Jefe", text[:n])
			check("", text[256-n:])
			check(text[:n], text[:n])
		}
	}
	for b := range 256 {
		x := string([]byte{byte(b)})
		check(x, "s")
		check("k", x)
		check(strings.Repeat(x, blockSize), x)
		check(strings.Repeat(x, blockSize+1), x)
	}
}

// Promise 4.1: the code written out by the definition, with digests alone.
func TestSumAsDefined(t *testing.T) {
	combined := func(block string, with byte) string {
		b := []byte(block)
		for i := range b {
			b[i] ^= with
		}
		return string(b)
	}
	for _, key := range samples() {
		block := key
		if len(block) > blockSize {
			block = sha.Sum(block)
		}
		block += zeros(blockSize - len(block))
		for _, s := range samples() {
			checkSum(t, key, s, sha.Sum(combined(block, 0x5c)+sha.Sum(combined(block, 0x36)+s)))
		}
	}
}

// Promise 4.1: the key and the string are not each other, nor one string that is cut somewhere.
func TestKeyAndStringAreTold(t *testing.T) {
	seen := map[string]string{}
	for _, whole := range []string{"abcdef", anyBytes()} {
		for at := range len(whole) + 1 {
			sum := mac.Sum(whole[:at], whole[at:])
			if other, is := seen[sum]; is {
				t.Errorf("%q cut at %d has the code of %s", whole, at, other)
			}
			seen[sum] = whole[:at] + " and " + whole[at:]
		}
	}
	if mac.Sum("k", "s") == mac.Sum("s", "k") {
		t.Error("the key and the string can be exchanged")
	}
}

// Promise 4.1: Short, of every length.
func TestShort(t *testing.T) {
	for _, key := range samples() {
		for _, s := range []string{"", "s", "what do ya want for nothing?", anyBytes()} {
			want := model(key, s)
			for n := 1; n <= codeSize; n++ {
				if short, c := mac.Short(key, s, n); short != want[:n] || c != api.OK {
					t.Errorf("Short(%.40q, %.40q, %d) = %x, %d; want %x, 0", key, s, n, short, int(c), want[:n])
				}
			}
		}
	}
	if short, c := mac.Short("Jefe", "what do ya want for nothing?", 4); short != "\x5b\xdc\xc1\x46" || c != api.OK {
		t.Errorf("Short of 4 bytes = %x, %d", short, int(c))
	}
}

// Promise 4.1 and rule R5: Short refuses the lengths that a code does not have, and returns nothing with the error.
func TestShortErrors(t *testing.T) {
	for _, n := range []int{0, 33, -1, -2, -32, -33, 34, 63, 64, 65, 255, 256, 257, 288, 1 << 31, 1<<32 + 1, 1<<32 + 32, -1 << 32, math.MaxInt, math.MinInt, math.MinInt + 32} {
		for _, key := range []string{"k", "", strings.Repeat("x", 65)} {
			for _, s := range []string{"s", "", anyBytes()} {
				if short, c := mac.Short(key, s, n); short != "" || c != api.ErrRange {
					t.Errorf("Short(%.40q, %.40q, %d) = %x, %d; want nothing, 1", key, s, n, short, int(c))
				}
			}
		}
	}
}

// Promise 4.1: Same is equality, for every two of many strings.
func TestSame(t *testing.T) {
	l := append(samples(), "A", "ab", "aB", "ba", "b\x00", "\x00\x00", "e\u0301", "e", "\xc3", "\xa9", "ab\x00", mac.Sum("k", "s"), mac.Sum("k", "s")[:10])
	for _, a := range l {
		for _, b := range l {
			if mac.Same(a, b) != (a == b) {
				t.Errorf("Same(%.40q, %.40q) = %v", a, b, a != b)
			}
		}
		// The same bytes in another place are the same string.
		if !mac.Same(a, string([]byte(a))) {
			t.Errorf("Same(%.40q, its copy) = false", a)
		}
	}
	if mac.Same("a", "ab") || mac.Same("ab", "a") || mac.Same("", "a") || mac.Same("a", "") || !mac.Same("", "") {
		t.Error("Same of strings of different lengths, or of two empty ones")
	}
}

// Promise 4.1: every bit of both strings counts for Same, and differences do not cancel each other out.
func TestSameEveryBit(t *testing.T) {
	for _, s := range []string{"a", mac.Sum("k", "s"), anyBytes(), zeros(9), strings.Repeat("\xff", 9)} {
		for bit := range 8 * len(s) {
			other := flip(s, bit)
			if mac.Same(s, other) || mac.Same(other, s) {
				t.Errorf("Same(%.40q, with bit %d flipped) = true", s, bit)
			}
			twice := flip(other, (bit+8)%(8*len(s)))
			if mac.Same(s, twice) != (s == twice) || mac.Same(twice, s) != (s == twice) {
				t.Errorf("Same(%.40q, with bit %d flipped in two bytes) = %v", s, bit, s != twice)
			}
		}
	}
	if mac.Same("ab", "ba") || mac.Same("\x00\x01", "\x01\x00") || mac.Same("\x01\xff", "\x02\xfe") {
		t.Error("Same of strings with the same bytes, or the same total, in another order")
	}
}

// Promise 4.1: a code fits, whole or cut to any length.
func TestFits(t *testing.T) {
	for _, key := range samples() {
		for _, s := range []string{"", "s", "what do ya want for nothing?", anyBytes()} {
			sum := model(key, s)
			for n := 1; n <= codeSize; n++ {
				checkFits(t, key, s, sum[:n], true)
			}
		}
	}
}

// Promise 4.1: what has no byte, or more than 32, fits nothing.
func TestFitsLengths(t *testing.T) {
	for _, key := range []string{"k", "", strings.Repeat("x", 65)} {
		for _, s := range []string{"s", "", anyBytes()} {
			sum := mac.Sum(key, s)
			checkFits(t, key, s, "", false)
			for _, more := range []string{"\x00", "x", sum[:1], sum, zeros(32), strings.Repeat("x", 1000)} {
				checkFits(t, key, s, sum+more, false)
			}
			for n := 1; n < codeSize; n++ {
				checkFits(t, key, s, sum[:n]+zeros(codeSize-n), false)
				checkFits(t, key, s, sum[n:], false)
				checkFits(t, key, s, sum[:n]+flip(sum[n:n+1], 0), false)
			}
		}
	}
}

// Promise 4.1: a code with any bit flipped does not fit, whole or cut.
func TestFitsEveryBit(t *testing.T) {
	sum := mac.Sum("k", "s")
	for n := 1; n <= codeSize; n++ {
		for bit := range 8 * n {
			checkFits(t, "k", "s", flip(sum[:n], bit), false)
		}
	}
}

// Promise 4.1: a code does not fit another key, another string, or in another form.
func TestFitsOthers(t *testing.T) {
	sum := mac.Sum("k", "s")
	for _, n := range []int{8, 10, 16, 31, 32} {
		for _, key := range []string{"", "K", "l", "kk", "k ", "\x00k", "s", "k\x01"} {
			checkFits(t, key, "s", sum[:n], false)
		}
		for _, s := range []string{"", "S", "t", "ss", "s ", "\x00s", "s\x00", "k"} {
			checkFits(t, "k", s, sum[:n], false)
		}
		checkFits(t, "s", "k", sum[:n], false)
		checkFits(t, "k", "s", sha.Sum("s")[:n], false)
		checkFits(t, "k", "s", sha.Sum("ks")[:n], false)
		checkFits(t, "k", "s", hex.EncodeToString([]byte(sum))[:n], false)
	}
}

// Promise 4.1: Fits is Short of the length of what is passed, compared.
func TestFitsIsShort(t *testing.T) {
	candidates := append(samples(), mac.Sum("k", "s"), mac.Sum("k", "s")[:1], mac.Sum("", ""), mac.Sum("", "")[:10], mac.Sum("k", "s")+"x")
	for _, key := range []string{"", "k"} {
		for _, s := range []string{"", "s"} {
			for _, sum := range candidates {
				short, c := mac.Short(key, s, len(sum))
				checkFits(t, key, s, sum, c == api.OK && short == sum)
			}
		}
	}
}

// Promise 4.2: a key of at most 64 bytes is equivalent to itself with zero bytes appended, up to 64 bytes.
func TestKeyWithZeros(t *testing.T) {
	for _, key := range samples() {
		if len(key) > blockSize {
			continue
		}
		sum := mac.Sum(key, "s")
		for more := range blockSize - len(key) + 1 {
			checkSum(t, key+zeros(more), "s", sum)
			checkFits(t, key+zeros(more), "s", sum[:10], true)
		}
	}
	for n := range blockSize + 1 {
		checkSum(t, zeros(n), "s", mac.Sum("", "s"))
	}
}

// Promise 4.2: beyond 64 bytes, before the key, or for other bytes than zero, what is added makes another key.
func TestKeyWithMore(t *testing.T) {
	for _, key := range []string{"k", "Jefe", strings.Repeat("x", 63), strings.Repeat("x", 64), anyBytes()[1:33]} {
		sum := mac.Sum(key, "s")
		for _, more := range []string{zeros(blockSize - len(key) + 1), zeros(blockSize - len(key) + 2), zeros(2 * blockSize), "\x01", " ", "0", "\x36", "\x5c", "\x80"} {
			if mac.Sum(key+more, "s") == sum {
				t.Errorf("the key %.40q is equivalent to itself followed by %q", key, more)
			}
		}
		if mac.Sum("\x00"+key, "s") == sum {
			t.Errorf("the key %.40q is equivalent to itself after a zero byte", key)
		}
	}
	if mac.Sum(zeros(blockSize+1), "s") == mac.Sum("", "s") {
		t.Error("65 zero bytes are equivalent to the empty key")
	}
}

// Promise 4.2: a key of more than 64 bytes is equivalent to its digest, and to that with zero bytes appended.
func TestLongKey(t *testing.T) {
	for _, text := range []string{anyBytes() + anyBytes(), zeros(512), strings.Repeat("x", 512)} {
		for n := blockSize + 1; n <= len(text); n++ {
			key := text[:n]
			sum := mac.Sum(key, "s")
			checkSum(t, sha.Sum(key), "s", sum)
			checkSum(t, sha.Sum(key)+zeros(codeSize), "s", sum)
			checkFits(t, sha.Sum(key), "s", sum[:10], true)
		}
	}
}

// Promise 4.2: a key of at most 64 bytes is not equivalent to its digest, and the 65th byte counts.
func TestKeyAtTheEdge(t *testing.T) {
	for n := range blockSize + 1 {
		key := anyBytes()[:n]
		if mac.Sum(key, "s") == mac.Sum(sha.Sum(key), "s") {
			t.Errorf("a key of %d bytes is equivalent to its digest", n)
		}
	}
	key := strings.Repeat("x", blockSize+1)
	if mac.Sum(key, "s") == mac.Sum(key[:blockSize], "s") {
		t.Error("a key of 65 bytes is equivalent to its first 64")
	}
	for bit := range 8 * len(key) {
		if mac.Sum(flip(key, bit), "s") == mac.Sum(key, "s") {
			t.Errorf("bit %d of a key of 65 bytes does not count", bit)
		}
	}
	for bit := range 8 * blockSize {
		if mac.Sum(flip(key[:blockSize], bit), "s") == mac.Sum(key[:blockSize], "s") {
			t.Errorf("bit %d of a key of 64 bytes does not count", bit)
		}
	}
}

// Rule R7: the same arguments have the same results, whatever was called between.
func TestCallsAreSeparate(t *testing.T) {
	first := mac.Sum("k", "s")
	for _, key := range samples() {
		mac.Sum(key, "other")
		mac.Short(key, "s", 7)
		mac.Short(key, "s", 0)
		mac.Fits(key, "s", first)
		checkSum(t, "k", "s", first)
		checkFits(t, "k", "s", first, true)
	}
	if first != model("k", "s") {
		t.Error("a code was changed later")
	}
}

// Promise P1: long keys and long strings end soon.
func TestLongInputs(t *testing.T) {
	long := strings.Repeat(anyBytes(), 40000)
	checkSum(t, long, "s", model(long, "s"))
	checkSum(t, "k", long, model("k", long))
	checkSum(t, long, long, model(long, long))
	checkFits(t, "k", "s", long, false)
	if !mac.Same(long, string([]byte(long))) || mac.Same(long, long[1:]) || mac.Same(long, flip(long, 8*len(long)-1)) {
		t.Error("Same of long strings")
	}
}
