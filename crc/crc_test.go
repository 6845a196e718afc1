package crc_test

import (
	"hash/crc32"
	"strings"
	"testing"

	"bulletin/api"
	"bulletin/crc"
)

// anyBytes is a string with every byte once, so also bytes that are no text.
func anyBytes() string {
	b := make([]byte, 256)
	for i := range b {
		b[i] = byte(i)
	}
	return string(b)
}

// samples are strings of many lengths and contents.
func samples() []string {
	return []string{
		"", "a", "b", "A", "\x00", "\x00\x00", "\x00\x00\x00\x00", "\xff", "\xff\xff\xff\xff", "\x80", "\x01", "hello", "é", "\r\n",
		"123456789", "abc", "abcd", "abcde", strings.Repeat("\x00", 32), strings.Repeat("\xff", 32), strings.Repeat("x", 255),
		anyBytes(), anyBytes() + anyBytes()[:77],
	}
}

// numbers are checksums at the edges of their range, and some between.
func numbers() []uint32 {
	l := []uint32{0, 1, 0x7f, 0x80, 0xff, 0x100, 0xffff, 0x10000, 0xffffff, 0x1000000, 0x7fffffff, 0x80000000, 0xe3069283, 0x12345678, 0xfffffffe, 0xffffffff}
	for bit := range 32 {
		l = append(l, 1<<bit)
	}
	return l
}

// model is the library's checksum with the same polynomial.
func model(s string) uint32 {
	return crc32.Checksum([]byte(s), crc32.MakeTable(crc32.Castagnoli))
}

// flip returns s with one bit the other way.
func flip(s string, bit int) string {
	b := []byte(s)
	b[bit/8] ^= 1 << (bit % 8)
	return string(b)
}

func TestErrorNumbers(t *testing.T) {
	if api.OK != 0 || api.ErrShape != 4 {
		t.Error("the errors of crc have other numbers than the chapter lists")
	}
}

// Promise 2.1: Sum, by checksums that are published.
func TestSum(t *testing.T) {
	up := anyBytes()[:32]
	down := ""
	for i := range up {
		down = up[i:i+1] + down
	}
	for _, c := range []struct {
		s string
		n uint32
	}{
		{"", 0},
		{"123456789", 0xe3069283},
		{"a", 0xc1d04330},
		{strings.Repeat("\x00", 32), 0x8a9136aa},
		{strings.Repeat("\xff", 32), 0x62a8ab43},
		{up, 0x46dd794e},
		{down, 0x113fdb5c},
	} {
		if n := crc.Sum(c.s); n != c.n {
			t.Errorf("Sum(%q) = %X; want %X", c.s, n, c.n)
		}
	}
}

// Promise 2.1: Sum against the library's, for every string of at most two bytes and for long ones.
func TestSumAsModel(t *testing.T) {
	check := func(s string) {
		if n, want := crc.Sum(s), model(s); n != want {
			t.Errorf("Sum(%.40q) = %X; want %X", s, n, want)
		}
	}
	for a := range 256 {
		check(string([]byte{byte(a)}))
		for b := range 256 {
			check(string([]byte{byte(a), byte(b)}))
		}
	}
	for _, s := range samples() {
		check(s)
	}
	text := strings.Repeat(anyBytes(), 3)
	for n := range len(text) {
		check(text[:n])
	}
}

// Promise 2.1: Add.
func TestAdd(t *testing.T) {
	if n := crc.Add(crc.Sum("1234"), "56789"); n != 0xe3069283 {
		t.Errorf("Add(Sum(1234), 56789) = %X", n)
	}
	table := crc32.MakeTable(crc32.Castagnoli)
	for _, sum := range numbers() {
		if n := crc.Add(sum, ""); n != sum {
			t.Errorf("Add(%X, nothing) = %X", sum, n)
		}
		for _, s := range samples() {
			if n, want := crc.Add(sum, s), crc32.Update(sum, table, []byte(s)); n != want {
				t.Errorf("Add(%X, %.40q) = %X; want %X", sum, s, n, want)
			}
		}
	}
}

// Promise 2.1: Bytes has the lowest byte first, and always four.
func TestBytes(t *testing.T) {
	for _, c := range []struct {
		n uint32
		s string
	}{
		{0, "\x00\x00\x00\x00"},
		{1, "\x01\x00\x00\x00"},
		{0x100, "\x00\x01\x00\x00"},
		{0x10000, "\x00\x00\x01\x00"},
		{0x1000000, "\x00\x00\x00\x01"},
		{0xe3069283, "\x83\x92\x06\xe3"},
		{0x64636261, "abcd"},
		{0xfffffffe, "\xfe\xff\xff\xff"},
		{0xffffffff, "\xff\xff\xff\xff"},
	} {
		if s := crc.Bytes(c.n); s != c.s {
			t.Errorf("Bytes(%X) = %q; want %q", c.n, s, c.s)
		}
	}
}

// Promise 2.1: Number.
func TestNumber(t *testing.T) {
	for _, c := range []struct {
		s string
		n uint32
	}{
		{"\x83\x92\x06\xe3", 0xe3069283},
		{"\x00\x00\x00\x00", 0},
		{"\x01\x00\x00\x00", 1},
		{"\x00\x00\x00\x80", 0x80000000},
		{"\xff\xff\xff\xff", 0xffffffff},
		{"abcd", 0x64636261},
	} {
		if n, e := crc.Number(c.s); n != c.n || e != api.OK {
			t.Errorf("Number(%q) = %X, %d; want %X, 0", c.s, n, int(e), c.n)
		}
	}
}

// Promise 2.1: Number and Bytes are each other's inverses.
func TestNumberInvertsBytes(t *testing.T) {
	for _, sum := range numbers() {
		if n, e := crc.Number(crc.Bytes(sum)); n != sum || e != api.OK {
			t.Errorf("Number(Bytes(%X)) = %X, %d", sum, n, int(e))
		}
	}
	for at := range 4 {
		for b := range 256 {
			s := []byte("wxyz")
			s[at] = byte(b)
			n, e := crc.Number(string(s))
			if back := crc.Bytes(n); back != string(s) || e != api.OK {
				t.Errorf("Bytes(Number(%q)) = %q, %d", s, back, int(e))
			}
		}
	}
}

// Promise 2.1: Number of what does not have four bytes.
func TestNumberErrors(t *testing.T) {
	for _, s := range []string{"", "a", "ab", "abc", "abcde", "\x00\x00\x00", "\x00\x00\x00\x00\x00", "\xff\xff\xff", "éé\x00", "abcdefgh", anyBytes()} {
		if n, e := crc.Number(s); n != 0 || e != api.ErrShape {
			t.Errorf("Number(%q) = %X, %d; want 0, %d", s, n, int(e), int(api.ErrShape))
		}
	}
	// Four runes are not four bytes.
	if n, e := crc.Number("éééé"); n != 0 || e != api.ErrShape {
		t.Errorf("Number of four runes = %X, %d", n, int(e))
	}
}

// Promise 2.2: Seal.
func TestSeal(t *testing.T) {
	for _, c := range []struct{ s, sealed string }{
		{"", "\x00\x00\x00\x00"},
		{"123456789", "123456789\x83\x92\x06\xe3"},
		{"a", "a\x30\x43\xd0\xc1"},
		{strings.Repeat("\x00", 32), strings.Repeat("\x00", 32) + "\xaa\x36\x91\x8a"},
	} {
		if s := crc.Seal(c.s); s != c.sealed {
			t.Errorf("Seal(%q) = %q; want %q", c.s, s, c.sealed)
		}
	}
	for _, s := range samples() {
		if sealed := crc.Seal(s); sealed != s+crc.Bytes(crc.Sum(s)) {
			t.Errorf("Seal(%.40q) = %.60q", s, sealed)
		}
	}
}

// Promise 2.2: Fits of strings that are no Seal.
func TestFitsNot(t *testing.T) {
	hello := crc.Seal("hello")
	for _, s := range []string{
		"", "a", "ab", "abc", "\x00", "\x00\x00", "\x00\x00\x00", "\xff\xff\xff\xff", "\x00\x00\x00\x01", "\x01\x00\x00\x00", "abcd",
		"hello", "h" + hello, hello[1:], hello[:len(hello)-1], hello + "\x00", hello + "x", "\x00" + hello, hello + hello,
		"123456789\xe3\x06\x92\x83", "123456789E3069283", "\x83\x92\x06\xe3123456789", "\x83\x92\x06\xe3",
		"\x00\x00\x00\x00\x00",
	} {
		if crc.Fits(s) {
			t.Errorf("Fits(%q) is true", s)
		}
	}
}

// Promise 2.2: Fits is exactly that the last four bytes seal those before.
func TestFitsAsPromised(t *testing.T) {
	for _, s := range samples() {
		for _, tail := range samples() {
			whole := s + tail
			want := false
			if len(whole) >= 4 {
				want = crc.Seal(whole[:len(whole)-4]) == whole
			}
			if crc.Fits(whole) != want {
				t.Errorf("Fits(%.60q) is not %v", whole, want)
			}
		}
	}
	// Of all checksums of which one byte is another, one alone fits.
	for at := range 4 {
		fitting := 0
		for b := range 256 {
			s := []byte(crc.Seal("hello"))
			s[len("hello")+at] = byte(b)
			if crc.Fits(string(s)) {
				fitting++
			}
		}
		if fitting != 1 {
			t.Errorf("%d values of byte %d of the checksum fit", fitting, at)
		}
	}
}

// Promise 2.3: the checksum of a concatenation, wherever it is divided.
func TestAddIsConcatenation(t *testing.T) {
	for _, a := range samples() {
		for _, b := range samples() {
			if n, want := crc.Add(crc.Sum(a), b), crc.Sum(a+b); n != want {
				t.Errorf("Add(Sum(%.40q), %.40q) = %X; want %X", a, b, n, want)
			}
		}
	}
	for _, s := range samples() {
		var sum uint32
		for i := range len(s) {
			sum = crc.Add(sum, s[i:i+1])
			if n := crc.Add(sum, s[i+1:]); n != crc.Sum(s) {
				t.Errorf("%.40q divided at %d: %X; want %X", s, i+1, n, crc.Sum(s))
			}
		}
		if sum != crc.Sum(s) {
			t.Errorf("%.40q byte by byte: %X; want %X", s, sum, crc.Sum(s))
		}
	}
}

// Promise 2.3: a sealed string fits, and not if one of its bits is flipped.
func TestFlippedBits(t *testing.T) {
	for _, s := range append(samples(), crc.Seal("hello"), crc.Seal("")) {
		sealed := crc.Seal(s)
		if !crc.Fits(sealed) {
			t.Errorf("the seal of %.40q does not fit", s)
		}
		for bit := range 8 * len(sealed) {
			if crc.Fits(flip(sealed, bit)) {
				t.Errorf("the seal of %.40q fits with bit %d flipped", s, bit)
			}
		}
	}
}

// Promise P1 and the bound: long strings end, and a flip anywhere in them is seen.
func TestLongInputs(t *testing.T) {
	long := strings.Repeat(anyBytes(), api.MaxFrame/256)
	if n, want := crc.Sum(long), model(long); n != want {
		t.Errorf("Sum of %d bytes = %X; want %X", len(long), n, want)
	}
	sealed := crc.Seal(long)
	if !crc.Fits(sealed) {
		t.Error("a long seal does not fit")
	}
	for _, bit := range []int{0, 7, 4 * len(long), 8*len(long) - 1, 8 * len(long), 8*len(sealed) - 1} {
		if crc.Fits(flip(sealed, bit)) {
			t.Errorf("a long seal fits with bit %d flipped", bit)
		}
	}
	if n, e := crc.Number(long); n != 0 || e != api.ErrShape {
		t.Errorf("Number of a long string = %X, %d", n, int(e))
	}
}
