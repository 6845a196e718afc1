package code_test

import (
	"encoding/base32"
	"encoding/binary"
	"encoding/hex"
	"math"
	"strings"
	"testing"

	"bulletin/api"
	"bulletin/code"
)

const (
	digits32 = "abcdefghijklmnopqrstuvwxyz234567"
	digits16 = "0123456789abcdef"
)

// base is one of the two bases: its calls, its digits, and how many bits each of them has.
type base struct {
	name   string
	to     func(s string) string
	of     func(s string) (string, api.Code)
	digits string
	bits   int
}

func bases() []base {
	return []base{
		{"32", code.To32, code.Of32, digits32, 5},
		{"16", code.To16, code.Of16, digits16, 4},
	}
}

// model is the text of s in the base, by the definition: all bits in a row, cut into groups.
func (b base) model(s string) string {
	var bits []byte
	for i := range len(s) {
		for place := 7; place >= 0; place-- {
			bits = append(bits, s[i]>>place&1)
		}
	}
	for len(bits)%b.bits != 0 {
		bits = append(bits, 0)
	}
	var text []byte
	for ; len(bits) > 0; bits = bits[b.bits:] {
		value := 0
		for _, bit := range bits[:b.bits] {
			value = 2*value + int(bit)
		}
		text = append(text, b.digits[value])
	}
	return string(text)
}

func (b base) checkOf(t *testing.T, text, want string, c api.Code) {
	t.Helper()
	if s, e := b.of(text); s != want || e != c {
		t.Errorf("Of%s(%.80q) = %.80q, %d; want %.80q, %d", b.name, text, s, int(e), want, int(c))
	}
}

// checkBoth checks that text is s in the base, and read as s.
func (b base) checkBoth(t *testing.T, s, text string) {
	t.Helper()
	if got := b.to(s); got != text {
		t.Errorf("To%s(%.80q) = %.80q; want %.80q", b.name, s, got, text)
	}
	b.checkOf(t, text, s, api.OK)
}

// anyBytes is a string with every byte once, so also bytes that are no text.
func anyBytes() string {
	b := make([]byte, 256)
	for i := range b {
		b[i] = byte(i)
	}
	return string(b)
}

// samples are strings of many lengths and contents.
func samples() []string {
	l := []string{
		"hello", "é", "\r\n", "a\x00", "\x00a", "\x80", "\x7f\x80", "mzxw6", "MZXW6===", "666f6f",
		anyBytes(), anyBytes() + anyBytes()[:77], strings.Repeat("\x55\xaa", 99),
	}
	for n := range 22 {
		l = append(l, strings.Repeat("\x00", n), strings.Repeat("\xff", n), strings.Repeat("x", n), anyBytes()[256-n:], anyBytes()[:n])
	}
	return l
}

// eachString calls f for every string of at most n bytes of the alphabet.
func eachString(alphabet string, n int, f func(s string)) {
	f("")
	if n == 0 {
		return
	}
	for i := range len(alphabet) {
		eachString(alphabet, n-1, func(s string) { f(alphabet[i:i+1] + s) })
	}
}

// numbers are integers of many sizes, and their neighbours.
func numbers() []uint64 {
	l := []uint64{0, 258, 0x0102030405060708, 0x8877665544332211, 0xdeadbeefcafef00d, api.MaxNum, math.MaxUint32, math.MaxInt64}
	for place := range 64 {
		bit := uint64(1) << place
		l = append(l, bit-1, bit, bit+1, ^bit, -bit, bit|1<<63)
	}
	return l
}

func TestErrorNumbers(t *testing.T) {
	if api.OK != 0 || api.ErrForm != 3 || api.ErrShape != 4 {
		t.Error("the errors of code have other numbers than the chapter lists")
	}
}

// Promise 5.1: base 32 both ways, by the texts of RFC 4648 in lower case and without padding.
func TestBase32(t *testing.T) {
	for _, c := range []struct{ s, text string }{
		{"", ""}, {"f", "my"}, {"fo", "mzxq"}, {"foo", "mzxw6"}, {"foob", "mzxw6yq"}, {"fooba", "mzxw6ytb"}, {"foobar", "mzxw6ytboi"},
		{"hello", "nbswy3dp"}, {"\x00", "aa"}, {"\x00\x00\x00\x00\x00", "aaaaaaaa"}, {"\xff", "74"}, {"\xff\x00", "74aa"}, {"\x00\xff", "ad7q"},
		{"\xff\xff", "777q"}, {"\xff\xff\xff", "77776"}, {"\xff\xff\xff\xff", "777777y"}, {"\xff\xff\xff\xff\xff", "77777777"},
		{"\x01", "ae"}, {"\x80", "qa"}, {"\x08", "ba"}, {"é", "youq"}, {"\r\n", "bufa"},
		{"\x00\x44\x32\x14\xc7\x42\x54\xb6\x35\xcf\x84\x65\x3a\x56\xd7\xc6\x75\xbe\x77\xdf", digits32},
	} {
		bases()[0].checkBoth(t, c.s, c.text)
	}
}

// Promise 5.1: base 16 both ways.
func TestBase16(t *testing.T) {
	for _, c := range []struct{ s, text string }{
		{"", ""}, {"f", "66"}, {"fo", "666f"}, {"foo", "666f6f"}, {"foobar", "666f6f626172"}, {"hello", "68656c6c6f"},
		{"\x00", "00"}, {"\x00\x00", "0000"}, {"\xff", "ff"}, {"\xff\x00", "ff00"}, {"\x0f", "0f"}, {"\xf0", "f0"}, {"é", "c3a9"}, {"\r\n", "0d0a"},
		{"\x01\x23\x45\x67\x89\xab\xcd\xef", digits16},
	} {
		bases()[1].checkBoth(t, c.s, c.text)
	}
}

// Promise 5.1: both bases by their definition, for many strings and for all of at most two bytes.
func TestBasesAsDefined(t *testing.T) {
	for _, b := range bases() {
		for _, s := range samples() {
			b.checkBoth(t, s, b.model(s))
		}
		eachString(anyBytes(), 2, func(s string) { b.checkBoth(t, s, b.model(s)) })
	}
}

// Promise 5.1: both bases by the library's, for every length over several groups.
func TestBasesAsLibrary(t *testing.T) {
	lower := base32.NewEncoding(digits32).WithPadding(base32.NoPadding)
	for _, whole := range []string{anyBytes(), strings.Repeat("\xff", 256), strings.Repeat("\x00", 256), strings.Repeat("what do ya want?", 16)} {
		for n := range len(whole) + 1 {
			for _, s := range []string{whole[:n], whole[256-n:]} {
				bases()[0].checkBoth(t, s, lower.EncodeToString([]byte(s)))
				bases()[1].checkBoth(t, s, hex.EncodeToString([]byte(s)))
			}
		}
	}
}

// Promise 5.1: texts in base 32 that are none, by their digits, their length, or the bits after the last byte.
func TestOf32Errors(t *testing.T) {
	for _, text := range []string{
		"m", "MY", "My", "mY", "MZXW6", "NBSWY3DP",
		"0", "1", "8", "9", "my0", "m1", "m8", "m9", "mzxw0", "mzxw1", "mzxw6yt8", "0mzxw6yt", "m-", "m_", "m+", "m/",
		"my=", "my======", "mzxw6===", "=", "mzxw6ytb=", " my", "my ", "m y", "my\n", "m\ny", "\r\nmy", "my\x00", "\x00", "é", "m\xff", "\xed\xb9",
		"a", "7", "mzx", "mzxw6y", "mzxw6ytbm", "mzxw6ytbmzx", "mzxw6ytbmzxw6y", "aaa", "aaaaaa", "777", "777777",
		"mz", "m7", "mzxr", "mzx7", "mzxw7", "mzxw6yr", "mzxw6yz", "mzxw6yx", "ab", "af", "aaab", "aaaab", "aaaaaab", "77", "7777", "77777", "7777777",
	} {
		bases()[0].checkOf(t, text, "", api.ErrForm)
	}
}

// Promise 5.1: texts in base 16 that are none, by their digits or their length.
func TestOf16Errors(t *testing.T) {
	for _, text := range []string{
		"6", "6A", "A6", "AA", "FF", "666F", "6G", "6g", "g6", "zz", "0x", "0x66", "x6", "6/", "6:", "6`", "6@",
		"666", "0", "f", "fff", "66666", "666f6", "66 ", " 66", "6 6", "66\n", "6\n6", "\r\n", "66\x00", "\x00\x00", "-1", "+1", "é", "\xff\xff", "66=", "=6", "1_0",
	} {
		bases()[1].checkOf(t, text, "", api.ErrForm)
	}
}

// Promise 5.1: no byte but the digits is one, wherever it stands.
func TestEveryByte(t *testing.T) {
	for _, b := range bases() {
		whole := b.to("hello, hello")
		for x := range 256 {
			digit := string([]byte{byte(x)})
			if strings.Contains(b.digits, digit) {
				continue
			}
			for at := range len(whole) + 1 {
				b.checkOf(t, whole[:at]+digit+whole[at:], "", api.ErrForm)
				if at < len(whole) {
					b.checkOf(t, whole[:at]+digit+whole[at+1:], "", api.ErrForm)
				}
			}
		}
	}
}

// Promise 5.1: of all texts of at most four digits, those are read that a string has, and no others.
func TestEveryShortText(t *testing.T) {
	for _, b := range bases() {
		known := map[string]string{}
		eachString(anyBytes(), 2, func(s string) { known[b.to(s)] = s })
		eachString(b.digits, 4, func(text string) {
			s, is := known[text]
			if is {
				b.checkOf(t, text, s, api.OK)
			} else {
				b.checkOf(t, text, "", api.ErrForm)
			}
		})
	}
}

// Promise 5.1: of all last digits, those are read that leave no bit but zeros after the last byte.
func TestEveryLastDigit(t *testing.T) {
	for _, b := range bases() {
		for _, s := range samples() {
			text := b.to(s)
			if text == "" {
				continue
			}
			for i := range len(b.digits) {
				last := text[:len(text)-1] + b.digits[i:i+1]
				spare := len(text)*b.bits - len(s)*8
				if i%(1<<spare) != 0 {
					b.checkOf(t, last, "", api.ErrForm)
					continue
				}
				if got, c := b.of(last); c != api.OK || b.model(got) != last {
					t.Errorf("Of%s(%.80q) = %.80q, %d", b.name, last, got, int(c))
				}
			}
		}
	}
}

// Promise 5.2: Bytes and Number of single integers.
func TestBytes(t *testing.T) {
	for _, c := range []struct {
		n uint64
		s string
	}{
		{0, "\x00\x00\x00\x00\x00\x00\x00\x00"},
		{1, "\x00\x00\x00\x00\x00\x00\x00\x01"},
		{255, "\x00\x00\x00\x00\x00\x00\x00\xff"},
		{256, "\x00\x00\x00\x00\x00\x00\x01\x00"},
		{258, "\x00\x00\x00\x00\x00\x00\x01\x02"},
		{1 << 32, "\x00\x00\x00\x01\x00\x00\x00\x00"},
		{api.MaxNum, "\x00\x00\x01\x00\x00\x00\x00\x00"},
		{0x0102030405060708, "\x01\x02\x03\x04\x05\x06\x07\x08"},
		{1 << 63, "\x80\x00\x00\x00\x00\x00\x00\x00"},
		{0x3132333435363738, "12345678"},
		{math.MaxUint64 - 1, "\xff\xff\xff\xff\xff\xff\xff\xfe"},
		{math.MaxUint64, "\xff\xff\xff\xff\xff\xff\xff\xff"},
	} {
		if s := code.Bytes(c.n); s != c.s {
			t.Errorf("Bytes(%d) = % x; want % x", c.n, s, c.s)
		}
		if n, e := code.Number(c.s); n != c.n || e != api.OK {
			t.Errorf("Number(% x) = %d, %d; want %d, 0", c.s, n, int(e), c.n)
		}
	}
}

// Promise 5.2: Bytes and Number by the library's.
func TestBytesAsLibrary(t *testing.T) {
	for _, n := range numbers() {
		if s := code.Bytes(n); s != string(binary.BigEndian.AppendUint64(nil, n)) {
			t.Errorf("Bytes(%d) = % x", n, s)
		}
	}
	for at := range len(anyBytes()) - 7 {
		s := anyBytes()[at : at+8]
		if n, e := code.Number(s); n != binary.BigEndian.Uint64([]byte(s)) || e != api.OK {
			t.Errorf("Number(% x) = %d, %d", s, n, int(e))
		}
	}
}

// Promise 5.2 and rule R5: Number refuses every length but eight bytes, and returns 0 with the error.
func TestNumberErrors(t *testing.T) {
	refused := []string{"1234567", "123456789", "258", "-1", "ééééé", "éééé1", "1234567é", code.Bytes(1)[1:], code.Bytes(1) + "\x00", "\x00" + code.Bytes(1), code.Bytes(1) + code.Bytes(2)}
	for n := range 300 {
		if n != 8 {
			refused = append(refused, strings.Repeat("\x00", n), strings.Repeat("\x01", n), strings.Repeat("\xff", n))
		}
	}
	for _, s := range refused {
		if n, e := code.Number(s); n != 0 || e != api.ErrShape {
			t.Errorf("Number(%.40q) = %d, %d; want 0, 4", s, n, int(e))
		}
	}
	// Bytes are counted, not letters: these are eight of them.
	for _, s := range []string{"éééé", "1234567\n", "\xff\xff\xff\xff\x00\x00\x00\x00"} {
		if n, e := code.Number(s); n != binary.BigEndian.Uint64([]byte(s)) || e != api.OK {
			t.Errorf("Number(%q) = %d, %d", s, n, int(e))
		}
	}
}

// Promise 5.3: the decoders invert the encoders, also on what is encoded already.
func TestDecodersInvertEncoders(t *testing.T) {
	for _, b := range bases() {
		for _, s := range samples() {
			for range 3 {
				text := b.to(s)
				b.checkOf(t, text, s, api.OK)
				s = text
			}
		}
	}
	for _, n := range numbers() {
		if got, e := code.Number(code.Bytes(n)); got != n || e != api.OK {
			t.Errorf("Number(Bytes(%d)) = %d, %d", n, got, int(e))
		}
	}
}

// Promise 5.3: the encoders invert the decoders, so that no two texts are read as one string.
func TestEncodersInvertDecoders(t *testing.T) {
	for _, b := range bases() {
		read := 0
		for _, alphabet := range []string{b.digits[:4], b.digits[len(b.digits)-4:], b.digits[:2] + "A="} {
			eachString(alphabet, 8, func(text string) {
				s, c := b.of(text)
				if c != api.OK {
					return
				}
				read++
				if b.to(s) != text {
					t.Errorf("Of%s(%q) = %q, which has another text", b.name, text, s)
				}
			})
		}
		if read == 0 {
			t.Errorf("nothing was read in base %s", b.name)
		}
	}
	for at := range len(anyBytes()) - 7 {
		s := anyBytes()[at : at+8]
		if n, _ := code.Number(s); code.Bytes(n) != s {
			t.Errorf("Number(% x) = %d, which has other bytes", s, n)
		}
	}
}

// Promise 5.3: different strings have different encodings.
func TestEncodingsDiffer(t *testing.T) {
	for _, b := range bases() {
		seen := map[string]string{}
		check := func(s string) {
			text := b.to(s)
			if other, is := seen[text]; is && other != s {
				t.Errorf("%.40q and %.40q have the same text in base %s", s, other, b.name)
			}
			seen[text] = s
		}
		eachString(anyBytes(), 2, check)
		eachString("\x00\x01\x80\xff", 6, check)
		for _, s := range samples() {
			check(s)
		}
	}
}

// Promise 5.3: integers are ordered as their encodings.
func TestOrder(t *testing.T) {
	for _, a := range numbers() {
		for _, b := range numbers() {
			x, y := code.Bytes(a), code.Bytes(b)
			if (a < b) != (x < y) || (a == b) != (x == y) {
				t.Errorf("%d and %d are not ordered as % x and % x", a, b, x, y)
			}
		}
	}
}

// Promise P1 and the bound: long strings end soon, whether they are right or not.
func TestLongInputs(t *testing.T) {
	long := strings.Repeat(anyBytes(), 8<<20/256)
	for _, b := range bases() {
		text := b.to(long)
		if len(text) != (8*len(long)+b.bits-1)/b.bits {
			t.Errorf("%d bytes are %d digits in base %s", len(long), len(text), b.name)
		}
		if s, c := b.of(text); s != long || c != api.OK {
			t.Errorf("%d digits in base %s: %d bytes, %d", len(text), b.name, len(s), int(c))
		}
		b.checkOf(t, text+"=", "", api.ErrForm)
		b.checkOf(t, "="+text, "", api.ErrForm)
	}
	if n, e := code.Number(long); n != 0 || e != api.ErrShape {
		t.Errorf("Number of a long string = %d, %d", n, int(e))
	}
}
