package b64_test

import (
	"encoding/base64"
	"fmt"
	"math/rand"
	"regexp"
	"strconv"
	"strings"
	"testing"

	"bulletin/api"
	"bulletin/b64"
)

// allDigits are the digits in the order of their values.
const allDigits = "ABCDEFGHIJKLMNOPQRSTUVWXYZabcdefghijklmnopqrstuvwxyz0123456789+/"

// spaces are the four kinds of white space, and several in a row.
var spaces = []string{" ", "\t", "\r", "\n", "\r\n", "\n\r", "  ", " \t\r\n \n\t"}

// x is a text of this many bytes.
func x(size int) string { return strings.Repeat("x", size) }

func checkPlain(t *testing.T, s, want string) {
	t.Helper()
	if got := b64.Plain(s); got != want {
		t.Errorf("Plain(%.300q) = %.300q; want %.300q", s, got, want)
	}
}

func checkEncode(t *testing.T, s, want string) {
	t.Helper()
	if got := b64.Encode(s); got != want {
		t.Errorf("Encode(%.300q) = %.300q; want %.300q", s, got, want)
	}
}

func checkDecode(t *testing.T, s, want string, wantCode api.Code) {
	t.Helper()
	if got, code := b64.Decode(s); got != want || code != wantCode {
		t.Errorf("Decode(%.300q) = %.300q; %d; want %.300q; %d", s, got, int(code), want, int(wantCode))
	}
}

// check wants s to be encoded as this text, and the text to be decoded to s.
func check(t *testing.T, s, want string) {
	t.Helper()
	checkPlain(t, s, want)
	checkDecode(t, want, s, api.OK)
}

// decoded wants each text to be decoded to want.
func decoded(t *testing.T, want string, texts ...string) {
	t.Helper()
	for _, s := range texts {
		checkDecode(t, s, want, api.OK)
	}
}

// refused wants each text to be the encoding of nothing.
func refused(t *testing.T, texts ...string) {
	t.Helper()
	for _, s := range texts {
		checkDecode(t, s, "", api.ErrForm)
	}
}

// modelPlain writes out the bits of s, as the definition has it.
func modelPlain(s string) string {
	var all []byte
	for _, c := range []byte(s) {
		all = fmt.Appendf(all, "%08b", c)
	}
	bits := string(all)
	for len(bits)%6 != 0 {
		bits += "0"
	}
	var text []byte
	for ; bits != ""; bits = bits[6:] {
		n, _ := strconv.ParseUint(bits[:6], 2, 8)
		text = append(text, allDigits[n])
	}
	for len(text)%4 != 0 {
		text = append(text, '=')
	}
	return string(text)
}

// modelEncode puts a line end behind each 76 characters, and at the end.
func modelEncode(s string) string {
	return lineTexts.ReplaceAllString(modelPlain(s), "${0}\r\n")
}

var (
	lineTexts  = regexp.MustCompile(`.{1,76}`)
	whiteSpace = regexp.MustCompile(`[ \t\r\n]`)
	wholeText  = regexp.MustCompile(`^(?:[A-Za-z0-9+/]{4})*(?:[A-Za-z0-9+/]{2}==|[A-Za-z0-9+/]{3}=)?$`)
)

// modelDecode writes out the bits of the digits, and wants those behind the
// last byte to be zero.
func modelDecode(s string) (string, api.Code) {
	s = whiteSpace.ReplaceAllString(s, "")
	if !wholeText.MatchString(s) {
		return "", api.ErrForm
	}
	var all []byte
	for _, c := range strings.TrimRight(s, "=") {
		all = fmt.Appendf(all, "%06b", strings.IndexRune(allDigits, c))
	}
	bits := string(all)
	var text []byte
	for ; len(bits) >= 8; bits = bits[8:] {
		n, _ := strconv.ParseUint(bits[:8], 2, 8)
		text = append(text, byte(n))
	}
	if strings.Contains(bits, "1") {
		return "", api.ErrForm
	}
	return string(text), api.OK
}

// libraryDecode is what the library's strict reader makes of s without its
// white space.
func libraryDecode(s string) (string, api.Code) {
	text, err := base64.StdEncoding.Strict().DecodeString(whiteSpace.ReplaceAllString(s, ""))
	if err != nil {
		return "", api.ErrForm
	}
	return string(text), api.OK
}

// checkAll holds all calls against what the definitions say of s, and against
// the library.
func checkAll(t *testing.T, s string) {
	t.Helper()
	checkPlain(t, s, modelPlain(s))
	checkPlain(t, s, base64.StdEncoding.EncodeToString([]byte(s)))
	checkEncode(t, s, modelEncode(s))
	want, code := modelDecode(s)
	checkDecode(t, s, want, code)
	want, code = libraryDecode(s)
	checkDecode(t, s, want, code)
}

// checkBack wants both encodings of s to be decoded to s.
func checkBack(t *testing.T, s string) {
	t.Helper()
	decoded(t, s, b64.Plain(s), b64.Encode(s))
}

// checkBackWithSpace wants the encodings of s to be decoded to s with white
// space of each kind at any one place, and at all of them.
func checkBackWithSpace(t *testing.T, s string) {
	t.Helper()
	for _, encoded := range []string{b64.Plain(s), b64.Encode(s)} {
		for _, space := range spaces {
			for at := range len(encoded) + 1 {
				checkDecode(t, encoded[:at]+space+encoded[at:], s, api.OK)
			}
			all := space + strings.Join(strings.Split(encoded, ""), space) + space
			checkDecode(t, all, s, api.OK)
		}
	}
}

// eachString calls f with every text of at most longest of these pieces.
func eachString(pieces []string, longest int, f func(s string)) {
	f("")
	if longest == 0 {
		return
	}
	for _, piece := range pieces {
		eachString(pieces, longest-1, func(s string) { f(piece + s) })
	}
}

// eachByte calls f with each byte.
func eachByte(f func(c byte, text string)) {
	for n := range 256 {
		f(byte(n), string([]byte{byte(n)}))
	}
}

// anyBytes is a text of this many bytes of all kinds from r.
func anyBytes(r *rand.Rand, size int) string {
	b := make([]byte, size)
	for i := range b {
		b[i] = byte(r.Intn(256))
	}
	return string(b)
}

// anyText is a text of this many pieces from r.
func anyText(r *rand.Rand, pieces []string, size int) string {
	var b strings.Builder
	for range size {
		b.WriteString(pieces[r.Intn(len(pieces))])
	}
	return b.String()
}

// Promise 18.1: three bytes are four digits, and a remainder is filled up.
func TestPlainRemainders(t *testing.T) {
	check(t, "", "")
	check(t, "f", "Zg==")
	check(t, "fo", "Zm8=")
	check(t, "foo", "Zm9v")
	check(t, "foob", "Zm9vYg==")
	check(t, "fooba", "Zm9vYmE=")
	check(t, "foobar", "Zm9vYmFy")
	check(t, "\x00", "AA==")
	check(t, "\x00\x00", "AAA=")
	check(t, "\x00\x00\x00", "AAAA")
	check(t, "\x00\x00\x00\x00", "AAAAAA==")
	check(t, "\x00\x00\x00\x00\x00", "AAAAAAA=")
	check(t, "\xff", "/w==")
	check(t, "\xff\xff", "//8=")
	check(t, "\xff\xff\xff", "////")
	check(t, "\xff\xff\xff\xff", "/////w==")
	check(t, "\xff\xff\xff\xff\xff", "//////8=")
	check(t, "\x80\x00\x00", "gAAA")
	check(t, "\x00\x00\x01", "AAAB")
	check(t, "\x00\x01\x00\x00", "AAEAAA==")
	check(t, "\xc3\xa9", "w6k=")
	check(t, "=", "PQ==")
	check(t, "====", "PT09PQ==")
	check(t, "\r\n", "DQo=")
	check(t, " \t\r\n", "IAkNCg==")
}

// Promise 18.1: each byte alone, and at each place among three.
func TestPlainOfEachByte(t *testing.T) {
	eachByte(func(c byte, text string) {
		low, high := allDigits[c&3<<4], allDigits[c>>2]
		check(t, text, string([]byte{high, low, '=', '='}))
		for _, other := range []string{"\x00", "\xff", "a", text} {
			for _, s := range []string{text + other, other + text, text + other + other, other + text + other, other + other + text, other + other + other + text} {
				checkAll(t, s)
				check(t, s, modelPlain(s))
			}
		}
	})
}

// Promise 18.1: each of the 64 digits is at each place what its value is.
func TestPlainOfEachDigit(t *testing.T) {
	all := ""
	for n := range 64 {
		digit := allDigits[n : n+1]
		for place := range 4 {
			bits := n << (18 - 6*place)
			s := string([]byte{byte(bits >> 16), byte(bits >> 8), byte(bits)})
			check(t, s, strings.Repeat("A", place)+digit+strings.Repeat("A", 3-place))
		}
		bits := n<<18 | n<<12 | n<<6 | n
		s := string([]byte{byte(bits >> 16), byte(bits >> 8), byte(bits)})
		check(t, s, strings.Repeat(digit, 4))
		all += s
	}
	encoded := ""
	for _, digit := range strings.Split(allDigits, "") {
		encoded += strings.Repeat(digit, 4)
	}
	check(t, all, encoded)
	var inOrder []byte
	for n := 0; n < 64; n += 4 {
		bits := n<<18 | (n+1)<<12 | (n+2)<<6 | n + 3
		inOrder = append(inOrder, byte(bits>>16), byte(bits>>8), byte(bits))
	}
	check(t, string(inOrder), "ABCDEFGHIJKLMNOPQRSTUVWXYZabcdefghijklmnopqrstuvwxyz0123456789+/")
}

// Promise 18.1: Plain puts no line ends, whatever the length.
func TestPlainOfAllLengths(t *testing.T) {
	for size := range 400 {
		check(t, strings.Repeat("\x00", size), strings.Repeat("A", (4*size+2)/3)+strings.Repeat("=", (3-size%3)%3))
		checkAll(t, x(size))
		checkAll(t, strings.Repeat("\xff", size))
	}
	check(t, strings.Repeat("foo", 1000), strings.Repeat("Zm9v", 1000))
}

// Promise 18.1: Encode has pieces of 76 characters, each with a line end.
func TestEncodePieces(t *testing.T) {
	const full = 19
	group := func(n int) string { return strings.Repeat("Zm9v", n) }
	foo := func(n int) string { return strings.Repeat("foo", n) }
	checkEncode(t, "", "")
	checkEncode(t, "f", "Zg==\r\n")
	checkEncode(t, "fo", "Zm8=\r\n")
	checkEncode(t, "foo", "Zm9v\r\n")
	checkEncode(t, foo(18), group(18)+"\r\n")
	checkEncode(t, foo(18)+"f", group(18)+"Zg==\r\n")
	checkEncode(t, foo(18)+"fo", group(18)+"Zm8=\r\n")
	checkEncode(t, foo(19), group(full)+"\r\n")
	checkEncode(t, foo(19)+"f", group(full)+"\r\nZg==\r\n")
	checkEncode(t, foo(19)+"fo", group(full)+"\r\nZm8=\r\n")
	checkEncode(t, foo(20), group(full)+"\r\nZm9v\r\n")
	checkEncode(t, foo(37), group(full)+"\r\n"+group(18)+"\r\n")
	checkEncode(t, foo(37)+"f", group(full)+"\r\n"+group(18)+"Zg==\r\n")
	checkEncode(t, foo(38), group(full)+"\r\n"+group(full)+"\r\n")
	checkEncode(t, foo(38)+"fo", group(full)+"\r\n"+group(full)+"\r\nZm8=\r\n")
	checkEncode(t, foo(39), group(full)+"\r\n"+group(full)+"\r\nZm9v\r\n")
	checkEncode(t, foo(190), strings.Repeat(group(full)+"\r\n", 10))
	checkEncode(t, foo(190)+"f", strings.Repeat(group(full)+"\r\n", 10)+"Zg==\r\n")
	checkEncode(t, foo(20)+"\r\n", group(full)+"\r\nZm9vDQo=\r\n")
}

// Promise 18.1: without its line ends, Encode is Plain.
func TestEncodeIsPlain(t *testing.T) {
	r := rand.New(rand.NewSource(1))
	for size := range 400 {
		s := anyBytes(r, size)
		checkPlain(t, s, strings.ReplaceAll(b64.Encode(s), "\r\n", ""))
		checkEncode(t, s, modelEncode(s))
	}
}

// Promise 18.2: white space alone is the encoding of the empty text.
func TestDecodeNothing(t *testing.T) {
	decoded(t, "", "", strings.Repeat(" ", 1000), strings.Repeat("\r\n", 1000))
	decoded(t, "", spaces...)
	eachString([]string{" ", "\t", "\r", "\n"}, 6, func(s string) { decoded(t, "", s) })
}

// Promise 18.2: white space counts nowhere.
func TestDecodeWhiteSpace(t *testing.T) {
	for _, space := range spaces {
		decoded(t, "foo", space+"Zm9v", "Z"+space+"m9v", "Zm"+space+"9v", "Zm9"+space+"v", "Zm9v"+space)
		decoded(t, "fo", space+"Zm8=", "Zm8"+space+"=", "Zm8="+space, "Z"+space+"m"+space+"8"+space+"=")
		decoded(t, "f", "Zg"+space+"==", "Zg="+space+"=", "Zg=="+space, space+"Z"+space+"g"+space+"="+space+"="+space)
		decoded(t, "foofoo", "Zm9v"+space+"Zm9v", "Zm9"+space+"vZm9v", "Zm9vZ"+space+"m9v", space+"Zm9v"+space+"Zm9v"+space)
		decoded(t, "foob", "Zm9v"+space+"Yg==", "Zm9vYg"+space+"==", "Zm9vYg="+space+"=", "Zm9vY"+space+"g==")
		refused(t, "Z"+space, "Zg"+space, "Zg="+space, "Zg"+space+"=", "Zm9"+space, "Z"+space+"===", "="+space, space+"=", "Zg="+space+"=Z", "Zm9v"+space+"=")
		refused(t, "Zg="+space+"=Zg==", "Zg"+space+"===", "Zh"+space+"==", "Zh"+space+"="+space+"=", "Zm"+space+"9=", "Z"+space+"-==")
	}
	decoded(t, "foob", " Zm\t9v\r\nYg=\n= ", "Zm9v\n\n\nYg==", "Z\tm\r9\nv Y\r\ng\r\n=\r\n=\r\n")
	decoded(t, strings.Repeat("foo", 50), strings.Repeat("Zm9v\r\n", 50), strings.Repeat("Z m 9\tv", 50), strings.Repeat("Zm9v", 50)+strings.Repeat(" ", 50))
}

// Promise 18.2: as many = as are needed, at the end.
func TestDecodeFilling(t *testing.T) {
	decoded(t, "f", "Zg==")
	decoded(t, "fo", "Zm8=")
	refused(t, "Zg", "Zg=", "Zg===", "Zg====", "Zg=====", "Zg======")
	refused(t, "Zm8", "Zm8==", "Zm8===", "Zm8====", "Zm8=====")
	refused(t, "Zm9v=", "Zm9v==", "Zm9v===", "Zm9v====")
	refused(t, "Zm9vYg", "Zm9vYg=", "Zm9vYg===", "Zm9vYmE", "Zm9vYmE==", "Zm9vYmFy=", "Zm9vYmFy====")
	refused(t, "=", "==", "===", "====", "=====", "========", strings.Repeat("=", 1000))
	refused(t, "=Zm9v", "==Zg", "=Zm8", "====Zm9v", "=Zg==", "=Zg=", "=A==", "==A=", "===A", "=AAA")
	refused(t, "Z=g=", "Z=m8", "Zm=8", "Z==g", "Zm=9v", "Zm9=v", "Z=g==", "Zm9=vYg=", "A=A=", "A=AA", "AA=A")
	refused(t, "Zg==Zg==", "Zg==Zm9v", "Zm8=Zm9v", "Zm8=Zm8=", "Zg==Z", "Zg==Zg", "Zg=Z", "Zm8=A", "Zm9v=Zm9v", "Zm9v====Zm9v", "AA==A", "AA==AA==", "AAA=AAA=", "AA==AAAA")
}

// Promise 18.2: one digit left over is not enough for a byte.
func TestDecodeOneDigitLeft(t *testing.T) {
	for _, digit := range strings.Split(allDigits, "") {
		for _, before := range []string{"", "Zm9v", "Zm9vZm9v"} {
			s := before + digit
			refused(t, s, s+"=", s+"==", s+"===", s+"====")
		}
	}
}

// Promise 18.2: of all groups with a remainder, those with zero bits behind it.
func TestDecodeAllRemainders(t *testing.T) {
	for first := range 64 {
		for second := range 64 {
			two := allDigits[first:first+1] + allDigits[second:second+1]
			if second%16 == 0 {
				decoded(t, string([]byte{byte(first<<2 | second>>4)}), two+"==")
			} else {
				refused(t, two+"==", "AAAA"+two+"==")
			}
			for third := range 64 {
				three := two + allDigits[third:third+1] + "="
				if third%4 == 0 {
					decoded(t, string([]byte{byte(first<<2 | second>>4), byte(second<<4 | third>>2)}), three)
				} else {
					refused(t, three)
				}
			}
		}
	}
	refused(t, "Zh==", "Zm9=", "Zm9vYh==", "Zm9vYmF=", "//==", "///=", "AB==", "AAB=", "AAC=", "AP==")
}

// Promise 18.2: each byte at each place of a group, whole or filled up.
func TestDecodeEachByte(t *testing.T) {
	eachByte(func(c byte, text string) {
		for _, s := range []string{"Zm9v", "Zm8=", "Zg==", "QUJDZm9v", "QUJDZg=="} {
			for at := range len(s) + 1 {
				inserted := s[:at] + text + s[at:]
				want, code := modelDecode(inserted)
				checkDecode(t, inserted, want, code)
				if at < len(s) {
					replaced := s[:at] + text + s[at+1:]
					want, code = modelDecode(replaced)
					checkDecode(t, replaced, want, code)
				}
			}
		}
		known := strings.IndexByte(allDigits+"= \t\r\n", c) >= 0
		if !known {
			refused(t, text, text+text, strings.Repeat(text, 3), strings.Repeat(text, 4), text+"===", text+text+"==")
			refused(t, "Zm9v"+text, text+"Zm9v", "Zm"+text+"9v", "Zm9"+text, "Zg="+text, "Zg"+text+"=", "Zg=="+text, "Zm9v "+text, "A"+text+"AA", "A"+text+"==")
		}
	})
	refused(t, "-", "_", "-_-_", "Z-==", "Z_==", "--==", "Zm9v\v", "Zm9v\f", "\x00", "AAA\x00", "\x00\x00\x00\x00", "Zm9v\x00", "Zm9v\x80", "\xff\xff\xff\xff")
	refused(t, "Zm9v.", "Zm9v\r\n.", "Zm:v", "Zm@v", "Zm[v", "Zm`v", "Zm{v", "Zm,v", "Zm*v", "Zm9v\u00a0", "Zm9v\u2003", "Zm9v\u0085", "Zm\ufffdv", "\uff21AAA", "=3D=", "Zm9v=3D", "=?a?b?Zg==?=")
}

// Promise 18.2: the digits' letters are of two cases, which are not alike.
func TestDecodeCase(t *testing.T) {
	decoded(t, "foo", "Zm9v")
	decoded(t, "\xcef\xef", "zmbv")
	decoded(t, "\x64\xc6\xd5", "ZMbV")
	decoded(t, "\xcd\xbf\x6f", "zb9v")
	decoded(t, "\x00", "AA==")
	refused(t, "aa==", "ZG=", "ZB==")
}

// Promises 18.1 and 18.2: all texts of up to two bytes.
func TestAllTextsOfTwoBytes(t *testing.T) {
	eachByte(func(_ byte, first string) {
		checkAll(t, first)
		eachByte(func(_ byte, second string) { checkAll(t, first+second) })
	})
}

// Promises 18.1 and 18.2: all short texts of the bytes that the calls tell apart.
func TestShortTexts(t *testing.T) {
	eachString([]string{"A", "Q", "z", "/", "=", " ", "\n", "-"}, 5, func(s string) { checkAll(t, s) })
	eachString([]string{"A", "g", "=", "Zm9v"}, 6, func(s string) { checkAll(t, s) })
	eachString([]string{"Zg==", "Zm8=", "Zm9v", "\r\n", "=", "Z", "\x00"}, 4, func(s string) { checkAll(t, s) })
}

// Promises 18.1 to 18.3: long texts from a fixed seed.
func TestLongTexts(t *testing.T) {
	r := rand.New(rand.NewSource(18))
	clean := append(strings.Split(allDigits, ""), " ", "\t", "\r", "\n", "\r\n")
	telling := append([]string{"=", "==", "-", "_", "\v", "\x00", "\xff", "é"}, clean...)
	for range 1000 {
		text := anyText(r, clean, r.Intn(200))
		for _, s := range []string{anyBytes(r, r.Intn(300)), anyText(r, telling, r.Intn(40)), text, text + "=", text + "=="} {
			checkAll(t, s)
			checkBack(t, s)
		}
	}
}

// Promise 18.2: an encoding with one byte changed, left out or put in.
func TestDecodeEdits(t *testing.T) {
	r := rand.New(rand.NewSource(2))
	pieces := []string{"", "A", "B", "P", "Q", "/", "=", "==", " ", "\r\n", "-", "\x00", "\xff"}
	for size := range 70 {
		for _, encoded := range []string{b64.Plain(anyBytes(r, size)), b64.Encode(anyBytes(r, size))} {
			for at := range len(encoded) {
				for _, piece := range pieces {
					for _, s := range []string{encoded[:at] + piece + encoded[at:], encoded[:at] + piece + encoded[at+1:]} {
						want, code := libraryDecode(s)
						checkDecode(t, s, want, code)
					}
				}
			}
		}
	}
}

// Promise 18.3: whatever bytes a text has, it comes back.
func TestBack(t *testing.T) {
	eachByte(func(_ byte, text string) {
		for _, size := range []int{0, 1, 2, 3, 53, 54, 55, 56, 57, 58, 111, 113, 114, 115, 117} {
			checkBack(t, x(size)+text)
			checkBack(t, text+x(size))
			checkBack(t, strings.Repeat(text, size))
		}
	})
	eachString([]string{"A", "=", " ", "\r\n", "\x00", "\xff"}, 5, func(s string) { checkBack(t, s) })
}

// Promise 18.3: a text comes back with white space put in at any place.
func TestBackWithSpace(t *testing.T) {
	r := rand.New(rand.NewSource(3))
	eachByte(func(_ byte, text string) {
		checkBackWithSpace(t, text)
		checkBackWithSpace(t, text+"\x00")
		checkBackWithSpace(t, "\xff"+text+"\xff")
	})
	for _, s := range []string{"", "f", "fo", "foo", "foob", "fooba", "foobar"} {
		checkBackWithSpace(t, s)
	}
	for size := range 120 {
		checkBackWithSpace(t, anyBytes(r, size))
	}
	for range 2000 {
		s := anyBytes(r, r.Intn(200))
		var b strings.Builder
		for _, c := range []byte(b64.Encode(s)) {
			b.WriteString(anyText(r, spaces, r.Intn(3)))
			b.WriteByte(c)
		}
		b.WriteString(anyText(r, spaces, r.Intn(3)))
		checkDecode(t, b.String(), s, api.OK)
	}
}

// Promise 18.3: an encoded text is encoded and comes back like any other.
func TestBackTwice(t *testing.T) {
	r := rand.New(rand.NewSource(4))
	for range 300 {
		s := anyBytes(r, r.Intn(300))
		for range 3 {
			checkBack(t, s)
			s = b64.Encode(s)
		}
	}
}

// Promise 18.3: no two texts have the same encoding, with line ends or without.
func TestDifferent(t *testing.T) {
	plain, lines := map[string]string{}, map[string]string{}
	note := func(s string) {
		for _, x := range []struct {
			seen    map[string]string
			encoded string
		}{{plain, b64.Plain(s)}, {lines, b64.Encode(s)}} {
			if other, there := x.seen[x.encoded]; there && other != s {
				t.Errorf("%.300q and %.300q are both encoded as %.300q", s, other, x.encoded)
			}
			x.seen[x.encoded] = s
		}
	}
	eachByte(func(_ byte, first string) {
		note(first)
		eachByte(func(_ byte, second string) { note(first + second) })
	})
	eachString([]string{"\x00", "\x01", "A", "=", " ", "\xff"}, 6, note)
	for size := range 200 {
		for _, c := range []string{"\x00", "A", "\xff"} {
			s := strings.Repeat(c, size)
			note(s)
			for at := range size {
				note(s[:at] + "\x02" + s[at+1:])
			}
		}
	}
}

// Promise 18.3: no other digits and fillings than the encoding stand for a text.
func TestOneEncoding(t *testing.T) {
	eachString(append(strings.Split("AQgw/", ""), "=", "\n"), 6, func(s string) {
		text, code := b64.Decode(s)
		if code == api.OK {
			checkPlain(t, text, strings.ReplaceAll(s, "\n", ""))
		}
	})
}

// P1: the calls end with all texts, and in a time that grows as the text does.
func TestLongest(t *testing.T) {
	const size = 1 << 20
	for _, piece := range []string{"x", "\x00", "\xff", " ", "\r\n", "=", "Zg==", "Zm9v\r\n", "-"} {
		s := strings.Repeat(piece, size/len(piece))
		decoded(t, s, b64.Plain(s), b64.Encode(s))
		b64.Decode(s)
		b64.Decode(s + "\x00")
	}
	decoded(t, "", strings.Repeat(" \t\r\n", size))
	refused(t, strings.Repeat("=", size), "Zg"+strings.Repeat("=", size), "Zg"+strings.Repeat("\n", size))
}

// The examples of the chapter.
func TestExamples(t *testing.T) {
	check(t, "foob", "Zm9vYg==")
	checkEncode(t, "", "")
	decoded(t, "foo", "Zm9v")
	refused(t, "Zg", "Zh==")
	check(t, "hi!", "aGkh")
	check(t, "a", "YQ==")
}
