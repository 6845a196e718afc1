package qp_test

import (
	"fmt"
	"io"
	"math/rand"
	"mime/quotedprintable"
	"regexp"
	"strconv"
	"strings"
	"testing"

	"bulletin/api"
	"bulletin/qp"
)

// x is a text of this many bytes that stand for themselves.
func x(size int) string { return strings.Repeat("x", size) }

func checkEncode(t *testing.T, s, want string) {
	t.Helper()
	if got := qp.Encode(s); got != want {
		t.Errorf("Encode(%.300q) = %.300q; want %.300q", s, got, want)
	}
}

func checkDecode(t *testing.T, s, want string, wantCode api.Code) {
	t.Helper()
	if got, code := qp.Decode(s); got != want || code != wantCode {
		t.Errorf("Decode(%.300q) = %.300q; %d; want %.300q; %d", s, got, int(code), want, int(wantCode))
	}
}

// check wants s to be encoded as this text, and the text to be decoded to s.
func check(t *testing.T, s, want string) {
	t.Helper()
	checkEncode(t, s, want)
	checkDecode(t, want, s, api.OK)
}

// decoded wants each text to be decoded to want.
func decoded(t *testing.T, want string, texts ...string) {
	t.Helper()
	for _, s := range texts {
		checkDecode(t, s, want, api.OK)
	}
}

// refused wants each text to be the encoding of nothing.
func refused(t *testing.T, texts ...string) {
	t.Helper()
	for _, s := range texts {
		checkDecode(t, s, "", api.ErrForm)
	}
}

func checkByte(t *testing.T, s string, want byte, wantIs bool) {
	t.Helper()
	if c, is := qp.Byte(s); c != want || is != wantIs {
		t.Errorf("Byte(%.100q) = %d, %t; want %d, %t", s, c, is, want, wantIs)
	}
}

// writtenBytes are the bytes of a line, each written, by the definition.
func writtenBytes(line string) []string {
	l := make([]string, len(line))
	for i, c := range []byte(line) {
		isBlank := c == 32 || c == 9
		switch {
		case c >= 33 && c <= 126 && c != 61, isBlank && i < len(line)-1:
			l[i] = string(rune(c))
		default:
			l[i] = fmt.Sprintf("=%02X", c)
		}
	}
	return l
}

// sinceLineEnd is how many bytes follow the last line end of s.
func sinceLineEnd(s string) int {
	if at := strings.LastIndex(s, "\r\n"); at >= 0 {
		return len(s) - at - 2
	}
	return len(s)
}

func modelEncode(s string) string {
	var lines []string
	for _, line := range strings.Split(s, "\r\n") {
		text := ""
		for _, written := range writtenBytes(line) {
			if sinceLineEnd(text+written) > 75 {
				text += "=\r\n"
			}
			text += written
		}
		lines = append(lines, text)
	}
	return strings.Join(lines, "\r\n")
}

var (
	blanksAtEnd = regexp.MustCompile(`[ \t]+$`)
	wholeLine   = regexp.MustCompile(`^(?:=[0-9A-Fa-f][0-9A-Fa-f]|[\t !-<>-~])*(=?)$`)
	escapes     = regexp.MustCompile(`=..`)
)

func modelDecode(s string) (string, api.Code) {
	text, between := "", ""
	for _, line := range strings.Split(s, "\r\n") {
		line = blanksAtEnd.ReplaceAllString(line, "")
		parts := wholeLine.FindStringSubmatch(line)
		if parts == nil {
			return "", api.ErrForm
		}
		text += between + escapes.ReplaceAllStringFunc(strings.TrimSuffix(line, parts[1]), func(e string) string {
			n, _ := strconv.ParseUint(e[1:], 16, 8)
			return string([]byte{byte(n)})
		})
		between = "\r\n"
		if parts[1] != "" {
			between = ""
		}
	}
	return text, api.OK
}

var shortLines = regexp.MustCompile(`^[\t -~]{0,76}(?:\r\n[\t -~]{0,76})*$`)

// checkBack encodes s, and wants short plain lines that are decoded to s, also
// by another's reader and with blanks put behind.
func checkBack(t *testing.T, s string) {
	t.Helper()
	encoded := qp.Encode(s)
	if !shortLines.MatchString(encoded) {
		t.Errorf("Encode(%.300q) = %.300q: a line is long or not plain", s, encoded)
	}
	checkDecode(t, encoded, s, api.OK)
	for _, blanks := range []string{" ", "\t", " \t  "} {
		checkDecode(t, strings.ReplaceAll(encoded, "\r\n", blanks+"\r\n")+blanks, s, api.OK)
	}
	read, err := io.ReadAll(quotedprintable.NewReader(strings.NewReader(encoded)))
	if err != nil || string(read) != s {
		t.Errorf("Encode(%.300q) = %.300q is read as %.300q, %v", s, encoded, read, err)
	}
}

// checkAll holds all calls against what the definitions say of s.
func checkAll(t *testing.T, s string) {
	t.Helper()
	checkEncode(t, s, modelEncode(s))
	want, code := modelDecode(s)
	checkDecode(t, s, want, code)
}

// eachString calls f with every text of at most longest of these pieces.
func eachString(pieces []string, longest int, f func(s string)) {
	f("")
	if longest == 0 {
		return
	}
	for _, piece := range pieces {
		eachString(pieces, longest-1, func(s string) { f(piece + s) })
	}
}

// eachByte calls f with each byte, and with its escape.
func eachByte(f func(c byte, text, escape string)) {
	for n := range 256 {
		f(byte(n), string([]byte{byte(n)}), fmt.Sprintf("=%02X", n))
	}
}

// Promise 17.1: the lines of a text are those between its line ends.
func TestEncodeLines(t *testing.T) {
	check(t, "", "")
	check(t, "\r\n", "\r\n")
	check(t, "\r\n\r\n", "\r\n\r\n")
	check(t, "\r\n\r\n\r\n", "\r\n\r\n\r\n")
	check(t, "a", "a")
	check(t, "a\r\n", "a\r\n")
	check(t, "\r\na", "\r\na")
	check(t, "a\r\nb", "a\r\nb")
	check(t, "a\r\nb\r\n", "a\r\nb\r\n")
	check(t, "a\r\n\r\nb", "a\r\n\r\nb")
	check(t, "hello, world", "hello, world")
	check(t, "a b", "a b")
}

// Promise 17.1: a carriage return or a line feed alone is a byte of its line.
func TestEncodeReturnsAlone(t *testing.T) {
	check(t, "\r", "=0D")
	check(t, "\n", "=0A")
	check(t, "\n\r", "=0A=0D")
	check(t, "a\rb", "a=0Db")
	check(t, "a\nb", "a=0Ab")
	check(t, "a\r", "a=0D")
	check(t, "a\n", "a=0A")
	check(t, "\r\r\n", "=0D\r\n")
	check(t, "\r\n\r", "\r\n=0D")
	check(t, "\r\n\n", "\r\n=0A")
	check(t, "\n\r\n", "=0A\r\n")
	check(t, "\r\n\r\r\n\n", "\r\n=0D\r\n=0A")
	check(t, "\r \n", "=0D =0A")
}

// Promise 17.1: each byte, alone, in the middle and at the end of a line.
func TestEncodeEachByte(t *testing.T) {
	eachByte(func(c byte, text, escape string) {
		isBlank := c == ' ' || c == '\t'
		end, middle := escape, escape
		if c >= 33 && c <= 126 && c != '=' {
			end, middle = text, text
		} else if isBlank {
			middle = text
		}
		check(t, text, end)
		check(t, "a"+text, "a"+end)
		check(t, text+"b", middle+"b")
		check(t, "a"+text+"b", "a"+middle+"b")
		check(t, "a"+text+"\r\nb", "a"+end+"\r\nb")
		check(t, "a\r\n"+text+"b", "a\r\n"+middle+"b")
		check(t, "a\r\n"+text+"\r\n", "a\r\n"+end+"\r\n")
	})
}

// Promise 17.1: the last byte of a line is no blank.
func TestEncodeBlanks(t *testing.T) {
	check(t, " ", "=20")
	check(t, "\t", "=09")
	check(t, "a ", "a=20")
	check(t, "a\t\r\nb", "a=09\r\nb")
	check(t, " a", " a")
	check(t, "\ta", "\ta")
	check(t, "a  b", "a  b")
	check(t, "a \t b", "a \t b")
	check(t, "a  ", "a =20")
	check(t, "a \t", "a =09")
	check(t, "a\t ", "a\t=20")
	check(t, "   ", "  =20")
	check(t, " \r\n", "=20\r\n")
	check(t, " \r\n \r\n\t", "=20\r\n=20\r\n=09")
	check(t, "a  \r\n  b  \r\n", "a =20\r\n  b =20\r\n")
	check(t, "a \r", "a =0D")
	check(t, "a \n", "a =0A")
	check(t, "a \r\r\n", "a =0D\r\n")
}

// Promise 17.1: an escape has its mark and two capital digits, the higher half first.
func TestEncodeEscapes(t *testing.T) {
	check(t, "=", "=3D")
	check(t, "==", "=3D=3D")
	check(t, "a=b", "a=3Db")
	check(t, "=3D", "=3D3D")
	check(t, "=\r\n=", "=3D\r\n=3D")
	check(t, "a=\r\nb", "a=3D\r\nb")
	check(t, "\u00e9=", "=C3=A9=3D")
	check(t, "\x00\x1f\x7f\x80\xff", "=00=1F=7F=80=FF")
	check(t, "!<>~", "!<>~")
	check(t, "\xab\xba\x0a\xa0", "=AB=BA=0A=A0")
}

// Promise 17.1: with a soft line break before it, no more than 75 bytes follow the last line end.
func TestEncodeLongLines(t *testing.T) {
	check(t, x(74), x(74))
	check(t, x(75), x(75))
	check(t, x(76), x(75)+"=\r\nx")
	check(t, x(77), x(75)+"=\r\nxx")
	check(t, x(150), x(75)+"=\r\n"+x(75))
	check(t, x(151), x(75)+"=\r\n"+x(75)+"=\r\nx")
	check(t, x(226), x(75)+"=\r\n"+x(75)+"=\r\n"+x(75)+"=\r\nx")
	check(t, x(75)+"\r\n"+x(75), x(75)+"\r\n"+x(75))
	check(t, x(76)+"\r\n"+x(75), x(75)+"=\r\nx\r\n"+x(75))
	check(t, x(40)+"\r\n"+x(76)+"\r\n", x(40)+"\r\n"+x(75)+"=\r\nx\r\n")
	check(t, x(75)+"\r\n\r\n"+x(75)+"\r\n", x(75)+"\r\n\r\n"+x(75)+"\r\n")
}

// Promise 17.1: an escape is not divided by a soft line break.
func TestEncodeLongLinesWithEscapes(t *testing.T) {
	check(t, x(71)+"=", x(71)+"=3D")
	check(t, x(72)+"=", x(72)+"=3D")
	check(t, x(73)+"=", x(73)+"=\r\n=3D")
	check(t, x(74)+"=", x(74)+"=\r\n=3D")
	check(t, x(75)+"=", x(75)+"=\r\n=3D")
	check(t, x(76)+"=", x(75)+"=\r\nx=3D")
	check(t, x(69)+"==", x(69)+"=3D=3D")
	check(t, x(70)+"==", x(70)+"=3D=\r\n=3D")
	check(t, x(73)+"==", x(73)+"=\r\n=3D=3D")
	check(t, x(66)+"===", x(66)+"=3D=3D=3D")
	check(t, x(67)+"===", x(67)+"=3D=3D=\r\n=3D")
	check(t, x(72)+"===", x(72)+"=3D=\r\n=3D=3D")
	check(t, x(74)+"===", x(74)+"=\r\n=3D=3D=3D")
	check(t, x(72)+"=y", x(72)+"=3D=\r\ny")
	check(t, x(73)+"=y", x(73)+"=\r\n=3Dy")
	check(t, strings.Repeat("=", 25), strings.Repeat("=3D", 25))
	check(t, strings.Repeat("\xff", 51), strings.Repeat("=FF", 25)+"=\r\n"+strings.Repeat("=FF", 25)+"=\r\n=FF")
	check(t, "x"+strings.Repeat("\x00", 25), "x"+strings.Repeat("=00", 24)+"=\r\n=00")
}

// Promise 17.1: a blank before a soft line break is not the last byte of its line.
func TestEncodeLongLinesWithBlanks(t *testing.T) {
	check(t, x(72)+" ", x(72)+"=20")
	check(t, x(73)+" ", x(73)+"=\r\n=20")
	check(t, x(74)+" ", x(74)+"=\r\n=20")
	check(t, x(75)+" ", x(75)+"=\r\n=20")
	check(t, x(76)+"\t", x(75)+"=\r\nx=09")
	check(t, x(74)+"  ", x(74)+" =\r\n=20")
	check(t, x(74)+" y", x(74)+" =\r\ny")
	check(t, x(74)+"\ty\r\n", x(74)+"\t=\r\ny\r\n")
	check(t, x(75)+" y", x(75)+"=\r\n y")
	check(t, x(71)+"  ", x(71)+" =20")
	check(t, x(72)+"  ", x(72)+" =\r\n=20")
	check(t, x(73)+"  \r\n", x(73)+" =\r\n=20\r\n")
	check(t, x(70)+"   ", x(70)+"  =20")
	check(t, x(73)+"   ", x(73)+"  =\r\n=20")
	check(t, strings.Repeat(" ", 75), strings.Repeat(" ", 74)+"=\r\n=20")
	check(t, strings.Repeat("\t", 76), strings.Repeat("\t", 75)+"=\r\n=09")
	check(t, strings.Repeat(" ", 152), strings.Repeat(" ", 75)+"=\r\n"+strings.Repeat(" ", 75)+"=\r\n =20")
}

// Promise 17.1: lines of all lengths about those at which they are broken, with all ends.
func TestEncodeAboutBreaks(t *testing.T) {
	for size := range 160 {
		eachString([]string{"x", " ", "=", "\xff"}, 3, func(s string) {
			for _, end := range []string{"", "\r\n", "\r\n" + x(75)} {
				checkEncode(t, x(size)+s+end, modelEncode(x(size)+s+end))
			}
		})
	}
}

// Promise 17.2: two digits are a byte, whatever their letters' case.
func TestByteOfAllTwo(t *testing.T) {
	const small, capital = "0123456789abcdef", "0123456789ABCDEF"
	value := func(c byte) int {
		return max(strings.IndexByte(small, c), strings.IndexByte(capital, c))
	}
	eachByte(func(high byte, text, _ string) {
		checkByte(t, text, 0, false)
		eachByte(func(low byte, text2, _ string) {
			if h, l := value(high), value(low); h >= 0 && l >= 0 {
				checkByte(t, text+text2, byte(16*h+l), true)
			} else {
				checkByte(t, text+text2, 0, false)
			}
		})
	})
	checkByte(t, "fF", 255, true)
	checkByte(t, "Ff", 255, true)
	checkByte(t, "3D", 61, true)
	checkByte(t, "0a", 10, true)
	checkByte(t, "a0", 160, true)
	checkByte(t, "00", 0, true)
}

// Promise 17.2: a text of another length is no byte.
func TestByteOfOtherLengths(t *testing.T) {
	for _, s := range []string{"", "f", "0", "A", "=", "000", "03D", "3D0", "fff", "3D ", " 3D", "=3D", "0x3", "3D3D", "-1", "+1", "1 ", " 1", "1_", "é", "٣", strings.Repeat("0", 1000)} {
		checkByte(t, s, 0, false)
	}
}

// Promise 17.3: two digits of any case make an escape.
func TestDecodeEscapes(t *testing.T) {
	eachByte(func(_ byte, text, escape string) {
		decoded(t, text, escape, strings.ToLower(escape), escape+" ", escape+"=", "="+"\r\n"+escape)
		decoded(t, "a"+text+"b", "a"+escape+"b")
		decoded(t, text+text, escape+escape)
	})
	decoded(t, "\xfa\xfa\xaf", "=fA=Fa=aF")
	decoded(t, "\u00e9", "=c3=A9", "=C3=a9")
	decoded(t, "=", "=3D", "=3d", "=3D=")
	decoded(t, "=3D", "=3D3D")
	decoded(t, "\r\n", "=0D=0A", "=0d=\r\n=0a", "\r\n")
	decoded(t, "\r\n\r\n", "=0D=0A\r\n", "\r\n=0D=0A")
	decoded(t, "a ", "a=20", "a=20  ", "a =", "a = \t")
	decoded(t, "a", "=61", "a")
}

// Promise 17.3: an escape that is not whole is refused.
func TestDecodeBrokenEscapes(t *testing.T) {
	refused(t, "=4", "=4 ", "=4\t", "=4\r\n", "=4\r\n1", "=4=", "=4=\r\n1", "a=4", "a=4=", "a=4b=4")
	refused(t, "=4G", "=4g", "=G4", "=4 1", "= 41", "=4=41", "=4\xff1", "=-1", "=+1", "=0x41", "=4:", "=:4", "=/0", "=@1", "=`1")
	refused(t, "==", "===", "==41", "==\r\n", "== \r\n", "a==", "a==b", "= =", "= = ", "=\t=", "=a=", "====", "=3D==")
	refused(t, "=b", "= b", "=\tb", "a=b c", "=zz", "=é", "=\r", "=\n", "=\n\r\n", "=\r\r\n", "= \r", "=\x00", "=4\r", "=\r\n==")
	refused(t, "=41\r\n=4", "a\r\n=4\r\nb", "=4\r\na\r\nb", "=\r\n=4")
}

// Promise 17.3: bytes that an encoding never has are refused, and blanks are not.
func TestDecodeEachByte(t *testing.T) {
	eachByte(func(c byte, text, _ string) {
		switch {
		case c == '=':
			decoded(t, "", text, text+"\r\n")
			decoded(t, "a", "a"+text)
			decoded(t, "\xbc", text+"bc")
			refused(t, "a"+text+"g")
		case c == ' ' || c == '\t':
			decoded(t, "", text, text+text)
			decoded(t, "a", "a"+text)
			decoded(t, text+"b", text+"b")
			decoded(t, "a"+text+"b", "a"+text+"b")
			decoded(t, "a\r\nb", "a"+text+"\r\nb"+text)
			decoded(t, "a"+text, "a"+text+"=")
		case c >= 33 && c <= 126:
			decoded(t, text, text, text+" ", text+"=")
			decoded(t, "a"+text+"b", "a"+text+"b")
		default:
			refused(t, text, "a"+text, text+"b", "a"+text+"b", text+" ", text+"=", "a"+text+"\r\nb", "a\r\n"+text, "a=\r\n"+text)
		}
	})
}

// Promise 17.3: a carriage return or a line feed alone is refused.
func TestDecodeReturnsAlone(t *testing.T) {
	refused(t, "\r", "\n", "\n\r", "a\nb", "a\rb", "a\n", "a\r", "\r\r\n", "\r\n\r", "\n\r\n", "\r\n\n", "a \r", "a \n", "a\r \n", "=0D\n", "\r=0A")
}

// Promise 17.3: a soft line break joins what stands about it.
func TestDecodeSoftBreaks(t *testing.T) {
	decoded(t, "", "=", "=\r\n", "= ", "=\t\r\n", "=\r\n=", "=\r\n=\r\n=\r\n")
	decoded(t, "a", "a=", "a= ", "a=\r\n", "a=\r\n=", "=\r\na", "a=\r\n=\r\n", "=\r\n=\r\na", "a=\r\n  ")
	decoded(t, "ab", "a=\r\nb", "a= \r\nb", "a=\t \t\r\nb", "a=\r\n=\r\nb", "a=\r\n= \r\n=\r\nb", "a=\r\nb=\r\n", "=\r\na=\r\nb=")
	decoded(t, "a b", "a =\r\nb", "a=\r\n b", "a =\t\r\nb", "a=20=\r\nb", "a=\r\n =\r\nb", "a=\r\n=20=\r\nb")
	decoded(t, "a  b", "a =\r\n b", "a =\r\n =\r\nb")
	decoded(t, "\t", "\t=", "\t= ", "= \r\n\t= \r\n")
	decoded(t, "\t ", "\t =", "\t=\r\n =")
	decoded(t, "a\r\nb", "a=\r\n\r\nb", "a\r\n=\r\nb", "a=\r\n\r\nb=", "a=\r\n=\r\n\r\nb", "a= \r\n \r\nb")
	decoded(t, "a\r\n", "a=\r\n\r\n", "a\r\n=", "a\r\n=\r\n", "a=\r\n\r\n=")
	decoded(t, "\r\n", "=\r\n\r\n", "\r\n=", "\r\n=\r\n")
	decoded(t, "a\r\n\r\nb", "a=\r\n\r\n\r\nb", "a\r\n=\r\n\r\nb")
	decoded(t, x(200), x(200), x(100)+"=\r\n"+x(100))
}

// Promise 17.3: blanks at the end of a line stand for nothing.
func TestDecodeBlanks(t *testing.T) {
	decoded(t, "", " ", "\t", " \t ", strings.Repeat(" ", 1000))
	decoded(t, "a", "a ", "a\t", "a \t \t")
	decoded(t, " a", " a", " a ")
	decoded(t, "a b", "a b", "a b\t")
	decoded(t, "a \t b", "a \t b \t ")
	decoded(t, "a\r\nb", "a  \r\nb\t", "a\t\r\nb", "a \r\nb ")
	decoded(t, "a\r\n\r\nb", "a\r\n \r\nb", "a \r\n\t \r\nb")
	decoded(t, "\r\n", " \r\n", "\r\n ", " \r\n\t")
	decoded(t, "\r\n\r\n", " \r\n \r\n ")
	decoded(t, "a\r\n b", "a \r\n b ")
	decoded(t, " ", "=20", "=20 ", " =", "=20=")
	decoded(t, "  ", " =20", " =20\t", "  =")
}

// Promises 17.1 and 17.3: all short texts of the bytes that the calls tell apart.
func TestShortTexts(t *testing.T) {
	eachString([]string{"a", "F", "4", "=", " ", "\t", "\r", "\n", "g", "\xff"}, 5, func(s string) { checkAll(t, s) })
	eachString([]string{"b", "=", " ", "\r\n", "=\r\n", "=4", "3d", "\t"}, 5, func(s string) { checkAll(t, s) })
}

// anyText is a text of this many pieces from r.
func anyText(r *rand.Rand, pieces []string, size int) string {
	var b strings.Builder
	for range size {
		b.WriteString(pieces[r.Intn(len(pieces))])
	}
	return b.String()
}

// anyBytes is a text of this many bytes of all kinds from r.
func anyBytes(r *rand.Rand, size int) string {
	b := make([]byte, size)
	for i := range b {
		b[i] = byte(r.Intn(256))
	}
	return string(b)
}

// tellingPieces are those of which texts have much that the calls tell apart.
func tellingPieces() []string {
	return []string{"a", "bcd", x(20), x(70), " ", "  ", "\t", "=", "=3D", "=a0", "=\r\n", "= \r\n", "\r\n", "\r\n\r\n", "\r", "\n", "\xff", "é", "~", "!", "0", "F"}
}

// Promises 17.1 to 17.4: long texts from a fixed seed.
func TestLongTexts(t *testing.T) {
	r := rand.New(rand.NewSource(17))
	clean := []string{"a", x(30), x(74), " ", "\t", "=3D", "=0a", "=\r\n", "= \r\n", "\r\n", "=C3=A9"}
	for range 1500 {
		for _, s := range []string{anyBytes(r, r.Intn(400)), anyText(r, tellingPieces(), r.Intn(40)), anyText(r, clean, r.Intn(40))} {
			checkAll(t, s)
			checkBack(t, s)
		}
	}
}

// Promise 17.4: whatever bytes a text has, it comes back from short plain lines.
func TestBack(t *testing.T) {
	checkBack(t, "")
	eachByte(func(_ byte, text, _ string) {
		for _, size := range []int{0, 1, 71, 72, 73, 74, 75, 76, 77, 150} {
			checkBack(t, x(size)+text)
			checkBack(t, x(size)+text+"\r\n")
			checkBack(t, x(size)+text+text)
			checkBack(t, x(size)+text+"x")
		}
		checkBack(t, strings.Repeat(text, 200))
		checkBack(t, strings.Repeat(text+"\r\n", 100))
	})
	eachString([]string{"a", " ", "\t", "=", "\r", "\n", "\xff"}, 5, func(s string) { checkBack(t, s) })
	for size := range 160 {
		eachString([]string{"x", " ", "=", "\r\n"}, 3, func(s string) { checkBack(t, x(size)+s) })
	}
}

// Promise 17.4: an encoded text is encoded and comes back like any other.
func TestBackTwice(t *testing.T) {
	r := rand.New(rand.NewSource(4))
	for range 300 {
		s := anyBytes(r, r.Intn(300))
		for range 3 {
			checkBack(t, s)
			s = qp.Encode(s)
		}
	}
}

// P1: the calls end with all texts, and in a time that grows as the text does.
func TestLongest(t *testing.T) {
	const size = 1 << 21
	for _, piece := range []string{"x", "=", " ", "\r\n", "\r", "\xff", "=3D", "=\r\n", " \r\n", "x \r\n", "\t x"} {
		s := strings.Repeat(piece, size/len(piece))
		encoded := qp.Encode(s)
		checkDecode(t, encoded, s, api.OK)
		qp.Decode(s)
		qp.Decode(s + "\x00")
		qp.Byte(s)
	}
	decoded(t, "", strings.Repeat("=\r\n", size), strings.Repeat(" ", size))
}

// The examples of the chapter.
func TestExamples(t *testing.T) {
	check(t, "a=b \r\n", "a=3Db=20\r\n")
	check(t, "a ", "a=20")
	check(t, "\t\r\n", "=09\r\n")
	checkByte(t, "fF", 255, true)
	checkByte(t, "f", 0, false)
	decoded(t, "a", "a=")
	refused(t, "=4", "==")
}
