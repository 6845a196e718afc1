package lex_test

import (
	"fmt"
	"math/rand"
	"slices"
	"strings"
	"testing"

	"bulletin/api"
	"bulletin/lex"
)

func atom(s string) lex.Token    { return lex.Token{Kind: lex.Atom, Text: s} }
func quoted(s string) lex.Token  { return lex.Token{Kind: lex.Quoted, Text: s} }
func special(s string) lex.Token { return lex.Token{Kind: lex.Special, Text: s} }

func list(l ...lex.Token) []lex.Token { return l }

// show tells tokens without all of a long text or list.
func show(l []lex.Token) string {
	var b strings.Builder
	fmt.Fprintf(&b, "%d tokens:", len(l))
	for _, t := range l[:min(len(l), 20)] {
		fmt.Fprintf(&b, " %d %.40q", t.Kind, t.Text)
	}
	return b.String()
}

// checkScan scans a text that has these tokens.
func checkScan(t *testing.T, s string, want ...lex.Token) {
	t.Helper()
	if l, code := lex.Scan(s); code != api.OK || !slices.Equal(l, want) {
		t.Errorf("Scan(%.80q) = %s; %d; want %s", s, show(l), int(code), show(want))
	}
}

// refused scans a text that has this error.
func refused(t *testing.T, s string, want api.Code) {
	t.Helper()
	if l, code := lex.Scan(s); code != want || len(l) != 0 {
		t.Errorf("Scan(%.80q) = %s; %d; want no tokens; %d", s, show(l), int(code), int(want))
	}
}

func checkText(t *testing.T, name string, call func(s string) string, s, want string) {
	t.Helper()
	if got := call(s); got != want {
		t.Errorf("%s(%.80q) = %.80q; want %.80q", name, s, got, want)
	}
}

func checkPrint(t *testing.T, l []lex.Token, want string) {
	t.Helper()
	if got := lex.Print(l); got != want {
		t.Errorf("Print of %s = %.80q; want %.80q", show(l), got, want)
	}
}

// The bytes that the chapter names, written out.
const (
	asciiAtomBytes = "abcdefghijklmnopqrstuvwxyzABCDEFGHIJKLMNOPQRSTUVWXYZ0123456789!#$%&'*+-/=?^_`{|}~"
	specialBytes   = "<>:;@,."
)

// one is the string of the byte with this number.
func one(b int) string {
	return string([]byte{byte(b)})
}

func modelAtomByte(b int) bool {
	return b > 127 || strings.Contains(asciiAtomBytes, one(b))
}

func modelTextByte(b int) bool {
	return b == 9 || b >= 32 && b <= 126 || b > 127
}

// fold is the number that the model has for a fold; each byte has its own.
const fold = 256

// symbols are the bytes and the folds of s.
func symbols(s string) []int {
	var l []int
	for s != "" {
		if strings.HasPrefix(s, "\r\n ") || strings.HasPrefix(s, "\r\n\t") {
			l = append(l, fold)
			s = s[2:]
			continue
		}
		l = append(l, int(s[0]))
		s = s[1:]
	}
	return l
}

// modelScan is Scan by the words of promise 12.1: it looks at one symbol at a
// time, and knows of what came before only the four variables.
func modelScan(s string) ([]lex.Token, api.Code) {
	var l []lex.Token
	depth, within, escaped, word := 0, false, false, false
	add := func(b int) { l[len(l)-1].Text += one(b) }
	for _, b := range symbols(s) {
		if depth == 0 && !within {
			before := word
			word = b != fold && modelAtomByte(b)
			switch {
			case word && before:
				add(b)
			case word:
				l = append(l, atom(one(b)))
			case b == ' ', b == '\t', b == fold:
			case b == '(':
				depth = 1
			case b == '"':
				l, within = append(l, quoted("")), true
			case strings.Contains(specialBytes, one(b)):
				l = append(l, special(one(b)))
			default:
				return nil, api.ErrForm
			}
			continue
		}
		text := b != fold && modelTextByte(b)
		switch {
		case escaped && !text:
			return nil, api.ErrForm
		case !escaped && b == '\\':
			escaped = true
			continue
		case !escaped && b == fold:
		case !escaped && within && b == '"':
			within = false
		case !escaped && !within && b == ')':
			depth--
		case !escaped && !within && b == '(' && depth == 16:
			return nil, api.ErrRange
		case !escaped && !within && b == '(':
			depth++
		case !text:
			return nil, api.ErrForm
		case within:
			add(b)
		}
		escaped = false
	}
	if within || depth > 0 {
		return nil, api.ErrShort
	}
	return l, api.OK
}

// asText is s with a space for each byte that is not a text byte.
func asText(s string) string {
	b := []byte(s)
	for i := range b {
		if !modelTextByte(int(b[i])) {
			b[i] = ' '
		}
	}
	return string(b)
}

func modelQuote(s string) string {
	return `"` + strings.ReplaceAll(strings.ReplaceAll(asText(s), `\`, `\\`), `"`, `\"`) + `"`
}

func modelIsAtom(s string) bool {
	for i := range len(s) {
		if !modelAtomByte(int(s[i])) {
			return false
		}
	}
	return len(s) > 0
}

func modelPrint(l []lex.Token) string {
	printed := ""
	for i, t := range l {
		text := t.Text
		if t.Kind == lex.Quoted {
			text = modelQuote(text)
		}
		if i == 0 || t.Kind == lex.Special || l[i-1].Kind == lex.Special {
			printed += text
		} else {
			printed += " " + text
		}
	}
	return printed
}

func checkModel(t *testing.T, s string) {
	t.Helper()
	if want, code := modelScan(s); code == api.OK {
		checkScan(t, s, want...)
	} else {
		refused(t, s, code)
	}
}

// telling has a byte of each sort that Scan tells apart.
const telling = "a. \t\r\n\"\\()[\x7f\xe9"

// eachString calls f for every string of at most n bytes of the alphabet.
func eachString(alphabet string, n int, f func(s string)) {
	f("")
	if n == 0 {
		return
	}
	for i := range len(alphabet) {
		eachString(alphabet, n-1, func(s string) { f(alphabet[i:i+1] + s) })
	}
}

// eachList calls f for every list of at most n of the tokens.
func eachList(tokens []lex.Token, n int, f func(l []lex.Token)) {
	f(nil)
	if n == 0 {
		return
	}
	for _, first := range tokens {
		eachList(tokens, n-1, func(l []lex.Token) { f(append(list(first), l...)) })
	}
}

// allBytes is a string with every byte once.
func allBytes() string {
	var b strings.Builder
	for i := range 256 {
		b.WriteByte(byte(i))
	}
	return b.String()
}

// deep are n comments, each in the one before.
func deep(n int) string {
	return strings.Repeat("(", n) + strings.Repeat(")", n)
}

// The numbers of the kinds are promised, as other layers keep them.
func TestKinds(t *testing.T) {
	if lex.Atom != 1 || lex.Quoted != 2 || lex.Special != 3 {
		t.Error(lex.Atom, lex.Quoted, lex.Special)
	}
}

// Promises 12.1 and 12.2: the examples of the chapter.
func TestExamples(t *testing.T) {
	checkScan(t, `a (x) "b c"@d`, atom("a"), quoted("b c"), special("@"), atom("d"))
	checkScan(t, "a.b@c", atom("a"), special("."), atom("b"), special("@"), atom("c"))
	refused(t, "(a", api.ErrShort)
	refused(t, "a)", api.ErrForm)
	refused(t, strings.Repeat("(", 17), api.ErrRange)
	if !lex.IsAtom("a~") || lex.IsAtom("a b") {
		t.Error(lex.IsAtom("a~"), lex.IsAtom("a b"))
	}
	checkText(t, "Word", lex.Word, "a.b", `"a.b"`)
	checkPrint(t, list(atom("a"), quoted("b"), special("<"), atom("c"), atom("d")), `a "b"<c d`)
}

// Promise 12.1: ordinary texts, and what has no tokens.
func TestScan(t *testing.T) {
	for _, s := range []string{"", " ", "\t", "\r\n ", "\r\n\t", " \t\r\n \r\n\t", "()", "(a)", "(a)(b)", " (a) ", "((a)b(c))", "(\\))", "(\\()", "(\")", "(a.b@c <d>,;:[])"} {
		checkScan(t, s)
	}
	for _, c := range []struct {
		s    string
		want []lex.Token
	}{
		{"a", list(atom("a"))}, {" a ", list(atom("a"))}, {"a b", list(atom("a"), atom("b"))}, {"ab", list(atom("ab"))}, {"a\tb", list(atom("a"), atom("b"))}, {"a  b", list(atom("a"), atom("b"))},
		{"a(b)c", list(atom("a"), atom("c"))}, {"(a)b(c)", list(atom("b"))}, {"a()b", list(atom("a"), atom("b"))}, {"a(b(c)d)e", list(atom("a"), atom("e"))},
		{"Mary Smith <mary@x.org>", list(atom("Mary"), atom("Smith"), special("<"), atom("mary"), special("@"), atom("x"), special("."), atom("org"), special(">"))},
		{`"Joe Q. Public" <john.q.public@example.com>, a`, list(quoted("Joe Q. Public"), special("<"), atom("john"), special("."), atom("q"), special("."), atom("public"), special("@"), atom("example"), special("."), atom("com"), special(">"), special(","), atom("a"))},
		{"A Group(Some people)\r\n :Chris <c@(his host)public.example>;", list(atom("A"), atom("Group"), special(":"), atom("Chris"), special("<"), atom("c"), special("@"), atom("public"), special("."), atom("example"), special(">"), special(";"))},
		{"text/plain; charset=\"utf-8\"", list(atom("text/plain"), special(";"), atom("charset="), quoted("utf-8"))}, {"=?utf-8?q?a?=", list(atom("=?utf-8?q?a?="))},
		{asciiAtomBytes, list(atom(asciiAtomBytes))}, {"1.0", list(atom("1"), special("."), atom("0"))},
		{"a.b", list(atom("a"), special("."), atom("b"))}, {".", list(special("."))}, {"..", list(special("."), special("."))}, {".a", list(special("."), atom("a"))}, {"a.", list(atom("a"), special("."))}, {"a..b", list(atom("a"), special("."), special("."), atom("b"))}, {"www.x.org", list(atom("www"), special("."), atom("x"), special("."), atom("org"))},
		{specialBytes, list(special("<"), special(">"), special(":"), special(";"), special("@"), special(","), special("."))},
		{"été", list(atom("été"))}, {"\xff\x80", list(atom("\xff\x80"))}, {"a\x80b \u00a0", list(atom("a\x80b"), atom("\u00a0"))},
	} {
		checkScan(t, c.s, c.want...)
	}
}

// Promise 12.1: each byte alone, within an atom, and beside each special.
func TestEachByteOutside(t *testing.T) {
	for b := range 256 {
		x := one(b)
		switch {
		case modelAtomByte(b):
			checkScan(t, x, atom(x))
			checkScan(t, "a"+x+"b", atom("a"+x+"b"))
			checkScan(t, "."+x+"@", special("."), atom(x), special("@"))
		case x == " ", x == "\t":
			checkScan(t, x)
			checkScan(t, "a"+x+"b", atom("a"), atom("b"))
		case strings.Contains(specialBytes, x):
			checkScan(t, x, special(x))
			checkScan(t, "a"+x+"b", atom("a"), special(x), atom("b"))
		case x == `"`, x == "(":
			refused(t, x, api.ErrShort)
			refused(t, "a"+x+"b", api.ErrShort)
		default:
			refused(t, x, api.ErrForm)
			refused(t, "a"+x+"b", api.ErrForm)
			refused(t, " "+x+" ", api.ErrForm)
			refused(t, "."+x+"@", api.ErrForm)
			refused(t, "\\"+x, api.ErrForm)
		}
	}
}

// Promise 12.1: each byte within a quoted string, also behind a \.
func TestEachByteQuoted(t *testing.T) {
	for b := range 256 {
		x := one(b)
		switch {
		case x == `"`:
			refused(t, `"a"b"`, api.ErrShort)
			checkScan(t, `"a"`+x+`b"`, quoted("a"), quoted("b"))
			checkScan(t, `"a\"b"`, quoted(`a"b`))
		case x == `\`:
			refused(t, `"\"`, api.ErrShort)
			checkScan(t, `"a\b"`, quoted("ab"))
			checkScan(t, `"a\\b"`, quoted(`a\b`))
		case modelTextByte(b):
			checkScan(t, `"`+x+`"`, quoted(x))
			checkScan(t, `"a`+x+`b"`, quoted("a"+x+"b"))
			checkScan(t, `"\`+x+`"`, quoted(x))
			checkScan(t, `"a\`+x+`b"`, quoted("a"+x+"b"))
		default:
			refused(t, `"`+x+`"`, api.ErrForm)
			refused(t, `"a`+x+`b"`, api.ErrForm)
			refused(t, `"\`+x+`"`, api.ErrForm)
			refused(t, `"a\`+x+`b"`, api.ErrForm)
		}
	}
}

// Promise 12.1: each byte within a comment, also behind a \.
func TestEachByteInComment(t *testing.T) {
	for b := range 256 {
		x := one(b)
		switch {
		case x == "(":
			refused(t, "(()", api.ErrShort)
			checkScan(t, "(()x)")
			checkScan(t, `(\()x`, atom("x"))
		case x == ")":
			refused(t, "())", api.ErrForm)
			checkScan(t, `(\))x`, atom("x"))
		case x == `\`:
			refused(t, `(\)`, api.ErrShort)
			checkScan(t, `(\\)x`, atom("x"))
		case modelTextByte(b):
			checkScan(t, "("+x+")x", atom("x"))
			checkScan(t, "(a"+x+"b)x", atom("x"))
			checkScan(t, "(("+x+"))x", atom("x"))
			checkScan(t, `(\`+x+")x", atom("x"))
		default:
			refused(t, "("+x+")", api.ErrForm)
			refused(t, "(a"+x+"b)", api.ErrForm)
			refused(t, "(("+x+"))", api.ErrForm)
			refused(t, `(\`+x+")", api.ErrForm)
		}
	}
}

// Promise 12.1: a carriage return and a line feed with each byte behind them.
func TestFolds(t *testing.T) {
	for b := range 256 {
		x := one(b)
		if x == " " || x == "\t" {
			checkScan(t, "a\r\n"+x+"b", atom("a"), atom("b"))
			checkScan(t, "\r\n"+x)
			checkScan(t, "\r\n"+x+"\r\n"+x+"a", atom("a"))
			checkScan(t, "\"a\r\n"+x+"b\"", quoted("a"+x+"b"))
			checkScan(t, "\"\r\n"+x+"\"", quoted(x))
			checkScan(t, "\"\r\n"+x+"\r\n"+x+"\"", quoted(x+x))
			checkScan(t, "\"a\"\r\n"+x+"\"b\"", quoted("a"), quoted("b"))
			checkScan(t, "(a\r\n"+x+"b)c", atom("c"))
			checkScan(t, "((\r\n"+x+")\r\n"+x+")c", atom("c"))
			continue
		}
		refused(t, "a\r\n"+x+"b", api.ErrForm)
		refused(t, "\r\n"+x+" ", api.ErrForm)
		refused(t, "\"a\r\n"+x+"b\"", api.ErrForm)
		refused(t, "\"\r\n"+x+" \"", api.ErrForm)
		refused(t, "(a\r\n"+x+"b)", api.ErrForm)
		refused(t, "(\r\n"+x+" )", api.ErrForm)
	}
}

// Promise 12.1: what is no fold, as something is missing or too much; the text
// ends within it, outside of everything and in a quoted string and a comment.
func TestNoFolds(t *testing.T) {
	for _, no := range []string{
		"\r", "\n", "\r\n", "\r ", "\n ", "\r\t", "\n\t", "\n\r ", "\r\r\n ", "\n\r\n ", "\r\n\r\n ", "\r\n\n ", "\r\n\r ", "\r\n \r\n", "\r\n \r", "\r\n \n", " \r\n", "\r\n\v", "\r\n\x00", "\r\n\u00a0", "\r \n ",
	} {
		for _, before := range []string{"", "a", ".", "(b)", `"b"`, `"`, `"a`, "(", "(a", "((a)", `"\a`, `(\a`} {
			refused(t, before+no, api.ErrForm)
			refused(t, before+no+"a", api.ErrForm)
			refused(t, before+no+`"`, api.ErrForm)
			refused(t, before+no+")", api.ErrForm)
		}
	}
	// A \ stands before a text byte, and a fold begins with none.
	for _, s := range []string{"\"\\\r\n \"", "(\\\r\n )", "\"\\\r", "(\\\r", "\"\\\n\"", "(\\\n)", "\"a\\\r\n\tb\""} {
		refused(t, s, api.ErrForm)
	}
	checkScan(t, "\"\\\\\r\n \"", quoted(`\ `))
	checkScan(t, "(\\\\\r\n )a", atom("a"))
}

// Promise 12.1: what a quoted string stands for, and where the next part begins.
func TestQuotedStrings(t *testing.T) {
	for _, c := range []struct {
		s    string
		want []lex.Token
	}{
		{`""`, list(quoted(""))}, {`"" ""`, list(quoted(""), quoted(""))}, {`""""`, list(quoted(""), quoted(""))}, {`"a""b"`, list(quoted("a"), quoted("b"))}, {"\"\r\n \"", list(quoted(" "))},
		{`"a"b`, list(quoted("a"), atom("b"))}, {`a"b"`, list(atom("a"), quoted("b"))}, {`a"b"c`, list(atom("a"), quoted("b"), atom("c"))}, {`"a"."b"`, list(quoted("a"), special("."), quoted("b"))}, {`a""b`, list(atom("a"), quoted(""), atom("b"))},
		{`"a"(x)"b"`, list(quoted("a"), quoted("b"))}, {`"a"()b`, list(quoted("a"), atom("b"))}, {`"(a)"`, list(quoted("(a)"))}, {`"("`, list(quoted("("))}, {`")"`, list(quoted(")"))}, {`"a.b@c"`, list(quoted("a.b@c"))}, {`"[a]"`, list(quoted("[a]"))},
		{`"\a\b"`, list(quoted("ab"))}, {`"\""`, list(quoted(`"`))}, {`"\\"`, list(quoted(`\`))}, {`"\\\""`, list(quoted(`\"`))}, {`"a \"b\\"x`, list(quoted(`a "b\`), atom("x"))}, {`"\\""\\"`, list(quoted(`\`), quoted(`\`))}, {`"\ "`, list(quoted(" "))}, {"\"\\\t\"", list(quoted("\t"))}, {"\"\\\xff\xff\"", list(quoted("\xff\xff"))}, {`"\(\)"`, list(quoted("()"))},
		{`" a "`, list(quoted(" a "))}, {"\"\t\"", list(quoted("\t"))}, {"\"a\r\n b\"", list(quoted("a b"))}, {"\"a\r\n\t b\"", list(quoted("a\t b"))}, {"\"a \r\n b\"", list(quoted("a  b"))}, {"\"été\"", list(quoted("été"))},
		{`"a" "b"`, list(quoted("a"), quoted("b"))}, {`"<a>"<a>`, list(quoted("<a>"), special("<"), atom("a"), special(">"))}, {`("")a`, list(atom("a"))},
	} {
		checkScan(t, c.s, c.want...)
	}
}

// Promise 12.1: comments up to 16 deep, and a 17th.
func TestDepth(t *testing.T) {
	for n := 1; n <= 16; n++ {
		checkScan(t, deep(n))
		checkScan(t, "a"+deep(n)+"b", atom("a"), atom("b"))
		refused(t, strings.Repeat("(", n), api.ErrShort)
		refused(t, deep(n)[:2*n-1], api.ErrShort)
		refused(t, deep(n)+")", api.ErrForm)
	}
	for n := 17; n <= 40; n++ {
		refused(t, deep(n), api.ErrRange)
		refused(t, "a "+deep(n), api.ErrRange)
		refused(t, strings.Repeat("(", n), api.ErrRange)
		refused(t, strings.Repeat("(a", n), api.ErrRange)
	}
	checkScan(t, `"`+deep(17)+`"`, quoted(deep(17)))
}

// Promise 12.1: how many comments are open matters, not how many there were.
func TestDepthAgain(t *testing.T) {
	open, end := strings.Repeat("(", 16), strings.Repeat(")", 16)
	for _, s := range []string{
		open + end + open + end, open + end + " " + open + end, open + ")(" + end, open + strings.Repeat(")(", 99) + end, open + "))((" + end, open + end[1:] + open[1:] + end, "(" + strings.Repeat("()", 99) + ")", strings.Repeat("()", 99),
		// These open no comment, or end none.
		open + `\(` + end, open + `\)` + end, strings.Repeat(`(\(`, 16) + end, open + `"` + end,
	} {
		checkScan(t, s)
		checkScan(t, s+"a"+s, atom("a"))
		refused(t, s+open+"(", api.ErrRange)
	}
	for _, s := range []string{open + ")((", open + end + open + "(", open + strings.Repeat(")(", 99) + "(", open + end[1:] + open[1:] + "(", open + `\)(`, open + `\\(`, open + "\r\n (", open + `"(`} {
		refused(t, s, api.ErrRange)
		refused(t, s+end+")", api.ErrRange)
	}
}

// Promise 12.1: texts that end within a quoted string, within a comment, and
// behind a \ there.
func TestEndsWithin(t *testing.T) {
	for _, s := range []string{
		`"`, `"a`, `"a `, `"a\"`, `"\\\"`, `"(`, `"(a)`, `a"`, `a"b`, `"a"b"`, `"a""`, `a."b@c`, "\"\r\n ", "\"a\r\n\tb", "\"\xff", `(a)"`, `"\`, `"a\`, `"\\\`, `a"b\`, "\"\r\n \\",
		"(", "(a", "((a)", "(()", `(\)`, `(")(`, `(a)(b`, "a(", `"a"(b`, "(\r\n ", "(a\r\n\tb", "(\xff", `(\`, `(a\`, `((a)\`, `(\\\`, "(\r\n\t\\", `(")")`,
	} {
		refused(t, s, api.ErrShort)
	}
	checkScan(t, `(")a`, atom("a"))
	checkScan(t, `"("a`, quoted("("), atom("a"))
}

// Promise 12.1: bytes that are not permitted outside, a ) without its ( among
// them.
func TestNotPermitted(t *testing.T) {
	for _, s := range []string{
		")", "a)", ")a", "())", "(a))", `"a")`, `")")`, ")(", "a ) b", `\`, `a\`, `\a`, `a\b`, `\"a"`, `a\ b`, `"a"\`, `(a)\`, `\(`, "[", "]", "[a]", "a@[1]",
		"\x00", "\x7f", "a\x7f", "\x7fa", "a\x00b", "\x1f", "\v", "\f", "a\x1bb", "\"\x7f\"", "\"\\\x7f\"", "(\x7f)", "(\\\x7f)", "\"\x00\"", "\"\\\x00\"", "(\x00)", "(\\\x00)",
	} {
		refused(t, s, api.ErrForm)
	}
}

// Promise 12.1: of several errors, the first from the left; it leaves no tokens.
func TestFirstError(t *testing.T) {
	deepest := strings.Repeat("(", 16)
	for _, c := range []struct {
		s    string
		want api.Code
	}{
		{`)"`, api.ErrForm}, {`a)(`, api.ErrForm}, {`")`, api.ErrShort}, {`()("`, api.ErrShort}, {`())"`, api.ErrForm}, {"\x7f(", api.ErrForm}, {"a b \x7f \"", api.ErrForm}, {`\"`, api.ErrForm},
		{"\"\x7f", api.ErrForm}, {"(\x7f", api.ErrForm}, {"((\x7f", api.ErrForm}, {"\"\\\x7f", api.ErrForm}, {"(\\\x7f", api.ErrForm}, {"\"\r", api.ErrForm}, {"(\n", api.ErrForm}, {"\"a\r\n", api.ErrForm}, {"(a\r\n", api.ErrForm}, {"\"\\\r\n", api.ErrForm},
		{")" + deepest + "(", api.ErrForm}, {"[" + deepest + "(", api.ErrForm}, {deepest + "\x7f(", api.ErrForm}, {deepest + "(\x7f", api.ErrRange}, {deepest + "(", api.ErrRange}, {deepest + "()", api.ErrRange}, {deepest + "\\\x00(", api.ErrForm}, {deepest + `(\`, api.ErrRange}, {deepest + `\`, api.ErrShort}, {deepest + `\(`, api.ErrShort}, {deepest + "\r(", api.ErrForm}, {deepest + "((", api.ErrRange},
		{`"` + deepest + "(", api.ErrShort}, {`"` + deepest + "(\x00", api.ErrForm}, {`"a"` + deepest + "(", api.ErrRange}, {`"a" ` + deepest + `)(("`, api.ErrRange}, {"(" + `"` + deepest, api.ErrRange}, {"a b c " + deepest + "( d", api.ErrRange}, {"\"a\n" + deepest + "(", api.ErrForm},
	} {
		refused(t, c.s, c.want)
	}
}

// Promise 12.1: a text is refused wherever its error stands.
func TestErrorAnywhere(t *testing.T) {
	good := `a.b "c d" (e(f)) <g@h>, "" i`
	for _, at := range []int{0, 1, 2, 3, 4, 9, 10, 16, 17, 18, 19, 20, 21, 22, 23, 24, 26, 27, 28} {
		for _, bad := range []string{"\x00", "\x7f", "\n", "\r", "[", ")", `\`} {
			refused(t, good[:at]+bad+good[at:], api.ErrForm)
		}
		refused(t, good[:at]+strings.Repeat("(", 17)+good[at:], api.ErrRange)
	}
	for at := range len(good) + 1 {
		refused(t, good[:at]+"\x7f"+good[at:], api.ErrForm)
		checkModel(t, good[:at])
		checkModel(t, good[at:])
	}
}

// Promise 12.1: Scan as promised, for all short texts of bytes of each sort.
func TestScanAsPromised(t *testing.T) {
	eachString(telling, 5, func(s string) { checkModel(t, s) })
	eachString(telling, 4, func(s string) {
		for _, around := range [][2]string{{`"`, `"`}, {`"`, ""}, {"(", ")"}, {"((", ")"}, {"a", "a"}, {`"\`, `"`}, {`(\`, ")"}, {"\r\n", ""}, {"\"\r\n", `"`}, {strings.Repeat("(", 15), strings.Repeat(")", 15)}} {
			checkModel(t, around[0]+s+around[1])
		}
	})
	eachString(allBytes(), 2, func(s string) {
		for _, around := range [][2]string{{"", ""}, {"a", "b"}, {`"`, `"`}, {"(", ")"}, {"\"\r\n", `"`}} {
			checkModel(t, around[0]+s+around[1])
		}
	})
}

// randomText is a text of up to n pieces, most of which are whole parts.
func randomText(r *rand.Rand, n int) string {
	pieces := []string{"a", "Zz9", "é", "\xff", asciiAtomBytes, ".", "@", "<", ">", ":", ";", ",", " ", "\t", "\r\n ", "\r\n\t", `""`, `"a b"`, `"\"\\"`, "\"\r\n x\"", "()", "(a)", `(b(")\))`, "(\r\n\t.)", deep(16), `"`, `\`, "(", ")", "\r\n", "\r", "\n", "[", "\x7f", "\x00", deep(17)}
	whole := slices.Index(pieces, `"`)
	var b strings.Builder
	for range r.Intn(n) {
		if r.Intn(20) > 0 {
			b.WriteString(pieces[r.Intn(whole)])
		} else {
			b.WriteString(pieces[r.Intn(len(pieces))])
		}
	}
	return b.String()
}

// Promises 12.1 and 12.3: long texts from a fixed seed.
func TestRandomTexts(t *testing.T) {
	r := rand.New(rand.NewSource(12))
	for range 100000 {
		s := randomText(r, 30)
		checkModel(t, s)
		if l, code := lex.Scan(s); code == api.OK {
			checkScan(t, lex.Print(l), l...)
		}
	}
	b := make([]byte, 12)
	for range 100000 {
		r.Read(b)
		checkModel(t, string(b))
		for i := range b {
			b[i] = telling[int(b[i])%len(telling)]
		}
		checkModel(t, string(b))
	}
}

// Promise 12.1: atoms, quoted strings, comments and rows of parts that are long.
func TestLong(t *testing.T) {
	const n = 1 << 20
	letters := strings.Repeat("ab", n/2)
	checkScan(t, letters, atom(letters))
	checkScan(t, `"`+letters+`"`, quoted(letters))
	checkScan(t, `"`+strings.Repeat(`\"`, n)+`"`, quoted(strings.Repeat(`"`, n)))
	checkScan(t, "("+letters+")")
	checkScan(t, strings.Repeat(" ", n))
	checkScan(t, strings.Repeat("\r\n ", n))
	checkScan(t, strings.Repeat("()", n))
	checkScan(t, "("+strings.Repeat("()", n)+")")
	checkScan(t, strings.Repeat(".", n), slices.Repeat(list(special(".")), n)...)
	checkScan(t, strings.Repeat("a ", n), slices.Repeat(list(atom("a")), n)...)
	checkScan(t, strings.Repeat(`""`, n), slices.Repeat(list(quoted("")), n)...)
	refused(t, strings.Repeat("(", n), api.ErrRange)
	refused(t, `"`+letters, api.ErrShort)
	refused(t, "("+letters, api.ErrShort)
	refused(t, letters+"\x7f", api.ErrForm)
	checkText(t, "Word", lex.Word, letters, letters)
	checkText(t, "Quote", lex.Quote, letters, `"`+letters+`"`)
	checkPrint(t, slices.Repeat(list(atom("a"), special(".")), n), strings.Repeat("a.", n))
}

// Promise 12.2: IsAtom, by each byte at each place.
func TestIsAtom(t *testing.T) {
	for _, s := range []string{"a", "a~", asciiAtomBytes, "9", "-", "=?a?=", "it's_1", "é", "\x80", "\xff", "a\xffb", "{}", "\u00a0"} {
		if !lex.IsAtom(s) {
			t.Errorf("IsAtom(%q) = false", s)
		}
	}
	for _, s := range []string{"", " ", "a b", "a ", " a", "a.b", ".", "a@b", "\t", "a\r\n b", "\r\n ", "(a)", "a(b)", `"a"`, `""`, `a\`, "[a]", "\x7f", "a\x7f", "\x00", "a\n", "<a>", "a,b", "a;", "a:", "été."} {
		if lex.IsAtom(s) {
			t.Errorf("IsAtom(%q) = true", s)
		}
	}
	eachString(allBytes(), 2, func(s string) {
		for _, text := range []string{s, "a" + s, s + "a", "ab" + s + "cd"} {
			if is := lex.IsAtom(text); is != modelIsAtom(text) {
				t.Errorf("IsAtom(%q) = %t", text, is)
			}
		}
	})
}

// Promise 12.2: Quote, by each sort of bytes.
func TestQuote(t *testing.T) {
	for _, c := range []struct{ s, want string }{
		{"", `""`}, {"a", `"a"`}, {"a b", `"a b"`}, {"a.b", `"a.b"`}, {`"`, `"\""`}, {`\`, `"\\"`}, {`"\`, `"\"\\"`}, {`a"b\c`, `"a\"b\\c"`}, {`""`, `"\"\""`}, {`\"`, `"\\\""`}, {`\\`, `"\\\\"`},
		{"\t", "\"\t\""}, {" ", `" "`}, {"~", `"~"`}, {"\x7f", `" "`}, {"\x80", "\"\x80\""}, {"\xff", "\"\xff\""}, {"été", `"été"`}, {"\x00", `" "`}, {"\x1f", `" "`}, {"\b\t\n\v", "\" \t  \""}, {"\r\n", `"  "`}, {"\r\n a", `"   a"`}, {"a\x00\x7fb", `"a  b"`}, {"\\\n", `"\\ "`}, {"(a)", `"(a)"`}, {"[a]", `"[a]"`},
	} {
		checkText(t, "Quote", lex.Quote, c.s, c.want)
	}
}

// Promise 12.2: Word is the text itself only if it is an atom.
func TestWord(t *testing.T) {
	for _, c := range []struct{ s, want string }{
		{"", `""`}, {"a", "a"}, {"a~", "a~"}, {"it's_1", "it's_1"}, {"été", "été"}, {"\xff", "\xff"}, {asciiAtomBytes, asciiAtomBytes},
		{"a b", `"a b"`}, {"a.b", `"a.b"`}, {" a", `" a"`}, {"a ", `"a "`}, {".", `"."`}, {`"`, `"\""`}, {`"a"`, `"\"a\""`}, {`a\`, `"a\\"`}, {"\r\x7f", `"  "`}, {"a\nb", `"a b"`}, {"\t", "\"\t\""}, {"a\x7f", `"a "`}, {"(a)", `"(a)"`},
	} {
		checkText(t, "Word", lex.Word, c.s, c.want)
	}
}

// Promises 12.2 and 12.3: Quote and Word as promised, and each is scanned as one
// token, whose text is the string if that has only text bytes.
func TestWordsAsPromised(t *testing.T) {
	check := func(s string) {
		checkText(t, "Quote", lex.Quote, s, modelQuote(s))
		checkScan(t, lex.Quote(s), quoted(asText(s)))
		if modelIsAtom(s) {
			checkText(t, "Word", lex.Word, s, s)
			checkScan(t, lex.Word(s), atom(s))
		} else {
			checkText(t, "Word", lex.Word, s, modelQuote(s))
			checkScan(t, lex.Word(s), quoted(asText(s)))
		}
	}
	check(allBytes())
	eachString(allBytes(), 2, check)
	eachString(telling, 4, check)
}

// Promise 12.2: where Print puts a space, and where none.
func TestPrint(t *testing.T) {
	for _, c := range []struct {
		l    []lex.Token
		want string
	}{
		{nil, ""}, {list(atom("a")), "a"}, {list(quoted("a")), `"a"`}, {list(special("<")), "<"}, {list(quoted("")), `""`}, {list(quoted(`"\`)), `"\"\\"`}, {list(quoted("a\r\nb")), `"a  b"`},
		{list(atom("a"), atom("b")), "a b"}, {list(atom("a"), quoted("b")), `a "b"`}, {list(quoted("a"), atom("b")), `"a" b`}, {list(quoted("a"), quoted("b")), `"a" "b"`}, {list(quoted(""), quoted("")), `"" ""`},
		{list(atom("a"), special(".")), "a."}, {list(special("."), atom("a")), ".a"}, {list(quoted("a"), special(".")), `"a".`}, {list(special("."), quoted("a")), `."a"`}, {list(special("."), special(".")), ".."}, {list(atom("a"), special("."), atom("b")), "a.b"}, {list(quoted("a"), special("@"), quoted("b")), `"a"@"b"`},
		{list(atom("a"), atom("b"), special("<"), atom("c"), special("@"), atom("d"), special(">"), special(","), quoted("e f"), atom("g")), `a b<c@d>,"e f" g`},
		// A text that Scan would give in no token of that kind is printed like any other.
		{list(atom("a b"), atom("")), "a b "}, {list(atom(""), atom("")), " "}, {list(special("abc"), atom("d")), "abcd"}, {list(special(""), special(`"`)), `"`}, {list(atom("\r\n\x00")), "\r\n\x00"}, {list(atom(`"`)), `"`},
		// So is one of a kind that there is not: only a Special needs no space.
		{list(lex.Token{Kind: 0, Text: `a"`}, lex.Token{Kind: 4, Text: "b"}, lex.Token{Kind: -1, Text: "c"}, quoted("d"), special(","), lex.Token{}), `a" b c "d",`},
	} {
		checkPrint(t, c.l, c.want)
	}
}

// Promises 12.2 and 12.3: lists of tokens of every kind, printed as promised;
// scanning what is printed yields the same tokens.
func TestPrintThenScan(t *testing.T) {
	tokens := list(atom("a"), atom("~\xff"), quoted(""), quoted("b"), quoted("a \t(\"\\\xe9."), special("."), special("<"), special(","))
	check := func(l []lex.Token) {
		printed := lex.Print(l)
		if want := modelPrint(l); printed != want {
			t.Errorf("Print of %s = %q; want %q", show(l), printed, want)
		}
		checkScan(t, printed, l...)
	}
	eachList(tokens, 4, check)
	for i := range specialBytes {
		eachList(list(special(specialBytes[i:i+1]), atom("a"), quoted("b")), 3, check)
	}
	for b := range 256 {
		if modelAtomByte(b) {
			check(list(atom(one(b)), atom(one(b)+one(b)), quoted(one(b))))
		}
		if modelTextByte(b) {
			check(list(quoted(one(b)), quoted("a"+one(b)), quoted(one(b)+"a"), atom("a"), quoted(one(b)+one(b))))
		}
	}
}

// Promise 12.3: whatever text the tokens came from.
func TestScanPrintScan(t *testing.T) {
	check := func(s string) {
		if l, code := lex.Scan(s); code == api.OK {
			checkScan(t, lex.Print(l), l...)
		}
	}
	eachString(telling, 5, check)
	eachString(telling, 4, func(s string) { check(`"` + s + `"`) })
	eachString(allBytes(), 2, check)
}

// fillers are blanks and comments, alone and in rows.
var fillers = []string{" ", "\t", "\r\n ", "\r\n\t", "  \t", "\r\n \r\n\t", "()", "(a)", `(a "b" \) (c.d@e))`, "(\r\n )", " (x)\t", "\r\n (x)\r\n\t(y)", deep(16)}

// texts are texts with their parts apart: those of a row may touch each other.
var texts = [][]string{
	{}, {"a"}, {`"a"`}, {"."}, {"()"}, {" "}, {"a", " ", "b"}, {"a", "(x)", "b"}, {"a", ".", "b", "@", "c"}, {`"a"`, `"b"`}, {"a", `"b"`, "c"}, {`""`, `""`}, {".", ".", "."}, {"\r\n ", "a", "\r\n\t", "b"},
	{"Mary", " ", "Smith", " ", "<", "mary", "@", "x", ".", "org", ">"}, {`"a \"(b)\" <c>"`, "<", "d", "@", "e", ">", ",", `"f` + "\r\n " + `g"`}, {"a", deep(16), deep(16), "b"}, {"g", ":", "(none)", ";", "é", `"\\"`},
}

// Promise 12.3: blanks and comments between parts, at one place and at all.
func TestFillers(t *testing.T) {
	for _, parts := range texts {
		want, code := lex.Scan(strings.Join(parts, ""))
		if code != api.OK {
			t.Errorf("Scan(%q): %d", parts, int(code))
		}
		for _, filler := range fillers {
			for at := range len(parts) + 1 {
				checkScan(t, strings.Join(parts[:at], "")+filler+strings.Join(parts[at:], ""), want...)
			}
			checkScan(t, filler+strings.Join(parts, filler)+filler, want...)
		}
	}
}

// Promise 12.3: blanks and comments between the tokens of all short lists.
func TestFillersBetweenTokens(t *testing.T) {
	eachList(list(atom("a"), atom("b!"), quoted(""), quoted(`c "`), special("."), special("@")), 3, func(l []lex.Token) {
		for _, filler := range fillers {
			text := filler
			for _, token := range l {
				text += lex.Print(list(token)) + filler
			}
			checkScan(t, text, l...)
		}
	})
}

// Promises 12.1 and 12.2, rules R4 and R7: what Scan returns is new memory, and
// Print neither changes its tokens nor reads beyond them.
func TestMemory(t *testing.T) {
	const text = `a "b c".d`
	want := list(atom("a"), quoted("b c"), special("."), atom("d"))
	first, _ := lex.Scan(text)
	second, _ := lex.Scan(text)
	first = first[:cap(first)]
	for i := range first {
		first[i] = atom("changed")
	}
	if !slices.Equal(second, want) {
		t.Errorf("changed with another result: %s", show(second))
	}
	checkScan(t, text, want...)
	given := slices.Clone(want)
	checkPrint(t, given[:2], `a "b c"`)
	checkPrint(t, given[1:2], `"b c"`)
	if !slices.Equal(given, want) {
		t.Errorf("Print changed its argument: %s", show(given))
	}
}
