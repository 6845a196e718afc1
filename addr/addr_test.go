package addr_test

import (
	"math/rand"
	"regexp"
	"slices"
	"strings"
	"testing"

	"bulletin/addr"
	"bulletin/api"
	"bulletin/lex"
)

func atom(s string) lex.Token    { return lex.Token{Kind: lex.Atom, Text: s} }
func quoted(s string) lex.Token  { return lex.Token{Kind: lex.Quoted, Text: s} }
func special(s string) lex.Token { return lex.Token{Kind: lex.Special, Text: s} }

func list(l ...lex.Token) []lex.Token { return l }

func address(local, domain string) addr.Addr { return addr.Addr{Local: local, Domain: domain} }

// run is the letter a, n times.
func run(n int) string { return strings.Repeat("a", n) }

// wide is a domain of n bytes, in labels as long as they may be.
func wide(n int) string {
	s := run(n)
	for at := 63; at < n-1; at += 64 {
		s = s[:at] + "." + s[at+1:]
	}
	return s
}

// checkParse parses a text that is this address.
func checkParse(t *testing.T, s, local, domain string) {
	t.Helper()
	if a, code := addr.Parse(s); code != api.OK || a != address(local, domain) {
		t.Errorf("Parse(%.100q) = %.100q; %d; want %.100q and %.100q", s, a, int(code), local, domain)
	}
}

// refused parses a text that has this error.
func refused(t *testing.T, s string, want api.Code) {
	t.Helper()
	if a, code := addr.Parse(s); code != want || a != address("", "") {
		t.Errorf("Parse(%.100q) = %.100q; %d; want no address; %d", s, a, int(code), int(want))
	}
	if a, code := addr.Strict(s); code != want || a != address("", "") {
		t.Errorf("Strict(%.100q) = %.100q; %d; want no address; %d", s, a, int(code), int(want))
	}
}

// strictly parses a text that Strict takes too, as the same address.
func strictly(t *testing.T, s, local, domain string) {
	t.Helper()
	checkParse(t, s, local, domain)
	if a, code := addr.Strict(s); code != api.OK || a != address(local, domain) {
		t.Errorf("Strict(%.100q) = %.100q; %d; want %.100q and %.100q", s, a, int(code), local, domain)
	}
}

// loosely parses a text that Strict does not take.
func loosely(t *testing.T, s, local, domain string) {
	t.Helper()
	checkParse(t, s, local, domain)
	if a, code := addr.Strict(s); code != api.ErrAddr || a != address("", "") {
		t.Errorf("Strict(%.100q) = %.100q; %d; want no address; %d", s, a, int(code), int(api.ErrAddr))
	}
}

func checkOf(t *testing.T, l []lex.Token, want addr.Addr, wantCode api.Code) {
	t.Helper()
	if a, code := addr.Of(l); code != wantCode || a != want {
		t.Errorf("Of(%v) = %.100q; %d; want %.100q; %d", l, a, int(code), want, int(wantCode))
	}
}

func checkDomain(t *testing.T, s, want string, wantCode api.Code) {
	t.Helper()
	if d, code := addr.Domain(s); code != wantCode || d != want {
		t.Errorf("Domain(%.100q) = %.100q; %d; want %.100q; %d", s, d, int(code), want, int(wantCode))
	}
}

// checkTexts asks an address, which may be one that is not valid, for its texts.
func checkTexts(t *testing.T, a addr.Addr, text, key string) {
	t.Helper()
	if got := a.Text(); got != text {
		t.Errorf("Text of %.100q = %.100q; want %.100q", a, got, text)
	}
	if got := a.Key(); got != key {
		t.Errorf("Key of %.100q = %.100q; want %.100q", a, got, key)
	}
}

// checkRight asks whether an address is valid, by Right and, as 13.5 has it, by
// parsing its text.
func checkRight(t *testing.T, a addr.Addr, want bool) {
	t.Helper()
	if got := a.Right(); got != want {
		t.Errorf("Right of %.100q = %v; want %v", a, got, want)
	}
	parsed, code := addr.Parse(a.Text())
	if same := code == api.OK && parsed == a; same != want {
		t.Errorf("Parse(%.100q) = %.100q; %d; the same: want %v", a.Text(), parsed, int(code), want)
	}
}

// The forms that the chapter defines, as patterns for the models.
var (
	dottedForm = regexp.MustCompile("^[a-zA-Z0-9!#$%&'*+/=?^_`{|}~\\x80-\\xff-]+(\\.[a-zA-Z0-9!#$%&'*+/=?^_`{|}~\\x80-\\xff-]+)*$")
	domainForm = regexp.MustCompile(`^([a-zA-Z0-9]|[a-zA-Z0-9][a-zA-Z0-9-]*[a-zA-Z0-9])(\.([a-zA-Z0-9]|[a-zA-Z0-9][a-zA-Z0-9-]*[a-zA-Z0-9]))*$`)
	localForm  = regexp.MustCompile(`^[ -~]+$`)
	tokensForm = regexp.MustCompile(`^[aq](\.[aq])*@a(\.a)*$`)
)

// latin is s with one rune for each byte, as patterns look at runes.
func latin(s string) string {
	var l []rune
	for i := range len(s) {
		l = append(l, rune(s[i]))
	}
	return string(l)
}

func modelFold(s string) string {
	b := []byte(s)
	for i := range b {
		if b[i] >= 'A' && b[i] <= 'Z' {
			b[i] += 'a' - 'A'
		}
	}
	return string(b)
}

// modelText is the text of an address whose local part has only text bytes.
func modelText(local, domain string) string {
	if dottedForm.MatchString(latin(local)) {
		return local + "@" + domain
	}
	return `"` + strings.NewReplacer(`"`, `\"`, `\`, `\\`).Replace(local) + `"@` + domain
}

func longDomain(s string) bool {
	longest := 0
	for _, label := range strings.Split(s, ".") {
		longest = max(longest, len(label))
	}
	return longest > 63 || len(s) > 253
}

func modelDomain(s string) (string, api.Code) {
	if !domainForm.MatchString(s) {
		return "", api.ErrAddr
	}
	if longDomain(s) {
		return "", api.ErrLong
	}
	return modelFold(s), api.OK
}

func modelRight(a addr.Addr) bool {
	d, code := modelDomain(a.Domain)
	return code == api.OK && d == a.Domain && localForm.MatchString(a.Local) && len(a.Local) <= 64 && len(modelText(a.Local, d)) <= 254
}

// modelOf is Of by the words of promise 13.3: the kinds of the tokens as a text.
func modelOf(l []lex.Token) (addr.Addr, api.Code) {
	kinds, words := "", []string{}
	for _, token := range l {
		switch {
		case token.Kind == lex.Atom:
			kinds += "a"
		case token.Kind == lex.Quoted:
			kinds += "q"
		case token == special("."), token == special("@"):
			kinds += token.Text
		default:
			kinds += "x"
		}
		if token.Kind != lex.Special {
			words = append(words, token.Text)
		}
	}
	if !tokensForm.MatchString(kinds) {
		return addr.Addr{}, api.ErrAddr
	}
	first := (strings.Index(kinds, "@") + 1) / 2
	local, domain := strings.Join(words[:first], "."), strings.Join(words[first:], ".")
	if !localForm.MatchString(local) || !domainForm.MatchString(domain) {
		return addr.Addr{}, api.ErrAddr
	}
	domain = modelFold(domain)
	if len(local) > 64 || longDomain(domain) || len(modelText(local, domain)) > 254 {
		return addr.Addr{}, api.ErrLong
	}
	return address(local, domain), api.OK
}

// checkModel holds Parse and Strict of a text against the models.
func checkModel(t *testing.T, s string) {
	t.Helper()
	l, code := lex.Scan(s)
	if code != api.OK {
		refused(t, s, api.ErrAddr)
		return
	}
	a, code := modelOf(l)
	checkOf(t, l, a, code)
	switch {
	case code != api.OK:
		refused(t, s, code)
	case modelFold(s) == modelFold(modelText(a.Local, a.Domain)):
		strictly(t, s, a.Local, a.Domain)
	default:
		loosely(t, s, a.Local, a.Domain)
	}
}

// eachString calls f for every string of at most n bytes of the alphabet.
func eachString(alphabet string, n int, f func(s string)) {
	f("")
	if n == 0 {
		return
	}
	for i := range len(alphabet) {
		eachString(alphabet, n-1, func(s string) { f(alphabet[i:i+1] + s) })
	}
}

// eachList calls f for every list of at most n of the tokens.
func eachList(tokens []lex.Token, n int, f func(l []lex.Token)) {
	f(nil)
	if n == 0 {
		return
	}
	for _, first := range tokens {
		eachList(tokens, n-1, func(l []lex.Token) { f(append(list(first), l...)) })
	}
}

// telling has a byte of each sort that Parse tells apart, and letters of both
// sizes.
const telling = "aB-._@ \"\\()\xe9"

// allBytes is a string with every byte once.
func allBytes() string {
	var b strings.Builder
	for i := range 256 {
		b.WriteByte(byte(i))
	}
	return b.String()
}

// Promises 13.1 to 13.4: the examples of the chapter.
func TestExamples(t *testing.T) {
	if !addr.Dotted("a.b") || addr.Dotted("a..b") || addr.Dotted("") {
		t.Error("Dotted")
	}
	checkTexts(t, address(`A."`, "b"), `"A.\""@b`, `"a.\""@b`)
	checkRight(t, address("a", "B"), false)
	checkDomain(t, "A.b", "a.b", api.OK)
	checkDomain(t, "a..b", "", api.ErrAddr)
	checkParse(t, "A.b@X-1.Org", "A.b", "x-1.org")
	refused(t, "a.@b", api.ErrAddr)
	refused(t, run(65)+"@b", api.ErrLong)
	strictly(t, "A@B", "A", "b")
	loosely(t, "a @b", "a", "b")
	checkParse(t, `a."b c"@X.org`, "a.b c", "x.org")
	checkTexts(t, address("a.b c", "x.org"), `"a.b c"@x.org`, `"a.b c"@x.org`)
}

// Promise 13.1: Dotted.
func TestDotted(t *testing.T) {
	for _, s := range []string{"a", "A", "a.b", "a.b.c", "0.1", "-", "-.-", "a-.-b", "!#$%&'*+-/=?^_`{|}~", "été", "\x80.\xff", run(1000), strings.Repeat("a.", 1000) + "b"} {
		if !addr.Dotted(s) {
			t.Errorf("Dotted(%.40q) = false", s)
		}
	}
	for _, s := range []string{"", ".", "..", ".a", "a.", "a..b", "a b", "a. b", " a", "a ", "a@b", `"a"`, `a."b"`, "a\\", "a(b)", "a,b", "a\x00", "a\x1f", "a\x7f", "a\r\n b", "\t", "<a>", "[a]"} {
		if addr.Dotted(s) {
			t.Errorf("Dotted(%q) = true", s)
		}
	}
	check := func(s string) {
		if got, want := addr.Dotted(s), dottedForm.MatchString(latin(s)); got != want {
			t.Errorf("Dotted(%q) = %v", s, got)
		}
	}
	eachString(allBytes(), 2, check)
	eachString("a. @\xe9\x7f\"", 6, check)
}

// Promise 13.1: Text and Key, whether the address is valid or not.
func TestTexts(t *testing.T) {
	for _, c := range []struct{ local, domain, text string }{
		{"a", "b", "a@b"}, {"A", "B", "A@B"}, {"a.b", "c.d", "a.b@c.d"}, {"a b", "c", `"a b"@c`}, {"a..b", "c", `"a..b"@c`}, {".", "c", `"."@c`}, {"a.", "c", `"a."@c`}, {".a", "c", `".a"@c`},
		{`"`, "c", `"\""@c`}, {`\`, "c", `"\\"@c`}, {`a"b\c`, "d", `"a\"b\\c"@d`}, {"a@b", "c", `"a@b"@c`}, {"(a)", "c", `"(a)"@c`}, {" ", "c", `" "@c`}, {"a/b=c", "d", "a/b=c@d"}, {"a,b", "c", `"a,b"@c`}, {"<a>", "c", `"<a>"@c`},
		{"", "", `""@`}, {"", "b", `""@b`}, {"a", "", "a@"}, {"a", "-b", "a@-b"}, {"a", "b c", "a@b c"}, {"a", `"B"`, `a@"B"`}, {"a", "b@c", "a@b@c"}, {"a", "..", "a@.."}, {"a", "é", "a@é"},
		{"\t", "b", "\"\t\"@b"}, {"\x00", "b", `" "@b`}, {"a\x1fb", "c", `"a b"@c`}, {"a\x7f", "c", `"a "@c`}, {"\r\nA", "c", `"  A"@c`}, {"é", "b", "é@b"}, {"É \xff", "b", "\"É \xff\"@b"}, {"a\x80", "b", "a\x80@b"},
		{run(65), wide(254), run(65) + "@" + wide(254)},
	} {
		checkTexts(t, address(c.local, c.domain), c.text, modelFold(c.text))
	}
	checkTexts(t, address("AZ[az", "AZ-az"), `"AZ[az"@AZ-az`, `"az[az"@az-az`)
	checkTexts(t, address("ÉA", "Éb"), "ÉA@Éb", "Éa@Éb")
	checkTexts(t, address("\xc3A", "b"), "\xc3A@b", "\xc3a@b")
}

// Promises 13.1 and 13.5: Right.
func TestRight(t *testing.T) {
	for _, a := range []addr.Addr{
		address("a", "b"), address("A", "b"), address("a.b", "c.d"), address("a b", "c"), address(" ", "b"), address("~", "b"), address("a..b", "c"), address("..", "c"), address(`"\`, "c"), address("a@b", "c"), address("(", "c"), address("A.B-C", "x-1.org"),
		address("a", "0"), address("a", "1.2.3"), address("a", "a-b"), address("a", "a--b"), address("a", "1-2"), address(run(64), "b"), address(strings.Repeat(" ", 64), "b"), address(strings.Repeat(`"`, 64), "b"), address("a", run(63)), address("a", run(63)+"."+run(63)), address("a", wide(252)), address("ab", wide(251)), address(run(64), wide(189)), address(`"`, wide(249)), address(" ", wide(250)), address(strings.Repeat(`\`, 62)+"ab", wide(125)), address(strings.Repeat(`\`, 64), wide(123)),
	} {
		checkRight(t, a, true)
	}
	for _, a := range []addr.Addr{
		address("", ""), address("", "b"), address("a", ""), address("a", "B"), address("a", "x.Org"), address("\t", "b"), address("\x1f", "b"), address("\x00", "b"), address("a\r\n b", "c"), address("\x7f", "b"), address("\x80", "b"), address("é", "b"), address("a\xff", "b"), address("a b\xff", "c"),
		address("a", "."), address("a", ".b"), address("a", "b."), address("a", "b..c"), address("a", "-"), address("a", "-b"), address("a", "b-"), address("a", "b.-c"), address("a", "b-.c"), address("a", "b_c"), address("a", "b c"), address("a", " b"), address("a", "b "), address("a", "b(c)"), address("a", "b@c"), address("a", `"b"`), address("a", "é"), address("a", "b\xff"), address("a", "b\n"), address("a", "b\x00"),
		address(run(65), "b"), address(strings.Repeat(" ", 65), "b"), address("a", run(64)), address("a", run(64)+".b"), address("a", wide(253)), address("a", wide(254)), address("ab", wide(252)), address(run(64), wide(190)), address(`"`, wide(250)), address(" ", wide(251)), address(strings.Repeat(`\`, 64), wide(124)), address(run(65), wide(254)),
	} {
		checkRight(t, a, false)
	}
}

// Promises 13.1 and 13.5: Right by the definition written out, for all short
// local parts and domains.
func TestRightAsDefined(t *testing.T) {
	check := func(a addr.Addr) { checkRight(t, a, modelRight(a)) }
	eachString(allBytes(), 2, func(s string) {
		check(address(s, "b"))
		check(address("a", s))
	})
	eachString(telling+"\t", 4, func(s string) {
		check(address(s, "b-0.c"))
		check(address("a.b", s))
	})
	eachString(telling, 2, func(local string) {
		eachString(telling, 2, func(domain string) { check(address(local, domain)) })
	})
}

// Promise 13.2: Domain.
func TestDomain(t *testing.T) {
	for _, s := range []string{"a", "A", "0", "a.b", "A.B.C", "x.ORG", "1.2.3.4", "a-b", "A--B", "a-0.0-a", "0-0", "AZ.az", run(63), run(63) + "." + run(63), "b." + run(63), wide(252), wide(253), strings.ToUpper(wide(253)), strings.Repeat("a.", 126) + "A"} {
		checkDomain(t, s, strings.ToLower(s), api.OK)
	}
	for _, s := range []string{"", ".", "..", ".a", "a.", "a..b", "...", "-", "a.-", "-.a", "-a", "a-", "a.-b", "a-.b", "a.b-", "--", "a_b", "a b", " a", "a ", "a@b", "a:b", "a/b", "[1.2.3.4]", `"a"`, "a(b)", "a\x00", "a\x7f", "a\n", "a\r\n", "\t", "é", "a\x80", "\xff", "a.é.b", "\u212a",
		// What has another form is told, however long it is and wherever the fault is.
		run(64) + "..b", run(64) + "_", "_" + run(64), run(64) + ".-b", "-." + run(64), wide(254) + ".", "." + wide(254), wide(253) + ".", "-" + wide(300), wide(300) + "-", wide(300) + "é", run(300) + " ",
	} {
		checkDomain(t, s, "", api.ErrAddr)
	}
	for _, s := range []string{run(64), run(65), run(64) + ".b", "b." + run(64), "b." + run(64) + ".c", run(253), run(254), wide(254), wide(255), strings.Repeat("a.", 126) + "aB", strings.Repeat("a.", 127) + "a", strings.Repeat("a.", 100000) + "a", run(100000)} {
		checkDomain(t, s, "", api.ErrLong)
	}
}

// Promise 13.2: every short string, held against the definition.
func TestDomainAsDefined(t *testing.T) {
	check := func(s string) {
		want, code := modelDomain(s)
		checkDomain(t, s, want, code)
	}
	eachString(allBytes(), 2, check)
	eachString("aZ09-._\xe9", 5, check)
	for b := range 256 {
		for _, at := range []int{0, 1, 62, 63, 64, 65, 127, 128, 252} {
			s := wide(253)
			check(s[:at] + string([]byte{byte(b)}) + s[at+1:])
			check(s[:at] + string([]byte{byte(b)}) + s[at:])
		}
	}
}

// Promise 13.3: tokens that Scan gives, and others.
func TestOf(t *testing.T) {
	at, dot := special("@"), special(".")
	for _, c := range []struct {
		l             []lex.Token
		local, domain string
	}{
		{list(atom("a"), at, atom("b")), "a", "b"}, {list(quoted("a"), at, atom("B")), "a", "b"}, {list(quoted("A b"), at, atom("c")), "A b", "c"}, {list(atom("a"), dot, quoted("b c"), dot, atom("d"), at, atom("e"), dot, atom("F")), "a.b c.d", "e.f"},
		{list(quoted("a"), dot, quoted(""), at, atom("b")), "a.", "b"}, {list(quoted(""), dot, atom("a"), at, atom("b")), ".a", "b"}, {list(quoted(""), dot, quoted(""), at, atom("b")), ".", "b"}, {list(quoted("@"), at, atom("b")), "@", "b"}, {list(quoted("a."), dot, quoted("."), at, atom("b")), "a...", "b"}, {list(quoted("a@b"), at, atom("c")), "a@b", "c"},
		// An atom that Scan would not give is a word like any other: the kinds say which form the tokens have.
		{list(atom("a b"), at, atom("c.D")), "a b", "c.d"}, {list(atom(""), dot, atom("@"), at, atom("c")), ".@", "c"}, {list(atom(`"`), at, atom("c"), dot, atom("d.e")), `"`, "c.d.e"},
	} {
		checkOf(t, c.l, address(c.local, c.domain), api.OK)
	}
	for _, l := range [][]lex.Token{
		nil, {}, list(at), list(dot), list(atom("a")), list(quoted("a")), list(atom("a"), at), list(at, atom("b")), list(atom("a"), dot, at, atom("b")), list(dot, atom("a"), at, atom("b")), list(atom("a"), dot, dot, atom("b"), at, atom("c")), list(atom("a"), atom("b"), at, atom("c")), list(atom("a"), quoted("b"), at, atom("c")), list(quoted("a"), quoted("b"), at, atom("c")), list(atom("a"), dot, atom("b"), atom("c"), at, atom("d")),
		list(atom("a"), at, quoted("b")), list(atom("a"), at, atom("b"), dot, quoted("c")), list(atom("a"), at, dot, atom("b")), list(atom("a"), at, atom("b"), dot), list(atom("a"), at, atom("b"), dot, dot, atom("c")), list(atom("a"), at, atom("b"), atom("c")), list(atom("a"), at, atom("b"), at, atom("c")), list(atom("a"), at, at, atom("b")), list(at, atom("a"), at, atom("b")), list(atom("a"), dot, atom("b")), list(at, at),
		list(atom("a"), special(","), atom("b")), list(special("<"), atom("a"), at, atom("b"), special(">")), list(atom("a"), at, atom("b"), special(";")), list(atom("a"), special(","), atom("b"), at, atom("c")), list(atom("a"), at, atom("b"), special(":"), atom("c")), list(special(":"), at, atom("b")), list(atom("a"), at, special(":")),
		list(quoted(""), at, atom("b")), list(atom(""), at, atom("b")), list(atom("a"), at, atom("")), list(atom("a"), at, atom("b"), dot, atom("")), list(atom("a"), at, atom("b.")), list(atom("a"), at, atom("-b")), list(atom("a"), at, atom("b-")), list(atom("a"), at, atom("b"), dot, atom("-")), list(atom("a"), at, atom("b_c")), list(atom("a"), at, atom("é")), list(atom("a"), at, atom("b c")),
		list(quoted("\t"), at, atom("b")), list(quoted("a\x1f"), at, atom("b")), list(quoted("a\x7f"), at, atom("b")), list(quoted("\x80"), at, atom("b")), list(atom("é"), at, atom("b")), list(atom("a"), dot, quoted("\xff"), at, atom("b")), list(quoted("a"), dot, quoted("\x00"), at, atom("b")),
		list(lex.Token{Kind: 0, Text: "a"}, at, atom("b")), list(lex.Token{Kind: 4, Text: "a"}, at, atom("b")), list(atom("a"), at, lex.Token{Kind: -1, Text: "b"}), list(atom("a"), at, special("b")), list(special("a"), at, atom("b")), list(atom("a"), atom("@"), atom("b")), list(atom("a"), quoted("@"), atom("b")), list(atom("a"), atom("."), atom("b"), at, atom("c")), list(atom("a"), at, atom("b"), quoted("."), atom("c")), list(atom("a"), special(""), atom("b"), at, atom("c")), list(atom("a"), special("@@"), atom("b")), list(atom("a"), lex.Token{Kind: 0, Text: "@"}, atom("b")), list(atom("a"), lex.Token{Kind: 4, Text: "."}, atom("b"), at, atom("c")), make([]lex.Token, 3),
		// What has another form is told, however long it is.
		list(atom(run(65)), at, atom("-b")), list(quoted(run(65)+"\t"), at, atom("b")), list(quoted(""), at, atom(run(64))), list(atom(run(65)), at), list(atom(run(65)), at, atom(run(64)), dot), list(atom("é"), at, atom(wide(254))), list(atom("a"), at, atom(run(64)), dot, atom("")),
	} {
		checkOf(t, l, addr.Addr{}, api.ErrAddr)
	}
	for _, l := range [][]lex.Token{
		list(atom(run(65)), at, atom("b")), list(quoted(run(65)), at, atom("b")), list(atom(run(32)), dot, atom(run(32)), at, atom("b")), list(atom("a"), at, atom(run(64))), list(atom("a"), at, atom("b"), dot, atom(run(64))), list(atom("a"), at, atom(wide(253))), list(atom("a"), at, atom(wide(254))), list(atom(run(64)), at, atom(wide(190))), list(quoted(`"`), at, atom(wide(250))), list(atom(run(100000)), at, atom(run(100000))),
	} {
		checkOf(t, l, addr.Addr{}, api.ErrLong)
	}
}

// Promise 13.3: all short lists of tokens, held against the model.
func TestOfAsPromised(t *testing.T) {
	check := func(l []lex.Token) {
		a, code := modelOf(l)
		checkOf(t, l, a, code)
	}
	eachList(list(atom("A"), atom(""), quoted("b C"), quoted(""), special("."), special("@"), special("<"), atom("-"), lex.Token{Kind: 4, Text: "a"}), 5, check)
	eachList(list(atom("A"), quoted("b"), special("."), special("@")), 8, check)
}

// Promise 13.4: what is an address as it stands.
func TestParse(t *testing.T) {
	for _, c := range []struct{ s, local, domain string }{
		{"a@b", "a", "b"}, {"A@b", "A", "b"}, {"a.b@c.d", "a.b", "c.d"}, {"a.b.c@d.e.f", "a.b.c", "d.e.f"}, {"0@0", "0", "0"}, {"a@1.2.3.4", "a", "1.2.3.4"}, {"a@B-C.dE", "a", "b-c.de"}, {"!#$%&'*+-/=?^_`{|}~@b", "!#$%&'*+-/=?^_`{|}~", "b"}, {"dev-bounces+a=b.c@x.org", "dev-bounces+a=b.c", "x.org"}, {"-a-@b", "-a-", "b"},
		{`"a b"@c`, "a b", "c"}, {`"A@B"@C`, "A@B", "c"}, {`"a..b"@c`, "a..b", "c"}, {`"."@c`, ".", "c"}, {`" "@c`, " ", "c"}, {`"\""@c`, `"`, "c"}, {`"\\"@c`, `\`, "c"}, {`"A.\""@b`, `A."`, "b"}, {`"a(b)"@c`, "a(b)", "c"}, {`"a,<b>:;"@c`, "a,<b>:;", "c"}, {`"[a]"@c`, "[a]", "c"}, {`"~ "@c`, "~ ", "c"},
	} {
		strictly(t, c.s, c.local, c.domain)
	}
}

// Promise 13.4: blanks, folds, comments and needless quotation marks are taken by
// Parse alone.
func TestParseOnly(t *testing.T) {
	for _, c := range []struct{ s, local, domain string }{
		{" a@b", "a", "b"}, {"a@b ", "a", "b"}, {"a@ b", "a", "b"}, {"\ta@b", "a", "b"}, {"a\t@\tb", "a", "b"}, {"a\r\n @b", "a", "b"}, {"\r\n\ta@b", "a", "b"}, {"a@b\r\n ", "a", "b"}, {"(c)a@b", "a", "b"}, {"a(c)@b", "a", "b"}, {"a@(c)b", "a", "b"}, {"a@b(c)", "a", "b"}, {"a@b()", "a", "b"}, {" a (c) . b @ c . d", "a.b", "c.d"}, {"a (x(y)\\)) . \"b\" (@) @ c (d@e)", "a.b", "c"},
		{`"a"@b`, "a", "b"}, {`"A"@B`, "A", "b"}, {`"a.b"@c`, "a.b", "c"}, {`"a"."b"@c`, "a.b", "c"}, {`a."b"@c`, "a.b", "c"}, {`a."b c"@d`, "a.b c", "d"}, {`"a b".c@d`, "a b.c", "d"}, {`"a ".""@b`, "a .", "b"}, {`"".a@b`, ".a", "b"}, {`a.""@b`, "a.", "b"}, {`""."" @b`, ".", "b"}, {`"".""@b`, ".", "b"}, {`"a\ b"@c`, "a b", "c"}, {`"\a b"@c`, "a b", "c"}, {`"\a"@c`, "a", "c"}, {"\"a\r\n b\"@c", "a b", "c"}, {`"a b" @c`, "a b", "c"}, {`"a b"@c `, "a b", "c"},
	} {
		loosely(t, c.s, c.local, c.domain)
	}
}

// Promise 13.4: what is no address.
func TestRefused(t *testing.T) {
	for _, s := range []string{
		"", " ", "()", "a", "@", ".", "a.b", "a@", "@b", "a@b@c", "@a@b", "a@@b", "a.@b", ".a@b", "a..b@c", ".@b", "..@b", "a b@c", `"a" "b"@c`, `a"b"@c`, `"a"b@c`, "a(c)b@d", "a. .b@c", "a@b c", "a@b(c)d", `a@"b"`, `a@b."c"`, `"a@b"`, `""@b`, `""`, `"a"`, "a@.b", "a@b.", "a@b..c", "a@.", "a@b .c.", "a@-b", "a@b-", "a@b.-c", "a@b-.c", "a@-", "a@b_c", "a@b'c", "a@[1.2.3.4]", "a@b/c", "a@é", "a@b\xff", "é@b", "\x80@b", "\"é\"@b", "\"a\xff\"@b", "\"\t\"@b", "\"a\tb\"@c", "\"a\\\tb\"@c", "\"a\r\n\tb\"@c",
		"<a@b>", "a@b,", "a@b,c@d", "a@b;", "a: b@c;", "a b <c@d>", "<>",
		// Scan fails, with each of its errors.
		"(", ")", `"`, `"a@b`, `a@b"`, "a@b(", "a@b)", "a@b\r", "a@b\n", "a@b\r\n", "a@b\x00", "\x1fa@b", "\x7f@b", "\"\x7f\"@b", "\"\x1f\"@b", "\"\x00\"@b", `\a@b`, "[a@b", "a@b" + strings.Repeat("(", 17), "a@b" + strings.Repeat("(", 17) + strings.Repeat(")", 17), `"a\`, "a@b(\\",
		// What has another form is told, however long it is.
		run(65) + "@-b", run(65) + "@b_c", run(65) + "@", run(65) + ".@b", run(65), "@" + run(64), "a@" + run(64) + "-", "a@-." + run(64), `""@` + run(64), "é@" + wide(254), run(65) + "é@b", "a@" + wide(254) + ".", "a@" + wide(300) + "(", `"` + run(65) + "\t\"@b", run(65) + " " + run(65) + "@b",
	} {
		refused(t, s, api.ErrAddr)
	}
}

// Promise 13.4: what is too long, and what is just not.
func TestLong(t *testing.T) {
	marks := strings.Repeat(`\"`, 64)
	for _, c := range []struct{ s, local, domain string }{
		{run(64) + "@b", run(64), "b"}, {run(31) + "." + run(32) + "@b", run(31) + "." + run(32), "b"}, {`"` + strings.Repeat(" ", 64) + `"@b`, strings.Repeat(" ", 64), "b"}, {`"` + marks + `"@b`, strings.Repeat(`"`, 64), "b"},
		{"a@" + run(63), "a", run(63)}, {"a@" + run(63) + "." + run(63), "a", run(63) + "." + run(63)}, {"a@" + wide(252), "a", wide(252)}, {"ab@" + wide(251), "ab", wide(251)}, {run(64) + "@" + wide(189), run(64), wide(189)}, {`" "@` + wide(250), " ", wide(250)}, {`"\""@` + wide(249), `"`, wide(249)}, {`"` + marks + `"@` + wide(123), strings.Repeat(`"`, 64), wide(123)},
	} {
		strictly(t, c.s, c.local, c.domain)
	}
	for _, c := range []struct{ s, local, domain string }{
		// Only the text of the address may not be too long.
		{`"a"@` + wide(252), "a", wide(252)}, {`"\a"@` + wide(252), "a", wide(252)}, {" a@" + wide(252), "a", wide(252)}, {"a@b(" + run(100000) + ")", "a", "b"}, {strings.Repeat(" ", 100000) + "a@b", "a", "b"}, {`"` + strings.Repeat(`\a`, 64) + `"@` + wide(189), run(64), wide(189)}, {strings.Repeat(`"".`, 63) + `"" @b`, strings.Repeat(".", 63), "b"},
	} {
		loosely(t, c.s, c.local, c.domain)
	}
	for _, s := range []string{
		run(65) + "@b", run(32) + "." + run(32) + "@b", `"` + strings.Repeat(" ", 65) + `"@b`, `"` + marks + `\""@b`, `"` + run(65) + `"@b`, strings.Repeat(`"".`, 65) + `""@b`, "a@" + run(64), "a@b." + run(64), "a@" + run(64) + ".b", "a@" + wide(253), "a@" + wide(254), "ab@" + wide(252), run(64) + "@" + wide(190), `" "@` + wide(251), `"\""@` + wide(250), `"` + marks + `"@` + wide(124), run(65) + "@" + run(64), " a @ " + run(64) + " ", run(100000) + "@b", "a@" + run(100000), "a@" + strings.Repeat("b.", 100000) + "c",
	} {
		refused(t, s, api.ErrLong)
	}
}

// Promise 13.4: all short texts of telling bytes, and one foreign byte at each
// place of others, held against the models.
func TestParseAsPromised(t *testing.T) {
	check := func(s string) { checkModel(t, s) }
	eachString(telling, 5, check)
	eachString("a.@\"", 8, check)
	eachString(telling, 3, func(s string) {
		check("a@" + s)
		check(s + "@b")
		check(`"` + s + `"@b`)
		check("a" + s + "b@c")
	})
	for _, s := range []string{"a.b@c-d.e", `"a b".c@d`} {
		for at := range len(s) + 1 {
			for b := range 256 {
				check(s[:at] + string([]byte{byte(b)}) + s[at:])
			}
		}
	}
}

// Promise 13.4: long texts from a fixed seed, held against the models.
func TestLongTextsAsPromised(t *testing.T) {
	random := rand.New(rand.NewSource(13))
	parts := []string{"a", "B", "a.b", run(30), run(60), `"a b"`, `"\""`, `"` + strings.Repeat(`\\`, 20) + `"`, `""`, "é", "c-d"}
	for range 20000 {
		var locals, labels []string
		for range 1 + random.Intn(4) {
			locals = append(locals, parts[random.Intn(len(parts))])
		}
		for range 1 + random.Intn(5) {
			labels = append(labels, run(1+random.Intn(66)))
		}
		filler := []string{"", "", " ", "(c)", "\r\n "}[random.Intn(5)]
		checkModel(t, strings.Join(locals, filler+".")+filler+"@"+strings.Join(labels, "."))
	}
}

// Promise 13.5: two valid addresses have the same Key exactly if their domains
// are equal and their local parts are equal when folded.
func TestKeys(t *testing.T) {
	var l []addr.Addr
	eachString("aAb. \"@\\", 3, func(local string) {
		for _, domain := range []string{"a", "b", "a.b", "B"} {
			l = append(l, address(local, domain))
		}
	})
	l = slices.DeleteFunc(l, func(a addr.Addr) bool { return !a.Right() })
	if len(l) != 3*(8+8*8+8*8*8) {
		t.Fatal(len(l))
	}
	keys := make([]string, len(l))
	for i, a := range l {
		keys[i] = a.Key()
	}
	for i, a := range l {
		for j, b := range l {
			want := a.Domain == b.Domain && modelFold(a.Local) == modelFold(b.Local)
			if same := keys[i] == keys[j]; same != want {
				t.Errorf("Keys of %q and %q the same: %v", a, b, same)
			}
		}
	}
}

// Promises 13.4 and 13.5: the text of a parsed address is that address, and
// Strict takes it, as it takes its Key in place of it.
func TestRoundTrip(t *testing.T) {
	check := func(s string) {
		a, code := addr.Parse(s)
		if code != api.OK {
			return
		}
		checkRight(t, a, true)
		strictly(t, a.Text(), a.Local, a.Domain)
		strictly(t, a.Key(), modelFold(a.Local), a.Domain)
	}
	eachString("aB.@\" -", 6, check)
	eachString(telling, 4, func(s string) { check(`"` + s + `"@b`) })
}

// Promise 13.3, rule R4: Of neither changes its tokens nor reads beyond them.
func TestMemory(t *testing.T) {
	want := list(atom("A"), special("."), quoted("b c"), special("@"), atom("D"), special("."), atom("e"))
	given := slices.Clone(want)
	checkOf(t, given[:5], address("A.b c", "d"), api.OK)
	checkOf(t, given[2:5], address("b c", "d"), api.OK)
	checkOf(t, given[:4], addr.Addr{}, api.ErrAddr)
	if !slices.Equal(given, want) {
		t.Errorf("Of changed its argument: %v", given)
	}
}
