package msg_test

import (
	"math/rand"
	"regexp"
	"slices"
	"strings"
	"testing"

	"bulletin/addr"
	"bulletin/api"
	"bulletin/head"
	"bulletin/mbx"
	"bulletin/msg"
)

func field(name, value string) head.Field { return head.Field{Name: name, Value: value} }

// fields is the fields of these names and values by turns.
func fields(texts ...string) []head.Field {
	var l []head.Field
	for i := 0; i < len(texts); i += 2 {
		l = append(l, field(texts[i], texts[i+1]))
	}
	return l
}

// message is the message without a body that has these names and values.
func message(texts ...string) msg.Message { return msg.Message{Fields: fields(texts...)} }

// valued is the message whose fields of this name have these values.
func valued(name string, values ...string) msg.Message {
	var m msg.Message
	for _, value := range values {
		m.Fields = append(m.Fields, field(name, value))
	}
	return m
}

// n is a text of this many bytes.
func n(size int) string { return strings.Repeat("n", size) }

// ab is a printed header of this many fields.
func ab(size int) string { return strings.Repeat("A: b\r\n", size) }

func equal(a, b msg.Message) bool {
	return a.Body == b.Body && slices.Equal(a.Fields, b.Fields)
}

func checkCode(t *testing.T, s string, want msg.Message, wantCode api.Code) {
	t.Helper()
	if m, code := msg.Parse(s); code != wantCode || !equal(m, want) {
		t.Errorf("Parse(%.200q) = %.200q; %d; want %.200q; %d", s, m, int(code), want, int(wantCode))
	}
}

// check parses a text that has this body and these names and values.
func check(t *testing.T, s, body string, texts ...string) {
	t.Helper()
	checkCode(t, s, msg.Message{Fields: fields(texts...), Body: body}, api.OK)
}

// refused parses texts that have this error.
func refused(t *testing.T, want api.Code, texts ...string) {
	t.Helper()
	for _, s := range texts {
		checkCode(t, s, msg.Message{}, want)
	}
}

// parsed is the message that s is.
func parsed(t *testing.T, s string) msg.Message {
	t.Helper()
	m, code := msg.Parse(s)
	if code != api.OK {
		t.Fatalf("Parse(%.200q): %d", s, int(code))
	}
	return m
}

func checkText(t *testing.T, m msg.Message, want string) {
	t.Helper()
	if got := m.Text(); got != want {
		t.Errorf("Text of %.200q = %.200q; want %.200q", m, got, want)
	}
}

func checkGet(t *testing.T, m msg.Message, name, want string) {
	t.Helper()
	if got := m.Get(name); got != want {
		t.Errorf("Get(%q) of %.200q = %.100q; want %.100q", name, m, got, want)
	}
}

func checkWord(t *testing.T, m msg.Message, name, want string) {
	t.Helper()
	if got := m.Word(name); got != want {
		t.Errorf("Word(%q) of %.200q = %.100q; want %.100q", name, m, got, want)
	}
}

func checkFrom(t *testing.T, m msg.Message, want mbx.Box, wantCode api.Code) {
	t.Helper()
	if b, code := m.From(); code != wantCode || b != want {
		t.Errorf("From of %.200q = %q; %d; want %q; %d", m, b, int(code), want, int(wantCode))
	}
}

func checkHops(t *testing.T, m msg.Message, want int) {
	t.Helper()
	if got := m.Hops(); got != want {
		t.Errorf("Hops of %.200q = %d; want %d", m, got, want)
	}
}

func checkAuto(t *testing.T, m msg.Message, want bool) {
	t.Helper()
	if got := m.Auto(); got != want {
		t.Errorf("Auto of %.200q = %t; want %t", m, got, want)
	}
}

func checkSeen(t *testing.T, m msg.Message, list string, want bool) {
	t.Helper()
	if got := m.Seen(list); got != want {
		t.Errorf("Seen(%.100q) of %.200q = %t; want %t", list, m, got, want)
	}
}

func checkLines(t *testing.T, body string, want ...string) {
	t.Helper()
	if got := (msg.Message{Body: body}).Lines(); !slices.Equal(got, want) {
		t.Errorf("Lines of %.100q = %.100q; want %.100q", body, got, want)
	}
}

// eachString calls f for every string of at most n bytes of the alphabet.
func eachString(alphabet string, n int, f func(s string)) {
	f("")
	if n == 0 {
		return
	}
	for i := range len(alphabet) {
		eachString(alphabet, n-1, func(s string) { f(alphabet[i:i+1] + s) })
	}
}

// eachList calls f for every list of at most n of the parts.
func eachList[T any](parts []T, n int, f func(l []T)) {
	f(nil)
	if n == 0 {
		return
	}
	for _, first := range parts {
		eachList(parts, n-1, func(l []T) { f(append([]T{first}, l...)) })
	}
}

// modelFold is s with small letters for capital ones, byte by byte.
func modelFold(s string) string {
	b := []byte(s)
	for i := range b {
		if at := strings.IndexByte("ABCDEFGHIJKLMNOPQRSTUVWXYZ", b[i]); at >= 0 {
			b[i] = "abcdefghijklmnopqrstuvwxyz"[at]
		}
	}
	return string(b)
}

// modelValues is the values of the fields of this name.
func modelValues(m msg.Message, name string) []string {
	var values []string
	for _, f := range m.Fields {
		if modelFold(f.Name) == modelFold(name) {
			values = append(values, f.Value)
		}
	}
	return values
}

func modelGet(m msg.Message, name string) string {
	return strings.Join(modelValues(m, name)[:min(1, len(modelValues(m, name)))], "")
}

var firstWord = regexp.MustCompile(`\A[^; \t]*`)

func modelWord(m msg.Message, name string) string {
	return modelFold(firstWord.FindString(modelGet(m, name)))
}

// modelWith is the fields after With: the first of this name has the value, and
// the others are left out.
func modelWith(m msg.Message, name, value string) msg.Message {
	after := msg.Message{Body: m.Body}
	placed := false
	for _, f := range m.Fields {
		same := modelFold(f.Name) == modelFold(name)
		if same && !placed {
			f = field(name, value)
			placed = true
		} else if same {
			continue
		}
		after.Fields = append(after.Fields, f)
	}
	if !placed {
		after.Fields = append(after.Fields, field(name, value))
	}
	return after
}

func modelFrom(m msg.Message) (mbx.Box, api.Code) {
	values := modelValues(m, "from")
	if len(values) == 0 {
		return mbx.Box{}, api.ErrNone
	}
	if len(values) > 1 {
		return mbx.Box{}, api.ErrThere
	}
	return mbx.One(values[0])
}

func modelAuto(m msg.Message) bool {
	submitted, precedence := modelWord(m, "auto-submitted"), modelWord(m, "precedence")
	return !slices.Contains([]string{"", "no"}, submitted) || slices.Contains([]string{"bulk", "junk", "list"}, precedence)
}

func modelSeen(m msg.Message, list string) bool {
	for _, value := range modelValues(m, "list-id") {
		tail := "<" + list + ">"
		if from := len(value) - len(tail); from >= 0 && modelFold(value[from:]) == modelFold(tail) {
			return true
		}
	}
	return false
}

// modelLines goes through the body byte by byte, and leaves a line where it
// comes behind a carriage return and a line feed.
func modelLines(body string) []string {
	var lines []string
	line := ""
	for i := range len(body) {
		line += body[i : i+1]
		if strings.HasSuffix(line, "\r\n") {
			lines = append(lines, line[:len(line)-2])
			line = ""
		}
	}
	if line != "" {
		lines = append(lines, line)
	}
	return lines
}

// checkAll holds every answer about a message against the model, and the
// message against what it was, with what stands in its spare capacity.
func checkAll(t *testing.T, before msg.Message, names ...string) {
	t.Helper()
	spare := field("spare", "capacity")
	whole := append(slices.Clone(before.Fields), spare, spare)
	m := msg.Message{Fields: whole[:len(before.Fields)], Body: before.Body}
	for _, name := range names {
		checkGet(t, m, name, modelGet(before, name))
		checkWord(t, m, name, modelWord(before, name))
		checkSeen(t, m, name, modelSeen(before, name))
		with, want := m.With(name, "new; value"), modelWith(before, name, "new; value")
		if !equal(with, want) {
			t.Errorf("With(%q) of %q = %q; want %q", name, before, with, want)
		}
		overwrite(with.Fields)
	}
	box, code := modelFrom(before)
	checkFrom(t, m, box, code)
	checkHops(t, m, len(modelValues(before, "received")))
	checkAuto(t, m, modelAuto(before))
	checkLines(t, m.Body, modelLines(before.Body)...)
	checkText(t, m, head.Print(before.Fields)+"\r\n"+before.Body)
	if !slices.Equal(whole, append(slices.Clone(before.Fields), spare, spare)) || m.Body != before.Body {
		t.Errorf("%q is changed to %q with %q", before, m, whole)
	}
}

// overwrite fills a result, with its spare capacity, which is to share nothing
// with what it was made from.
func overwrite(l []head.Field) {
	l = l[:cap(l)]
	for i := range l {
		l[i] = field("over", "written")
	}
}

// checkAgain parses a message of valid fields from its text.
func checkAgain(t *testing.T, m msg.Message) {
	t.Helper()
	for _, f := range m.Fields {
		if !head.Right(f) {
			t.Fatalf("%.200q is not valid", f)
		}
	}
	checkCode(t, m.Text(), m, api.OK)
}

const example = "From: Ann <A@b>\r\nReceived: x\r\nSubject: hi\r\n you\r\nreceived: y\r\nList-Id: Dev <Dev.x.org>\r\nPrecedence: LIST; x\r\n\r\none\r\n\r\ntwo"

func ann(local string) mbx.Box {
	return mbx.Box{Name: "Ann", Addr: addr.Addr{Local: local, Domain: "b"}}
}

// Promises 16.1 to 16.4: the examples of the chapter.
func TestExamples(t *testing.T) {
	refused(t, api.ErrHead, "x\r\n")
	m := parsed(t, example)
	checkGet(t, m, "Subject", "hi you")
	checkFrom(t, m, ann("A"), api.OK)
	if b, _ := m.From(); b.Key() != "a@b" {
		t.Errorf("the Key of From = %q", b.Key())
	}
	checkFrom(t, message("From", "x"), mbx.Box{}, api.ErrAddr)
	checkAuto(t, message("Auto-Submitted", "auto-replied"), true)
	checkAuto(t, message("Auto-Submitted", "no", "Precedence", "bulky"), false)
	checkSeen(t, m, "dev.X.org", true)
	checkSeen(t, m, "x.org", false)
	checkLines(t, m.Body, "one", "", "two")
	m = parsed(t, "From: Ann <a@b>\r\n\r\nhi")
	checkFrom(t, m, ann("a"), api.OK)
	checkLines(t, m.Body, "hi")
}

// Promise 16.1: Parse of headers with and without an empty line and a body.
func TestParse(t *testing.T) {
	check(t, "", "")
	check(t, "\r\n", "")
	check(t, "A: b\r\n", "", "A", "b")
	check(t, "A: b\r\n\r\n", "", "A", "b")
	check(t, "A: b\r\n\r\nc", "c", "A", "b")
	check(t, "A: b\r\n\r\nc\r\n", "c\r\n", "A", "b")
	check(t, "A: b\r\nC:\td \r\n\te\r\n\r\nF: g\r\n", "F: g\r\n", "A", "b", "C", "d \te")
	for _, body := range []string{"x", " x", "\tx", "\r\n", "\r\n\r\n", "\r\nx\r\n", "\r", "\n", "\n\r", "A: b", "A: b\r\n\r\nc", "\x00\x7f\xff", n(999), ab(101)} {
		check(t, "\r\n"+body, body)
		check(t, "a:\r\nA:b\r\n\r\n"+body, body, "a", "", "A", "b")
	}
}

// Promise 16.1: each error of the header, of which the first is told.
func TestParseErrors(t *testing.T) {
	for code, lines := range map[api.Code][]string{
		api.ErrShort: {"x", "A: b", " ", "\r", "\n", "A: b\r", "A: b\n", n(999), "\x00"},
		api.ErrLong:  {"A:" + n(997) + "\r\n", n(999) + "\r\n", "\x00" + n(998) + "\r\n"},
		api.ErrHead:  {"A\r\n", ":b\r\n", "A b: c\r\n", "A: \x00\r\n", "A: \x7f\r\n", "A: b\nc\r\n", "é: b\r\n", n(77) + ": b\r\n", "\n\r\n", "\r\r\n"},
		api.ErrFull:  {ab(101), strings.Repeat("A:\r\n", 1000)},
	} {
		for _, line := range lines {
			refused(t, code, line, "C: d\r\n"+line, "C: d\r\n e\r\n"+line)
			if code != api.ErrShort {
				refused(t, code, line+"\r\n", line+"\r\nbody", line+"A", line+"\x00\r\n", line+ab(101))
			}
		}
	}
	refused(t, api.ErrHead, " A: b\r\n", "\tb\r\n", " \r\n\r\nx")
	refused(t, api.ErrFull, ab(100)+"A:\r\n\r\nx")
	checkCode(t, ab(100)+"\r\nx", msg.Message{Fields: slices.Repeat(fields("A", "b"), 100), Body: "x"}, api.OK)
}

// Promise 16.1: texts of MaxMsg bytes and of one more.
func TestParseLong(t *testing.T) {
	const most = 65536
	for _, header := range []string{"\r\n", "A: b\r\n\r\n"} {
		body := n(most - len(header))
		checkCode(t, header+body, msg.Message{Fields: parsed(t, header).Fields, Body: body}, api.OK)
		refused(t, api.ErrLong, header+body+"n", header+body+"\r\n", header+body+body)
	}
	lines := func(size int) string { return "A: " + strings.Repeat(n(500)+"\r\n ", size/503+1)[:size-7] + "\r\n\r\n" }
	if m := parsed(t, lines(most)); len(m.Fields) != 1 || m.Body != "" {
		t.Errorf("a header of MaxMsg bytes: %d fields and %.100q", len(m.Fields), m.Body)
	}
	refused(t, api.ErrLong, lines(most+1))
	for code, start := range map[api.Code]string{api.ErrShort: "", api.ErrHead: "A\r\n\r\n", api.ErrFull: ab(101) + "\r\n"} {
		refused(t, code, start+n(most-len(start)))
		refused(t, api.ErrLong, start+n(most+1-len(start)), start+n(2*most))
	}
	refused(t, api.ErrLong, n(1000)+"\r\n", strings.Repeat("\r", most+1), strings.Repeat("\r\n", most))
}

// Promise 16.1: all short texts of telling bytes and lines are parsed as their
// header is.
func TestParseAsPromised(t *testing.T) {
	checkModel := func(s string) {
		l, body, code := head.Parse(s)
		checkCode(t, s, msg.Message{Fields: l, Body: body}, code)
	}
	eachString("A: \r\n\x00", 6, checkModel)
	eachList([]string{"A: b\r\n", " c\r\n", "\r\n", "\r", "d", "E:" + n(997) + "\r\n", ab(60)}, 5, func(l []string) { checkModel(strings.Join(l, "")) })
}

// Promise 16.1: Text.
func TestText(t *testing.T) {
	long := strings.TrimSpace(strings.Repeat("word ", 20))
	for header, l := range map[string][]head.Field{
		"": nil, "A:\r\n": fields("A", ""), "a: B\r\n": fields("a", "B"), "A: b\r\nC:\r\na: d e\r\n": fields("A", "b", "C", "", "a", "d e"),
		"Subject: " + long[:69] + "\r\n" + long[69:] + "\r\nA: b\r\n": fields("Subject", long, "A", "b"),
	} {
		for _, body := range []string{"", " ", " x", "\tx\r\n", "\r\n", "\r\n\r\nx\r\n\r\n", "x", "x\r\n", "A: b", "\r", "\n", "\x00\xff", long} {
			checkText(t, msg.Message{Fields: l, Body: body}, header+"\r\n"+body)
		}
	}
	checkText(t, msg.Message{Fields: []head.Field{}}, "\r\n")
	checkText(t, message("", "\x00"), ": \x00\r\n\r\n")
	checkText(t, message("a b", " c "), "a b:  c \r\n\r\n")
	checkText(t, parsed(t, "A:\r\n b \r\n\t\r\n"), "A: b\r\n\r\n")
	checkText(t, parsed(t, ab(100)+"\r\nx"), ab(100)+"\r\nx")
}

// Promise 16.1: Get of a name that none, one and several fields have.
func TestGet(t *testing.T) {
	m := message("Subject", "1", "to", "2", "SUBJECT", "3", "Empty", "", "empty", "4", "É", "5", "", "6")
	for name, want := range map[string]string{"Subject": "1", "subject": "1", "SUBJECT": "1", "sUBJECt": "1", "To": "2", "to": "2", "TO": "2", "Empty": "", "EMPTY": "", "cc": "", "Subject:": "", "Subject ": "", "Sub": "", "Subjects": "", "É": "5", "é": "", "": "6"} {
		checkGet(t, m, name, want)
		checkGet(t, msg.Message{}, name, "")
	}
	for _, value := range []string{"", "b", "B c", " b ", "b\tc; d", "\xff\x00", n(2000)} {
		checkGet(t, message("A", value), "a", value)
		checkGet(t, message("x", "y", "a", value, "A", "z"), "A", value)
	}
	checkGet(t, parsed(t, "subject:\r\n\thi \r\n you \r\n\r\nSubject: x\r\n"), "Subject", "hi  you")
	checkGet(t, parsed(t, "A: b\r\n\r\nSubject: x\r\n"), "Subject", "")
}

// Promise 16.3: the first word of a field, which a ;, a blank or the end ends.
func TestWord(t *testing.T) {
	for value, want := range map[string]string{
		"": "", "a": "a", "ab": "ab", "a;": "a", "a ": "a", "a\t": "a", "a;b": "a", "a b": "a", "a\tb": "a", "a; b": "a", "a ;b": "a", "a b;c\td": "a", "a;b c\td": "a", "a\tb;c d": "a",
		";": "", " ": "", "\t": "", ";a": "", " a": "", "\ta": "", "; a": "", " ;a": "", ";;a": "",
		"A": "a", "AbC": "abc", "ABC;DEF": "abc", "AZ[@`az{": "az[@`az{", "ÉA B": "Éa", "\xc9A": "\xc9a", "\xff\xfe;\xfd": "\xff\xfe", "\u212a\u0130": "\u212a\u0130",
		"a,b": "a,b", "a:b.c": "a:b.c", "a\"b c\"": "a\"b", "(a) b": "(a)", "a\rb": "a\rb", "a\nb": "a\nb", "a\r\n b": "a\r\n", "a\x00b": "a\x00b", "a\u00a0b": "a\u00a0b", "a\v\fb": "a\v\fb", "-": "-", "auto-replied": "auto-replied",
		n(2000): n(2000), n(2000) + ";x": n(2000), strings.Repeat("N", 2000) + " x": n(2000),
	} {
		checkWord(t, message("A", value), "A", want)
		checkWord(t, message("a", value), "A", want)
		checkWord(t, message("A", value), "a", want)
		checkWord(t, message("x", "y", "A", value, "a", "z"), "a", want)
	}
	for _, name := range []string{"A", "a", "", "A:", "b"} {
		checkWord(t, msg.Message{}, name, "")
		checkWord(t, message("c", "d"), name, "")
	}
	eachString("aB; \t\xc9", 5, func(value string) {
		checkAll(t, message("A", value), "A", "a", "b")
	})
	for b := range 256 {
		s := string([]byte{byte(b)})
		checkAll(t, message("A", s+"b"), "a")
		checkAll(t, message("A", "b"+s+"c"), "a")
	}
}

// Promise 16.1: With of a name that is there once, several times and not at all.
func TestWith(t *testing.T) {
	m := msg.Message{Fields: fields("A", "1", "b", "2", "a", "3", "c", "4", "A", "5"), Body: "x\r\n"}
	for want, f := range map[string]head.Field{
		"a: 9\r\nb: 2\r\nc: 4\r\n": field("a", "9"), "A: 9\r\nb: 2\r\nc: 4\r\n": field("A", "9"), "A:\r\nb: 2\r\nc: 4\r\n": field("A", ""),
		"A: 1\r\nB: 9\r\na: 3\r\nc: 4\r\nA: 5\r\n": field("B", "9"), "A: 1\r\nb: 2\r\na: 3\r\nC: 9\r\nA: 5\r\n": field("C", "9"), "A: 1\r\nb: 2\r\na: 3\r\nc: 4\r\nA: 5\r\nD: 9\r\n": field("D", "9"),
	} {
		before := msg.Message{Fields: slices.Clone(m.Fields), Body: m.Body}
		checkText(t, m.With(f.Name, f.Value), want+"\r\nx\r\n")
		if !equal(m, before) {
			t.Errorf("With(%q) changes %q to %q", f, before, m)
		}
		checkGet(t, m.With(f.Name, f.Value), f.Name, f.Value)
	}
	checkText(t, msg.Message{}.With("A", "b"), "A: b\r\n\r\n")
	checkText(t, msg.Message{Body: "A: c\r\n"}.With("A", "b"), "A: b\r\n\r\nA: c\r\n")
	checkText(t, m.With("", "9").With(" ", "\x00"), m.Text()[:len(m.Text())-5]+": 9\r\n : \x00\r\n\r\nx\r\n")
	checkText(t, message("A", "1").With("B", "2").With("a", "3").With("C", "4").With("b", "5"), "a: 3\r\nb: 5\r\nC: 4\r\n\r\n")
	full := parsed(t, ab(100)+"\r\nx")
	if got := len(full.With("B", "c").Fields); got != 101 {
		t.Errorf("With of a 101st field: %d", got)
	}
	checkText(t, full.With("A", "c"), "A: c\r\n\r\nx")
}

// Promise 16.1: two results of With share nothing with the message or with one
// another (rule R4).
func TestWithSharesNothing(t *testing.T) {
	for _, name := range []string{"A", "a", "C", "Z"} {
		m := parsed(t, "A: b\r\nC: d\r\na: e\r\n\r\nx")
		one, other := m.With(name, "1"), m.With(name, "2")
		want := modelWith(parsed(t, "A: b\r\nC: d\r\na: e\r\n\r\nx"), name, "2")
		overwrite(one.Fields)
		overwrite(m.Fields)
		if !equal(other, want) {
			t.Errorf("With(%q) is changed to %q; want %q", name, other, want)
		}
	}
	s := ab(3) + "\r\n"
	overwrite(parsed(t, s).Fields)
	check(t, s, "", "A", "b", "A", "b", "A", "b")
}

// Promise 16.2: From by the number of its fields and by its value.
func TestFrom(t *testing.T) {
	bare := mbx.Box{Addr: addr.Addr{Local: "A", Domain: "b"}}
	for _, name := range []string{"From", "from", "FROM", "fROm"} {
		for value, want := range map[string]mbx.Box{"A@b": bare, "<A@b>": bare, " A @ B ": bare, "(x) A@b": bare, "g: A@b;": bare, "g: Ann <A@b>;": ann("A"), "g:;, A@b": bare, "Ann <A@b>": ann("A"), "\"Ann\" <A@b>": ann("A")} {
			checkFrom(t, message(name, value), want, api.OK)
			checkFrom(t, message("Sender", "x@y", name, value, "Reply-To", "z"), want, api.OK)
		}
		for code, values := range map[api.Code][]string{
			api.ErrAddr: {"", " ", "x", "@b", "a@", "a@b@c", "a@b,c@d", "a@b,", ",", "g:;", "g: a@b, c@d;", "g:; a@b", "g: a@b;, c@d", "Ann a@b", "Ann <a@b", "<>", "a..b@c", "Ann", "é@b", "a@é"},
			api.ErrForm: {"[", "a@b)", "Ann \x00 <a@b>", "a@b \\"}, api.ErrShort: {"(", "\"a", "a@b \"\\", "a@b (c"}, api.ErrLong: {n(65) + "@b"}, api.ErrFull: {strings.Repeat("a@b,", 100) + "a@b"}, api.ErrRange: {strings.Repeat("(", 17)},
		} {
			for _, value := range values {
				checkFrom(t, message(name, value), mbx.Box{}, code)
			}
		}
		for _, values := range [][]string{{"A@b", "A@b"}, {"A@b", "x"}, {"x", "A@b"}, {"x", "x"}, {"", ""}, {"(", "["}, {"a@b", "c@d", "e@f"}} {
			m := valued("From", values...)
			checkFrom(t, m, mbx.Box{}, api.ErrThere)
			m.Fields[0].Name = name
			checkFrom(t, m, mbx.Box{}, api.ErrThere)
		}
	}
	checkFrom(t, msg.Message{}, mbx.Box{}, api.ErrNone)
	checkFrom(t, msg.Message{Body: "From: a@b\r\n"}, mbx.Box{}, api.ErrNone)
	checkFrom(t, message("Fro", "a@b", "From:", "a@b", "Froms", "a@b", "From ", "a@b", "Sender", "a@b", "", "a@b"), mbx.Box{}, api.ErrNone)
	checkFrom(t, parsed(t, "from:\r\n Ann\r\n\t<A@b>\r\n"), ann("A"), api.OK)
}

// Promise 16.2: Hops.
func TestHops(t *testing.T) {
	checkHops(t, msg.Message{}, 0)
	checkHops(t, msg.Message{Body: "Received: x\r\n"}, 0)
	checkHops(t, message("Receive", "x", "Receiveds", "x", "Received ", "x", "X-Received", "x", "", "Received"), 0)
	for _, name := range []string{"Received", "received", "RECEIVED", "rECEIVEd"} {
		checkHops(t, message(name, "x"), 1)
		checkHops(t, message(name, ""), 1)
		checkHops(t, message("A", "b", name, "x", "A", "b", "Received", "x", name, "y"), 3)
	}
	for _, size := range []int{0, 1, 2, 25, 99, 100} {
		checkHops(t, parsed(t, strings.Repeat("Received: x\r\n y\r\n", size)+"\r\n"), size)
		checkHops(t, valued("received", make([]string, size*30)...), size*30)
	}
}

// submitted and precedence are values by whether they make a message automatic.
var (
	submitted = map[string]bool{
		"": false, "no": false, "NO": false, "No": false, "nO": false, "no;x": false, "no; x=y": false, "no x": false, "NO\tx": false, ";": false, "; auto-replied": false, " auto": false, " ": false, ";x": false,
		"auto-replied": true, "auto-generated": true, "AUTO-REPLIED": true, "auto-replied; x": true, "auto-replied;no": true, "non": true, "no-": true, "no,": true, "nono": true, "n": true, "o": true, "yes": true, "x": true, "\"no\"": true, "(no)": true, "bulk": true, "-": true, "no\u00a0": true,
	}
	precedence = map[string]bool{
		"bulk": true, "junk": true, "list": true, "BULK": true, "Junk": true, "lIST": true, "bulk;x": true, "junk x": true, "LIST\tx": true, "list; x": true, "bulk;": true,
		"": false, "bulky": false, "bul": false, "junks": false, "listed": false, "list-": false, "list,": false, "bulk,junk": false, " bulk": false, ";bulk": false, ";": false, "no": false, "first-class": false, "special bulk": false, "x;bulk": false, "x": false, "auto-replied": false, "\"bulk\"": false, "bulk\u00a0": false,
	}
)

// Promise 16.3: Auto by each of its fields alone, and by both.
func TestAuto(t *testing.T) {
	checkAuto(t, msg.Message{}, false)
	checkAuto(t, msg.Message{Body: "Auto-Submitted: x\r\nPrecedence: bulk\r\n"}, false)
	checkAuto(t, message("Auto-Submitte", "x", "Auto-Submitteds", "x", "X-Auto-Submitted", "x", "Auto", "x", "Precedences", "bulk", "X-Precedence", "bulk", "Subject", "bulk"), false)
	for s, auto := range submitted {
		for _, name := range []string{"Auto-Submitted", "auto-submitted", "AUTO-SUBMITTED"} {
			checkAuto(t, message(name, s), auto)
			checkAuto(t, message("A", "b", name, s, "C", "d"), auto)
		}
		for p, bulk := range precedence {
			checkAuto(t, message("Auto-Submitted", s, "Precedence", p), auto || bulk)
			checkAuto(t, message("precedence", p, "auto-submitted", s), auto || bulk)
		}
	}
	for p, bulk := range precedence {
		for _, name := range []string{"Precedence", "precedence", "PRECEDENCE"} {
			checkAuto(t, message(name, p), bulk)
			checkAuto(t, message("A", "b", name, p, "C", "d"), bulk)
		}
	}
}

// Promise 16.3: of several fields only the first is looked at.
func TestAutoFirst(t *testing.T) {
	for s, auto := range submitted {
		checkAuto(t, message("Auto-Submitted", s, "Auto-Submitted", "x"), auto)
		checkAuto(t, message("Auto-Submitted", s, "auto-submitted", "no"), auto)
	}
	for p, bulk := range precedence {
		checkAuto(t, message("Precedence", p, "precedence", "bulk"), bulk)
		checkAuto(t, message("precedence", p, "Precedence", "x"), bulk)
	}
}

// Promise 16.3: Seen of one List-Id.
func TestSeen(t *testing.T) {
	for value, seen := range map[string]bool{
		"<dev.x.org>": true, "Dev <dev.x.org>": true, "Dev<dev.x.org>": true, "<Dev.X.Org>": true, "DEV <DEV.X.ORG>": true, "\"Dev\" <dev.x.org>": true, "<<dev.x.org>": true, "<x.org> <dev.x.org>": true, "<a<dev.x.org>": true, "><dev.x.org>": true, "\xff<dev.x.org>": true, "\t<dev.x.org>": true,
		"": false, "dev.x.org": false, "<dev.x.org": false, "dev.x.org>": false, "<dev.x.org> ": false, "<dev.x.org>\t": false, "<dev.x.org> (x)": false, "<dev.x.org>x": false, "<dev.x.org>>": false, "<dev.x.org> <x.org>": false, "<x.org>": false, "<a.dev.x.org>": false, "<dev.x.orga>": false, "< dev.x.org>": false, "<dev.x.org >": false, "<dev.x.or>": false, "<ev.x.org>": false, "<dev-x.org>": false, "<>": false, "(<dev.x.org>)": false,
	} {
		for _, list := range []string{"dev.x.org", "DEV.X.ORG", "Dev.x.Org"} {
			for _, name := range []string{"List-Id", "list-id", "LIST-ID", "List-ID"} {
				checkSeen(t, message(name, value), list, seen)
				checkSeen(t, message("A", "<dev.x.orG", name, value, "B", "c"), list, seen)
			}
			checkSeen(t, message("List-Ids", value, "X-List-Id", value, "List-I", value, "List", value, "", value), list, false)
		}
	}
	checkSeen(t, msg.Message{}, "dev.x.org", false)
	checkSeen(t, msg.Message{}, "", false)
	checkSeen(t, msg.Message{Body: "List-Id: <dev.x.org>\r\n"}, "dev.x.org", false)
}

// Promise 16.3: Seen of several List-Ids, of the empty list and of lists that
// no list is called.
func TestSeenLists(t *testing.T) {
	m := message("List-Id", "One <one.x>", "list-id", "two.x", "LIST-ID", "<Three.x>", "List-Id", "")
	for list, seen := range map[string]bool{"one.x": true, "ONE.x": true, "two.x": false, "three.x": true, "THREE.X": true, "four.x": false, "": false, "x": false, ".x": false, "e.x": false, "<one.x>": false, "one.x>": false, "<one.x": false, "one <one.x": false} {
		checkSeen(t, m, list, seen)
	}
	checkSeen(t, message("List-Id", "<>"), "", true)
	checkSeen(t, message("List-Id", "Dev <>"), "", true)
	for _, value := range []string{"", "<", ">", "< >", "<x>", "><", "<> "} {
		checkSeen(t, message("List-Id", value), "", false)
	}
	checkSeen(t, message("List-Id", "<<a>>"), "<a>", true)
	checkSeen(t, message("List-Id", "<a> <b>"), "a> <b", true)
	checkSeen(t, message("List-Id", "<É>"), "é", false)
	checkSeen(t, message("List-Id", "<\xc9>"), "\xc9", true)
	checkSeen(t, message("List-Id", "<\xc9>"), "\xe9", false)
	checkSeen(t, message("List-Id", "<k>"), "\u212a", false)
	eachString("<aB>", 6, func(value string) {
		checkAll(t, message("list-id", value), "", "a", "b", "Ab", "<a", "a>", "<")
		checkAll(t, message("List-Id", "", "LIST-ID", value), "A")
	})
}

// Promise 16.4: Lines.
func TestLines(t *testing.T) {
	checkLines(t, "")
	checkLines(t, "\r\n", "")
	checkLines(t, "a", "a")
	checkLines(t, "a\r\n", "a")
	checkLines(t, "a\r\nb", "a", "b")
	checkLines(t, "a\r\nb\r\n", "a", "b")
	checkLines(t, "\r\na", "", "a")
	checkLines(t, "\r\n\r\n", "", "")
	checkLines(t, "\r\n\r\n\r\na\r\n\r\n\r\n", "", "", "", "a", "", "")
	checkLines(t, "a\r\n\r\n\r\nb", "a", "", "", "b")
	checkLines(t, "\r", "\r")
	checkLines(t, "\n", "\n")
	checkLines(t, "\n\r", "\n\r")
	checkLines(t, "a\r", "a\r")
	checkLines(t, "a\n", "a\n")
	checkLines(t, "a\rb\nc", "a\rb\nc")
	checkLines(t, "a\r\nb\r", "a", "b\r")
	checkLines(t, "a\r\nb\n", "a", "b\n")
	checkLines(t, "a\r\n\r", "a", "\r")
	checkLines(t, "a\r\n\n", "a", "\n")
	checkLines(t, "\r\r\n\n", "\r", "\n")
	checkLines(t, "a\r\r\nb", "a\r", "b")
	checkLines(t, "a\n\r\nb\n\n", "a\n", "b\n\n")
	checkLines(t, " \r\n\t\r\n", " ", "\t")
	checkLines(t, " a \r\n b", " a ", " b")
	checkLines(t, "\x00\xff\r\né\u2028\u0085", "\x00\xff", "é\u2028\u0085")
	checkLines(t, n(5000)+"\r\n"+n(1), n(5000), "n")
	eachString("a\r\n ", 8, func(body string) { checkLines(t, body, modelLines(body)...) })
	if l := parsed(t, "A: b\r\n c\r\n\r\n\r\nd\r\n\r\n").Lines(); !slices.Equal(l, []string{"", "d", ""}) {
		t.Errorf("Lines = %q", l)
	}
	if l := parsed(t, "A: b\r\n c\r\n").Lines(); len(l) != 0 {
		t.Errorf("Lines without a body = %q", l)
	}
}

// Promise 16.4: what Lines returned shares nothing with what it returns again
// (rule R4).
func TestLinesShareNothing(t *testing.T) {
	m := msg.Message{Body: "a\r\nb\r\n"}
	l := m.Lines()
	l = l[:cap(l)]
	for i := range l {
		l[i] = "overwritten"
	}
	checkLines(t, m.Body, "a", "b")
	if !slices.Equal(m.Lines(), []string{"a", "b"}) {
		t.Errorf("Lines = %q", m.Lines())
	}
}

// Promises 16.1 to 16.4: all short lists of telling fields, and long messages
// from a fixed seed, held against the model.
func TestAllAsPromised(t *testing.T) {
	telling := fields("From", "a@b", "FROM", "Ann <A@b>", "from", "x", "Received", "", "received", "y", "List-Id", "Dev <dev.x>", "list-id", "<Y.x> ", "Auto-Submitted", "no; x", "auto-submitted", "Yes", "Precedence", "LIST x", "precedence", "lists", "", "a", "\xc1", "b")
	names := []string{"from", "Received", "dev.X", "Y.x", "auto-Submitted", "PRECEDENCE", "", "\xe1"}
	eachList(telling, 3, func(l []head.Field) {
		checkAll(t, msg.Message{Fields: l, Body: "a\r\n\r\nb"}, names...)
	})
	random := rand.New(rand.NewSource(163))
	pick := func(texts ...string) string { return texts[random.Intn(len(texts))] }
	for range 3000 {
		var m msg.Message
		for range random.Intn(30) {
			f := telling[random.Intn(len(telling))]
			if random.Intn(4) == 0 {
				f.Value = pick("", " ", ";", "no", "NO", "bulk", "Junk") + pick("", ";", " ", "\t", "<dev.x>", "<y.x>") + pick("", "x", "A", "\xff")
			}
			m.Fields = append(m.Fields, f)
		}
		for range random.Intn(20) {
			m.Body += pick("\r\n", "\r", "\n", "a", " ", "A: b\r\n", "\x00")
		}
		checkAll(t, m, names...)
	}
}

// Promise 16.5: messages of valid fields, with bodies of each kind.
func TestParsedAgain(t *testing.T) {
	valid := fields("A", "", "a", "b", "C-d", "e  f\tg", "!", ":", n(76), n(73)+" "+n(997), "H", n(995)+"\t \t"+n(90)+" é", "Subject", strings.Repeat("i ", 200)+"i", "J", "\xff"+strings.Repeat(" ", 90)+"\x80")
	bodies := []string{"", "x", " x", "\tx\r\n", "\r\n", "\r\n\r\n", "\r\nx\r\n\r\n", "A: b\r\n", "A: b\r\n\r\nc", "\r", "\n", "\x00\xff", n(2000)}
	eachList(valid, 3, func(l []head.Field) {
		for _, body := range bodies {
			checkAgain(t, msg.Message{Fields: l, Body: body})
		}
	})
	random := rand.New(rand.NewSource(165))
	for range 300 {
		m := msg.Message{Body: bodies[random.Intn(len(bodies))]}
		for range random.Intn(40) {
			m.Fields = append(m.Fields, valid[random.Intn(len(valid))])
		}
		checkAgain(t, m)
		checkAgain(t, m.With("A", "new value"))
	}
}

// Promise 16.5: messages of no field and of MaxHeads, and of up to MaxMsg
// bytes; longer ones and those with a further field are refused.
func TestParsedAgainAtLimits(t *testing.T) {
	for _, size := range []int{0, 1, 99, 100} {
		m := valued("A", slices.Repeat([]string{n(995) + " " + n(70)}, size/2)...)
		m.Fields = append(m.Fields, slices.Repeat(fields("b", "c d"), size-size/2)...)
		checkAgain(t, m)
		room := 65536 - len(m.Text())
		for _, body := range []string{n(room), n(room - 1), strings.Repeat("\r\n", room/2), strings.Repeat(" ", room)} {
			m.Body = body
			checkAgain(t, m)
		}
		m.Body = n(room + 1)
		refused(t, api.ErrLong, m.Text())
		if size == 100 {
			m.Body = ""
			refused(t, api.ErrFull, m.With("D", "e").Text())
		}
	}
}

// Promise 16.5: what was parsed is printed and parsed again.
func TestParsedTwice(t *testing.T) {
	eachList([]string{"A: b\r\n", "C:\r\n", " d \r\n", "\t\r\n", "\r\n", "E:f\tg\r\n"}, 5, func(l []string) {
		if m, code := msg.Parse(strings.Join(l, "")); code == api.OK {
			checkAgain(t, m)
		}
	})
	checkAgain(t, parsed(t, example))
}

// Promise P1: messages that Parse would not return, with many fields, long
// values and long bodies.
func TestLongest(t *testing.T) {
	const size = 300000
	m := msg.Message{Body: strings.Repeat("\r\n", size)}
	for i := range size {
		m.Fields = append(m.Fields, field([]string{"Received", "from", "List-Id", ""}[i%4], "<x>"))
	}
	checkHops(t, m, size/4)
	checkFrom(t, m, mbx.Box{}, api.ErrThere)
	checkSeen(t, m, "y", false)
	checkSeen(t, m, strings.Repeat("x", size), false)
	checkAuto(t, m, false)
	checkGet(t, m, "A", "")
	checkWord(t, m, "LIST-ID", "<x>")
	if got := len(m.With("FROM", "a").Fields); got != size-size/4+1 {
		t.Errorf("With leaves %d fields", got)
	}
	if got := len(m.Lines()); got != size {
		t.Errorf("Lines has %d", got)
	}
	checkLines(t, strings.Repeat("\r", size)+"\n", strings.Repeat("\r", size-1))
	refused(t, api.ErrLong, m.Text())
	long := strings.Repeat("a ", size)
	for _, name := range []string{"From", "Auto-Submitted", "Precedence", "List-Id"} {
		m := message(name, long)
		checkWord(t, m, name, "a")
		checkSeen(t, m, long, false)
		checkAuto(t, m, name == "Auto-Submitted")
		if _, code := m.From(); code == api.OK {
			t.Errorf("From of a long %s is OK", name)
		}
		if got := len(m.Text()); got < len(long) {
			t.Errorf("Text of a long %s has %d bytes", name, got)
		}
	}
}
