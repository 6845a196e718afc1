package head_test

import (
	"math/rand"
	"regexp"
	"slices"
	"strings"
	"testing"

	"bulletin/api"
	"bulletin/head"
)

func field(name, value string) head.Field { return head.Field{Name: name, Value: value} }

// fields is the fields of these names and values by turns.
func fields(texts ...string) []head.Field {
	var l []head.Field
	for i := 0; i < len(texts); i += 2 {
		l = append(l, field(texts[i], texts[i+1]))
	}
	return l
}

// n is a text of this many bytes.
func n(size int) string { return strings.Repeat("n", size) }

// ab is a printed header of this many fields.
func ab(size int) string { return strings.Repeat("A: b\r\n", size) }

func checkCode(t *testing.T, s string, want []head.Field, wantBody string, wantCode api.Code) {
	t.Helper()
	l, body, code := head.Parse(s)
	if code != wantCode || body != wantBody || !slices.Equal(l, want) {
		t.Errorf("Parse(%.200q) = %.200q; %.100q; %d; want %.200q; %.100q; %d", s, l, body, int(code), want, wantBody, int(wantCode))
	}
}

// check parses a header that has these fields and no empty line.
func check(t *testing.T, s string, want ...head.Field) {
	t.Helper()
	checkCode(t, s, want, "", api.OK)
}

// refused parses texts that have this error.
func refused(t *testing.T, want api.Code, texts ...string) {
	t.Helper()
	for _, s := range texts {
		checkCode(t, s, nil, "", want)
	}
}

func checkShow(t *testing.T, f head.Field, want string) {
	t.Helper()
	if got := head.Show(f); got != want {
		t.Errorf("Show(%.200q) = %.300q; want %.300q", f, got, want)
	}
}

func checkRight(t *testing.T, f head.Field, want bool) {
	t.Helper()
	if got := head.Right(f); got != want {
		t.Errorf("Right(%.200q) = %t; want %t", f, got, want)
	}
}

// eachString calls f for every string of at most n bytes of the alphabet.
func eachString(alphabet string, n int, f func(s string)) {
	f("")
	if n == 0 {
		return
	}
	for i := range len(alphabet) {
		eachString(alphabet, n-1, func(s string) { f(alphabet[i:i+1] + s) })
	}
}

// eachList calls f for every list of at most n of the parts.
func eachList[T any](parts []T, n int, f func(l []T)) {
	f(nil)
	if n == 0 {
		return
	}
	for _, first := range parts {
		eachList(parts, n-1, func(l []T) { f(append([]T{first}, l...)) })
	}
}

// The chapter's definitions as patterns. A byte that is no text byte is an
// ASCII one, so that patterns, which look at runes, find it in all texts.
var (
	noText    = regexp.MustCompile(`[\x00-\x08\x0a-\x1f\x7f]`)
	nameForm  = regexp.MustCompile(`\A[!-9;-~]{1,76}\z`)
	fieldForm = regexp.MustCompile(`\A([!-9;-~]{1,76}):`)
	blankEnds = regexp.MustCompile(`\A[ \t]+|[ \t]+\z`)
	pieceForm = regexp.MustCompile(`[ \t]+[^ \t]*`)
)

// modelCode is the error of a line by the words of promise 15.1, each of its
// conditions looked at for itself.
func modelCode(line string, ended, preceded bool, begun int) api.Code {
	blank := strings.HasPrefix(line, " ") || strings.HasPrefix(line, "\t")
	for _, c := range []struct {
		wrong bool
		code  api.Code
	}{
		{line != "" && !ended, api.ErrShort},
		{len(line) > 998, api.ErrLong},
		{noText.MatchString(line), api.ErrHead},
		{blank && !preceded || !blank && !fieldForm.MatchString(line), api.ErrHead},
		{!blank && begun >= 100, api.ErrFull},
	} {
		if c.wrong {
			return c.code
		}
	}
	return api.OK
}

// modelParse is Parse by the words of promise 15.1: the header is cut out, its
// lines are looked at, and then its fields are made by taking the folds away.
func modelParse(s string) ([]head.Field, string, api.Code) {
	header, body, _ := strings.Cut("\r\n"+s, "\r\n\r\n")
	header = strings.TrimPrefix(header, "\r\n")
	if header == "" {
		return nil, body, api.OK
	}
	// What stood before an empty line had its end, which was cut off with it.
	if len(header) < len(s) {
		header += "\r\n"
	}
	lines := strings.Split(header, "\r\n")
	begun := 0
	for i, line := range lines {
		if line == "" {
			continue
		}
		if code := modelCode(line, i < len(lines)-1, i > 0, begun); code != api.OK {
			return nil, "", code
		}
		if fieldForm.MatchString(line) {
			begun++
		}
	}
	joined := strings.NewReplacer("\r\n ", " ", "\r\n\t", "\t").Replace(header)
	var l []head.Field
	for _, text := range strings.Split(strings.TrimSuffix(joined, "\r\n"), "\r\n") {
		name := fieldForm.FindStringSubmatch(text)[1]
		l = append(l, field(name, blankEnds.ReplaceAllString(text[len(name)+1:], "")))
	}
	return l, body, api.OK
}

func checkModel(t *testing.T, s string) {
	t.Helper()
	l, body, code := modelParse(s)
	checkCode(t, s, l, body, code)
	for _, f := range l {
		if !nameForm.MatchString(f.Name) || noText.MatchString(f.Value) || blankEnds.MatchString(f.Value) {
			t.Errorf("the model of Parse(%q) has %q", s, f)
		}
	}
}

// modelLines is the lines of the printed field by the chapter's words.
func modelLines(f head.Field) []string {
	lines := []string{f.Name + ":"}
	if f.Value == "" {
		return lines
	}
	for i, piece := range pieceForm.FindAllString(" "+f.Value, -1) {
		last := len(lines) - 1
		if i > 0 && len(lines[last]+piece) > 78 {
			lines = append(lines, piece)
		} else {
			lines[last] += piece
		}
	}
	return lines
}

// checkPrinted holds Show and Right of a field against the model, and parses
// what is valid again.
func checkPrinted(t *testing.T, f head.Field) {
	t.Helper()
	lines := modelLines(f)
	checkShow(t, f, strings.Join(lines, "\r\n")+"\r\n")
	long := slices.ContainsFunc(lines, func(line string) bool { return len(line) > 998 })
	right := nameForm.MatchString(f.Name) && !noText.MatchString(f.Value) && !blankEnds.MatchString(f.Value) && !long
	checkRight(t, f, right)
	l, body, code := head.Parse(head.Show(f))
	if again := code == api.OK && body == "" && slices.Equal(l, []head.Field{f}); again != right {
		t.Errorf("%.200q is valid: %t; parsed again: %.200q; %d", f, right, l, int(code))
	}
}

// checkAgain parses valid fields from their printed form.
func checkAgain(t *testing.T, l []head.Field) {
	t.Helper()
	printed := head.Print(l)
	checkCode(t, printed, l, "", api.OK)
	for _, body := range []string{"", "x", " x", "\tx\r\n", "\r\n", "\r\nx", "\r\n\r\nA: b\r\n", "A: b", "A: b\r\n\r\nc", "\r", "\n", "\x00\xff", n(2000)} {
		checkCode(t, printed+"\r\n"+body, l, body, api.OK)
	}
}

// Promises 15.1 to 15.3: the examples of the chapter.
func TestExamples(t *testing.T) {
	checkCode(t, "A: b\r\n c\r\n\r\nd", fields("A", "b c"), "d", api.OK)
	refused(t, api.ErrShort, "A:b")
	refused(t, api.ErrHead, "A\r\n")
	refused(t, api.ErrFull, ab(101))
	z := strings.Repeat("z", 90)
	checkShow(t, field("A", z+" b"), "A: "+z+"\r\n b\r\n")
	checkRight(t, field("A", strings.Repeat("z", 995)), true)
	checkRight(t, field("A", strings.Repeat("z", 996)), false)
	l := fields("A", "1", "b", "2", "a", "3")
	if values := head.All(l, "A"); !slices.Equal(values, []string{"1", "3"}) {
		t.Errorf("All = %q", values)
	}
	if got := head.Put(l, field("a", "9")); !slices.Equal(got, fields("a", "9", "b", "2")) {
		t.Errorf("Put = %q", got)
	}
}

// Promise 15.1: the header and the body.
func TestBody(t *testing.T) {
	check(t, "")
	check(t, "\r\n")
	check(t, "A:b\r\n", field("A", "b"))
	check(t, "A:b\r\nC:d\r\n", fields("A", "b", "C", "d")...)
	check(t, "A:b\r\n\r\n", field("A", "b"))
	for _, body := range []string{"x", "\r\n", "\r\n\r\n", "\r\nx\r\n", " x", "\t", "A:b", "A:b\r\n", "A", ":", "\n", "\r", "\x00\x7f\xff", n(999), ab(101), " x\r\n\r\n"} {
		checkCode(t, "\r\n"+body, nil, body, api.OK)
		checkCode(t, "A:b\r\n\r\n"+body, fields("A", "b"), body, api.OK)
		checkCode(t, "A:\r\n\r\n"+body, fields("A", ""), body, api.OK)
		checkCode(t, "A:b\r\n c\r\n\r\n"+body, fields("A", "b c"), body, api.OK)
		checkCode(t, ab(100)+"\r\n"+body, slices.Repeat(fields("A", "b"), 100), body, api.OK)
	}
}

// Promise 15.1: names.
func TestNames(t *testing.T) {
	for _, name := range []string{"A", "a", "0", "!", "~", "9", ";", "-", "A-b", "\"(<@>)\"", n(75), n(76)} {
		check(t, name+":b\r\n", field(name, "b"))
		check(t, name+":\r\n", field(name, ""))
	}
	for _, name := range []string{"", n(77), n(78), n(900), " ", " A", "A ", "A b", "A\tb", "A\t", "é", "\xff", "A\x80", "A\x7f", "\x7f", "\x00", "A\r", "\n", n(76) + " "} {
		for _, start := range []string{"", "C:d\r\n"} {
			if start != "" && strings.HasPrefix(name, " ") {
				check(t, start+name+":b\r\n", field("C", "d"+name+":b"))
				continue
			}
			refused(t, api.ErrHead, start+name+":b\r\n", start+name+":\r\n\r\n")
		}
	}
	for b := range 256 {
		name := string([]byte{byte(b)})
		if b < 33 || b > 126 {
			refused(t, api.ErrHead, name+"\r\n", "A"+name+"\r\n", "A"+name+"x\r\n")
		}
		checkModel(t, name+":b\r\n")
		checkModel(t, "A"+name+"x:b\r\n")
		checkModel(t, "A:b\r\n"+name+":b\r\n")
	}
}

// Promise 15.1: lines without a colon, and lines that continue no field.
func TestNoField(t *testing.T) {
	refused(t, api.ErrHead, "A\r\n", "A\r\n\r\n", "A\r\nB:c\r\n", "B:c\r\nA\r\n", "B:c\r\nA\r\n\r\n", "A:b\r\n c\r\nd\r\n", n(76)+"\r\n", n(998)+"\r\n", ".\r\n", "é\r\n", "A b\r\n")
	refused(t, api.ErrHead, " \r\n", "\t\r\n", " A:b\r\n", "\tA:b\r\n", " b\r\nA:b\r\n", " \r\n\r\n", " \r\nA:b\r\n")
}

// Promise 15.1: values.
func TestValues(t *testing.T) {
	for text, value := range map[string]string{
		"": "", " ": "", "\t": "", " \t \t": "", "b": "b", " b": "b", "\tb": "b", "  b": "b", "b ": "b", "b\t": "b", " \t b \t ": "b", "b c": "b c", " b \t c ": "b \t c",
		":": ":", "::": "::", " b:c": "b:c", " : ": ":", "é": "é", "\x80\xff": "\x80\xff", "\u00a0b\u00a0": "\u00a0b\u00a0", "!~": "!~", "\"": "\"",
	} {
		check(t, "A:"+text+"\r\n", field("A", value))
		check(t, "A:"+text+"\r\nB:c\r\n", fields("A", value, "B", "c")...)
		check(t, "A:"+text+"\r\n \r\n", field("A", value))
		check(t, "A:\r\n "+text+"\r\n", field("A", value))
	}
	for b := range 256 {
		s := string([]byte{byte(b)})
		switch {
		case b == '\t' || b == ' ':
			check(t, "A:"+s+"\r\n", field("A", ""))
			check(t, "A:x"+s+"y\r\n", field("A", "x"+s+"y"))
		case b < ' ' || b == 127:
			refused(t, api.ErrHead, "A:"+s+"\r\n", "A:x"+s+"y\r\n", "A:b\r\n "+s+"\r\n", "A:b\r\n\t"+s+"x\r\n\r\n", "A:"+s+"\r\nB:c\r\n")
		default:
			check(t, "A:"+s+"\r\n", field("A", s))
			check(t, "A:x"+s+"y\r\n "+s+"\r\n", field("A", "x"+s+"y "+s))
		}
	}
}

// Promise 15.1: fields of more than one line.
func TestFolds(t *testing.T) {
	for text, value := range map[string]string{
		"b\r\n c": "b c", "b\r\n\tc": "b\tc", "b\r\n  c": "b  c", "b \r\n c": "b  c", "b\t\r\n c": "b\t c", " b \r\n\t c ": "b \t c", "b\r\n c\r\n d": "b c d",
		"\r\n b": "b", "\r\n \r\n b": "b", "b\r\n ": "b", "b\r\n \r\n\t\r\n": "b", "b\r\n \r\n c": "b  c", "b\r\n \t \r\n\t\r\n c": "b \t \t c", "\r\n \r\n\t": "", "b\r\n C:d": "b C:d", "\r\n :": ":", "\r\n :b": ":b", "b\r\n " + n(900): "b " + n(900),
	} {
		s := strings.TrimSuffix(text, "\r\n") + "\r\n"
		check(t, "A:"+s, field("A", value))
		check(t, "B:c\r\nA:"+s+"B:c\r\n", fields("B", "c", "A", value, "B", "c")...)
		checkCode(t, "A:"+s+"\r\n x", fields("A", value), " x", api.OK)
	}
	refused(t, api.ErrHead, "A\r\n :b\r\n", "A\r\n b\r\n", "A:b\r\nc\r\n", "A:b\r\n c\r\nd\r\n e\r\n")
}

// Promise 15.1: lines without an end, which only a line feed behind a carriage
// return is.
func TestShort(t *testing.T) {
	refused(t, api.ErrShort, "A", "A:", "A:b", " ", "\t", " A", ":", "A:b\r\nc", "A:b\r\n c", "A:b\r\n ", "A:b\r\nC:d", "A:b\r", "\r", "\n", "\x00", "A\n", "A:b\n", "A:b\r\r", "A:b\n\r", "\n\r", "A:b\r\n\r", "A:b\r\n\n", "A:b\r\nx\ny", "é", "A:b\rC:d", "A:b\n\n")
	refused(t, api.ErrHead, "A:b\nc\r\n", "A:b\rc\r\n", "A:b\r\r\n", "A:b\n\r\n", "\r\r\n", "\n\r\n", "A:b\r\n\r\r\n", "A:b\r\n\n\r\n", "A:b\r\n \r\r\n", "A:b\n\n\r\n\r\n", "A:b\r\r\n\n", "A\r:b\r\n")
}

// Promise 15.1: lines of MaxLine bytes and of one more.
func TestLong(t *testing.T) {
	check(t, "A:"+n(996)+"\r\n", field("A", n(996)))
	check(t, "A: "+n(995)+"\r\nB:"+strings.Repeat(" ", 996)+"\r\n", fields("A", n(995), "B", "")...)
	check(t, "A:"+n(996)+"\r\n "+n(997)+"\r\n\t"+n(997)+"\r\n", field("A", n(996)+" "+n(997)+"\t"+n(997)))
	check(t, "A:b\r\n"+strings.Repeat(" ", 998)+"\r\n", field("A", "b"))
	check(t, n(76)+":"+n(921)+"\r\n", field(n(76), n(921)))
	refused(t, api.ErrLong, "A:"+n(997)+"\r\n", "A:"+n(997)+"\r\n\r\nx", "A: "+n(995)+" \r\n", "A:b\r\n "+n(998)+"\r\n", "A:b\r\n"+strings.Repeat(" ", 999)+"\r\n", "A:b\r\nB:"+n(5000)+"\r\n")
}

// Promise 15.1: 100 fields, what continues the 100th, and the 101st.
func TestFull(t *testing.T) {
	hundred := slices.Repeat(fields("A", "b"), 100)
	full := ab(100)
	check(t, full, hundred...)
	check(t, strings.Repeat("A: b\r\n \r\n", 100), hundred...)
	check(t, full+"\r\n", hundred...)
	checkCode(t, full+"\r\n"+full, hundred, full, api.OK)
	check(t, full+" \r\n\t\r\n", hundred...)
	last := slices.Clone(hundred)
	last[99].Value = "b c"
	check(t, full+" c\r\n", last...)
	refused(t, api.ErrFull, full+"A:\r\n", full+"B:c\r\n\r\n", full+" \r\nA:b\r\n", full+"A:b\r\n c\r\n", full+n(76)+":"+n(921)+"\r\n", full+"A:b\r\nC", full+"A:b\r\n\x00\r\n", ab(102), ab(1000))
	refused(t, api.ErrShort, full+"A:b", full+" ", full+"x", full+"\r")
	refused(t, api.ErrLong, full+"A:"+n(997)+"\r\n", full+n(999)+"\r\n")
	refused(t, api.ErrHead, full+"A:\x00\r\n", full+"A\r\n", full+":b\r\n", full+n(77)+":b\r\n", full+" \x00\r\n")
}

// Promise 15.1: of more than one error of a line the first is told, and of more
// than one line that has one, that of the first.
func TestFirstError(t *testing.T) {
	refused(t, api.ErrShort, n(999), n(999)+"\x00", "\x00", " "+n(998), " \x00", "A:b\r\n"+n(2000)+"\x00", "A:"+n(2000)+"\r", "A:\x00"+n(2000)+"\n")
	refused(t, api.ErrLong, n(999)+"\r\n", n(999)+"\x00\r\n", " "+n(998)+"\r\n", " "+n(998)+"\x00\r\n", "A:"+n(997)+"\x00\r\n", "A:b\r\n\x00"+n(998)+"\r\n", "\x00:"+n(997)+"\r\n", n(998)+"\r\r\n", n(998)+"\n\r\n")
	for code, line := range map[api.Code]string{api.ErrLong: "A:" + n(997) + "\r\n", api.ErrHead: "A\r\n"} {
		for _, rest := range []string{"", "A", "\x00\r\n", "A:" + n(997) + "\r\n", "B\r\n", ab(101), "\r\n", " x\r\n", "\r\nx"} {
			refused(t, code, line+rest, "A:b\r\n"+line+rest, "A:b\r\n c\r\n"+line+rest, ab(100)+line+rest)
		}
	}
	refused(t, api.ErrFull, ab(101)+"A", ab(101)+"A\r\n", ab(101)+"A:"+n(997)+"\r\n", ab(101)+"A:\x00\r\n")
}

// Promise 15.1: all short texts of telling bytes, and all short lists of telling
// lines, held against the model.
func TestParseAsPromised(t *testing.T) {
	eachString("A: \t\r\n\xe9\x00", 6, func(s string) { checkModel(t, s) })
	eachString("A: \r\n", 5, func(s string) {
		checkModel(t, "A:b\r\n"+s)
		checkModel(t, "A:b\r\n"+s+"\r\n")
		checkModel(t, s+"\r\n\r\nx")
	})
	eachList([]string{"A:b\r\n", "c: \t\r\n", " d\r\n", "\t\r\n", "\r\n", "\r", "\n", "e", "F:" + n(996) + "\r\n", " \x7f", ab(99), ab(50)}, 4, func(l []string) { checkModel(t, strings.Join(l, "")) })
	for _, s := range []string{"A: b\r\n c\r\nD:\te \r\n\t\r\nF:\r\n\r\ng\r\n", ab(3)} {
		for at := range len(s) {
			for b := range 256 {
				checkModel(t, s[:at]+string([]byte{byte(b)})+s[at:])
				checkModel(t, s[:at]+string([]byte{byte(b)})+s[at+1:])
			}
			checkModel(t, s[:at])
			checkModel(t, s[at:])
			checkModel(t, s[:at]+s[at+1:])
		}
	}
}

// Promise 15.1: long texts from a fixed seed, held against the model.
func TestLongHeadersAsPromised(t *testing.T) {
	random := rand.New(rand.NewSource(15))
	pick := func(l ...string) string { return l[random.Intn(len(l))] }
	for range 300 {
		var b strings.Builder
		for range random.Intn(130) {
			b.WriteString(pick("A", "b-C", "!~", n(76)) + ":" + pick("", " ", " b", "c d\t", ":", " \xff", n(900)) + "\r\n")
			for range random.Intn(3) {
				b.WriteString(pick(" ", "\t") + pick("", " ", "x", "y z ", n(997)) + "\r\n")
			}
		}
		s := b.String()
		checkModel(t, s)
		checkModel(t, s+"\r\n"+pick("", "x", " \r\n", s))
		if s != "" {
			at := random.Intn(len(s))
			checkModel(t, s[:at]+s[at+1:])
			checkModel(t, s[:at]+pick("\r\n", "\r", "\n", " ", ":", "\x00", "x", n(999), "A:b\r\n")+s[at:])
		}
	}
}

// Promise 15.2: fields on one line, and their values at the edges of it.
func TestShow(t *testing.T) {
	for value, want := range map[string]string{
		"": "A:", "b": "A: b", "b c": "A: b c", "b  c": "A: b  c", "b\tc": "A: b\tc", "b \t c d": "A: b \t c d", "b ": "A: b ", "b \t": "A: b \t", " ": "A:  ", "\t": "A: \t", " b": "A:  b", "\tb": "A: \tb", "é": "A: é", "\xff\x00": "A: \xff\x00", ":": "A: :",
	} {
		checkShow(t, field("A", value), want+"\r\n")
	}
	checkShow(t, field("", ""), ":\r\n")
	checkShow(t, field("", "b"), ": b\r\n")
	checkShow(t, field("a b", "c"), "a b: c\r\n")
	checkShow(t, field("é:", "c"), "é:: c\r\n")
	checkShow(t, field(n(100), ""), n(100)+":\r\n")
	checkShow(t, field(n(100), "b"), n(100)+": b\r\n")
	checkShow(t, field(n(100), "b c"), n(100)+": b\r\n c\r\n")
}

// Promise 15.2: a line end stands before a piece with which the line would have
// more than 78 bytes, but not before the first.
func TestShowFolds(t *testing.T) {
	for value, want := range map[string]string{
		n(75) + "":                          "A: " + n(75),
		n(73) + " b":                        "A: " + n(73) + " b",
		n(74) + " b":                        "A: " + n(74) + "\r\n b",
		n(74) + " ":                         "A: " + n(74) + " ",
		n(75) + " ":                         "A: " + n(75) + "\r\n ",
		n(75) + " \t ":                      "A: " + n(75) + "\r\n \t ",
		n(73) + "  b":                       "A: " + n(73) + "\r\n  b",
		n(72) + "\t b":                      "A: " + n(72) + "\t b",
		n(73) + "\t b":                      "A: " + n(73) + "\r\n\t b",
		n(76) + "":                          "A: " + n(76),
		n(200) + "":                         "A: " + n(200),
		n(90) + " b":                        "A: " + n(90) + "\r\n b",
		n(90) + " b c":                      "A: " + n(90) + "\r\n b c",
		"b " + n(90):                        "A: b\r\n " + n(90),
		"b " + n(90) + " c":                 "A: b\r\n " + n(90) + "\r\n c",
		"b " + n(90) + " " + n(90):          "A: b\r\n " + n(90) + "\r\n " + n(90),
		"b " + n(73):                        "A: b " + n(73),
		"b " + n(74):                        "A: b\r\n " + n(74),
		n(75) + " " + n(75) + " b":          "A: " + n(75) + "\r\n " + n(75) + " b",
		n(75) + " " + n(76) + " b":          "A: " + n(75) + "\r\n " + n(76) + "\r\n b",
		n(75) + " " + n(77) + " b":          "A: " + n(75) + "\r\n " + n(77) + "\r\n b",
		n(75) + " " + n(70) + " " + n(6):    "A: " + n(75) + "\r\n " + n(70) + " " + n(6),
		n(75) + " " + n(70) + " " + n(7):    "A: " + n(75) + "\r\n " + n(70) + "\r\n " + n(7),
		strings.Repeat(" ", 90):             "A: " + strings.Repeat(" ", 90),
		strings.Repeat(" ", 90) + "b c":     "A: " + strings.Repeat(" ", 90) + "b\r\n c",
		"b" + strings.Repeat("\t", 90):      "A: b\r\n" + strings.Repeat("\t", 90),
		"b" + strings.Repeat(" ", 73) + "c": "A: b" + strings.Repeat(" ", 73) + "c",
		"b" + strings.Repeat(" ", 74) + "c": "A: b\r\n" + strings.Repeat(" ", 74) + "c",
		strings.Repeat("é ", 30):            "A: " + strings.TrimSpace(strings.Repeat("é ", 25)) + "\r\n " + strings.Repeat("é ", 5),
	} {
		checkShow(t, field("A", value), want+"\r\n")
	}
}

// Promise 15.2: Print.
func TestPrint(t *testing.T) {
	for want, l := range map[string][]head.Field{
		"": nil, "A:\r\n": fields("A", ""), "A: b\r\nA: b\r\n": fields("A", "b", "A", "b"), "a: b\r\nC:\r\n : \xff\r\n": fields("a", "b", "C", "", " ", "\xff"),
		"A: " + n(75) + "\r\n " + n(75) + "\r\nB: " + n(75) + "\r\n": fields("A", n(75)+" "+n(75), "B", n(75)),
	} {
		if got := head.Print(l); got != want {
			t.Errorf("Print(%q) = %q; want %q", l, got, want)
		}
	}
	if got := head.Print([]head.Field{}); got != "" {
		t.Errorf("Print of no field = %q", got)
	}
	random := rand.New(rand.NewSource(152))
	for range 300 {
		var l []head.Field
		want := ""
		for range random.Intn(150) {
			f := field(n(random.Intn(80)), strings.Repeat("xyz ", random.Intn(60)))
			l = append(l, f)
			want += head.Show(f)
		}
		if head.Print(l) != want {
			t.Errorf("Print(%.300q) is not all that Show prints", l)
		}
	}
}

// Promise 15.2: Right by each of its conditions.
func TestRight(t *testing.T) {
	for _, value := range []string{"", "b", "b c", "b\tc", "b \t c", "é", "\x80\xff", ":", "!~", n(900), n(75) + " b"} {
		for _, name := range []string{"A", "a-B", "!", "~", "9", ";", n(76)} {
			checkRight(t, field(name, value), true)
		}
		for _, name := range []string{"", n(77), " ", "A ", " A", "A b", "A\tb", ":", "A:", ":A", "\x7f", "é", "\x80", "\xff", "A\x00", "A\r\n", "\n"} {
			checkRight(t, field(name, value), false)
		}
	}
	for _, value := range []string{" ", "\t", " b", "\tb", "b ", "b\t", " b ", "b \t", "b\x00c", "\r", "\n", "b\r\n c", "b\rc", "b\nc", "\x7f", "\x1f", "\x0b", "b\r\n"} {
		checkRight(t, field("A", value), false)
	}
	spaces := func(size int) string { return strings.Repeat(" ", size) }
	for value, right := range map[string]bool{
		n(995): true, n(996): false, n(995) + " b": true, n(996) + " b": false, "b " + n(997): true, "b " + n(998): false, n(995) + " " + n(997) + " " + n(997): true, n(995) + " " + n(997) + " " + n(998): false, n(995) + " " + n(998) + " " + n(997): false,
		"b" + spaces(997) + "c": true, "b" + spaces(998) + "c": false, "b" + spaces(996) + "cd": true, "b" + spaces(997) + "cd": false, strings.Repeat("b ", 5000) + "b": true, n(5000): false,
	} {
		checkRight(t, field("A", value), right)
	}
	checkRight(t, field(n(76), n(920)), true)
	checkRight(t, field(n(76), n(921)), false)
	for b := range 256 {
		s := string([]byte{byte(b)})
		checkPrinted(t, field(s, "b"))
		checkPrinted(t, field("A"+s, "b"))
		checkPrinted(t, field("A", s))
		checkPrinted(t, field("A", "b"+s+"c"))
	}
}

// Promises 15.2 and 15.4: all short fields, short values under names that fill
// a line, and long values from a fixed seed, held against the model.
func TestPrintedAsPromised(t *testing.T) {
	eachString("A: \t\x00\xe9", 3, func(name string) {
		eachString("b: \t\x7f\xe9", 4, func(value string) { checkPrinted(t, field(name, value)) })
	})
	for size := 68; size <= 76; size++ {
		eachString("b \t", 8, func(value string) { checkPrinted(t, field(n(size), value)) })
	}
	random := rand.New(rand.NewSource(154))
	for range 4000 {
		var b strings.Builder
		for range random.Intn(40) {
			b.WriteString(n([]int{0, 1, 2, 10, 37, 73, 74, 75, 76, 77, 200, 990}[random.Intn(12)] + random.Intn(3)))
			b.WriteString([]string{" ", "  ", "\t", " \t "}[random.Intn(4)])
		}
		value := b.String()
		if random.Intn(3) > 0 {
			value = strings.TrimSpace(value)
		}
		checkPrinted(t, field(n(1+random.Intn(80)), value))
	}
}

// Promise 15.4: lists of valid fields, with bodies of each kind.
func TestParsedAgain(t *testing.T) {
	valid := fields("A", "", "a", "b", "C-d", "e  f\tg", "!", ":", n(76), n(73)+" "+n(997), "H", n(995)+"\t \t"+n(90)+" é", "~", strings.Repeat("i ", 2000)+"i", "J", "\xff"+strings.Repeat(" ", 990)+"\x80")
	for _, f := range valid {
		checkRight(t, f, true)
	}
	eachList(valid, 3, func(l []head.Field) { checkAgain(t, l) })
	checkAgain(t, slices.Repeat(valid, 12))
	checkAgain(t, slices.Repeat(valid, 13)[:100])
	random := rand.New(rand.NewSource(1540))
	for range 300 {
		var l []head.Field
		for range random.Intn(101) {
			l = append(l, valid[random.Intn(len(valid))])
		}
		checkAgain(t, l)
	}
}

// Promises 15.1 and 15.4: what was parsed is parsed again, however it was
// folded, as long as it is valid.
func TestFoldedOtherwise(t *testing.T) {
	eachList([]string{"b", " ", "\t", "\r\n ", "\r\n\t", ":"}, 5, func(parts []string) {
		l, _, code := head.Parse("A:" + strings.Join(parts, "") + "\r\n")
		if code != api.OK || len(l) != 1 {
			t.Fatalf("Parse of %q: %q; %d", parts, l, int(code))
		}
		checkRight(t, l[0], true)
		checkAgain(t, l)
	})
}

// modelFold is s with small letters for capital ones, byte by byte.
func modelFold(s string) string {
	b := []byte(s)
	for i := range b {
		if at := strings.IndexByte("ABCDEFGHIJKLMNOPQRSTUVWXYZ", b[i]); at >= 0 {
			b[i] = "abcdefghijklmnopqrstuvwxyz"[at]
		}
	}
	return string(b)
}

// modelPut is Put by its words: f in place of the first field of its name, the
// others of it left out, f appended if there is none.
func modelPut(l []head.Field, f head.Field) []head.Field {
	var after []head.Field
	placed := false
	for _, x := range l {
		same := modelFold(x.Name) == modelFold(f.Name)
		if same && !placed {
			after = append(after, f)
			placed = true
		} else if !same {
			after = append(after, x)
		}
	}
	if !placed {
		after = append(after, f)
	}
	return after
}

// checkLists holds Get, All, Without and Put of a list against the model, and
// the list against what it was, with what stands in its spare capacity.
func checkLists(t *testing.T, before []head.Field, name string) {
	t.Helper()
	spare := field("spare", "capacity")
	whole := append(slices.Clone(before), spare, spare)
	l := whole[:len(before)]
	var values []string
	var others []head.Field
	for _, f := range before {
		if modelFold(f.Name) == modelFold(name) {
			values = append(values, f.Value)
		} else {
			others = append(others, f)
		}
	}
	value, there := head.Get(l, name)
	if there != (len(values) > 0) || there && value != values[0] || !there && value != "" {
		t.Errorf("Get(%q, %q) = %q, %t; want the first of %q", before, name, value, there, values)
	}
	if got := head.All(l, name); !slices.Equal(got, values) {
		t.Errorf("All(%q, %q) = %q; want %q", before, name, got, values)
	}
	without := head.Without(l, name)
	if !slices.Equal(without, others) {
		t.Errorf("Without(%q, %q) = %q; want %q", before, name, without, others)
	}
	f := field(name, "new")
	put, want := head.Put(l, f), modelPut(before, f)
	if !slices.Equal(put, want) {
		t.Errorf("Put(%q, %q) = %q; want %q", before, f, put, want)
	}
	overwrite(without, put)
	if !slices.Equal(whole, append(slices.Clone(before), spare, spare)) {
		t.Errorf("%q is changed to %q", before, whole)
	}
}

// overwrite fills results, with their spare capacity, which are to share
// nothing with what they were made from.
func overwrite(lists ...[]head.Field) {
	for _, l := range lists {
		l = l[:cap(l)]
		for i := range l {
			l[i] = field("over", "written")
		}
	}
}

// Promise 15.3: lists of fields with none, one and more of a name.
func TestLists(t *testing.T) {
	l := fields("A", "1", "b", "2", "a", "3", "Ç", "4", "É", "5", "\xc9", "6", "", "7", "a ", "8", "Subject", "9")
	for name, want := range map[string]string{"A": "1 3", "a": "1 3", "B": "2", "b": "2", "ç": "", "Ç": "4", "é": "", "É": "5", "\xe9": "", "\xc9": "6", "": "7", "a ": "8", "A ": "8", " a": "", "SUBJECT": "9", "sUBJECT": "9", "subject:": "", "x": "", "k": "", "\u212a": ""} {
		values := head.All(l, name)
		if strings.Join(values, " ") != want {
			t.Errorf("All of %q = %q; want %q", name, values, want)
		}
		value, there := head.Get(l, name)
		if first, _, _ := strings.Cut(want, " "); value != first || there != (want != "") {
			t.Errorf("Get of %q = %q, %t; want %q", name, value, there, first)
		}
		checkLists(t, l, name)
		checkLists(t, nil, name)
		checkLists(t, []head.Field{}, name)
	}
	if value, there := head.Get(fields("a", ""), "A"); value != "" || !there {
		t.Errorf("Get of an empty value = %q, %t", value, there)
	}
	for want, f := range map[string]head.Field{"a: 9\r\nb: 2\r\n": field("a", "9"), "A: 9\r\nb: 2\r\n": field("A", "9"), "A: 1\r\nB: 9\r\na: 3\r\n": field("B", "9"), "A: 1\r\nb: 2\r\na: 3\r\nC: 9\r\n": field("C", "9"), "A: 1\r\nb: 2\r\na: 3\r\n: 9\r\n": field("", "9")} {
		if got := head.Print(head.Put(l[:3], f)); got != want {
			t.Errorf("Put of %q: %q; want %q", f, got, want)
		}
	}
}

// Promise 15.3: all short lists of telling fields, held against the model.
func TestListsAsPromised(t *testing.T) {
	parts := fields("A", "1", "a", "2", "b", "3", "B", "", "\xc1", "5", "", "6", "[", "7")
	eachList(parts, 5, func(l []head.Field) {
		for _, name := range []string{"A", "a", "b", "\xe1", "\xc1", "", "{", "c"} {
			checkLists(t, l, name)
		}
	})
}

// Promise 15.1: two results share no memory (rule R4).
func TestParseSharesNothing(t *testing.T) {
	s := ab(3) + "\r\n"
	l, _, _ := head.Parse(s)
	overwrite(l)
	check(t, s, slices.Repeat(fields("A", "b"), 3)...)
}

// Promise P1: long texts and lists.
func TestLongest(t *testing.T) {
	const lines = 300000
	check(t, "A:b\r\n"+strings.Repeat(" \r\n", lines), field("A", "b"))
	check(t, "A:b\r\n"+strings.Repeat(" c\r\n", lines), field("A", "b"+strings.Repeat(" c", lines)))
	refused(t, api.ErrFull, ab(lines))
	refused(t, api.ErrShort, strings.Repeat("\r", lines), strings.Repeat("A: ", lines))
	long := field("A", strings.TrimSpace(strings.Repeat("b ", lines)))
	checkPrinted(t, long)
	checkPrinted(t, field("A", strings.Repeat(" ", lines)))
	checkPrinted(t, field(n(lines), n(lines)))
	checkAgain(t, []head.Field{long})
	l := make([]head.Field, lines)
	for i := range l {
		l[i] = field([]string{"A", "b"}[i%2], "c")
	}
	if got := len(head.Without(l, "a")); got != lines/2 {
		t.Errorf("Without leaves %d", got)
	}
	if got := len(head.Put(l, field("B", "d"))); got != lines/2+1 {
		t.Errorf("Put leaves %d", got)
	}
	if got := len(head.All(l, "B")); got != lines/2 {
		t.Errorf("All has %d", got)
	}
}
