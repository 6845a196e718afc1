package mbx_test

import (
	"math/rand"
	"regexp"
	"slices"
	"strings"
	"testing"

	"bulletin/addr"
	"bulletin/api"
	"bulletin/lex"
	"bulletin/mbx"
)

// box is the box of an address whose local part has no @.
func box(name, address string) mbx.Box {
	local, domain, _ := strings.Cut(address, "@")
	return mbx.Box{Name: name, Addr: addr.Addr{Local: local, Domain: domain}}
}

func boxes(l ...mbx.Box) []mbx.Box { return l }

// bare is the boxes of these addresses, without names.
func bare(addresses ...string) []mbx.Box {
	var l []mbx.Box
	for _, a := range addresses {
		l = append(l, box("", a))
	}
	return l
}

// times is n texts with commas between them.
func times(n int, s string) string {
	return strings.TrimSuffix(strings.Repeat(s+",", n), ",")
}

// long is an address whose local part is too long by one byte.
var long = strings.Repeat("a", 65) + "@b"

// checkCode reads a text that has these boxes or, beside the error, none.
func checkCode(t *testing.T, s string, want []mbx.Box, wantCode api.Code) {
	t.Helper()
	l, code := mbx.Read(s)
	if code != wantCode || !slices.Equal(l, want) {
		t.Errorf("Read(%.200q) = %.200q; %d; want %.200q; %d", s, l, int(code), want, int(wantCode))
	}
	var one mbx.Box
	if len(want) == 1 {
		one = want[0]
	} else if wantCode == api.OK {
		wantCode = api.ErrAddr
	}
	if b, code := mbx.One(s); code != wantCode || b != one {
		t.Errorf("One(%.200q) = %.200q; %d; want %.200q; %d", s, b, int(code), one, int(wantCode))
	}
}

// check reads a list that has these boxes.
func check(t *testing.T, s string, want ...mbx.Box) {
	t.Helper()
	checkCode(t, s, want, api.OK)
}

// refused reads a text that has this error.
func refused(t *testing.T, want api.Code, texts ...string) {
	t.Helper()
	for _, s := range texts {
		checkCode(t, s, nil, want)
	}
}

func checkPhrase(t *testing.T, s, want string) {
	t.Helper()
	if got := mbx.Phrase(s); got != want {
		t.Errorf("Phrase(%.100q) = %.100q; want %.100q", s, got, want)
	}
}

func checkShow(t *testing.T, b mbx.Box, want string) {
	t.Helper()
	if got := mbx.Show(b); got != want {
		t.Errorf("Show(%.100q) = %.100q; want %.100q", b, got, want)
	}
}

func checkShowAll(t *testing.T, l []mbx.Box, want string) {
	t.Helper()
	if got := mbx.ShowAll(l); got != want {
		t.Errorf("ShowAll(%.100q) = %.100q; want %.100q", l, got, want)
	}
}

// checkAgain reads boxes that were read from their printed form.
func checkAgain(t *testing.T, l []mbx.Box) {
	t.Helper()
	if len(l) > 0 {
		checkCode(t, mbx.ShowAll(l), l, api.OK)
	}
	for _, b := range l {
		checkCode(t, mbx.Show(b), boxes(b), api.OK)
	}
}

// eachString calls f for every string of at most n bytes of the alphabet.
func eachString(alphabet string, n int, f func(s string)) {
	f("")
	if n == 0 {
		return
	}
	for i := range len(alphabet) {
		eachString(alphabet, n-1, func(s string) { f(alphabet[i:i+1] + s) })
	}
}

// eachRow calls f for every row of at most n of the parts, with spaces between
// them.
func eachRow(parts []string, n int, f func(s string)) {
	f("")
	if n == 0 {
		return
	}
	for _, first := range parts {
		eachRow(parts, n-1, func(s string) { f(first + " " + s) })
	}
}

// run is the tokens up to a special of , ; : < > or to the end, and that
// special, which is e at the end.
type run struct {
	tokens []lex.Token
	ender  string
}

func runs(l []lex.Token) []run {
	all := []run{{ender: "e"}}
	for _, token := range l {
		last := &all[len(all)-1]
		if token.Kind == lex.Special && strings.Contains(",;:<>", token.Text) {
			last.ender = token.Text
			all = append(all, run{ender: "e"})
		} else {
			last.tokens = append(last.tokens, token)
		}
	}
	return all
}

func (r run) name() (name string, words bool) {
	var texts []string
	for _, token := range r.tokens {
		if token.Kind == lex.Special {
			return "", false
		}
		texts = append(texts, token.Text)
	}
	return strings.Join(texts, " "), true
}

// The places in a list where a run can begin, each as a letter: at a part of
// the list, behind a < there, behind the > of that; at the first mailbox of a
// group, at a further one, behind a < there, behind the > of that; and behind a
// group.
const (
	part, angle, shut             = "p", "a", "s"
	first, further, angle2, shut2 = "f", "u", "A", "S"
	behind                        = "b"
)

// The places where a run is an address, and the place that follows it if the
// ender behind it is this one; where it can only be empty; and where it is a
// phrase.
var (
	addressSteps = map[string]string{
		part + ",": part, part + "e": "end", angle + ">": shut,
		first + ",": further, first + ";": behind, further + ",": further, further + ";": behind, angle2 + ">": shut2,
	}
	emptySteps = map[string]string{
		shut + ",": part, shut + "e": "end", behind + ",": part, behind + "e": "end",
		shut2 + ",": further, shut2 + ";": behind, first + ";": behind,
	}
	phraseSteps = map[string]string{
		part + "<": angle, part + ":": first, first + "<": angle2, further + "<": angle2,
	}
)

// modelRead is Read by the words of promise 14.1, as a table of steps from run
// to run, for the tokens that the text has.
func modelRead(s string) ([]mbx.Box, api.Code) {
	tokens, code := lex.Scan(s)
	if code != api.OK {
		return nil, code
	}
	var l []mbx.Box
	place, name := part, ""
	for _, r := range runs(tokens) {
		here := place + r.ender
		phrase, words := r.name()
		if next, ok := phraseSteps[here]; ok && words && (len(r.tokens) > 0 || r.ender == "<") {
			place, name = next, phrase
			continue
		}
		if next, ok := emptySteps[here]; ok && len(r.tokens) == 0 {
			place = next
			continue
		}
		if strings.Contains(shut+shut2+behind, place) {
			return nil, api.ErrAddr
		}
		a, code := addr.Of(r.tokens)
		if code != api.OK {
			return nil, code
		}
		if len(l) == 100 {
			return nil, api.ErrFull
		}
		if !strings.Contains(angle+angle2, place) {
			name = ""
		}
		l = append(l, mbx.Box{Name: name, Addr: a})
		if place = addressSteps[here]; place == "" {
			return nil, api.ErrAddr
		}
	}
	return l, api.OK
}

// The forms that the chapter defines, as patterns of tokens: w is a word, x
// another part of an address, and each other special is itself.
const (
	mailboxForm = `([wx]+|w*<[wx]+>)`
	partForm    = `(` + mailboxForm + `|w+:(` + mailboxForm + `(,` + mailboxForm + `)*)?;)`
)

var listForm = regexp.MustCompile(`^` + partForm + `(,` + partForm + `)*$`)

// isList reports whether the tokens of s have the form of a list.
func isList(s string) bool {
	tokens, code := lex.Scan(s)
	form := ""
	for _, token := range tokens {
		switch {
		case token.Kind != lex.Special:
			form += "w"
		case token.Text == "." || token.Text == "@":
			form += "x"
		default:
			form += token.Text
		}
	}
	return code == api.OK && listForm.MatchString(form)
}

// checkModel holds Read and One of a text against the model, and reads what was
// read again.
func checkModel(t *testing.T, s string) {
	t.Helper()
	want, code := modelRead(s)
	checkCode(t, s, want, code)
	if code == api.OK {
		if !isList(s) {
			t.Errorf("Read(%q) took what is no list", s)
		}
		checkAgain(t, want)
	}
}

// latin is s with one rune for each byte, as patterns look at runes.
func latin(s string) string {
	var l []rune
	for i := range len(s) {
		l = append(l, rune(s[i]))
	}
	return string(l)
}

var phraseForm = regexp.MustCompile("^[a-zA-Z0-9!#$%&'*+/=?^_`{|}~\\x80-\\xff-]+( [a-zA-Z0-9!#$%&'*+/=?^_`{|}~\\x80-\\xff-]+)*$")

func modelPhrase(s string) string {
	if phraseForm.MatchString(latin(s)) {
		return s
	}
	quoted := []byte{'"'}
	for i := range len(s) {
		switch c := s[i]; {
		case c == '"' || c == '\\':
			quoted = append(quoted, '\\', c)
		case c < ' ' && c != '\t' || c == 127:
			quoted = append(quoted, ' ')
		default:
			quoted = append(quoted, c)
		}
	}
	return string(quoted) + `"`
}

// Promises 14.1 and 14.2: the examples of the chapter.
func TestExamples(t *testing.T) {
	check(t, "<a@b>,c@d", bare("a@b", "c@d")...)
	check(t, "g:;")
	refused(t, api.ErrAddr, "a@b,")
	refused(t, api.ErrForm, "[")
	check(t, "Ann B <a@b>, g: c@d;", box("Ann B", "a@b"), box("", "c@d"))
	checkPhrase(t, "a b", "a b")
	checkPhrase(t, "a.", `"a."`)
	l, _ := mbx.Read("g h: a@b, X <c@d>; , e@f")
	checkShowAll(t, l, "a@b, X <c@d>, e@f")
}

// Promise 14.1: one mailbox.
func TestMailbox(t *testing.T) {
	for s, want := range map[string]mbx.Box{
		"a@b": box("", "a@b"), "<a@b>": box("", "a@b"), "A.c@B.D": box("", "A.c@b.d"), "<A@B>": box("", "A@b"), `"a b"@c`: box("", "a b@c"), `<"a b".c@d>`: box("", "a b.c@d"), " a @ b ": box("", "a@b"), "(x)<(y)a(z)@b>(w)": box("", "a@b"),
		"x <a@b>": box("x", "a@b"), "x<a@b>": box("x", "a@b"), "X y  z <a@b>": box("X y z", "a@b"), "x(c)y<a@b>": box("x y", "a@b"), "é <a@b>": box("é", "a@b"), "\xff <a@b>": box("\xff", "a@b"), "x\r\n y <a@b>": box("x y", "a@b"),
		`"x y" <a@b>`: box("x y", "a@b"), `"x, y:;<>@." <a@b>`: box("x, y:;<>@.", "a@b"), `x "y." z <a@b>`: box("x y. z", "a@b"), `"x""y"<a@b>`: box("x y", "a@b"), `"\"\\" <a@b>`: box(`"\`, "a@b"), `" x  y " <a@b>`: box(" x  y ", "a@b"), "\"x\t\r\n y\" <a@b>": box("x\t y", "a@b"),
		`""<a@b>`: box("", "a@b"), `"" "" <a@b>`: box(" ", "a@b"), `x "" <a@b>`: box("x ", "a@b"), `"" x "" <a@b>`: box(" x ", "a@b"),
	} {
		check(t, s, want)
		checkAgain(t, boxes(want))
	}
	refused(t, api.ErrAddr,
		"", " ", "\t \r\n ", "(x)", " (x) (y (z)) ", "a", "a b", `"a"`, "@", "a@", "@b", "a.b", "a@b@c", "a@b c", "a b@c", "a@b c@d", "a.@b", "a@b_c",
		"<", ">", "<>", "<a>", "< >", "x <>", "x <a>", "<a@b", "x <a@b", "<a@", "a@b>", "x a@b>", "x >", "<<a@b>", "<<a@b>>", "x <<a@b>", "<a@b><", "<a@b<", "<a@b<c@d>", "<a@b<c@d>>", "><", ">a@b<",
		"a.b <c@d>", "a@b <c@d>", ". <a@b>", "a. <a@b>", "x. y <a@b>", "x . <a@b>", "@ <a@b>", "x@ <a@b>",
		"<a@b> y", "x <a@b> y", "<a@b>c@d", "<a@b><c@d>", "<a@b>>", "<a@b>(x)y", `<a@b>""`, "<a@b>:", "<a@b>;", "<a@b>.", "<a@b>@", "<@c:a@b>", "<a@b,c@d>", "<a@b:>", "<a@b;>", "x <y <a@b>>")
}

// Promise 14.1: lists of mailboxes.
func TestLists(t *testing.T) {
	check(t, "a@b,c@d,e@f", bare("a@b", "c@d", "e@f")...)
	check(t, "a@b , <c@d> , x <e@f>", box("", "a@b"), box("", "c@d"), box("x", "e@f"))
	check(t, "x <a@b>, a@b, y z <a@b>", box("x", "a@b"), box("", "a@b"), box("y z", "a@b"))
	check(t, "x <a@b>, <c@d>", box("x", "a@b"), box("", "c@d"))
	check(t, "(,)a@b(,),(;)c@d(:)", bare("a@b", "c@d")...)
	refused(t, api.ErrAddr, ",", ",,", ",a@b", "a@b,", "a@b, ", "a@b,(x)", ",<a@b>", "<a@b>,", "a@b,,c@d", "a@b, ,c@d", "<a@b>,,<c@d>", "a@b,c", "c,a@b", "a@b;c@d", "a@b c@d", "<a@b> <c@d>", "a@b<c@d>", "a@b,x", "a@b,x y", "a@b,<", "a@b,>", "a@b,<c@d", "a@b,c@d>", "x,y <a@b>")
}

// Promise 14.1: groups.
func TestGroups(t *testing.T) {
	for _, s := range []string{"g:;", " g : ; ", "g h:;", `"g":;`, `"":;`, `"g:;" h:;`, "é:;", "g:(x);", "g(x):;(y)", "g:;,h:;", "g:; , h:;,i:;"} {
		check(t, s)
	}
	for _, s := range []string{"g:a@b;", "g: <a@b>;", "g h:(x)a@b ; ", "g:;,a@b", "a@b,g:;", "g:;,a@b,h:;", "g:;,h:a@b;", "g:;,h:;,<a@b>"} {
		check(t, s, bare("a@b")...)
	}
	check(t, "g: x <a@b>;", box("x", "a@b"))
	check(t, "g: x y <a@b>, \"z.\" <c@d>;", box("x y", "a@b"), box("z.", "c@d"))
	for _, s := range []string{"g:a@b,c@d;", "g:a@b;,h:c@d;", "a@b,g:c@d;", "g:a@b;,c@d", "g:a@b,<c@d>;", "g:<a@b>,c@d;,h:;", "a@b,g:;,c@d"} {
		check(t, s, bare("a@b", "c@d")...)
	}
	check(t, "x <a@b>, g h: c@d, y <e@f>; , g@h, i: z <j@k>;", box("x", "a@b"), box("", "c@d"), box("y", "e@f"), box("", "g@h"), box("z", "j@k"))
	refused(t, api.ErrAddr,
		":", ";", ":;", ": a@b;", `<a@b>:;`, "g", "g:", "g: ", "g:,", "g:,;", "g:;;", "g:,a@b;", "g:a@b,;", "g:a@b,,c@d;", "g:a@b", "g:a@b,", "g:a@b,c@d", "g:<a@b", "g:<a@b;", "g:<a@b>", "g:<a@b>,;", "g:x;", "g:x,a@b;", "g:a@b c@d;", "g:a@b>;", "g:<a@b>x;", "g:x <;",
		"g::;", "g:h:;;", "g:h:a@b;;", "g:h:;,a@b;", "g:a@b,h:;;", "g:a@b,h:c@d;;", "g:h:;", "g:a@b:;", "g:x<a@b>:;", "g:<h:a@b>;",
		"a@b;", "<a@b>;", "x <a@b>;", "a@b,c@d;", ";a@b", "a@b,;", "g:;a@b", "g:; x", "g:;x<a@b>", "g:;<a@b>", "g:;>", "g:;:", "g:;h:;", "g:;,", "g:;,,h:;", "g:;,x", "g:;.", "g:;,;", ",g:;",
		"g.h:;", "g.:;", ".:;", "g@h:;", "g@h: a@b;", "@:;", "a@b:c@d;", "g. h: a@b;")
}

// Promise 14.1: of several errors the first is told, and that of Scan before
// all others.
func TestFirstError(t *testing.T) {
	refused(t, api.ErrLong, long, "<"+long+">", "x <"+long+">", "g:"+long+";", "g:x<"+long+">;", "a@b,"+long, "g:;,"+long, "g:a@b,"+long, "g:a@b;,"+long)
	refused(t, api.ErrLong, long+",", long+",,", long+">", long+":", long+";", long+"<a@b>", "<"+long, "<"+long+"<", "<"+long+",", "<"+long+"> x", "g:"+long, "g:"+long+":;", "g:"+long+",;", long+",a", long+","+times(200, "a@b"))
	refused(t, api.ErrAddr, ","+long, "a,"+long, "a@b,,"+long, "a@b;"+long, "<a@b "+long+">", "<a@b>"+long, "<a@b>x,"+long, "x "+long, "g:h:"+long+";", "g:;"+long, ":"+long, "a.b<"+long+">", "<<"+long+">", "a@b "+long, "g.:"+long, ";,"+long, ">"+long)
	// What the addresses would be is not told before what stands between them.
	refused(t, api.ErrAddr, "a@b>,"+long, "a@b<"+long, "<a@b,"+long, "<a@b:"+long, "g:a@b:"+long)
	for _, rest := range []string{"", "a@b", ",", long, "<" + long + ">", times(101, "a@b"), "x:;;"} {
		refused(t, api.ErrShort, rest+"(", rest+`"`, rest+"(x", rest+`"\`)
		refused(t, api.ErrForm, rest+")", rest+"[", rest+"\\", rest+"\x00", rest+"(\x7f", rest+"\n")
		refused(t, api.ErrRange, rest+strings.Repeat("(", 17), rest+strings.Repeat("(", 17)+"\x00")
		refused(t, api.ErrForm, "]"+rest, "]"+rest+"(", ")"+rest+strings.Repeat("(", 17))
	}
}

// Promise 14.1: 100 boxes, and the 101st, which is told when its address has
// been read.
func TestFull(t *testing.T) {
	full := times(100, "a@b")
	hundred := slices.Repeat(bare("a@b"), 100)
	for _, s := range []string{full, times(100, "<a@b>"), "g:" + full + ";", times(100, "g:a@b;"), times(50, "a@b,g:<a@b>;"), "g:" + times(99, "a@b") + ";,a@b", times(50, "g:a@b,a@b;"), times(99, "a@b") + ",g:a@b;", full + ",g:;", full + "," + times(200, "g:;"), "g:;," + full, times(99, "a@b,g:;") + ",a@b"} {
		check(t, s, hundred...)
	}
	check(t, times(100, "x y <a@b>"), slices.Repeat(boxes(box("x y", "a@b")), 100)...)
	check(t, times(1000, "g:;"))
	for _, start := range []string{full + ",", times(100, "x <a@b>") + ",", "g:" + full + ";,", "g:" + full + ",", full + ",g:", full + ",g:;,", times(100, "g:a@b;") + ",", times(50, "a@b,g:<a@b>;") + ",g:;,h:"} {
		for _, s := range []string{"a@b", "<a@b>", "x <a@b>", "a@b;", "c@d,a@b", times(1000, "a@b"), "a@b,", "a@b>", "a@b:", "a@b<", "<a@b", "<a@b<", "<a@b> y", "x y<a@b,", "a@b," + long, "<a@b," + long, "a@b,a", "a@b;;"} {
			refused(t, api.ErrFull, start+s)
		}
		for _, s := range []string{"", ",", "a", "a@", "a b", "<", "<>", "<a>", "x <", "x", "x y <a>", ":", "a.b <c@d>", "a@b c@d", ",a@b", "<<a@b>", ":a@b", ".:a@b"} {
			refused(t, api.ErrAddr, start+s)
		}
		refused(t, api.ErrLong, start+long, start+"<"+long, start+"x <"+long+">", start+long+",a@b")
		refused(t, api.ErrShort, start+"a@b(", start+`a@b,"`)
	}
	refused(t, api.ErrAddr, full+";", full+">,c@d", full+"<c@d>", full+":c@d;", full+" c@d", "g:"+full+":c@d;", "g:"+full+";c@d")
	refused(t, api.ErrAddr, full+",g:h:c@d;;")
}

// Promise 14.1: one box, and one in a group.
func TestOne(t *testing.T) {
	for s, want := range map[string]mbx.Box{"a@b": box("", "a@b"), "x <A@B>": box("x", "A@b"), "g: x y <a@b>;": box("x y", "a@b"), "g:;, a@b, h:;": box("", "a@b")} {
		b, code := mbx.One(s)
		if code != api.OK || b != want {
			t.Errorf("One(%q) = %q; %d", s, b, int(code))
		}
		if b.Text() != b.Addr.Text() || b.Key() != b.Addr.Key() || !b.Right() || b.Local != b.Addr.Local || b.Domain != b.Addr.Domain {
			t.Errorf("%q lacks what its address has", b)
		}
	}
	for s, want := range map[string]api.Code{
		"g:;": api.ErrAddr, "a@b,c@d": api.ErrAddr, "a@b,a@b": api.ErrAddr, "g:a@b,c@d;": api.ErrAddr, times(100, "a@b"): api.ErrAddr, times(101, "a@b"): api.ErrFull, long: api.ErrLong, "a@b," + long: api.ErrLong, "": api.ErrAddr, "a": api.ErrAddr, "(": api.ErrShort, "[": api.ErrForm, strings.Repeat("(", 17): api.ErrRange,
	} {
		if b, code := mbx.One(s); code != want || b != (mbx.Box{}) {
			t.Errorf("One(%.100q) = %q; %d; want %d", s, b, int(code), int(want))
		}
	}
}

// Promise 14.1: all short texts of telling bytes, and all short rows of telling
// parts, held against the model.
func TestReadAsPromised(t *testing.T) {
	check := func(s string) { checkModel(t, s) }
	eachString("a@,;:<>", 6, check)
	eachString("a@,:;<> .\"(\\\xe9", 4, check)
	eachRow([]string{"a", `""`, "a@b", ",", ";", ":", "<", ">", long}, 5, check)
	eachRow([]string{"a@b", ",", "g:", ";", "x <c@d>"}, 7, check)
	eachString("a@,;:<>.\"", 3, func(s string) {
		check("a@b" + s)
		check("x<a@b>" + s)
		check("x<" + s)
		check("x<" + s + ">")
		check("g:" + s + ";")
		check("g:a@b," + s)
		check(s + "<a@b>")
		check(s + ":;")
	})
	for _, s := range []string{`x "y" <a.b@c>, g: d@e, "z" <f@g>; , h@i`, `"":<a@b>;,<c@d>`} {
		for at := range len(s) + 1 {
			for b := range 256 {
				check(s[:at] + string([]byte{byte(b)}) + s[at:])
			}
		}
	}
}

// Promise 14.1: the lists among all short rows of parts of which every address
// is good, by the definitions as a pattern.
func TestListsAsDefined(t *testing.T) {
	mailbox := `(a@b |(x )*< a@b > )`
	group := `(x )+: (` + mailbox + `(, ` + mailbox + `)*)?; `
	list := regexp.MustCompile(`^(` + mailbox + `|` + group + `)(, (` + mailbox + `|` + group + `))*$`)
	eachRow([]string{"a@b", "<", ">", ",", ":", ";", "x"}, 6, func(s string) {
		want := api.ErrAddr
		if list.MatchString(s) {
			want = api.OK
		}
		if l, code := mbx.Read(s); code != want || code == api.OK && len(l) != strings.Count(s, "@") {
			t.Errorf("Read(%q) = %q; %d; want %d", s, l, int(code), int(want))
		}
	})
}

// Promises 14.1 and 14.3: long texts from a fixed seed, held against the model.
func TestLongListsAsPromised(t *testing.T) {
	random := rand.New(rand.NewSource(14))
	names := []string{"", "x ", "X y ", `"" `, `"x  y" `, `"\"\\" `, "(c) é ", `x "." `}
	addresses := []string{"a@b", "A.b@C.d", `"a b"@c`, `"\"@"@c`, "a@b(c)"}
	mailbox := func() string {
		a := addresses[random.Intn(len(addresses))]
		if random.Intn(2) == 0 {
			return a
		}
		return names[random.Intn(len(names))] + "<" + a + ">"
	}
	mailboxes := func(n int) string {
		var l []string
		for range n {
			l = append(l, mailbox())
		}
		return strings.Join(l, ", ")
	}
	for range 3000 {
		var l []string
		for range 1 + random.Intn(20) {
			if random.Intn(3) == 0 {
				l = append(l, "g h:"+mailboxes(random.Intn(20))+";")
			} else {
				l = append(l, mailbox())
			}
		}
		s := strings.Join(l, " ,")
		checkModel(t, s)
		at, to := random.Intn(len(s)), random.Intn(len(s))
		checkModel(t, s[:at]+s[at+1:])
		checkModel(t, s[:at]+s[to:to+1]+s[at:])
	}
}

// Promise 14.2: Phrase.
func TestPhrase(t *testing.T) {
	for _, s := range []string{"a", "A", "0", "ab c", "a b c d", "!#$%&'*+-/=?^_`{|}~", "é", "\x80 \xff", "a-b c'd"} {
		checkPhrase(t, s, s)
	}
	for s, want := range map[string]string{
		"": `""`, " ": `" "`, "  ": `"  "`, "a  b": `"a  b"`, " a": `" a"`, "a ": `"a "`, " a b": `" a b"`, "a b ": `"a b "`, "a   b": `"a   b"`, "\t": "\"\t\"", "a\tb": "\"a\tb\"", "a \tb": "\"a \tb\"", "a b\t": "\"a b\t\"",
		`"`: `"\""`, `\`: `"\\"`, `a "b"`: `"a \"b\""`, `a\b`: `"a\\b"`, "é.": `"é."`, "\xff ": "\"\xff \"", "é  é": `"é  é"`,
		"a.": `"a."`, "a.b": `"a.b"`, "a, b": `"a, b"`, "a@b": `"a@b"`, "<a>": `"<a>"`, "a:": `"a:"`, "a;": `"a;"`, "(a)": `"(a)"`, "[a]": `"[a]"`, "a b.": `"a b."`, "a. b": `"a. b"`, "a b. c": `"a b. c"`,
		"a\x00b": `"a b"`, "a\r\nb": `"a  b"`, "\x7f": `" "`, "a\x1f": `"a "`,
	} {
		checkPhrase(t, s, want)
	}
	check := func(s string) { checkPhrase(t, s, modelPhrase(s)) }
	eachString("a \t.\"\\\xe9\x7f", 6, check)
	for b := range 256 {
		for c := range 256 {
			check(string([]byte{byte(b), byte(c)}))
		}
		check("a " + string([]byte{byte(b)}) + " c")
	}
	words := strings.Repeat("ab ", 100000) + "c"
	checkPhrase(t, words, words)
	checkPhrase(t, words+" ", `"`+words+` "`)
}

// Promise 14.2: Show and ShowAll, of boxes that are valid and of others.
func TestShow(t *testing.T) {
	for _, c := range []struct {
		b    mbx.Box
		want string
	}{
		{box("", "a@b"), "a@b"}, {box("", "a b@c"), `"a b"@c`}, {box("", "A.b@c.d"), "A.b@c.d"}, {box("x", "a@b"), "x <a@b>"}, {box("X y", "a b@c"), `X y <"a b"@c>`}, {box("x  y", "a@b"), `"x  y" <a@b>`}, {box(" ", "a@b"), `" " <a@b>`}, {box(`"\`, "a@b"), `"\"\\" <a@b>`}, {box("x.", "a@b"), `"x." <a@b>`}, {box("é", "a@b"), "é <a@b>"}, {box("x\ty", "a@b"), "\"x\ty\" <a@b>"}, {box("<a@b>", "a@b"), `"<a@b>" <a@b>`},
		{mbx.Box{}, `""@`}, {box("x", ""), `x <""@>`}, {box("\x00", "a@B"), `" " <a@B>`}, {box("x", "a\r\n@b c"), `x <"a  "@b c>`}, {box("", "é@-"), "é@-"},
	} {
		checkShow(t, c.b, c.want)
		checkShowAll(t, boxes(c.b), c.want)
		checkShowAll(t, boxes(c.b, c.b), c.want+", "+c.want)
	}
	checkShowAll(t, nil, "")
	checkShowAll(t, boxes(), "")
	checkShowAll(t, bare("a@b", "c@d", "e@f"), "a@b, c@d, e@f")
	checkShowAll(t, boxes(box("x", "e@f"), box("", "a@b"), box("y,", "c d@d"), box("", "a@b")), `x <e@f>, a@b, "y," <"c d"@d>, a@b`)
	checkShowAll(t, slices.Repeat(bare("a@b"), 1000), strings.ReplaceAll(times(1000, "a@b"), ",", ", "))
}

// Promise 14.3: boxes with any name that a phrase has, shown and read again.
func TestRoundTrip(t *testing.T) {
	eachString("a \t.\"\\\xe9,<", 5, func(name string) {
		b := box(name, "a b@c.d")
		checkCode(t, mbx.Show(b), boxes(b), api.OK)
	})
	eachString("a@\"\\. ", 4, func(local string) {
		a := addr.Addr{Local: local, Domain: "b"}
		if a.Right() {
			checkAgain(t, []mbx.Box{{Addr: a}, {Name: "x", Addr: a}, {Name: local, Addr: a}})
		}
	})
	checkAgain(t, slices.Repeat(boxes(box(`"`, "a@b"), box("", "c d@e")), 50))
}

// Rule R4: ShowAll neither changes its boxes nor reads beyond them, and what
// Read returns is new each time.
func TestMemory(t *testing.T) {
	want := boxes(box("x", "a@b"), box("y.", "c@d"), box("", "e@f"))
	given := slices.Clone(want)
	checkShowAll(t, given[:2], `x <a@b>, "y." <c@d>`)
	if !slices.Equal(given, want) {
		t.Errorf("ShowAll changed its argument: %q", given)
	}
	one, _ := mbx.Read("a@b,c@d")
	two, _ := mbx.Read("a@b,c@d")
	one[0] = box("z", "y@x")
	_ = append(one[:1], box("z", "y@x"))
	if !slices.Equal(two, bare("a@b", "c@d")) {
		t.Errorf("Read returned boxes that are shared: %q", two)
	}
}

// P1: long texts.
func TestLong(t *testing.T) {
	words := strings.Repeat("ab ", 100000)
	check(t, words+"<a@b>", box(strings.TrimSpace(words), "a@b"))
	check(t, words+":a@b;", bare("a@b")...)
	check(t, times(100000, "g:;")+",a@b", bare("a@b")...)
	refused(t, api.ErrAddr, words, words+"@b", strings.Repeat("<", 100000), strings.Repeat(",", 100000), strings.Repeat("g:", 100000), times(100000, "g:;")+",")
	refused(t, api.ErrLong, strings.Repeat("a.", 100000)+"a@b", "a@"+strings.Repeat("a.", 100000)+"b")
	refused(t, api.ErrFull, times(100000, "a@b"))
}
