package glyph_test

import (
	"fmt"
	"math"
	"slices"
	"strings"
	"testing"
	"unicode/utf8"

	"bulletin/glyph"
)

// bad is the number that the model has for an invalid rune.
const bad = -1

// piece is one rune of a string, and the bytes that it has there.
type piece struct {
	r    int
	text string
}

// pieces are the runes of s by the definition, worked out without the library.
func pieces(s string) []piece {
	var l []piece
	for s != "" {
		p := piece{bad, s[:1]}
		for size := 1; size <= 4 && size <= len(s); size++ {
			if r, is := number(s[:size]); is {
				p = piece{r, s[:size]}
			}
		}
		l = append(l, p)
		s = s[len(p.text):]
	}
	return l
}

// number is the rune of which s is the valid encoding, if it is one.
func number(s string) (int, bool) {
	least := [5]int{0, 0, 0x80, 0x800, 0x10000}[len(s)]
	r := int(s[0])
	if len(s) > 1 {
		mark := [5]int{0, 0, 0xc0, 0xe0, 0xf0}[len(s)]
		if r < mark || r >= mark+1<<(7-len(s)) {
			return 0, false
		}
		r -= mark
		for _, b := range []byte(s[1:]) {
			if b < 0x80 || b > 0xbf {
				return 0, false
			}
			r = r<<6 + int(b) - 0x80
		}
	} else if r > 0x7f {
		return 0, false
	}
	return r, r >= least && r <= 0x10ffff && (r < 0xd800 || r > 0xdfff)
}

func modelValid(s string) bool {
	return !slices.ContainsFunc(pieces(s), func(p piece) bool { return p.r == bad })
}

func modelClip(s string, n int) string {
	var clipped string
	for i, p := range pieces(s) {
		if i < n {
			clipped += p.text
		}
	}
	return clipped
}

func modelFold(s string) string {
	b := []byte(s)
	for i := range b {
		if at := strings.IndexByte("ABCDEFGHIJKLMNOPQRSTUVWXYZ", b[i]); at >= 0 {
			b[i] = "abcdefghijklmnopqrstuvwxyz"[at]
		}
	}
	return string(b)
}

func modelClean(s string) string {
	var clean strings.Builder
	for _, p := range pieces(s) {
		switch {
		case p.r == bad:
			clean.WriteString("\xef\xbf\xbd")
		case p.r < 32, p.r >= 127 && p.r <= 159:
			clean.WriteString(" ")
		default:
			clean.WriteString(p.text)
		}
	}
	return clean.String()
}

func modelSpell(s string) string {
	var spelt strings.Builder
	for _, p := range pieces(s) {
		switch {
		case p.r == bad:
			spelt.WriteString("{bad}")
		case p.r >= 32 && p.r <= 126 && p.r != '{':
			spelt.WriteString(p.text)
		default:
			fmt.Fprintf(&spelt, "{%x}", p.r)
		}
	}
	return spelt.String()
}

func modelPlain(s string) bool {
	for i := range len(s) {
		if s[i] < 32 || s[i] > 126 {
			return false
		}
	}
	return true
}

func modelWords(s string) []string {
	for _, blank := range []string{"\t", "\r", "\n"} {
		s = strings.ReplaceAll(s, blank, " ")
	}
	return slices.DeleteFunc(strings.Split(s, " "), func(word string) bool { return word == "" })
}

// anyBytes is a string with every byte once, so also bytes that are no text.
func anyBytes() string {
	b := make([]byte, 256)
	for i := range b {
		b[i] = byte(i)
	}
	return string(b)
}

// edgeBytes are the bytes at the edges of what the parts of an encoding may be, and of what the calls tell apart.
const edgeBytes = "\x00\t A{\x7f\x80\x8f\x90\x9f\xa0\xbf\xc0\xc1\xc2\xdf\xe0\xed\xef\xf0\xf4\xf5\xff"

// edgeRunes are the runes at the edges of every range that the chapter names.
func edgeRunes() []rune {
	var l []rune
	for _, r := range []rune{0, 9, 10, 13, 32, 'A', 'Z', 'a', 'z', '{', 126, 127, 159, 160, 0x7ff, 0x85, 0xe9, 0x130, 0x17f, 0x2028, 0x20ac, 0x212a, 0x3000, 0xd7ff, 0xe000, 0xfeff, 0xfffd, 0xffff, 0x1f600, utf8.MaxRune} {
		for near := max(r-1, 0); near <= min(r+1, utf8.MaxRune); near++ {
			if utf8.ValidRune(near) {
				l = append(l, near)
			}
		}
	}
	return l
}

// samples are strings of many contents: text, bytes that are none, and edges.
func samples() []string {
	l := []string{
		"", "a", "hello", "aB{", "AZaz[", "a€b", "aé\xff", "\xff\xffa", " a\tbc \r\n", "été à la {7b}", "{bad}", "{", "}", "{}", "{{7b}}",
		"\x00\x7f\u0085", "\u20ac\U0001f600", "\ufffd", "\xef\xbf\xbd\xef\xbf", "\xef\xbf\xbd\xbd", "ÀÉÎ", "İıſK", "\ufeffa",
		"\xe2\x82", "\xe2\x82\xac\xe2\x82", "\xe2a\x82\xac", "\xe2\x82a", "\xf0\x9f\x98", "\xf0\x9f\x98\x80\x80", "\xc3", "\xc3\xc3\xa9",
		"\xc0\x80", "\xc1\xbf", "\xe0\x80\x80", "\xe0\x9f\xbf", "\xf0\x80\x80\x80", "\xf0\x8f\xbf\xbf", "\xfc\x80\x80\x80\x80\x80",
		"\xed\xa0\x80", "\xed\xaf\xbf", "\xed\xb0\x80", "\xed\xbf\xbf", "\xed\xa0\xbd\xed\xb8\x80", "\xf4\x90\x80\x80", "\xf7\xbf\xbf\xbf", "\xfe", "\xff\xfe",
		anyBytes(), anyBytes() + anyBytes()[:77], strings.Repeat("\x55\xaa", 99), string(edgeRunes()),
	}
	for _, r := range edgeRunes() {
		one := string(r)
		l = append(l, one, "a"+one+"Z", one+"\xff"+one, one+one[:len(one)-1])
	}
	for i := range 256 {
		l = append(l, anyBytes()[i:i+1], anyBytes()[i:]+anyBytes()[:i])
	}
	return l
}

// eachString calls f for every string of at most n bytes of the alphabet.
func eachString(alphabet string, n int, f func(s string)) {
	f("")
	if n == 0 {
		return
	}
	for i := range len(alphabet) {
		eachString(alphabet, n-1, func(s string) { f(alphabet[i:i+1] + s) })
	}
}

// eachSample calls f for the samples and for all short strings of bytes at edges.
func eachSample(f func(s string)) {
	for _, s := range samples() {
		f(s)
	}
	eachString(anyBytes(), 2, f)
	eachString(edgeBytes, 4, f)
}

func checkClip(t *testing.T, s string, n int, want string) {
	t.Helper()
	if got := glyph.Clip(s, n); got != want {
		t.Errorf("Clip(%.80q, %d) = %.80q; want %.80q", s, n, got, want)
	}
}

// checkText checks a call that makes a string of a string.
func checkText(t *testing.T, name string, call func(s string) string, s, want string) {
	t.Helper()
	if got := call(s); got != want {
		t.Errorf("%s(%.80q) = %.80q; want %.80q", name, s, got, want)
	}
}

func checkWords(t *testing.T, s string, want []string) {
	t.Helper()
	if got := glyph.Words(s); !slices.Equal(got, want) {
		t.Errorf("Words(%.80q) = %.80q; want %.80q", s, got, want)
	}
}

// Promise 6.1: Valid and Count, by what counts as a rune.
func TestRunes(t *testing.T) {
	for _, c := range []struct {
		s     string
		n     int
		valid bool
	}{
		{"", 0, true}, {"a", 1, true}, {"\x00", 1, true}, {"\x7f", 1, true}, {"hello\r\n", 7, true}, {"é", 1, true}, {"a€b", 3, true}, {"€\U0001f600", 2, true},
		{"\x80", 1, false}, {"\xbf", 1, false}, {"\xff", 1, false}, {"\xe2\x82", 2, false}, {"\xe2", 1, false}, {"\xe2\x82\xac", 1, true}, {"\xe2\x82\xac\x82", 2, false},
		{"\xe2\x82a", 3, false}, {"\xf0\x9f\x98", 3, false}, {"\xf0\x9f\x98\x80", 1, true}, {"\xc3\xc3\xa9", 2, false}, {"é\xc3", 2, false}, {"aé\xff", 3, false},
		// Only the shortest form is valid.
		{"\xc0\x80", 2, false}, {"\xc1\xbf", 2, false}, {"\xc2\x80", 1, true}, {"\xdf\xbf", 1, true}, {"\xe0\x80\x80", 3, false}, {"\xe0\x9f\xbf", 3, false}, {"\xe0\xa0\x80", 1, true},
		{"\xf0\x80\x80\x80", 4, false}, {"\xf0\x8f\xbf\xbf", 4, false}, {"\xf0\x90\x80\x80", 1, true},
		// D800 to DFFF are no runes, nor is anything above 10FFFF.
		{"\xed\x9f\xbf", 1, true}, {"\xed\xa0\x80", 3, false}, {"\xed\xbf\xbf", 3, false}, {"\xee\x80\x80", 1, true}, {"\xed\xa0\xbd\xed\xb8\x80", 6, false},
		{"\xf4\x8f\xbf\xbf", 1, true}, {"\xf4\x90\x80\x80", 4, false}, {"\xf5\x80\x80\x80", 4, false}, {"\xf8\x88\x80\x80\x80", 5, false},
		// FFFD itself is a rune like any other.
		{"\ufffd", 1, true}, {"a\ufffd\ufffdb", 4, true}, {"\ufffd\xff", 2, false}, {"\xff\ufffd", 2, false}, {"\xef\xbf", 2, false}, {"\xef\xbf\xef\xbf\xbd", 3, false}, {"\xef\xbf\xbe\xef\xbf\xbf", 2, true},
	} {
		if n := glyph.Count(c.s); n != c.n {
			t.Errorf("Count(%q) = %d; want %d", c.s, n, c.n)
		}
		if valid := glyph.Valid(c.s); valid != c.valid {
			t.Errorf("Valid(%q) = %t", c.s, valid)
		}
	}
}

// Promise 6.1: Valid and Count as defined, and as the library has them.
func TestRunesAsDefined(t *testing.T) {
	eachSample(func(s string) {
		if n := glyph.Count(s); n != len(pieces(s)) || n != utf8.RuneCountInString(s) {
			t.Errorf("Count(%.80q) = %d; want %d", s, n, len(pieces(s)))
		}
		if valid := glyph.Valid(s); valid != modelValid(s) || valid != utf8.ValidString(s) {
			t.Errorf("Valid(%.80q) = %t", s, valid)
		}
	})
}

// Promise 6.1: Clip, also to counts less than 1 and greater than there are runes.
func TestClip(t *testing.T) {
	for _, c := range []struct {
		s    string
		n    int
		want string
	}{
		{"a€b", 2, "a€"}, {"a€b", 1, "a"}, {"a€b", 3, "a€b"}, {"a€b", 4, "a€b"}, {"ab", 9, "ab"}, {"a€b", math.MaxInt, "a€b"},
		{"a€b", 0, ""}, {"ab", -1, ""}, {"ab", -9, ""}, {"ab", math.MinInt, ""}, {"", 0, ""}, {"", 1, ""}, {"", -1, ""}, {"", math.MinInt, ""},
		{"\xff\xffa", 1, "\xff"}, {"\xff\xffa", 2, "\xff\xff"}, {"\xe2\x82", 1, "\xe2"}, {"\xe2\x82\xac", 1, "\xe2\x82\xac"}, {"\xe2\x82a", 2, "\xe2\x82"},
		{"\xf0\x9f\x98\x80b", 1, "\xf0\x9f\x98\x80"}, {"\ufffdb", 1, "\ufffd"}, {"\xed\xa0\x80", 2, "\xed\xa0"}, {"\x00\x00", 1, "\x00"},
	} {
		checkClip(t, c.s, c.n, c.want)
	}
}

// Promises 6.1 and 6.4: Clip as defined, and a clipped string is a prefix.
func TestClipAsDefined(t *testing.T) {
	eachSample(func(s string) {
		runes := glyph.Count(s)
		for n := -2; n <= runes+2; n++ {
			if n == 4 && runes > 40 {
				n = runes - 2
			}
			clipped := glyph.Clip(s, n)
			if want := modelClip(s, n); clipped != want {
				t.Errorf("Clip(%.80q, %d) = %.80q; want %.80q", s, n, clipped, want)
			}
			if !strings.HasPrefix(s, clipped) {
				t.Errorf("Clip(%.80q, %d) = %.80q, which is no prefix", s, n, clipped)
			}
			if got := glyph.Count(clipped); got != max(0, min(n, runes)) {
				t.Errorf("Clip(%.80q, %d) has %d runes", s, n, got)
			}
		}
		checkClip(t, s, math.MaxInt, s)
		checkClip(t, s, math.MinInt, "")
	})
}

// Promise 6.1: Plain, by each byte and each place.
func TestPlain(t *testing.T) {
	for _, c := range []struct {
		s     string
		plain bool
	}{
		{"", true}, {" ~", true}, {" ", true}, {"~", true}, {"hello, {world}", true}, {"\x1f", false}, {"\x7f", false}, {"\x80", false}, {"\xff", false}, {"\x00", false},
		{"é", false}, {"\u0100", false}, {"\u0120", false}, {"\u2020", false}, {"\ufffd", false}, {"a\n", false}, {"\na", false}, {"a\tb", false}, {"ab\xe2", false}, {" ~\x7f", false}, {"\x1f ~", false},
	} {
		if plain := glyph.Plain(c.s); plain != c.plain {
			t.Errorf("Plain(%q) = %t", c.s, plain)
		}
	}
	eachSample(func(s string) {
		if plain := glyph.Plain(s); plain != modelPlain(s) {
			t.Errorf("Plain(%.80q) = %t", s, plain)
		}
	})
}

// Promise 6.2: Fold changes A to Z, and nothing else.
func TestFold(t *testing.T) {
	for _, c := range []struct{ s, want string }{
		{"", ""}, {"AZaz[", "azaz["}, {"@AZ[`az{", "@az[`az{"}, {"HeLLo, World", "hello, world"}, {"ABCDEFGHIJKLMNOPQRSTUVWXYZ", "abcdefghijklmnopqrstuvwxyz"},
		// Runes beyond ASCII have no letters here, even those that have Latin capitals.
		{"É", "É"}, {"AÉZ", "aÉz"}, {"İ", "İ"}, {"\u212a", "\u212a"}, {"\u0141", "\u0141"}, {"Ａ", "Ａ"}, {"ΑΒΓ", "ΑΒΓ"}, {"ẞß", "ẞß"},
		{"\xffA", "\xffa"}, {"A\xff", "a\xff"}, {"\xe2A\x82", "\xe2a\x82"}, {"\xc1", "\xc1"}, {"\xda", "\xda"}, {"\xc0\x81", "\xc0\x81"}, {"\ufffdA", "\ufffda"}, {"\x00A\n", "\x00a\n"},
	} {
		checkText(t, "Fold", glyph.Fold, c.s, c.want)
	}
	eachSample(func(s string) { checkText(t, "Fold", glyph.Fold, s, modelFold(s)) })
}

// Promise 6.2: Clean, at the edges of what it replaces.
func TestClean(t *testing.T) {
	for _, c := range []struct{ s, want string }{
		{"", ""}, {"hello {world}~", "hello {world}~"}, {"\x00\x7f\u0085", "   "}, {"\x1f \x21", "  !"}, {"~\x7f", "~ "}, {"\u0080\u009f\u00a0", "  \u00a0"}, {"a\r\n\tb", "a   b"},
		{"é€\U0001f600", "é€\U0001f600"}, {"\ufffd", "\ufffd"}, {"\u2028\ufeff\u200b\u00ad", "\u2028\ufeff\u200b\u00ad"},
		{"\xff", "\xef\xbf\xbd"}, {"\x80", "\xef\xbf\xbd"}, {"\x85", "\xef\xbf\xbd"}, {"\xe2\x82", "\ufffd\ufffd"}, {"\xed\xa0\x80", "\ufffd\ufffd\ufffd"}, {"\xc0\x80", "\ufffd\ufffd"}, {"\xc2\x80", " "}, {"\xc2\xa0", "\u00a0"}, {"\xc2\x00", "\ufffd "},
		{"a\xffb\x00c", "a\ufffdb c"}, {"\xef\xbf", "\ufffd\ufffd"}, {"\xf4\x90\x80\x80", "\ufffd\ufffd\ufffd\ufffd"},
	} {
		checkText(t, "Clean", glyph.Clean, c.s, c.want)
	}
	eachSample(func(s string) { checkText(t, "Clean", glyph.Clean, s, modelClean(s)) })
}

// Promise 6.2: Spell, at the edges of what it leaves.
func TestSpell(t *testing.T) {
	for _, c := range []struct{ s, want string }{
		{"", ""}, {"aB{", "aB{7b}"}, {"aé\xff", "a{e9}{bad}"}, {" ~", " ~"}, {"\x1f\x7f", "{1f}{7f}"}, {"\x00", "{0}"}, {"\n", "{a}"}, {"\t\r\n", "{9}{d}{a}"}, {"z{|}", "z{7b}|}"}, {"}", "}"}, {"{bad}", "{7b}bad}"},
		{"€\U0001f600", "{20ac}{1f600}"}, {"\u0080\u00a0\u00ff\u0100", "{80}{a0}{ff}{100}"}, {"\uabcd\U000fedcb\U0010ffff", "{abcd}{fedcb}{10ffff}"},
		{"\ufffd", "{fffd}"}, {"\xef\xbf", "{bad}{bad}"}, {"\xff\ufffd\xff", "{bad}{fffd}{bad}"}, {"\xe2\x82", "{bad}{bad}"}, {"\xed\xa0\x80", "{bad}{bad}{bad}"}, {"\xc0\x80", "{bad}{bad}"}, {"\xe2\x82a", "{bad}{bad}a"},
	} {
		checkText(t, "Spell", glyph.Spell, c.s, c.want)
	}
	eachSample(func(s string) { checkText(t, "Spell", glyph.Spell, s, modelSpell(s)) })
}

// Promises 6.1 and 6.2: every rune there is, alone and between others.
func TestEveryRune(t *testing.T) {
	for r := range utf8.MaxRune + 1 {
		if !utf8.ValidRune(r) {
			continue
		}
		one := string(r)
		if !glyph.Valid(one) || glyph.Count(one) != 1 || glyph.Plain(one) != (32 <= r && r <= 126) {
			t.Errorf("%q: Valid %t, Count %d, Plain %t", one, glyph.Valid(one), glyph.Count(one), glyph.Plain(one))
		}
		checkClip(t, "a"+one+"b", 2, "a"+one)
		checkText(t, "Fold", glyph.Fold, one, modelFold(one))
		checkText(t, "Clean", glyph.Clean, one+"b", modelClean(one+"b"))
		checkText(t, "Spell", glyph.Spell, one+"b", modelSpell(one+"b"))
		checkWords(t, "a"+one+"b", modelWords("a"+one+"b"))
	}
}

// Promise 6.2: Spell tells strings apart, so that no two are written alike.
func TestSpellingsDiffer(t *testing.T) {
	seen := map[string][]int{}
	eachSample(func(s string) {
		var runes []int
		for _, p := range pieces(s) {
			runes = append(runes, p.r)
		}
		text := glyph.Spell(s)
		if other, is := seen[text]; is && !slices.Equal(other, runes) {
			t.Errorf("other runes than those of %.80q are spelt %.80q too", s, text)
		}
		seen[text] = runes
		if !glyph.Plain(text) {
			t.Errorf("Spell(%.80q) = %.80q, which is not plain", s, text)
		}
	})
}

// Promise 6.3: Words, by each blank, at the ends and in rows.
func TestWords(t *testing.T) {
	for _, c := range []struct {
		s    string
		want []string
	}{
		{"", nil}, {" ", nil}, {" \t\r\n", nil}, {"a", []string{"a"}}, {" a\tbc \r\n", []string{"a", "bc"}}, {"a b", []string{"a", "b"}}, {"a\tb\rc\nd e", []string{"a", "b", "c", "d", "e"}},
		{"  hello  world  ", []string{"hello", "world"}}, {"b a b a", []string{"b", "a", "b", "a"}}, {"a,b;c", []string{"a,b;c"}},
		// No other byte and no other rune is a blank.
		{"a\vb\fc\x00d\x1fe\x7ff", []string{"a\vb\fc\x00d\x1fe\x7ff"}}, {"a\u00a0b\u0085c\u2003d\u2028e\u3000f\ufefff", []string{"a\u00a0b\u0085c\u2003d\u2028e\u3000f\ufefff"}},
		{"\x85 \xa0", []string{"\x85", "\xa0"}}, {"\xff \xe2\x82\n\xac", []string{"\xff", "\xe2\x82", "\xac"}}, {"é €\U0001f600\t", []string{"é", "€\U0001f600"}}, {" \ufffd ", []string{"\ufffd"}},
	} {
		checkWords(t, c.s, c.want)
	}
	eachSample(func(s string) { checkWords(t, s, modelWords(s)) })
	eachString("a \t\r\n\xe2\x82", 5, func(s string) { checkWords(t, s, modelWords(s)) })
}

// Rule R4: what one call returned is not changed by what is done to another result.
func TestWordsShareNothing(t *testing.T) {
	const text = "one two three four five"
	first := glyph.Words(text)
	second := glyph.Words(text)
	clear(second)
	second = append(second[:0], "x", "y", "z", "x", "y", "z", "x", "y", "z")
	if !slices.Equal(first, []string{"one", "two", "three", "four", "five"}) {
		t.Errorf("after changes to %q the other result is %q", second, first)
	}
}

// Promise 6.4: Clean is idempotent, and its result is valid.
func TestCleanTwice(t *testing.T) {
	eachSample(func(s string) {
		clean := glyph.Clean(s)
		if !glyph.Valid(clean) || !utf8.ValidString(clean) {
			t.Errorf("Clean(%.80q) = %.80q, which is not valid", s, clean)
		}
		if glyph.Count(clean) != glyph.Count(s) {
			t.Errorf("Clean(%.80q) = %.80q, which has another number of runes", s, clean)
		}
		checkText(t, "Clean", glyph.Clean, clean, clean)
	})
}

// Promise 6.4: Fold does not change the number of runes.
func TestFoldCounts(t *testing.T) {
	eachSample(func(s string) {
		if fold := glyph.Fold(s); glyph.Count(fold) != glyph.Count(s) || glyph.Valid(fold) != glyph.Valid(s) {
			t.Errorf("Fold(%.80q) = %.80q, which has other runes", s, fold)
		}
	})
}

// Promise P1 and the bound: long strings end soon, whatever they hold.
func TestLongInputs(t *testing.T) {
	const times = 1 << 20
	for _, part := range []string{"Ab\t{", "é€ ", "\xff \xe2\x82", "\ufffd\x00", " "} {
		long := strings.Repeat(part, times)
		if n := glyph.Count(long); n != times*glyph.Count(part) {
			t.Errorf("Count of %d times %q = %d", times, part, n)
		}
		if glyph.Valid(long) != glyph.Valid(part) || glyph.Plain(long) != glyph.Plain(part) {
			t.Errorf("%d times %q: Valid %t, Plain %t", times, part, glyph.Valid(long), glyph.Plain(long))
		}
		checkClip(t, long, (times-1)*glyph.Count(part), long[len(part):])
		checkText(t, "Fold", glyph.Fold, long, strings.Repeat(glyph.Fold(part), times))
		checkText(t, "Clean", glyph.Clean, long, strings.Repeat(glyph.Clean(part), times))
		checkText(t, "Spell", glyph.Spell, long, strings.Repeat(glyph.Spell(part), times))
		checkWords(t, long, modelWords(long))
	}
}
