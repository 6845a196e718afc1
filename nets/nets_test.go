package nets_test

import (
	"math"
	"regexp"
	"slices"
	"strconv"
	"strings"
	"testing"

	"bulletin/api"
	"bulletin/nets"
)

// anyBytes is a string with every byte once, so also bytes that are no text.
func anyBytes() string {
	b := make([]byte, 256)
	for i := range b {
		b[i] = byte(i)
	}
	return string(b)
}

// samples are strings that could confuse a decoder.
func samples() []string {
	return []string{
		"", "a", "hi", ":", ",", ":,", "0:,", "1:a,", "2:hi,", "12:", "é", "\x00", "\xff\xfe", "\r\n",
		anyBytes(), strings.Repeat("x", 9), strings.Repeat("x", 10), strings.Repeat(",", 99),
		strings.Repeat("7", 100), strings.Repeat("0:,", 334), strings.Repeat("y", 100000),
	}
}

// eachString calls f for every string over the alphabet of at most n bytes.
func eachString(alphabet string, n int, f func(s string)) {
	f("")
	if n == 0 {
		return
	}
	for i := range len(alphabet) {
		eachString(alphabet, n-1, func(s string) { f(alphabet[i:i+1] + s) })
	}
}

// eachList calls f for every list of at most n of the given strings.
func eachList(of []string, n int, f func(l []string)) {
	f(nil)
	if n == 0 {
		return
	}
	for _, s := range of {
		eachList(of, n-1, func(l []string) { f(append([]string{s}, l...)) })
	}
}

var (
	manyDigits = regexp.MustCompile(`^[0-9]{10}`)
	onlyDigits = regexp.MustCompile(`^[0-9]+$`)
	goodLength = regexp.MustCompile(`^(0|[1-9][0-9]*):`)
)

// modelTake says what promise 1.1 asks of Take, in the order of its sentence.
func modelTake(s string) (text, rest string, c api.Code) {
	if s == "" {
		return "", "", api.ErrShort
	}
	if !strings.Contains("0123456789", s[:1]) {
		return "", "", api.ErrForm
	}
	if manyDigits.MatchString(s) {
		return "", "", api.ErrLong
	}
	if onlyDigits.MatchString(s) {
		return "", "", api.ErrShort
	}
	m := goodLength.FindStringSubmatch(s)
	if m == nil {
		return "", "", api.ErrForm
	}
	n, err := strconv.Atoi(m[1])
	if err != nil {
		panic(err)
	}
	after := s[len(m[0]):]
	if len(after) < n+1 {
		return "", "", api.ErrShort
	}
	if after[n] != ',' {
		return "", "", api.ErrForm
	}
	return after[:n], after[n+1:], api.OK
}

func checkTake(t *testing.T, s, text, rest string, c api.Code) {
	t.Helper()
	if gotText, gotRest, gotC := nets.Take(s); gotText != text || gotRest != rest || gotC != c {
		t.Errorf("Take(%q) = %q, %q, %d; want %q, %q, %d", s, gotText, gotRest, int(gotC), text, rest, int(c))
	}
}

func TestErrorNumbers(t *testing.T) {
	if api.OK != 0 || api.ErrLong != 2 || api.ErrForm != 3 || api.ErrShort != 9 {
		t.Error("the errors of nets have other numbers than the chapter lists")
	}
}

// Promise 1.1: Put.
func TestPut(t *testing.T) {
	for _, c := range []struct{ s, net string }{
		{"hi", "2:hi,"},
		{"", "0:,"},
		{"a", "1:a,"},
		{",", "1:,,"},
		{"2:hi,", "5:2:hi,,"},
		{"123456789", "9:123456789,"},
		{"1234567890", "10:1234567890,"},
		{"é", "2:é,"},
		{"\x00\xff", "2:\x00\xff,"},
		{strings.Repeat("z", 100), "100:" + strings.Repeat("z", 100) + ","},
		{anyBytes(), "256:" + anyBytes() + ","},
	} {
		if net := nets.Put(c.s); net != c.net {
			t.Errorf("Put(%q) = %q; want %q", c.s, net, c.net)
		}
	}
}

// Promise 1.1: Take of nets.
func TestTake(t *testing.T) {
	checkTake(t, "5:hello,a", "hello", "a", api.OK)
	checkTake(t, "5:hello,", "hello", "", api.OK)
	checkTake(t, "0:,", "", "", api.OK)
	checkTake(t, "0:,,", "", ",", api.OK)
	checkTake(t, "0:,0:,", "", "0:,", api.OK)
	checkTake(t, "1:,,", ",", "", api.OK)
	checkTake(t, "2:a,,x", "a,", "x", api.OK)
	checkTake(t, "10:0123456789,9", "0123456789", "9", api.OK)
	checkTake(t, "2:\xff\x00,\x00", "\xff\x00", "\x00", api.OK)
	checkTake(t, "256:"+anyBytes()+",", anyBytes(), "", api.OK)
}

// Promise 1.1: Take of what is no net, at each of its errors.
func TestTakeErrors(t *testing.T) {
	for _, c := range []struct {
		s string
		c api.Code
	}{
		{"", api.ErrShort},
		{"x", api.ErrForm}, {":", api.ErrForm}, {",", api.ErrForm}, {"-1:a,", api.ErrForm}, {"+1:a,", api.ErrForm},
		{" 1:a,", api.ErrForm}, {"/", api.ErrForm}, {"\x00", api.ErrForm}, {"\xb2:aa,", api.ErrForm}, {"٣:abc,", api.ErrForm},
		{"1234567890:", api.ErrLong}, {"1234567890", api.ErrLong}, {"0000000000", api.ErrLong}, {"0000000001:a,", api.ErrLong},
		{"1234567890x", api.ErrLong}, {strings.Repeat("9", 1000), api.ErrLong}, {strings.Repeat("9", 40) + ":a,", api.ErrLong},
		{"5", api.ErrShort}, {"0", api.ErrShort}, {"05", api.ErrShort}, {"00", api.ErrShort}, {"123456789", api.ErrShort}, {"000000000", api.ErrShort},
		{"5x", api.ErrForm}, {"5,", api.ErrForm}, {"5 :hello,", api.ErrForm}, {"5;hello,", api.ErrForm}, {"123456789x", api.ErrForm}, {"5/", api.ErrForm},
		{"05:hello,", api.ErrForm}, {"00:,", api.ErrForm}, {"01:", api.ErrForm}, {"05x", api.ErrForm}, {"000000001:a,", api.ErrForm},
		{"5:", api.ErrShort}, {"5:hell", api.ErrShort}, {"5:hello", api.ErrShort}, {"0:", api.ErrShort}, {"1:,", api.ErrShort},
		{"5:hel,", api.ErrShort}, {"999999999:", api.ErrShort}, {"999999999:a,", api.ErrShort}, {"2147483:a,", api.ErrShort},
		{"5:hello;", api.ErrForm}, {"0:a", api.ErrForm}, {"5:hello!,", api.ErrForm}, {"0::", api.ErrForm}, {"1:a;,", api.ErrForm},
	} {
		checkTake(t, c.s, "", "", c.c)
	}
}

// Promise 1.1 against its own words, for every short string that could be near a net.
func TestTakeAsPromised(t *testing.T) {
	eachString("0129:,a", 6, func(s string) {
		text, rest, c := modelTake(s)
		checkTake(t, s, text, rest, c)
	})
	for n := range 14 {
		eachString("0:,a", 3, func(s string) {
			for _, first := range []string{"0", "1", "9"} {
				s := strings.Repeat(first, n) + s
				text, rest, c := modelTake(s)
				checkTake(t, s, text, rest, c)
			}
		})
	}
}

// Promise 1.1: only the ten digits, the colon and the comma mean something.
func TestTakeEveryByte(t *testing.T) {
	for b := range 256 {
		x := string([]byte{byte(b)})
		for _, s := range []string{x, x + ":a,", "1" + x, "1" + x + "a,", "1" + x + ":a,", "1:" + x + ",", "1:a" + x, "1:a," + x, "0:" + x} {
			text, rest, c := modelTake(s)
			checkTake(t, s, text, rest, c)
		}
	}
}

// Promise 1.2: Row.
func TestRow(t *testing.T) {
	for _, c := range []struct {
		l   []string
		row string
	}{
		{nil, ""},
		{[]string{}, ""},
		{[]string{""}, "0:,"},
		{[]string{"", ""}, "0:,0:,"},
		{[]string{"a", "bc"}, "1:a,2:bc,"},
		{[]string{"a", ":,"}, "1:a,2::,,"},
		{[]string{"bc", "a"}, "2:bc,1:a,"},
		{[]string{"1:a,"}, "4:1:a,,"},
		{[]string{"0123456789", "\xff"}, "10:0123456789,1:\xff,"},
	} {
		if row := nets.Row(c.l...); row != c.row {
			t.Errorf("Row(%q) = %q; want %q", c.l, row, c.row)
		}
	}
	if nets.Row() != "" || nets.Row("a", ":,") != "1:a,2::,," {
		t.Error("Row of strings passed one by one")
	}
}

// Promise 1.2: Texts of rows.
func TestTexts(t *testing.T) {
	for _, c := range []struct {
		s string
		l []string
	}{
		{"", nil},
		{"0:,", []string{""}},
		{"1:a,0:,2:,,,", []string{"a", "", ",,"}},
		{"0:,0:,0:,", []string{"", "", ""}},
		{"6:1:a,x,,1:b,", []string{"1:a,x,", "b"}},
		{"10:0123456789,1:\xff,", []string{"0123456789", "\xff"}},
	} {
		if l, e := nets.Texts(c.s); e != api.OK || !slices.Equal(l, c.l) {
			t.Errorf("Texts(%q) = %q, %d; want %q, 0", c.s, l, int(e), c.l)
		}
	}
}

// Promise 1.2: Texts returns the error of the first Take that fails, and no strings.
func TestTextsErrors(t *testing.T) {
	for _, before := range []string{"", "1:a,", "0:,", "1:a,0:,2:,,,"} {
		for _, c := range []struct {
			s string
			c api.Code
		}{
			{"x", api.ErrForm}, {",", api.ErrForm}, {"5", api.ErrShort}, {"5:hell", api.ErrShort}, {"5:hello;", api.ErrForm},
			{"01:a,", api.ErrForm}, {"1234567890:", api.ErrLong}, {"x1234567890:", api.ErrForm}, {"5;", api.ErrForm},
			{"1:ax1234567890:", api.ErrForm}, {"1234567890:x", api.ErrLong}, {"\r\n", api.ErrForm},
		} {
			s := before + c.s
			if l, e := nets.Texts(s); e != c.c || len(l) != 0 {
				t.Errorf("Texts(%q) = %q, %d; want no strings, %d", s, l, int(e), int(c.c))
			}
		}
	}
}

// Promise 1.2: Texts is Take, applied repeatedly.
func TestTextsIsTakeRepeated(t *testing.T) {
	eachString("0123:,", 6, func(s string) {
		var want []string
		wantC := api.OK
		for at := s; at != "" && wantC == api.OK; {
			var text string
			text, at, wantC = modelTake(at)
			want = append(want, text)
		}
		if wantC != api.OK {
			want = nil
		}
		l, c := nets.Texts(s)
		if c != wantC || !slices.Equal(l, want) {
			t.Errorf("Texts(%q) = %q, %d; want %q, %d", s, l, int(c), want, int(wantC))
		}
		if c == api.OK && nets.Row(l...) != s {
			t.Errorf("the row of %q is not %q", l, s)
		}
	})
}

// Promise 1.2: Pick asks for the number of strings, after Texts.
func TestPick(t *testing.T) {
	for _, c := range []struct {
		s string
		n int
		l []string
		c api.Code
	}{
		{"1:a,1:b,", 2, []string{"a", "b"}, api.OK},
		{"", 0, nil, api.OK},
		{"0:,", 1, []string{""}, api.OK},
		{"1:a,1:b,", 3, nil, api.ErrForm},
		{"1:a,1:b,", 1, nil, api.ErrForm},
		{"1:a,1:b,", 0, nil, api.ErrForm},
		{"1:a,1:b,", -2, nil, api.ErrForm},
		{"", 1, nil, api.ErrForm},
		{"", -1, nil, api.ErrForm},
		{"", math.MinInt, nil, api.ErrForm},
		{"0:,", math.MaxInt, nil, api.ErrForm},
		{"1:a,5:b", 2, nil, api.ErrShort},
		{"1:a,5:b", 1, nil, api.ErrShort},
		{"1:a,1:b,1", 2, nil, api.ErrShort},
		{"1234567890:", 0, nil, api.ErrLong},
		{"1:a,1234567890:", 7, nil, api.ErrLong},
		{"1:a,x", 1, nil, api.ErrForm},
		{"x", 0, nil, api.ErrForm},
	} {
		if l, e := nets.Pick(c.s, c.n); e != c.c || !slices.Equal(l, c.l) {
			t.Errorf("Pick(%q, %d) = %q, %d; want %q, %d", c.s, c.n, l, int(e), c.l, int(c.c))
		}
	}
}

// Promise 1.3: Take inverts Put, whatever follows.
func TestTakeInvertsPut(t *testing.T) {
	for _, s := range samples() {
		for _, rest := range samples() {
			if text, after, c := nets.Take(nets.Put(s) + rest); text != s || after != rest || c != api.OK {
				t.Errorf("Take(Put(%.40q) + %.40q) = %.40q, %.40q, %d", s, rest, text, after, int(c))
			}
		}
	}
	for n := range 1200 {
		checkTake(t, nets.Put(strings.Repeat("k", n))+"1:k,", strings.Repeat("k", n), "1:k,", api.OK)
	}
}

// Promise 1.3: a string that was taken is put as the same bytes.
func TestPutInvertsTake(t *testing.T) {
	taken := 0
	eachString("0123:,", 6, func(s string) {
		text, rest, c := nets.Take(s)
		if c != api.OK {
			return
		}
		taken++
		if nets.Put(text)+rest != s {
			t.Errorf("Take(%q) = %q, %q, which is put as other bytes", s, text, rest)
		}
	})
	if taken == 0 {
		t.Error("nothing was taken")
	}
}

// Promise 1.3: Texts and Pick invert Row.
func TestTextsInvertsRow(t *testing.T) {
	for n := range len(samples()) + 1 {
		l := samples()[:n]
		row := nets.Row(l...)
		if got, c := nets.Texts(row); c != api.OK || !slices.Equal(got, l) {
			t.Errorf("Texts does not invert Row on %d strings: %d", n, int(c))
		}
		if got, c := nets.Pick(row, n); c != api.OK || !slices.Equal(got, l) {
			t.Errorf("Pick does not invert Row on %d strings: %d", n, int(c))
		}
	}
}

// Promise 1.3: a row is a prefix of another only if that continues it by complete nets.
func TestRowsAsPrefixes(t *testing.T) {
	var lists [][]string
	eachList([]string{"", "a", ",", "0:,", "1:a,", "10:"}, 3, func(l []string) { lists = append(lists, l) })
	for _, a := range lists {
		for _, b := range lists {
			continues := len(a) <= len(b) && slices.Equal(a, b[:min(len(a), len(b))])
			if strings.HasPrefix(nets.Row(b...), nets.Row(a...)) != continues {
				t.Errorf("the rows of %q and %q: prefix is not %v", a, b, continues)
			}
		}
	}
}

// Promise 1.3: a row that is cut between two nets is a row, and anywhere else it is none.
func TestCutRows(t *testing.T) {
	l := []string{"a", "", "1:b,", "0123456789x", ",,"}
	row := nets.Row(l...)
	whole := map[int]int{}
	for n := range len(l) + 1 {
		whole[len(nets.Row(l[:n]...))] = n
	}
	for at := range len(row) + 1 {
		got, c := nets.Texts(row[:at])
		n, is := whole[at]
		if is && (c != api.OK || !slices.Equal(got, l[:n])) {
			t.Errorf("Texts(%q) = %q, %d", row[:at], got, int(c))
		}
		if !is && (c != api.ErrShort || len(got) != 0) {
			t.Errorf("Texts(%q) = %q, %d; want ErrShort", row[:at], got, int(c))
		}
	}
}

// Rule R4: the list passed to Row is not changed, nor its spare capacity.
func TestRowLeavesItsArguments(t *testing.T) {
	all := []string{"a", "b", "c", "d"}
	if row := nets.Row(all[1:3]...); row != "1:b,1:c," {
		t.Errorf("the row is %q", row)
	}
	if !slices.Equal(all, []string{"a", "b", "c", "d"}) {
		t.Errorf("Row changed its arguments to %q", all)
	}
}

// Rules R4 and R7: what one call returned is not touched by the next, nor by its receiver.
func TestResultsAreNewMemory(t *testing.T) {
	const row = "1:a,1:b,1:c,"
	for _, f := range []func() ([]string, api.Code){
		func() ([]string, api.Code) { return nets.Texts(row) },
		func() ([]string, api.Code) { return nets.Pick(row, 3) },
	} {
		first, _ := f()
		second, _ := f()
		for i := range first {
			first[i] = "x"
		}
		first = append(first, "y")
		second = append(second, "z")
		third, c := f()
		if !slices.Equal(second, []string{"a", "b", "c", "z"}) || first[3] != "y" || c != api.OK || !slices.Equal(third, []string{"a", "b", "c"}) {
			t.Errorf("results share memory: %q, %q, %q", first, second, third)
		}
	}
}

// Promise P1: long inputs end soon, whether they are rows or not.
func TestLongInputs(t *testing.T) {
	const n = 200000
	row := strings.Repeat("1:a,", n)
	if l, c := nets.Pick(row, n); c != api.OK || nets.Row(l...) != row {
		t.Errorf("a row of %d strings: %d, error %d", n, len(l), int(c))
	}
	if l, c := nets.Texts(row + "1:a;"); c != api.ErrForm || len(l) != 0 {
		t.Errorf("a row of %d strings with a bad end: %d, error %d", n, len(l), int(c))
	}
	long := strings.Repeat("8", 10000000)
	checkTake(t, long, "", "", api.ErrLong)
	if text, rest, c := nets.Take(nets.Put(long) + long); text != long || rest != long || c != api.OK {
		t.Errorf("a string of %d bytes: error %d", len(long), int(c))
	}
}
