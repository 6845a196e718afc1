package cell_test

import (
	"fmt"
	"math"
	"reflect"
	"slices"
	"strings"
	"testing"

	"bulletin/api"
	"bulletin/cell"
	"bulletin/nets"
)

// The kinds, as the document spells them.
const (
	text   = "text"
	number = "number"
	truth  = "truth"
	list   = "list"
)

// value is one value of one kind; the fields of the other kinds are zero.
type value struct {
	kind string
	s    string
	n    int
	is   bool
	l    []string
}

func (v value) String() string {
	return fmt.Sprintf("%s %q %d %v %q", v.kind, v.s, v.n, v.is, v.l)
}

// pair is a value under a name.
type pair struct {
	name string
	value
}

// put stores the value by the function of its kind.
func put(b *cell.Bag, name string, v value) {
	switch v.kind {
	case text:
		b.PutText(name, v.s)
	case number:
		b.PutNum(name, v.n)
	case truth:
		b.PutFlag(name, v.is)
	case list:
		b.PutList(name, v.l)
	}
}

// values are some of each kind: zero values, edges, and values of different kinds that look alike.
func values() []value {
	return []value{
		{kind: text}, {kind: text, s: "s"}, {kind: text, s: "1"}, {kind: text, s: "-70"}, {kind: text, s: "yes"}, {kind: text, s: "no"},
		{kind: text, s: "1:x,"}, {kind: text, s: anyBytes()},
		{kind: number}, {kind: number, n: 1}, {kind: number, n: -1}, {kind: number, n: 5}, {kind: number, n: -70}, {kind: number, n: 1 << 40},
		{kind: number, n: math.MaxInt}, {kind: number, n: math.MinInt},
		{kind: truth, is: true}, {kind: truth},
		{kind: list}, {kind: list, l: []string{""}}, {kind: list, l: []string{"x"}}, {kind: list, l: []string{"x", "y"}},
		{kind: list, l: []string{"y", "x", "x", ",", anyBytes()}},
	}
}

// names are some that a bag could confuse, in bytewise order.
func names() []string {
	return []string{
		"", "\x00", "\n", " ", "0:,", "1", "10", "1:a,", "2", "A", "B", "a", "a\x00", "a ", "aa", "b", "text", "z", "\x7f", "\x80", "é", "\xff", "\xff\xff",
	}
}

// anyBytes is a string with every byte once, so also bytes that are no text.
func anyBytes() string {
	b := make([]byte, 256)
	for i := range b {
		b[i] = byte(i)
	}
	return string(b)
}

// check asks everything that a bag answers under the name, where v is the value there (of no kind if there is none).
func check(t *testing.T, b *cell.Bag, name string, v value) {
	t.Helper()
	code := func(kind string) api.Code {
		switch v.kind {
		case "":
			return api.ErrNone
		case kind:
			return api.OK
		}
		return api.ErrType
	}
	if kind := b.Kind(name); kind != v.kind {
		t.Errorf("Kind(%q) = %q; want that of %v", name, kind, v)
	}
	if s, c := b.Text(name); s != v.s || c != code(text) {
		t.Errorf("Text(%q) = %q, %d; want that of %v", name, s, int(c), v)
	}
	if n, c := b.Num(name); n != v.n || c != code(number) {
		t.Errorf("Num(%q) = %d, %d; want that of %v", name, n, int(c), v)
	}
	if is, c := b.Flag(name); is != v.is || c != code(truth) {
		t.Errorf("Flag(%q) = %v, %d; want that of %v", name, is, int(c), v)
	}
	if l, c := b.List(name); !slices.Equal(l, v.l) || c != code(list) {
		t.Errorf("List(%q) = %q, %d; want that of %v", name, l, int(c), v)
	}
}

// checkAll asks everything that a bag answers, where the pairs are what it has, in bytewise order of the names.
func checkAll(t *testing.T, b *cell.Bag, pairs []pair) {
	t.Helper()
	var want []string
	var shown string
	for _, p := range pairs {
		check(t, b, p.name, p.value)
		want = append(want, p.name)
		shown += showPair(p)
	}
	if got := b.Names(); !slices.Equal(got, want) {
		t.Errorf("Names() = %q; want %q", got, want)
	}
	if got := b.Show(); got != shown {
		t.Errorf("Show() = %q; want %q", got, shown)
	}
}

// showPair is the line of Show for a pair, by the words of promise 7.3.
func showPair(p pair) string {
	v := ""
	switch p.kind {
	case text:
		v = p.s
	case number:
		v = fmt.Sprintf("%d", p.n)
	case truth:
		v = map[bool]string{true: "yes", false: "no"}[p.is]
	case list:
		for _, s := range p.l {
			v += fmt.Sprintf("%d:%s,", len(s), s)
		}
	}
	return fmt.Sprintf("%d:%s,%c%d:%s,\n", len(p.name), p.name, p.kind[0], len(v), v)
}

// withPut returns the pairs of a bag after a put.
func withPut(pairs []pair, name string, v value) []pair {
	all := append(withDrop(pairs, name), pair{name, v})
	slices.SortFunc(all, func(a, b pair) int { return strings.Compare(a.name, b.name) })
	return all
}

// withDrop returns the pairs of a bag after a drop.
func withDrop(pairs []pair, name string) []pair {
	return slices.DeleteFunc(slices.Clone(pairs), func(p pair) bool { return p.name == name })
}

// Promise 7.1: New returns an empty bag, whatever other bags have.
func TestNew(t *testing.T) {
	for range 2 {
		b := cell.New()
		checkAll(t, b, nil)
		for _, name := range names() {
			check(t, b, name, value{})
			if b.Drop(name) {
				t.Errorf("Drop(%q) of an empty bag is true", name)
			}
		}
		for i, name := range names() {
			put(b, name, values()[i%len(values())])
		}
	}
}

// Promise 7.1: bags share nothing.
func TestBagsAreApart(t *testing.T) {
	a, b := cell.New(), cell.New()
	a.PutText("n", "a")
	b.PutNum("n", 1)
	b.PutFlag("m", true)
	checkAll(t, a, []pair{{"n", value{kind: text, s: "a"}}})
	a.Drop("n")
	checkAll(t, a, nil)
	checkAll(t, b, []pair{{"m", value{kind: truth, is: true}}, {"n", value{kind: number, n: 1}}})
}

// Promises 7.1 and 7.2: every value is stored under every name.
func TestPutOnce(t *testing.T) {
	for _, name := range names() {
		for _, v := range values() {
			b := cell.New()
			put(b, name, v)
			checkAll(t, b, []pair{{name, v}})
		}
	}
}

// Promise 7.1: what is put replaces what was there, of its own type or another.
func TestPutTwice(t *testing.T) {
	for _, name := range []string{"", "g"} {
		for _, first := range values() {
			for _, second := range values() {
				b := cell.New()
				put(b, name, first)
				put(b, name, second)
				checkAll(t, b, []pair{{name, second}})
				if !b.Drop(name) || b.Drop(name) {
					t.Errorf("%v, replaced by %v, isn't dropped once", first, second)
				}
				checkAll(t, b, nil)
			}
		}
	}
}

// Promise 7.1: Drop removes the value under that name alone, and tells whether there was one.
func TestDrop(t *testing.T) {
	for _, v := range values() {
		for _, gone := range names() {
			b := cell.New()
			var kept []pair
			for _, name := range names() {
				put(b, name, v)
				if name != gone {
					kept = append(kept, pair{name, v})
				}
			}
			if !b.Drop(gone) {
				t.Errorf("the first Drop(%q) is false", gone)
			}
			if b.Drop(gone) || b.Drop("no such name") {
				t.Errorf("Drop of nothing is true after Drop(%q)", gone)
			}
			check(t, b, gone, value{})
			checkAll(t, b, kept)
			put(b, gone, v)
			check(t, b, gone, v)
		}
	}
}

// Promise 7.1: the examples, and the words of Kind.
func TestKind(t *testing.T) {
	b := cell.New()
	b.PutText("t", "")
	b.PutNum("n", 0)
	b.PutFlag("g", true)
	b.PutFlag("g", false)
	b.PutList("l", nil)
	for _, c := range []struct{ name, kind string }{
		{"t", "text"}, {"n", "number"}, {"g", "truth"}, {"l", "list"}, {"", ""}, {"T", ""}, {"tn", ""}, {"text", ""},
	} {
		if kind := b.Kind(c.name); kind != c.kind {
			t.Errorf("Kind(%q) = %q; want %q", c.name, kind, c.kind)
		}
	}
	if is, c := b.Flag("g"); is || c != api.OK {
		t.Errorf("a flag that was put false again is %v, %d", is, int(c))
	}
}

// Promise 7.2: the examples.
func TestRetrieve(t *testing.T) {
	b := cell.New()
	b.PutNum("n", -70)
	if n, c := b.Num("n"); n != -70 || c != api.OK {
		t.Errorf("Num of -70 = %d, %d", n, int(c))
	}
	if s, c := b.Text("n"); s != "" || c != 70 {
		t.Errorf("Text of a number = %q, %d; want ErrType", s, int(c))
	}
	if is, c := b.Flag("unknown"); is || c != 6 {
		t.Errorf("Flag of an unknown name = %v, %d; want ErrNone", is, int(c))
	}
}

// Promise 7.2: asking changes nothing, also where it's refused.
func TestAskingChangesNothing(t *testing.T) {
	for _, v := range values() {
		b := cell.New()
		put(b, "a", v)
		for range 3 {
			check(t, b, "a", v)
			check(t, b, "", value{})
			check(t, b, "b", value{})
			checkAll(t, b, []pair{{"a", v}})
		}
	}
}

// Promise 7.2: the numbers are told as they were put, to their edges.
func TestNumbers(t *testing.T) {
	b := cell.New()
	for shift := range 64 {
		for _, n := range []int{1 << shift, 1<<shift - 1, -1 << shift, -(1<<shift - 1), 1<<shift + 1} {
			b.PutNum("n", n)
			checkAll(t, b, []pair{{"n", value{kind: number, n: n}}})
		}
	}
}

// Promise 7.3: Names are in bytewise order, however they came.
func TestNames(t *testing.T) {
	want := names()
	if !slices.IsSorted(want) {
		t.Fatal("the test's own names are not in order")
	}
	for step := 1; step < len(want); step++ {
		// The number of names is prime, so that each step goes through all of them.
		b := cell.New()
		for i := range want {
			put(b, want[i*step%len(want)], values()[i%len(values())])
		}
		if got := b.Names(); !slices.Equal(got, want) {
			t.Errorf("Names() = %q; want %q", got, want)
		}
	}
}

// Promise 7.3: many names, put downwards and dropped in part.
func TestManyNames(t *testing.T) {
	const n = 20000
	b := cell.New()
	var want []string
	for i := n - 1; i >= 0; i-- {
		name := fmt.Sprintf("%d", i)
		b.PutNum(name, i)
		if i%3 != 0 {
			want = append(want, name)
		}
	}
	for i := 0; i < n; i += 3 {
		if !b.Drop(fmt.Sprintf("%d", i)) {
			t.Fatalf("Drop(%d) is false", i)
		}
	}
	slices.Sort(want)
	if got := b.Names(); !slices.Equal(got, want) {
		t.Errorf("there are %d names; want %d", len(got), len(want))
	}
	if lines := strings.Count(b.Show(), "\n"); lines != len(want) {
		t.Errorf("Show has %d lines; want %d", lines, len(want))
	}
}

// Promise 7.3: the texts of Show, written out.
func TestShow(t *testing.T) {
	for _, c := range []struct {
		name string
		v    value
		want string
	}{
		{"a", value{kind: number, n: 5}, "1:a,n1:5,\n"},
		{"l", value{kind: list, l: []string{"x", "y"}}, "1:l,l8:1:x,1:y,,\n"},
		{"", value{kind: text}, "0:,t0:,\n"},
		{"", value{kind: number}, "0:,n1:0,\n"},
		{"n", value{kind: number, n: -70}, "1:n,n3:-70,\n"},
		{"n", value{kind: number, n: math.MinInt}, "1:n,n20:-9223372036854775808,\n"},
		{"n", value{kind: number, n: math.MaxInt}, "1:n,n19:9223372036854775807,\n"},
		{"yes", value{kind: truth, is: true}, "3:yes,t3:yes,\n"},
		{"yes", value{kind: truth}, "3:yes,t2:no,\n"},
		{"l", value{kind: list}, "1:l,l0:,\n"},
		{"l", value{kind: list, l: []string{""}}, "1:l,l3:0:,,\n"},
		{"l", value{kind: list, l: []string{"\n", ",", "é"}}, "1:l,l13:1:\n,1:,,2:é,,\n"},
		{"\n", value{kind: text, s: "\r\n,"}, "1:\n,t3:\r\n,,\n"},
		{"é", value{kind: text, s: "\xff\x00"}, "2:é,t2:\xff\x00,\n"},
		{"0123456789", value{kind: text, s: "0123456789"}, "10:0123456789,t10:0123456789,\n"},
	} {
		b := cell.New()
		put(b, c.name, c.v)
		if got := b.Show(); got != c.want {
			t.Errorf("Show of %v under %q = %q; want %q", c.v, c.name, got, c.want)
		}
	}
}

// Promise 7.3: Show has its lines in the order of the names, however they came, and can be taken apart by nets.
func TestShowAll(t *testing.T) {
	all := names()
	for step := 1; step < len(all); step++ {
		b := cell.New()
		var pairs []pair
		for i := range all {
			name, v := all[i*step%len(all)], values()[i%len(values())]
			put(b, name, v)
			pairs = withPut(pairs, name, v)
		}
		checkAll(t, b, pairs)
		rest := b.Show()
		for _, p := range pairs {
			name, after, c := nets.Take(rest)
			if c != api.OK || name != p.name || after[:1] != p.kind[:1] {
				t.Fatalf("the line of %q doesn't begin with its name and kind: %q", p.name, rest)
			}
			if _, rest, c = nets.Take(after[1:]); c != api.OK || rest[:1] != "\n" {
				t.Fatalf("the line of %q doesn't end with its value: %q", p.name, after)
			}
			rest = rest[1:]
		}
		if rest != "" {
			t.Errorf("Show goes on after its last name: %q", rest)
		}
	}
}

// Definitions and rule R4: a list that is changed after it was put is in the bag as it was.
func TestListChangedAfterPut(t *testing.T) {
	all := []string{"w", "x", "y", "z"}
	b := cell.New()
	b.PutList("l", all[1:3])
	b.PutList("m", all[:0])
	want := []pair{{"l", value{kind: list, l: []string{"x", "y"}}}, {"m", value{kind: list}}}
	checkAll(t, b, want)
	if !slices.Equal(all, []string{"w", "x", "y", "z"}) {
		t.Errorf("PutList changed its argument to %q", all)
	}
	for i := range all {
		all[i] = "changed"
	}
	checkAll(t, b, want)
	_ = append(all[:1], "appended", "appended")
	checkAll(t, b, want)
	if all[3] != "changed" {
		t.Errorf("asking changed the argument's spare capacity to %q", all)
	}
}

// Definitions and rule R4: a list that is changed after it was returned is in the bag as it was, and other results too.
func TestListChangedAfterReturn(t *testing.T) {
	for _, want := range [][]string{{"x", "y"}, {"x"}, {"x", "y", "z"}, {}, nil} {
		b := cell.New()
		b.PutList("l", want)
		first, _ := b.List("l")
		second, _ := b.List("l")
		if !slices.Equal(first, want) {
			t.Fatalf("List = %q; want %q", first, want)
		}
		for i := range first {
			first[i] = "changed"
		}
		first = append(first, "first", "first")
		second = append(second, "second", "second")
		if !slices.Equal(second, append(slices.Clone(want), "second", "second")) || first[len(want)] != "first" {
			t.Errorf("two results share memory: %q, %q", first, second)
		}
		// All of a result's capacity is its own, not only what is in use.
		spoil(first)
		spoil(second)
		checkAll(t, b, []pair{{"l", value{kind: list, l: want}}})
	}
}

// spoil overwrites l with all of its capacity.
func spoil(l []string) {
	for i := range l[:cap(l)] {
		l[:cap(l)][i] = "spoilt"
	}
}

// Definitions: one list under several names, and a list of one bag in another, are each on their own.
func TestListPutTwice(t *testing.T) {
	a, b := cell.New(), cell.New()
	l := []string{"x", "y"}
	a.PutList("l", l)
	a.PutList("m", l)
	got, _ := a.List("l")
	b.PutList("l", got)
	spoil(l)
	spoil(got)
	want := value{kind: list, l: []string{"x", "y"}}
	checkAll(t, a, []pair{{"l", want}, {"m", want}})
	checkAll(t, b, []pair{{"l", want}})
	a.PutList("l", []string{"z"})
	check(t, a, "m", want)
}

// Rule R4: not even an empty list that was put, or that is returned, keeps another's memory.
func TestEmptyListsAreNew(t *testing.T) {
	b := cell.New()
	all := []string{"x", "y"}
	b.PutList("l", all[:0])
	first, _ := b.List("l")
	second, _ := b.List("l")
	at := reflect.ValueOf(first).Pointer()
	if at != 0 && (at == reflect.ValueOf(all).Pointer() || at == reflect.ValueOf(second).Pointer()) {
		t.Error("an empty list shares its memory")
	}
	check(t, b, "l", value{kind: list})
}

// Rule R4: what Names returned isn't the bag's, nor another result's.
func TestNamesAreNewMemory(t *testing.T) {
	b := cell.New()
	for _, name := range names() {
		b.PutFlag(name, true)
	}
	first, second := b.Names(), b.Names()
	spoil(first)
	if !slices.Equal(second, names()) || !slices.Equal(b.Names(), names()) {
		t.Errorf("results share memory: %q, %q", second, b.Names())
	}
	second = append(second, "appended")
	spoil(second)
	if !slices.Equal(b.Names(), names()) || b.Kind("spoilt") != "" {
		t.Errorf("a result is the bag's own: %q", b.Names())
	}
}

// Promise 7.4: a value is returned only by the function of its own type, whatever is stored under other names.
func TestOnlyItsOwnType(t *testing.T) {
	for _, v := range values() {
		for _, other := range values() {
			b := cell.New()
			put(b, "", other)
			put(b, "b", v)
			put(b, "a", other)
			put(b, "bb", other)
			put(b, "B", other)
			check(t, b, "b", v)
			check(t, b, "a", other)
			check(t, b, "ba", value{})
			b.Drop("a")
			check(t, b, "b", v)
			check(t, b, "a", value{})
			b.Drop("b")
			check(t, b, "b", value{})
			check(t, b, "bb", other)
		}
	}
}

// Promises 7.1 to 7.4: every sequence of four puts and drops on two names leaves what the definition says.
func TestEverySequence(t *testing.T) {
	type step struct {
		name string
		v    value
	}
	var steps []step
	for _, name := range []string{"", "a"} {
		for _, v := range []value{{}, {kind: text, s: "1"}, {kind: number, n: 1}, {kind: truth, is: true}, {kind: list, l: []string{"1"}}} {
			steps = append(steps, step{name, v})
		}
	}
	for sequence := range len(steps) * len(steps) * len(steps) * len(steps) {
		b := cell.New()
		var pairs []pair
		left := sequence
		for range 4 {
			s := steps[left%len(steps)]
			left /= len(steps)
			if s.v.kind != "" {
				put(b, s.name, s.v)
				pairs = withPut(pairs, s.name, s.v)
				continue
			}
			before := len(pairs)
			pairs = withDrop(pairs, s.name)
			if b.Drop(s.name) != (len(pairs) < before) {
				t.Errorf("Drop(%q) is wrong", s.name)
			}
			check(t, b, s.name, value{})
		}
		checkAll(t, b, pairs)
		if t.Failed() {
			t.Fatalf("in sequence %d", sequence)
		}
	}
}

// Promise P1 and rule R7: long names and values end soon, and the same state is told the same every time.
func TestLongValues(t *testing.T) {
	long := strings.Repeat(anyBytes(), 20000)
	b := cell.New()
	l := slices.Repeat([]string{"ab", ""}, 100000)
	b.PutText(long, long)
	b.PutList("l", l)
	if s, c := b.Text(long); s != long || c != api.OK {
		t.Errorf("a text of %d bytes under a name as long: error %d", len(long), int(c))
	}
	if got, c := b.List("l"); !slices.Equal(got, l) || c != api.OK {
		t.Errorf("a list of %d strings: error %d", len(l), int(c))
	}
	if first := b.Show(); first != b.Show() || len(first) < 2*len(long) {
		t.Error("Show differs from itself")
	}
}
