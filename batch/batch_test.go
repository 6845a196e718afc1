package batch_test

import (
	"fmt"
	"iter"
	"maps"
	"math/rand"
	"slices"
	"strings"
	"testing"

	"bulletin/api"
	"bulletin/batch"
	"bulletin/nets"
)

// stored is the change that stores the value under the key.
func stored(key, value string) batch.Change {
	return batch.Change{Key: key, Value: value}
}

// deleted is the change that deletes the key.
func deleted(key string) batch.Change {
	return batch.Change{Key: key, Gone: true}
}

// record passes the change to the function of its kind.
func record(b *batch.Batch, c batch.Change) api.Code {
	if c.Gone {
		return b.Del(c.Key)
	}
	return b.Put(c.Key, c.Value)
}

// recorded is a batch to which the changes were passed, all of which it must take.
func recorded(t *testing.T, changes ...batch.Change) *batch.Batch {
	t.Helper()
	b := batch.New()
	for _, c := range changes {
		take(t, b, c)
	}
	return b
}

// take passes a change that the batch must take.
func take(t *testing.T, b *batch.Batch, c batch.Change) {
	t.Helper()
	if code := record(b, c); code != api.OK {
		t.Fatalf("%s is refused: %d", short(c), int(code))
	}
}

// refuse passes a change that the batch must refuse.
func refuse(t *testing.T, b *batch.Batch, c batch.Change, want api.Code) {
	t.Helper()
	if code := record(b, c); code != want {
		t.Errorf("%s: %d; want %d", short(c), int(code), int(want))
	}
}

// short tells a change without all of a long value.
func short(c batch.Change) string {
	return fmt.Sprintf("{%.30q of %d bytes, %.30q of %d bytes, %v}", c.Key, len(c.Key), c.Value, len(c.Value), c.Gone)
}

// shortAll tells changes without all of their long values.
func shortAll(changes []batch.Change) string {
	var l []string
	for _, c := range changes[:min(len(changes), 20)] {
		l = append(l, short(c))
	}
	return fmt.Sprintf("%d changes: %s", len(changes), strings.Join(l, " "))
}

// textOf is the text of a change, by the words of promise 10.2.
func textOf(c batch.Change) string {
	net := func(s string) string { return fmt.Sprintf("%d:%s,", len(s), s) }
	if c.Gone {
		return "1:-," + net(c.Key)
	}
	return "1:+," + net(c.Key) + net(c.Value)
}

// inOrder is the latest change of each key, in bytewise order of the keys.
func inOrder(changes []batch.Change) []batch.Change {
	latest := map[string]batch.Change{}
	for _, c := range changes {
		latest[c.Key] = c
	}
	var l []batch.Change
	for _, key := range slices.Sorted(maps.Keys(latest)) {
		l = append(l, latest[key])
	}
	return l
}

// check asks everything that a batch tells, where want are its changes, in bytewise order of their keys.
func check(t *testing.T, b *batch.Batch, want []batch.Change) {
	t.Helper()
	if n := b.Len(); n != len(want) {
		t.Errorf("Len() = %d; want %d", n, len(want))
	}
	if l := slices.Collect(b.All()); !slices.Equal(l, want) {
		t.Errorf("All() yields %s; want %s", shortAll(l), shortAll(want))
	}
	var texts []string
	for _, c := range want {
		texts = append(texts, textOf(c))
		if got, is := b.Get(c.Key); !is || got != c {
			t.Errorf("Get(%.30q) = %s, %v; want %s", c.Key, short(got), is, short(c))
		}
	}
	if l := b.Texts(); !slices.Equal(l, texts) {
		t.Errorf("Texts() are %d, %.300q; want %d, %.300q", len(l), l, len(texts), texts)
	}
}

// checkNone asks for the change of a key that was never changed.
func checkNone(t *testing.T, b *batch.Batch, key string) {
	t.Helper()
	if c, is := b.Get(key); is || c != (batch.Change{}) {
		t.Errorf("Get(%.30q) = %s, %v; want no change", key, short(c), is)
	}
}

// checkRead reads a text.
func checkRead(t *testing.T, s string, want batch.Change, wantCode api.Code) {
	t.Helper()
	if c, code := batch.Read(s); c != want || code != wantCode {
		t.Errorf("Read(%.300q) = %s, %d; want %s, %d", s, short(c), int(code), short(want), int(wantCode))
	}
}

// anyBytes is a string with every byte once, from the given one on, so also bytes that are no text.
func anyBytes(first byte) string {
	b := make([]byte, 256)
	for i := range b {
		b[i] = first + byte(i)
	}
	return string(b)
}

// keys are some that a batch could confuse, in bytewise order: capital and small letters, bytes of 128 and more, and prefixes of each other. Their number is prime.
func keys() []string {
	return []string{
		"\x00", "\x00\x00", "\n", " ", "+", ",", "-", "0:,", "1:a,", "A", "AB", "Aa", "B", "Z", "_", "a", "a\x00", "a ", "aB", "aa", "aa\x00", "ab", "a\xff",
		"b", "m/dev/a@x.org", "z", "\x7f", "\x80", "\xc3", "é", "éa", "€", "\xff", "\xff\x00", "\xff\xff", "\xff\xff" + strings.Repeat("k", api.MaxKey-3), "\xff\xff" + strings.Repeat("k", api.MaxKey-2),
	}
}

// values are some of those that are stored.
func values() []string {
	return []string{"", "1", "3", "+", "-", ",", "0:,", "1:+,1:a,1:2,", "\x00", "\r\n", "é", "\xff\xfe", anyBytes(0), strings.Repeat("v", 1000)}
}

// changes are all of the given keys: each with every value, and deleted.
func changes(keys []string) []batch.Change {
	var l []batch.Change
	for _, key := range keys {
		for _, value := range values() {
			l = append(l, stored(key, value))
		}
		l = append(l, deleted(key))
	}
	return l
}

// numbered is the key with that number: the keys are in order of their numbers.
func numbered(n int) string {
	return fmt.Sprintf("k%06d", n)
}

// full is a batch of MaxOps changes, every third of them a deletion, recorded in an order that the step says.
func full(t *testing.T, step int) (*batch.Batch, []batch.Change) {
	t.Helper()
	var l []batch.Change
	for i := range api.MaxOps {
		l = append(l, stored(numbered(i), fmt.Sprint("v", i)))
		if i%3 == 0 {
			l[i] = deleted(numbered(i))
		}
	}
	b := batch.New()
	for i := range l {
		take(t, b, l[(i+1)*step%len(l)])
	}
	return b, l
}

func TestNumbers(t *testing.T) {
	if api.ErrLong != 2 || api.ErrForm != 3 || api.ErrFull != 8 {
		t.Error("the errors of batch have other numbers than the chapter lists")
	}
	if api.MaxKey != 200 || api.MaxFrame != 1048576 || api.MaxOps != 2000 {
		t.Error("the limits of batch are other numbers than the document lists")
	}
}

// Promise 10.1: New returns an empty batch, whatever other batches have.
func TestNew(t *testing.T) {
	for range 2 {
		b := batch.New()
		check(t, b, nil)
		for _, key := range append(keys(), "") {
			checkNone(t, b, key)
		}
		for _, c := range changes(keys()) {
			take(t, b, c)
		}
	}
}

// Promise 10.1: batches share nothing.
func TestBatchesAreApart(t *testing.T) {
	a := recorded(t, stored("k", "a"), deleted("l"))
	b := recorded(t, deleted("k"), stored("m", "b"))
	check(t, a, []batch.Change{stored("k", "a"), deleted("l")})
	check(t, b, []batch.Change{deleted("k"), stored("m", "b")})
	a.Clear()
	check(t, a, nil)
	check(t, b, []batch.Change{deleted("k"), stored("m", "b")})
	checkNone(t, b, "l")
}

// Promise 10.1: every change alone.
func TestRecordOnce(t *testing.T) {
	for _, c := range changes(keys()) {
		b := recorded(t, c)
		check(t, b, []batch.Change{c})
		for _, key := range append(keys(), "") {
			if key != c.Key {
				checkNone(t, b, key)
			}
		}
	}
}

// Promise 10.1: a change of a key that is already there replaces the one before, whichever they are.
func TestRecordTwice(t *testing.T) {
	for _, first := range changes([]string{"k"}) {
		for _, second := range changes([]string{"k"}) {
			b := recorded(t, first, second)
			check(t, b, []batch.Change{second})
			b = recorded(t, stored("j", "before"), first, deleted("l"), second, stored("k\x00", "behind"))
			check(t, b, []batch.Change{stored("j", "before"), second, stored("k\x00", "behind"), deleted("l")})
		}
	}
}

// Promise 10.1: a Put behind a Del stores, a Del behind a Put deletes and has no value, and both are one change.
func TestPutAndDelOfOneKey(t *testing.T) {
	b := batch.New()
	if b.Del("k") != api.OK || b.Put("k", "v") != api.OK {
		t.Fatal("a Put behind a Del is refused")
	}
	if c, is := b.Get("k"); !is || c.Gone || c.Key != "k" || c.Value != "v" || b.Len() != 1 {
		t.Errorf("a Put behind a Del is %v, %v, of %d", c, is, b.Len())
	}
	if b.Del("k") != api.OK {
		t.Fatal("a Del behind a Put is refused")
	}
	if c, is := b.Get("k"); !is || !c.Gone || c.Key != "k" || c.Value != "" || b.Len() != 1 {
		t.Errorf("a Del behind a Put is %v, %v, of %d", c, is, b.Len())
	}
	if b.Del("k") != api.OK || b.Len() != 1 {
		t.Errorf("a second Del is refused, or another change: %d", b.Len())
	}
}

// Promise 10.1: a key that is empty or too long, or a value that is too long, is refused, and nothing changes.
func TestRefused(t *testing.T) {
	longKey, longValue := strings.Repeat("k", api.MaxKey+1), strings.Repeat("v", api.MaxFrame+1)
	for _, before := range [][]batch.Change{nil, {stored("k", "old")}, {deleted("k")}, inOrder(changes(keys()))} {
		b := recorded(t, before...)
		for _, r := range []struct {
			c    batch.Change
			want api.Code
		}{
			{stored("", "x"), api.ErrForm},
			{stored("", ""), api.ErrForm},
			{stored("", longValue), api.ErrForm},
			{deleted(""), api.ErrForm},
			{stored(longKey, "x"), api.ErrLong},
			{stored(longKey, ""), api.ErrLong},
			{stored(longKey, longValue), api.ErrLong},
			{deleted(longKey), api.ErrLong},
			{stored(strings.Repeat("k", 100000), "x"), api.ErrLong},
			{deleted(strings.Repeat("k", 100000)), api.ErrLong},
			{stored(strings.Repeat("\x00", api.MaxKey+1), "x"), api.ErrLong},
			{stored("k", longValue), api.ErrLong},
			{stored("new", longValue), api.ErrLong},
			{stored("k", strings.Repeat("v", 3*api.MaxFrame)), api.ErrLong},
		} {
			refuse(t, b, r.c, r.want)
			check(t, b, before)
			checkNone(t, b, "")
			checkNone(t, b, longKey)
			checkNone(t, b, "new")
		}
	}
}

// Promise 10.1: keys and values of the greatest length are taken.
func TestLongest(t *testing.T) {
	key, value := strings.Repeat("k", api.MaxKey), strings.Repeat("v", api.MaxFrame)
	for _, c := range []batch.Change{stored(key, "x"), stored(key, ""), deleted(key), stored("k", value), stored(key, value), stored(key[1:], value[1:]), stored("k", "")} {
		check(t, recorded(t, c), []batch.Change{c})
	}
	b := recorded(t, stored(key, value), stored(key[1:], value))
	check(t, b, []batch.Change{stored(key[1:], value), stored(key, value)})
	checkNone(t, b, key[2:])
	checkNone(t, b, key+"k")
}

// Promise 10.1: lengths are counted in bytes, not in runes.
func TestLengthsAreBytes(t *testing.T) {
	b := batch.New()
	for _, r := range []struct {
		c    batch.Change
		want api.Code
	}{
		{stored(strings.Repeat("é", 100), ""), api.OK},
		{deleted(strings.Repeat("é", 101)), api.ErrLong},
		{stored(strings.Repeat("€", 66)+"ab", ""), api.OK},
		{stored(strings.Repeat("€", 67), ""), api.ErrLong},
		{deleted(strings.Repeat("\xff", 200)), api.OK},
		{stored(strings.Repeat("\xff", 201), ""), api.ErrLong},
		{stored("k", strings.Repeat("é", 1<<19)), api.OK},
		{stored("k", strings.Repeat("é", 1<<19)+"v"), api.ErrLong},
		{stored("k", strings.Repeat("\xff", 1<<20)), api.OK},
		{stored("k", strings.Repeat("\xff", 1<<20+1)), api.ErrLong},
	} {
		refuse(t, b, r.c, r.want)
	}
	if b.Len() != 4 {
		t.Errorf("there are %d changes; want 4", b.Len())
	}
}

// Promise 10.1: every length of a key around the limit, and every short one.
func TestEveryLengthOfKeys(t *testing.T) {
	for n := range 2 * api.MaxKey {
		want := api.OK
		if n == 0 {
			want = api.ErrForm
		}
		if n > 200 {
			want = api.ErrLong
		}
		key := strings.Repeat("k", n)
		refuse(t, batch.New(), stored(key, "v"), want)
		refuse(t, batch.New(), deleted(key), want)
		if want != api.OK {
			checkRead(t, textOf(stored(key, "v")), batch.Change{}, want)
			checkRead(t, textOf(deleted(key)), batch.Change{}, want)
			continue
		}
		checkRead(t, textOf(stored(key, "v")), stored(key, "v"), want)
		checkRead(t, textOf(deleted(key)), deleted(key), want)
	}
}

// Promise 10.1: with MaxOps changes, a change of another key is refused, and one of a key that is there isn't.
func TestFull(t *testing.T) {
	for _, step := range []int{1, api.MaxOps - 1, 7, 1001} {
		b, l := full(t, step)
		check(t, b, l)
		for _, key := range []string{"a", "k", "k000000\x00", numbered(1000) + "a", numbered(api.MaxOps), "z", "\xff", "K000000"} {
			refuse(t, b, stored(key, "new"), api.ErrFull)
			refuse(t, b, deleted(key), api.ErrFull)
			checkNone(t, b, key)
		}
		check(t, b, l)
		for _, at := range []int{0, 1, 2, 999, 1000, api.MaxOps - 2, api.MaxOps - 1} {
			for _, c := range []batch.Change{stored(l[at].Key, "again"), deleted(l[at].Key), stored(l[at].Key, ""), stored(l[at].Key, "last")} {
				take(t, b, c)
				l[at] = c
			}
		}
		check(t, b, l)
		refuse(t, b, stored("z", "new"), api.ErrFull)
	}
}

// Promise 10.1: the errors of a full batch come in their order.
func TestFullRefusesInOrder(t *testing.T) {
	b, l := full(t, 1)
	longKey, longValue := strings.Repeat("z", api.MaxKey+1), strings.Repeat("v", api.MaxFrame+1)
	refuse(t, b, stored("", "x"), api.ErrForm)
	refuse(t, b, stored("", longValue), api.ErrForm)
	refuse(t, b, deleted(""), api.ErrForm)
	refuse(t, b, stored(longKey, "x"), api.ErrLong)
	refuse(t, b, deleted(longKey), api.ErrLong)
	refuse(t, b, stored("z", longValue), api.ErrLong)
	refuse(t, b, stored(numbered(1), longValue), api.ErrLong)
	refuse(t, b, stored("z", longValue[1:]), api.ErrFull)
	refuse(t, b, stored(longKey[1:], ""), api.ErrFull)
	refuse(t, b, deleted(longKey[1:]), api.ErrFull)
	check(t, b, l)
}

// Promise 10.1: a batch takes all of its changes up to the last, whether they store or delete, and it's the keys that count, not the calls.
func TestUpToFull(t *testing.T) {
	for _, kind := range []func(n int) batch.Change{
		func(n int) batch.Change { return stored(numbered(n), "") },
		func(n int) batch.Change { return deleted(numbered(n)) },
	} {
		b := batch.New()
		for n := range api.MaxOps {
			for range 3 {
				take(t, b, kind(n))
			}
			if b.Len() != n+1 {
				t.Fatalf("Len() = %d; want %d", b.Len(), n+1)
			}
		}
		refuse(t, b, kind(api.MaxOps), api.ErrFull)
		take(t, b, kind(0))
		take(t, b, kind(api.MaxOps-1))
	}
}

// Promise 10.1: Get of a key that was never changed, however near it is to one that was.
func TestGetNone(t *testing.T) {
	for _, key := range keys() {
		b := recorded(t, stored("j", "v"), stored(key, "v"), deleted("zz"))
		for _, other := range append(keys(), "", key+"\x00", key+" ", key+key, key[:len(key)-1], key[1:], " "+key, strings.Repeat("k", 300)) {
			if other != "j" && other != "zz" && other != key {
				checkNone(t, b, other)
			}
		}
	}
}

// Promise 10.1: asking changes nothing.
func TestAskingChangesNothing(t *testing.T) {
	b := recorded(t, stored("b", "1"), deleted("a"))
	for range 3 {
		checkNone(t, b, "c")
		checkNone(t, b, "")
		check(t, b, []batch.Change{deleted("a"), stored("b", "1")})
		for range b.All() {
			break
		}
	}
}

// Promise 10.1: Clear removes all changes, and the batch goes on like a new one.
func TestClear(t *testing.T) {
	b := batch.New()
	b.Clear()
	check(t, b, nil)
	for range 3 {
		for _, c := range changes(keys()) {
			take(t, b, c)
		}
		b.Clear()
		check(t, b, nil)
		for _, key := range keys() {
			checkNone(t, b, key)
		}
		b.Clear()
		check(t, b, nil)
		take(t, b, stored("b", "2"))
		check(t, b, []batch.Change{stored("b", "2")})
		take(t, b, deleted("a"))
		check(t, b, []batch.Change{deleted("a"), stored("b", "2")})
		checkNone(t, b, "c")
	}
}

// Promise 10.1: a full batch that was cleared takes as many changes again.
func TestClearFull(t *testing.T) {
	b, _ := full(t, 7)
	b.Clear()
	check(t, b, nil)
	var want []batch.Change
	for n := range api.MaxOps {
		c := stored(numbered(api.MaxOps+n), "again")
		take(t, b, c)
		want = append(want, c)
	}
	refuse(t, b, stored(numbered(0), ""), api.ErrFull)
	checkNone(t, b, numbered(0))
	check(t, b, want)
}

// Promise 10.2: All and Texts have bytewise order, in whatever order the keys came.
func TestOrder(t *testing.T) {
	all := keys()
	if !slices.IsSorted(all) {
		t.Fatal("the test's own keys are not in order")
	}
	for step := 1; step < len(all); step++ {
		// The number of keys is prime, so that each step goes through all of them.
		var l []batch.Change
		for i := range all {
			key := all[(i+1)*step%len(all)]
			l = append(l, stored(key, values()[i%len(values())]))
			if i%4 == 0 {
				l[i] = deleted(key)
			}
		}
		want := inOrder(l)
		if len(want) != len(all) || want[0].Key != all[0] || want[len(all)-1].Key != all[len(all)-1] {
			t.Fatal("the test's own changes are not of all keys")
		}
		b := recorded(t, l...)
		check(t, b, want)
		var got []string
		for c := range b.All() {
			got = append(got, c.Key)
		}
		if !slices.Equal(got, all) {
			t.Errorf("the keys are %q; want %q", got, all)
		}
	}
}

// Promise 10.2: every byte as a key, downwards: bytes are held against each other as numbers from 0 to 255.
func TestOrderOfBytes(t *testing.T) {
	b := batch.New()
	var want []batch.Change
	for i := range 256 {
		want = append(want, stored(string([]byte{byte(i)}), ""))
		take(t, b, stored(string([]byte{byte(255 - i)}), ""))
	}
	check(t, b, want)
}

// Promise 10.2: the caller may stop All at any point, and walk it again.
func TestStop(t *testing.T) {
	b := batch.New()
	for _, key := range keys() {
		take(t, b, stored(key, "v"+key))
	}
	want := inOrder(slices.Collect(b.All()))
	seq := b.All()
	for stop := range len(want) + 1 {
		for _, s := range []iter.Seq[batch.Change]{seq, b.All()} {
			var got []batch.Change
			for c := range s {
				if len(got) == stop {
					break
				}
				got = append(got, c)
			}
			if !slices.Equal(got, want[:stop]) {
				t.Errorf("All stopped behind %d yields %s", stop, shortAll(got))
			}
			if again := slices.Collect(s); !slices.Equal(again, want) {
				t.Errorf("All walked again yields %s", shortAll(again))
			}
		}
	}
	check(t, b, want)
}

// Promise 10.2: nothing is yielded to a caller who has stopped.
func TestNothingBehindStop(t *testing.T) {
	for n := range 5 {
		b := batch.New()
		for i := range n {
			take(t, b, deleted(numbered(i)))
		}
		for stop := 1; stop <= n+1; stop++ {
			calls := 0
			b.All()(func(c batch.Change) bool {
				if c != deleted(numbered(calls)) {
					t.Errorf("call %d yields %s", calls, short(c))
				}
				calls++
				return calls < stop
			})
			if calls != min(n, stop) {
				t.Errorf("All of %d changes, stopped behind %d, yields %d", n, stop, calls)
			}
		}
	}
}

// Promise 10.2: walks within walks, and two walks that take turns, do not disturb each other.
func TestWalksWithinWalks(t *testing.T) {
	want := []batch.Change{stored("a", "1"), deleted("b"), stored("c", "3")}
	b := recorded(t, want...)
	seq := b.All()
	var got []batch.Change
	for range seq {
		for c := range seq {
			got = append(got, c)
		}
		for c := range b.All() {
			got = append(got, c)
			break
		}
	}
	once := append(slices.Clone(want), want[0])
	if all := slices.Concat(once, once, once); !slices.Equal(got, all) {
		t.Errorf("walks within walks yield %s", shortAll(got))
	}
	first, stopFirst := iter.Pull(seq)
	second, stopSecond := iter.Pull(seq)
	for _, c := range want {
		if x, is := first(); !is || x != c {
			t.Errorf("the first walk yields %s, %v; want %s", short(x), is, short(c))
		}
		if x, is := second(); !is || x != c {
			t.Errorf("the second walk yields %s, %v; want %s", short(x), is, short(c))
		}
	}
	stopFirst()
	stopSecond()
}

// Promise 10.2 and rule R4: what All returned yields the changes that there were, whatever becomes of the batch before the walk or during it.
func TestAllIsNotTheBatch(t *testing.T) {
	before := []batch.Change{stored("a", "1"), deleted("c"), stored("e", "5")}
	for name, change := range map[string]func(b *batch.Batch){
		"Clear":      func(b *batch.Batch) { b.Clear() },
		"Del":        func(b *batch.Batch) { b.Del("a"); b.Del("e") },
		"Put":        func(b *batch.Batch) { b.Put("a", "x"); b.Put("c", "x"); b.Put("e", "x") },
		"new keys":   func(b *batch.Batch) { b.Put("A", "x"); b.Put("b", "x"); b.Del("d"); b.Put("f", "x") },
		"other keys": func(b *batch.Batch) { b.Clear(); b.Put("b", "x"); b.Put("d", "x"); b.Put("f", "x") },
	} {
		b := recorded(t, before...)
		seq := b.All()
		texts := b.Texts()
		change(b)
		if got := slices.Collect(seq); !slices.Equal(got, before) {
			t.Errorf("%s before the walk: All yields %s", name, shortAll(got))
		}
		if !slices.Equal(texts, []string{"1:+,1:a,1:1,", "1:-,1:c,", "1:+,1:e,1:5,"}) {
			t.Errorf("%s changes what Texts returned: %q", name, texts)
		}
		b = recorded(t, before...)
		var got []batch.Change
		for c := range b.All() {
			got = append(got, c)
			change(b)
		}
		if !slices.Equal(got, before) {
			t.Errorf("%s during the walk: All yields %s", name, shortAll(got))
		}
		other := recorded(t, before...)
		change(other)
		check(t, b, slices.Collect(other.All()))
	}
}

// Promise 10.2: the example of Texts.
func TestTexts(t *testing.T) {
	b := recorded(t, stored("b", "1"), stored("a", "2"), deleted("c"), stored("b", "3"))
	if l := b.Texts(); !slices.Equal(l, []string{"1:+,1:a,1:2,", "1:+,1:b,1:3,", "1:-,1:c,"}) {
		t.Errorf("Texts() = %q", l)
	}
	if l := batch.New().Texts(); len(l) != 0 {
		t.Errorf("the texts of an empty batch are %q", l)
	}
}

// Promise 10.2: the texts of a batch, read in their order, are its changes, and a batch of them has the same texts.
func TestTextsAreRead(t *testing.T) {
	for _, l := range [][]batch.Change{nil, {deleted("a")}, changes(keys()[:9]), changes(keys())} {
		b, again := recorded(t, l...), batch.New()
		for _, s := range b.Texts() {
			c, code := batch.Read(s)
			if code != api.OK {
				t.Fatalf("Read(%.300q) = %d", s, int(code))
			}
			take(t, again, c)
		}
		check(t, again, inOrder(l))
	}
}

// Rule R4: what Texts returned is neither the batch's nor another result's.
func TestTextsAreNewMemory(t *testing.T) {
	b := recorded(t, stored("a", "1"), stored("b", "2"), deleted("c"))
	first, second := b.Texts(), b.Texts()
	for i := range first[:cap(first)] {
		first[:cap(first)][i] = "spoilt"
	}
	second = append(second, "appended")
	if !slices.Equal(second, []string{"1:+,1:a,1:1,", "1:+,1:b,1:2,", "1:-,1:c,", "appended"}) {
		t.Errorf("results share memory: %q", second)
	}
	check(t, b, []batch.Change{stored("a", "1"), stored("b", "2"), deleted("c")})
}

// Promise 10.2: Write, written out, also of what no batch takes.
func TestWrite(t *testing.T) {
	for _, w := range []struct {
		c    batch.Change
		want string
	}{
		{stored("a", "b"), "1:+,1:a,1:b,"},
		{stored("a", ""), "1:+,1:a,0:,"},
		{deleted("a"), "1:-,1:a,"},
		{stored("", ""), "1:+,0:,0:,"},
		{stored("", "b"), "1:+,0:,1:b,"},
		{deleted(""), "1:-,0:,"},
		{batch.Change{Key: "a", Value: "b", Gone: true}, "1:-,1:a,"},
		{stored("+", "-"), "1:+,1:+,1:-,"},
		{deleted("-"), "1:-,1:-,"},
		{stored(",", "1:a,"), "1:+,1:,,4:1:a,,"},
		{stored("é", "\xff\x00"), "1:+,2:é,2:\xff\x00,"},
		{deleted("\r\n"), "1:-,2:\r\n,"},
		{stored("0123456789", "abcdefghijkl"), "1:+,10:0123456789,12:abcdefghijkl,"},
		{stored(strings.Repeat("k", 201), "v"), "1:+,201:" + strings.Repeat("k", 201) + ",1:v,"},
		{deleted(strings.Repeat("k", 200)), "1:-,200:" + strings.Repeat("k", 200) + ","},
		{stored("k", strings.Repeat("v", 1048577)), "1:+,1:k,1048577:" + strings.Repeat("v", 1048577) + ","},
	} {
		if got := batch.Write(w.c); got != w.want {
			t.Errorf("Write(%s) = %.300q; want %.300q", short(w.c), got, w.want)
		}
	}
}

// Promise 10.2: Read of texts of changes.
func TestRead(t *testing.T) {
	for _, r := range []struct {
		s    string
		want batch.Change
	}{
		{"1:+,1:a,1:b,", stored("a", "b")},
		{"1:+,1:a,0:,", stored("a", "")},
		{"1:-,1:a,", deleted("a")},
		{"1:+,1:+,1:-,", stored("+", "-")},
		{"1:-,1:+,", deleted("+")},
		{"1:-,1:-,", deleted("-")},
		{"1:+,1:,,4:1:a,,", stored(",", "1:a,")},
		{"1:-,8:1:-,1:a,,", deleted("1:-,1:a,")},
		{"1:+,2:é,2:\xff\x00,", stored("é", "\xff\x00")},
		{"1:+,10:0123456789,256:" + anyBytes(7) + ",", stored("0123456789", anyBytes(7))},
		{"1:+,200:" + strings.Repeat("k", 200) + ",1048576:" + strings.Repeat("v", 1048576) + ",", stored(strings.Repeat("k", 200), strings.Repeat("v", 1048576))},
		{"1:-,200:" + strings.Repeat("k", 200) + ",", deleted(strings.Repeat("k", 200))},
	} {
		checkRead(t, r.s, r.want, api.OK)
	}
}

// Promise 10.2: Read of what is no text of a change, at each of its errors, in their order.
func TestReadErrors(t *testing.T) {
	key, longKey := strings.Repeat("k", 200), strings.Repeat("k", 201)
	value, longValue := strings.Repeat("v", 1048576), strings.Repeat("v", 1048577)
	for _, r := range []struct {
		s    string
		want api.Code
	}{
		// No row: the error of Texts, whatever else is wrong.
		{"x", api.ErrForm}, {",", api.ErrForm}, {"+", api.ErrForm}, {"+,a,b", api.ErrForm}, {" 1:+,1:a,1:b,", api.ErrForm},
		{"1:+,1:a,1:b", api.ErrShort}, {"1:+,1:a,1:", api.ErrShort}, {"1:+,1:a,1", api.ErrShort}, {"1:-,1:a", api.ErrShort}, {"1", api.ErrShort},
		{"1:+,1:a,1:b;", api.ErrForm}, {"1:+,1:a,01:b,", api.ErrForm}, {"1:+,1:a,1:b,x", api.ErrForm}, {"1:-,1:a,\n", api.ErrForm}, {"01:-,1:a,", api.ErrForm},
		{"1:+,1:a,1234567890:b,", api.ErrLong}, {"1234567890:", api.ErrLong}, {"1:-,1234567890", api.ErrLong},
		{"1:*,0:,1234567890:", api.ErrLong}, {"1:*,0:,5:", api.ErrShort}, {"1:-,0:,9", api.ErrShort}, {"1:-," + nets.Put(longKey) + "1", api.ErrShort},
		{"1:+," + nets.Put(longKey) + nets.Put(longValue) + "x", api.ErrForm}, {"1:*,1:a,1:b,2:c", api.ErrShort}, {"0:,0:,0:,0:,1234567890", api.ErrLong},
		// Too few parts, or too many.
		{"", api.ErrForm}, {"0:,", api.ErrForm}, {"1:+,", api.ErrForm}, {"1:-,", api.ErrForm}, {"1:+,1:a,", api.ErrForm},
		{"1:+,1:a,1:b,0:,", api.ErrForm}, {"1:+,1:a,1:b,1:c,", api.ErrForm}, {"1:+,1:a,1:b,1:+,1:c,1:d,", api.ErrForm}, {"1:-,1:a,1:-,1:b,", api.ErrForm},
		// A deletion with a value.
		{"1:-,1:a,0:,", api.ErrForm}, {"1:-,1:a,1:b,", api.ErrForm}, {"1:-,1:a,0:,0:,", api.ErrForm},
		// A part that is neither + nor -.
		{"1:*,1:a,1:b,", api.ErrForm}, {"1:*,1:a,", api.ErrForm}, {"0:,1:a,1:b,", api.ErrForm}, {"0:,1:a,", api.ErrForm}, {"1:a,1:b,", api.ErrForm},
		{"2:++,1:a,1:b,", api.ErrForm}, {"2:+-,1:a,1:b,", api.ErrForm}, {"2:--,1:a,", api.ErrForm}, {"2:-+,1:a,", api.ErrForm}, {"2:+ ,1:a,1:b,", api.ErrForm},
		{"1:a,1:+,1:b,", api.ErrForm}, {"1:a,1:-,", api.ErrForm}, {"1: ,1:a,", api.ErrForm}, {"3:\u2212,1:a,", api.ErrForm}, {"2:-\x00,1:a,", api.ErrForm},
		// An empty key, also where more is wrong.
		{"1:+,0:,1:a,", api.ErrForm}, {"1:+,0:,0:,", api.ErrForm}, {"1:-,0:,", api.ErrForm}, {"1:+,0:," + nets.Put(longValue), api.ErrForm},
		// A key or a value that is too long.
		{nets.Row("+", longKey, ""), api.ErrLong}, {nets.Row("+", longKey, value), api.ErrLong}, {nets.Row("-", longKey), api.ErrLong},
		{nets.Row("+", "a", longValue), api.ErrLong}, {nets.Row("+", key, longValue), api.ErrLong}, {nets.Row("+", longKey, longValue), api.ErrLong},
		{nets.Row("-", strings.Repeat("é", 101)), api.ErrLong}, {nets.Row("-", strings.Repeat("k", 100000)), api.ErrLong},
		// Both: it's no text of a change first.
		{nets.Row("+", longKey), api.ErrForm}, {nets.Row("-", longKey, ""), api.ErrForm}, {nets.Row("*", longKey, longValue), api.ErrForm},
		{nets.Row("-", "a", longValue), api.ErrForm}, {nets.Row("+", "a", longValue, ""), api.ErrForm}, {nets.Row("", longKey), api.ErrForm},
		{nets.Row(longKey), api.ErrForm}, {nets.Row(longKey, longKey, longValue), api.ErrForm},
	} {
		checkRead(t, r.s, batch.Change{}, r.want)
	}
}

// modelRead says what promise 10.2 asks of Read of a row of l, in the order of its sentence.
func modelRead(l []string) (batch.Change, api.Code) {
	var c batch.Change
	if len(l) > 1 {
		c = batch.Change{Key: l[1], Gone: l[0] == "-"}
	}
	if len(l) > 2 {
		c.Value = l[2]
	}
	if nets.Row(l...) != textOf(c) || c.Key == "" {
		return batch.Change{}, api.ErrForm
	}
	if len(c.Key) > 200 || len(c.Value) > 1<<20 {
		return batch.Change{}, api.ErrLong
	}
	return c, api.OK
}

// Promise 10.2 against its own words, for every row of up to four strings that a change could have, or could not.
func TestReadAsPromised(t *testing.T) {
	parts := []string{"", "+", "-", "a", "+a", "++", "--", " ", ",", "1:+,", "1:-,1:a,", "*", "\x00", strings.Repeat("k", 200), strings.Repeat("k", 201)}
	read := map[api.Code]int{}
	lists := [][]string{nil}
	for from := 0; from < len(lists); from++ {
		l := lists[from]
		want, code := modelRead(l)
		checkRead(t, nets.Row(l...), want, code)
		read[code]++
		if len(l) < 4 {
			for _, part := range parts {
				lists = append(lists, append(slices.Clone(l), part))
			}
		}
	}
	n := len(parts)
	if len(lists) != 1+n+n*n+n*n*n+n*n*n*n || read[api.OK] != (n-2)+(n-2)*n || read[api.ErrLong] != 1+n {
		t.Errorf("of %d rows, %v were read", len(lists), read)
	}
}

// Promises 10.2 and 10.3: every edit of one byte of a text is refused as no row or as no text of a change, or is the text of the change that it is read as.
func TestReadEdits(t *testing.T) {
	edits, taken := 0, 0
	for _, c := range []batch.Change{stored("a", "b"), stored("ab", ""), stored("+", "1:-,"), deleted("a"), deleted("1:a,"), stored("0123456789", "x"), deleted("-é")} {
		text := textOf(c)
		for at := range len(text) + 1 {
			for b := range 257 {
				middle := ""
				if b < 256 {
					middle = string([]byte{byte(b)})
				}
				for _, behind := range []string{text[at:], text[min(at+1, len(text)):]} {
					s := text[:at] + middle + behind
					edits++
					l, code := nets.Texts(s)
					want := batch.Change{}
					if code == api.OK {
						want, code = modelRead(l)
					}
					checkRead(t, s, want, code)
					if code != api.OK {
						continue
					}
					taken++
					if again := batch.Write(want); again != s {
						t.Errorf("what %q is read as is written as %q", s, again)
					}
				}
			}
		}
	}
	if taken < 256 || taken > edits/4 {
		t.Errorf("of %d edits, %d were taken", edits, taken)
	}
}

// Promise 10.2: every text that is cut short is refused.
func TestReadCut(t *testing.T) {
	for _, c := range changes(keys()) {
		text := textOf(c)
		for at := range len(text) {
			_, want := nets.Texts(text[:at])
			if want == api.OK {
				want = api.ErrForm
			}
			checkRead(t, text[:at], batch.Change{}, want)
		}
	}
}

// Promise 10.3: Read inverts Write, and what was read is written as the same bytes.
func TestReadInvertsWrite(t *testing.T) {
	all := changes(keys())
	for _, value := range []string{strings.Repeat("v", api.MaxFrame), strings.Repeat(anyBytes(0), api.MaxFrame/256), strings.Repeat("1:a,", api.MaxFrame/4)} {
		all = append(all, stored("k", value), stored(strings.Repeat("k", api.MaxKey), value))
	}
	for first := range 256 {
		for _, size := range []int{1, 9, 10, 11, 99, 100, 101, 199, 200} {
			s := anyBytes(byte(first))[:size]
			all = append(all, stored(s, s+s), stored(s, s[1:]), stored("k", s), deleted(s))
		}
	}
	for _, c := range all {
		text := batch.Write(c)
		checkRead(t, text, c, api.OK)
		if text != textOf(c) || batch.Write(c) != text {
			t.Errorf("Write(%s) = %.300q", short(c), text)
		}
	}
}

// Promise 10.3: different changes have different texts, and none begins with another's.
func TestTextsDiffer(t *testing.T) {
	all := changes([]string{"a", "aa", "+", "-", ",", "a\x00", "1:a,", "é"})
	for i, a := range all {
		for j, b := range all {
			if i != j && strings.HasPrefix(batch.Write(a), batch.Write(b)) {
				t.Errorf("the text of %s begins with that of %s", short(a), short(b))
			}
		}
	}
}

// Promise 10.3: every sequence of five changes and Clears on three keys, of which one is a prefix of another, leaves the latest change of each key.
func TestEverySequence(t *testing.T) {
	type step struct {
		c     batch.Change
		clear bool
	}
	steps := []step{{clear: true}}
	for _, key := range []string{"a", "A", "ab"} {
		for _, c := range []batch.Change{stored(key, "1"), stored(key, ""), deleted(key)} {
			steps = append(steps, step{c: c})
		}
	}
	n := len(steps)
	for sequence := range n * n * n * n * n {
		b := batch.New()
		var passed []batch.Change
		left := sequence
		for range 5 {
			s := steps[left%n]
			left /= n
			if s.clear {
				b.Clear()
				passed = nil
				continue
			}
			take(t, b, s.c)
			passed = append(passed, s.c)
		}
		want := inOrder(passed)
		check(t, b, want)
		for _, key := range []string{"a", "A", "ab", "b", ""} {
			if !slices.ContainsFunc(want, func(c batch.Change) bool { return c.Key == key }) {
				checkNone(t, b, key)
			}
		}
		if t.Failed() {
			t.Fatalf("in sequence %d", sequence)
		}
	}
}

// Promise 10.3: changes of other keys have no effect on a key's, whether they are taken or refused.
func TestOtherKeys(t *testing.T) {
	for _, key := range keys() {
		for _, c := range []batch.Change{stored(key, "v"), stored(key, ""), deleted(key)} {
			b := recorded(t, c)
			for _, other := range changes(keys()) {
				if other.Key == key {
					continue
				}
				take(t, b, other)
				refuse(t, b, stored("", ""), api.ErrForm)
				refuse(t, b, deleted(key+strings.Repeat("k", api.MaxKey)), api.ErrLong)
				if got, is := b.Get(key); !is || got != c {
					t.Fatalf("behind %s: Get(%q) = %s, %v; want %s", short(other), key, short(got), is, short(c))
				}
			}
			if b.Len() != len(keys()) {
				t.Errorf("there are %d changes; want one of each of %d keys", b.Len(), len(keys()))
			}
		}
	}
}

// Promises 10.1 to 10.3: long lives from fixed seeds, held against the definition: at most one change for each key, the latest.
func TestLongLives(t *testing.T) {
	for seed := range 60 {
		r := rand.New(rand.NewSource(int64(seed)))
		all := keys()
		if seed%3 == 0 {
			// More keys than a batch can have.
			for n := range 2 * api.MaxOps {
				all = append(all, numbered(n))
			}
		}
		b := batch.New()
		latest := map[string]batch.Change{}
		for range 6000 {
			c := stored(all[r.Intn(len(all))], values()[r.Intn(len(values()))])
			if r.Intn(3) == 0 {
				c = deleted(c.Key)
			}
			want := api.OK
			if _, there := latest[c.Key]; !there && len(latest) == api.MaxOps {
				want = api.ErrFull
			}
			refuse(t, b, c, want)
			if want == api.OK {
				latest[c.Key] = c
			}
			asked := all[r.Intn(len(all))]
			if got, is := b.Get(asked); got != latest[asked] || is != (got.Key != "") {
				t.Errorf("Get(%q) = %s, %v; want %s", asked, short(got), is, short(latest[asked]))
			}
			if r.Intn(500) == 0 {
				check(t, b, inOrder(slices.Collect(maps.Values(latest))))
			}
			if r.Intn(5000) == 0 {
				b.Clear()
				clear(latest)
			}
			if t.Failed() {
				t.Fatalf("with seed %d", seed)
			}
		}
		check(t, b, inOrder(slices.Collect(maps.Values(latest))))
	}
}

// Rule R7: the same calls, in whatever order the keys come, leave the same batch.
func TestOrderOfCallsDoesNotMatter(t *testing.T) {
	want := inOrder(changes(keys()))
	for seed := range 50 {
		r := rand.New(rand.NewSource(int64(seed)))
		b := batch.New()
		for _, i := range r.Perm(len(want)) {
			take(t, b, want[i])
		}
		check(t, b, want)
	}
}

// Promise P1: a full batch of long keys and values, and long texts, end soon.
func TestLong(t *testing.T) {
	b := batch.New()
	value := strings.Repeat("v", 1<<14)
	for n := range api.MaxOps {
		take(t, b, stored(strings.Repeat("k", api.MaxKey-7)+numbered(n), value))
	}
	texts := b.Texts()
	if len(texts) != api.MaxOps {
		t.Errorf("there are %d texts", len(texts))
	}
	for n, s := range texts {
		if c, code := batch.Read(s); code != api.OK || c.Value != value || !strings.HasSuffix(c.Key, numbered(n)) {
			t.Fatalf("text %d is read as %s, %d", n, short(c), int(code))
		}
	}
	checkRead(t, strings.Repeat("1:+,", 1<<20), batch.Change{}, api.ErrForm)
	checkRead(t, strings.Repeat("7", 1<<24), batch.Change{}, api.ErrLong)
	checkRead(t, strings.Repeat("1:+,", 1<<20)+"1", batch.Change{}, api.ErrShort)
}
