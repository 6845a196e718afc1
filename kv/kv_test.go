package kv_test

import (
	"fmt"
	"maps"
	"math"
	"math/rand"
	"slices"
	"strings"
	"testing"

	"bulletin/api"
	"bulletin/batch"
	"bulletin/disk"
	"bulletin/kv"
	"bulletin/nets"
	"bulletin/wal"
)

// put is the change that stores the value under the key.
func put(key, value string) batch.Change {
	return batch.Change{Key: key, Value: value}
}

// del is the change that deletes the key.
func del(key string) batch.Change {
	return batch.Change{Key: key, Gone: true}
}

// puts are changes that store: keys and values take turns.
func puts(l ...string) []batch.Change {
	var changes []batch.Change
	for i := 0; i+1 < len(l); i += 2 {
		changes = append(changes, put(l[i], l[i+1]))
	}
	return changes
}

// pairs are those written out: keys and values take turns.
func pairs(l ...string) []kv.Pair {
	var all []kv.Pair
	for i := 0; i+1 < len(l); i += 2 {
		all = append(all, kv.Pair{Key: l[i], Value: l[i+1]})
	}
	return all
}

// batchOf is a batch that must take the changes.
func batchOf(t *testing.T, changes []batch.Change) *batch.Batch {
	t.Helper()
	b := batch.New()
	for _, c := range changes {
		code := api.OK
		if c.Gone {
			code = b.Del(c.Key)
		} else {
			code = b.Put(c.Key, c.Value)
		}
		if code != api.OK {
			t.Fatalf("a batch refuses a change of %.30q: %d", c.Key, int(code))
		}
	}
	return b
}

// applied are the pairs after the changes, one after the other.
func applied(has []kv.Pair, changes []batch.Change) []kv.Pair {
	m := map[string]string{}
	for _, p := range has {
		m[p.Key] = p.Value
	}
	for _, c := range changes {
		if c.Gone {
			delete(m, c.Key)
		} else {
			m[c.Key] = c.Value
		}
	}
	var l []kv.Pair
	for _, key := range slices.Sorted(maps.Keys(m)) {
		l = append(l, kv.Pair{Key: key, Value: m[key]})
	}
	return l
}

// usedBy is the number of bytes of the keys and values.
func usedBy(l []kv.Pair) int {
	n := 0
	for _, p := range l {
		n += len(p.Key + p.Value)
	}
	return n
}

// textsOf are the texts that store the pairs, by the words of chapter 10.
func textsOf(l []kv.Pair) []string {
	var texts []string
	for _, p := range l {
		texts = append(texts, fmt.Sprintf("1:+,%d:%s,%d:%s,", len(p.Key), p.Key, len(p.Value), p.Value))
	}
	return texts
}

// short tells pairs without all of their long values.
func short(l []kv.Pair) string {
	return fmt.Sprintf("%d pairs: %.300q", len(l), l)
}

// made is a new disk.
func made(t *testing.T, sectors, size int) *disk.Disk {
	t.Helper()
	d, c := disk.New(sectors, size)
	if c != api.OK {
		t.Fatalf("disk.New(%d, %d) = %d", sectors, size, int(c))
	}
	return d
}

// littered is a disk on which every byte of every sector is the one given.
func littered(t *testing.T, sectors, size int, b byte) *disk.Disk {
	t.Helper()
	d := made(t, sectors, size)
	for at := range sectors {
		if c := d.Write(at, strings.Repeat(string([]byte{b}), size)); c != api.OK {
			t.Fatalf("Write(%d) = %d", at, int(c))
		}
	}
	d.Flush()
	return d
}

// off makes the power of the disk fail.
func off(d *disk.Disk) {
	d.Cut(1)
	d.Flush()
}

// image is all that can be seen of a disk.
func image(d *disk.Disk) []string {
	l := []string{fmt.Sprint(d.Ops(), d.Cached(), d.Off())}
	for at := range d.Sectors() {
		now, _ := d.Read(at)
		l = append(l, d.Durable(at), now)
	}
	return l
}

// unchanged fails if the disk isn't as it was.
func unchanged(t *testing.T, d *disk.Disk, before []string) {
	t.Helper()
	if !slices.Equal(image(d), before) {
		t.Errorf("the disk has changed: %s; before: %s", image(d)[0], before[0])
	}
}

// logged are the strings in the log of a disk, and how many bytes of a frame it has room for.
func logged(t *testing.T, d *disk.Disk) ([]string, int) {
	t.Helper()
	w, l, c := wal.Open(d)
	if c != api.OK {
		t.Fatalf("wal.Open = %d", int(c))
	}
	return l, w.Room()
}

// withLog is a disk whose log has each of the groups.
func withLog(t *testing.T, sectors, size int, groups ...[]string) *disk.Disk {
	t.Helper()
	d := made(t, sectors, size)
	w, c := wal.Format(d)
	if c != api.OK {
		t.Fatalf("wal.Format = %d", int(c))
	}
	for _, l := range groups {
		for _, s := range l {
			w.Append(s)
		}
		if c := w.Sync(); c != api.OK {
			t.Fatalf("Sync of %.100q = %d", l, int(c))
		}
	}
	return d
}

// formatted is a new store that must be made.
func formatted(t *testing.T, d *disk.Disk, quota int) *kv.Store {
	t.Helper()
	s, c := kv.Format(d, quota)
	if s == nil || c != api.OK {
		t.Fatalf("Format with a quota of %d = %v, %d; want a store, OK", quota, s, int(c))
	}
	return s
}

// opened is the store on a disk, which must have these pairs.
func opened(t *testing.T, d *disk.Disk, quota int, want []kv.Pair) *kv.Store {
	t.Helper()
	before := image(d)
	s, c := kv.Open(d, quota)
	if s == nil || c != api.OK {
		t.Fatalf("Open with a quota of %d = %v, %d; want a store, OK", quota, s, int(c))
	}
	unchanged(t, d, before)
	check(t, s, quota, want)
	return s
}

// committed commits changes that must be taken.
func committed(t *testing.T, s *kv.Store, changes ...batch.Change) {
	t.Helper()
	commit(t, s, api.OK, changes...)
}

// commit commits changes, with that result. The batch must stay as it is.
func commit(t *testing.T, s *kv.Store, want api.Code, changes ...batch.Change) {
	t.Helper()
	b := batchOf(t, changes)
	before := slices.Collect(b.All())
	if c := s.Commit(b); c != want {
		t.Errorf("Commit of %.300q = %d; want %d", b.Texts(), int(c), int(want))
	}
	if !slices.Equal(slices.Collect(b.All()), before) || b.Len() != len(before) {
		t.Errorf("Commit changes the batch: %.300q", b.Texts())
	}
}

// compacted compacts a store that must be compacted.
func compacted(t *testing.T, s *kv.Store) {
	t.Helper()
	if c := s.Compact(); c != api.OK {
		t.Errorf("Compact = %d; want OK", int(c))
	}
}

// check asks what a store tells of itself, where want are its pairs.
func check(t *testing.T, s *kv.Store, quota int, want []kv.Pair) {
	t.Helper()
	if s.Quota() != quota || s.Len() != len(want) || s.Used() != usedBy(want) {
		t.Errorf("Quota %d, Len %d, Used %d; want %d, %d, %d", s.Quota(), s.Len(), s.Used(), quota, len(want), usedBy(want))
	}
	if l := s.Scan(""); !slices.Equal(l, want) {
		t.Errorf("Scan of all returns %s; want %s", short(l), short(want))
	}
	if l := s.Range("", strings.Repeat("\xff", api.MaxKey+1)); !slices.Equal(l, want) {
		t.Errorf("Range of all returns %s; want %s", short(l), short(want))
	}
	for _, p := range want {
		checkGet(t, s, p.Key, p.Value, true)
	}
}

// checkGet asks for the value of a key.
func checkGet(t *testing.T, s *kv.Store, key, value string, is bool) {
	t.Helper()
	if got, ok := s.Get(key); got != value || ok != is {
		t.Errorf("Get(%.30q) = %.30q, %v; want %.30q, %v", key, got, ok, value, is)
	}
}

// scanned are the pairs that begin with the prefix, by the words of the chapter.
func scanned(all []kv.Pair, prefix string) []kv.Pair {
	var l []kv.Pair
	for _, p := range all {
		if strings.HasPrefix(p.Key, prefix) {
			l = append(l, p)
		}
	}
	return l
}

// ranged are the pairs from one key to another, by the words of the chapter.
func ranged(all []kv.Pair, from, to string) []kv.Pair {
	var l []kv.Pair
	for _, p := range all {
		if !(p.Key < from) && p.Key < to {
			l = append(l, p)
		}
	}
	return l
}

// checkScan scans for a prefix.
func checkScan(t *testing.T, s *kv.Store, prefix string, want []kv.Pair) {
	t.Helper()
	if l := s.Scan(prefix); !slices.Equal(l, want) {
		t.Errorf("Scan(%.30q) returns %s; want %s", prefix, short(l), short(want))
	}
}

// checkRange asks for a range.
func checkRange(t *testing.T, s *kv.Store, from, to string, want []kv.Pair) {
	t.Helper()
	if l := s.Range(from, to); !slices.Equal(l, want) {
		t.Errorf("Range(%.30q, %.30q) returns %s; want %s", from, to, short(l), short(want))
	}
}

// keys are some that a store could confuse, in bytewise order: capital and small letters, bytes of 128 and more, and prefixes of each other.
func keys() []string {
	return []string{
		"\x00", "\x00\x00", "\n", " ", "+", ",", "-", "0:,", "1:a,", "A", "AB", "Aa", "B", "Z", "_", "a", "a\x00", "a ", "aB", "aa", "aa\x00", "ab", "a\xff", "a\xff\xff",
		"b", "m/dev/a@x.org", "m/dev/b@x.org", "m/dex", "z", "\x7f", "\x80", "\x80\x00", "\xc3", "é", "éa", "€", "\xfe\xff", "\xff", "\xff\x00", "\xff\xff",
		"\xff\xff" + strings.Repeat("k", api.MaxKey-3), "\xff\xff" + strings.Repeat("k", api.MaxKey-2),
	}
}

// bounds are the keys and others near them, also such as no key can be.
func bounds() []string {
	l := []string{"", "k", "m/", "m/de", "\xff\xff\xff", strings.Repeat("a", 300), strings.Repeat("\xff", 300)}
	for _, key := range keys() {
		l = append(l, key, key+"\x00", key+"\xff", key[:len(key)-1])
	}
	slices.Sort(l)
	return slices.Compact(l)
}

// all are pairs of all keys, with values of all kinds.
func all() []kv.Pair {
	values := []string{"", "1", "+", "1:+,1:a,1:2,", "\x00", "\r\n", "é", "\xff\xfe", strings.Repeat("v", 300)}
	var l []kv.Pair
	for i, key := range keys() {
		l = append(l, kv.Pair{Key: key, Value: values[i%len(values)]})
	}
	return l
}

// changesOf are the changes that store the pairs.
func changesOf(l []kv.Pair) []batch.Change {
	var changes []batch.Change
	for _, p := range l {
		changes = append(changes, put(p.Key, p.Value))
	}
	return changes
}

// numbered is the key with that number: the keys are in order of their numbers.
func numbered(n int) string {
	return fmt.Sprintf("k%06d", n)
}

func TestNumbers(t *testing.T) {
	if api.ErrRange != 1 || api.ErrForm != 3 || api.ErrFull != 8 || api.ErrPower != 80 || api.ErrDisk != 81 {
		t.Error("the errors of kv have other numbers than the chapter lists")
	}
}

// The examples of the chapter.
func TestExamples(t *testing.T) {
	d := made(t, 17, 32)
	s := formatted(t, d, 100)
	committed(t, s, puts("b", "2", "a", "1", "ab", "3")...)
	checkScan(t, s, "a", pairs("a", "1", "ab", "3"))
	if s.Used() != 7 {
		t.Errorf("Used() = %d; want 7", s.Used())
	}
	checkRange(t, s, "ab", "b", pairs("ab", "3"))
	checkRange(t, s, "b", "a", nil)
	s = formatted(t, d, 100)
	committed(t, s, put("a", "b"))
	checkScan(t, s, "a", pairs("a", "b"))
	if s.Used() != 2 {
		t.Errorf("Used() = %d; want 2", s.Used())
	}
}

// Promise 11.1: Format makes an empty store, whatever is on the disk, and does what the log's Format does.
func TestFormat(t *testing.T) {
	for _, quota := range []int{0, 1, 100, 1 << 20, math.MaxInt} {
		for _, litter := range []byte{0, 1, 2, 255} {
			d, e := littered(t, 9, 16, litter), littered(t, 9, 16, litter)
			s := formatted(t, d, quota)
			check(t, s, quota, nil)
			if s.Half() != 0 {
				t.Errorf("a new store is in half %d", s.Half())
			}
			wal.Format(e)
			unchanged(t, d, image(e))
			for _, key := range bounds() {
				checkGet(t, s, key, "", false)
				checkScan(t, s, key, nil)
				checkRange(t, s, "", key, nil)
				checkRange(t, s, key, "\xff\xff\xff", nil)
			}
			opened(t, d, quota, nil)
		}
	}
}

// Promise 11.1: Format on the disk of a store in either half leaves nothing of it.
func TestFormatAnew(t *testing.T) {
	for half := range 2 {
		d := made(t, 40, 32)
		s := formatted(t, d, 1000)
		committed(t, s, puts("a", "1", "b", "2")...)
		committed(t, s, put("c", "3"))
		if half == 1 {
			compacted(t, s)
			committed(t, s, put("d", "4"))
		}
		s = formatted(t, d, 50)
		check(t, s, 50, nil)
		if s.Half() != 0 {
			t.Errorf("a new store is in half %d", s.Half())
		}
		opened(t, d, 50, nil)
		committed(t, s, put("e", "5"))
		opened(t, d, 50, pairs("e", "5"))
	}
}

// Promise 11.1: Format and Open refuse a negative quota, before anything else, and do nothing to the disk.
func TestNegativeQuota(t *testing.T) {
	for _, quota := range []int{-1, -2, -100, math.MinInt} {
		good := made(t, 9, 16)
		committed(t, formatted(t, good, 100), put("a", "1"))
		dead, full, wild := made(t, 9, 16), made(t, 9, 16), littered(t, 9, 16, 2)
		off(dead)
		full.Fill(true)
		for _, d := range []*disk.Disk{good, dead, full, wild, withLog(t, 9, 16, []string{"x"})} {
			before := image(d)
			if s, c := kv.Format(d, quota); s != nil || c != 1 {
				t.Errorf("Format with a quota of %d = %v, %d; want nil, ErrRange", quota, s, int(c))
			}
			if s, c := kv.Open(d, quota); s != nil || c != 1 {
				t.Errorf("Open with a quota of %d = %v, %d; want nil, ErrRange", quota, s, int(c))
			}
			unchanged(t, d, before)
		}
		opened(t, good, 100, pairs("a", "1"))
	}
}

// Promise 11.1: Format returns nil and the error of the log's Format.
func TestFormatFails(t *testing.T) {
	for cut := 1; cut <= 3; cut++ {
		d, e := made(t, 9, 16), made(t, 9, 16)
		d.Cut(cut)
		e.Cut(cut)
		if s, c := kv.Format(d, 10); s != nil || c != 80 {
			t.Errorf("Format with Cut(%d) = %v, %d; want nil, ErrPower", cut, s, int(c))
		}
		wal.Format(e)
		unchanged(t, d, image(e))
		if s, c := kv.Format(d, 10); s != nil || c != 80 {
			t.Errorf("Format without power = %v, %d; want nil, ErrPower", s, int(c))
		}
		unchanged(t, d, image(e))
		d.Crash(nil, 0)
		check(t, formatted(t, d, 10), 10, nil)
	}
	d := made(t, 9, 16)
	d.Fill(true)
	if s, c := kv.Format(d, 10); s != nil || c != 81 {
		t.Errorf("Format of a full disk = %v, %d; want nil, ErrDisk", s, int(c))
	}
	d.Fill(false)
	check(t, formatted(t, d, 10), 10, nil)
}

// Promise 11.1: Open returns nil and the error of the log's Open.
func TestOpenFails(t *testing.T) {
	for _, first := range []byte{2, 3, 128, 255} {
		d := littered(t, 9, 16, first)
		before := image(d)
		if s, c := kv.Open(d, 10); s != nil || c != 3 {
			t.Errorf("Open of half %d = %v, %d; want nil, ErrForm", first, s, int(c))
		}
		unchanged(t, d, before)
	}
	d := made(t, 9, 16)
	committed(t, formatted(t, d, 10), put("a", "1"))
	off(d)
	if s, c := kv.Open(d, 10); s != nil || c != 80 {
		t.Errorf("Open without power = %v, %d; want nil, ErrPower", s, int(c))
	}
	d.Crash(nil, 0)
	d.Fill(true)
	opened(t, d, 10, pairs("a", "1"))
}

// Promise 11.1: a disk that was never formatted has an empty store.
func TestOpenNew(t *testing.T) {
	for _, size := range []int{16, 256} {
		d := made(t, 4, size)
		s := opened(t, d, 5, nil)
		if s.Half() != 0 {
			t.Errorf("it is in half %d", s.Half())
		}
	}
}

// Promise 11.1: Open returns nil and the error of Read for the first string in the log that is not the text of a change.
func TestOpenBadStrings(t *testing.T) {
	longKey, longValue := strings.Repeat("k", api.MaxKey+1), strings.Repeat("v", 1000)
	good := []string{"1:+,1:a,1:1,", "1:-,1:a,", "1:+,1:b,0:,"}
	bad := []struct {
		s    string
		want api.Code
	}{
		{"", api.ErrForm}, {"x", api.ErrForm}, {"1:+,1:a,", api.ErrForm}, {"1:-,1:a,1:1,", api.ErrForm}, {"1:*,1:a,1:1,", api.ErrForm},
		{"1:+,0:,1:1,", api.ErrForm}, {"1:-,0:,", api.ErrForm}, {"1:+,1:a,1:1,x", api.ErrForm}, {"1:+,1:a,01:1,", api.ErrForm},
		{"1:+,1:a,1:1", api.ErrShort}, {"1:-,1:a", api.ErrShort}, {"1:+,1:a,2:1", api.ErrShort}, {"7", api.ErrShort},
		{"1:+,1:a,1234567890:1,", api.ErrLong}, {nets.Row("+", longKey, ""), api.ErrLong}, {nets.Row("-", longKey), api.ErrLong},
		{nets.Row("+", longKey, longValue), api.ErrLong}, {nets.Row("-", longKey, ""), api.ErrForm},
	}
	refused := func(want api.Code, groups ...[]string) {
		t.Helper()
		d := withLog(t, 201, 64, groups...)
		before := image(d)
		for range 2 {
			if s, c := kv.Open(d, 1<<20); s != nil || c != want {
				t.Errorf("Open of a log of %.300q = %v, %d; want nil, %d", groups, s, int(c), int(want))
			}
		}
		unchanged(t, d, before)
	}
	for _, b := range bad {
		refused(b.want, []string{b.s})
		refused(b.want, good, []string{b.s})
		refused(b.want, []string{b.s}, good)
		refused(b.want, good, []string{good[0], b.s, good[1]}, good)
		for _, other := range bad {
			refused(b.want, []string{b.s, other.s})
			refused(b.want, good, []string{b.s}, []string{other.s})
		}
	}
	opened(t, withLog(t, 201, 64, good, good), 1<<20, pairs("b", ""))
}

// Promise 11.1: a bad string counts in the half that a Reset chose too, and one that a later Reset took away does not.
func TestOpenBadReset(t *testing.T) {
	d := withLog(t, 20, 32, []string{"1:+,1:a,1:1,"})
	w, _, _ := wal.Open(d)
	if c := w.Reset([]string{"1:+,1:b,1:2,", "1:+,1:b,"}); c != api.OK {
		t.Fatalf("Reset = %d", int(c))
	}
	if s, c := kv.Open(d, 100); s != nil || c != api.ErrForm {
		t.Errorf("Open = %v, %d; want nil, ErrForm", s, int(c))
	}
	if c := w.Reset([]string{"1:+,1:b,1:2,"}); c != api.OK {
		t.Fatalf("Reset = %d", int(c))
	}
	opened(t, d, 100, pairs("b", "2"))
}

// Promise 11.1: Open applies the changes in their order, whatever groups they are in: every sequence of up to four on three keys, of which one is a prefix of another.
func TestOpenAppliesInOrder(t *testing.T) {
	var steps []batch.Change
	for _, key := range []string{"a", "A", "ab"} {
		steps = append(steps, put(key, "1"), put(key, ""), del(key))
	}
	sequences := [][]batch.Change{nil}
	for from := 0; from < len(sequences); from++ {
		sequence := sequences[from]
		var apart [][]string
		var together []string
		for _, c := range sequence {
			apart = append(apart, []string{batch.Write(c)})
			together = append(together, batch.Write(c))
		}
		want := applied(nil, sequence)
		opened(t, withLog(t, 21, 16, apart...), 100, want)
		if len(sequence) > 0 {
			opened(t, withLog(t, 21, 16, together[:1], together[1:]), 100, want)
		}
		if t.Failed() {
			t.Fatalf("the log has %q", together)
		}
		if len(sequence) < 4 {
			for _, c := range steps {
				sequences = append(sequences, append(slices.Clone(sequence), c))
			}
		}
	}
	if n := len(steps); len(sequences) != 1+n+n*n+n*n*n+n*n*n*n {
		t.Errorf("there are %d sequences", len(sequences))
	}
}

// Promise 11.1: Open takes a store that uses more than the quota, which then holds for its commits.
func TestOpenWithSmallerQuota(t *testing.T) {
	d := made(t, 21, 32)
	has := pairs("a", "12", "b", "34", "c", "56")
	committed(t, formatted(t, d, 9), changesOf(has)...)
	for _, quota := range []int{0, 1, 8, 9, 10, math.MaxInt} {
		opened(t, d, quota, has)
	}
	s := opened(t, d, 4, has)
	before := image(d)
	for _, changes := range [][]batch.Change{{put("d", "")}, {put("a", "1")}, {put("a", "12")}, {del("a")}, {del("z")}, {del("a"), put("b", "3")}} {
		commit(t, s, api.ErrFull, changes...)
		check(t, s, 4, has)
	}
	committed(t, s)
	unchanged(t, d, before)
	committed(t, s, del("a"), put("b", "3"), put("c", "5"))
	opened(t, d, 4, pairs("b", "3", "c", "5"))
	check(t, s, 4, pairs("b", "3", "c", "5"))
}

// Promise 11.1: Half is that of the log, after each commit and each Compact, and in a store that is opened.
func TestHalf(t *testing.T) {
	d := made(t, 9, 16)
	s := formatted(t, d, 100)
	seen := map[int]int{}
	for n := range 30 {
		committed(t, s, put("a", fmt.Sprint(n)))
		if n%7 == 6 {
			compacted(t, s)
		}
		w, _, c := wal.Open(d)
		if c != api.OK || s.Half() != w.Half() || opened(t, d, 100, pairs("a", fmt.Sprint(n))).Half() != w.Half() {
			t.Errorf("after commit %d, Half() = %d; want %d", n, s.Half(), w.Half())
		}
		seen[s.Half()]++
	}
	if seen[0] < 5 || seen[1] < 5 {
		t.Errorf("halves: %v", seen)
	}
}

// Promise 11.2: a batch of no changes is committed without a touch of the disk, also if that can do nothing, or the quota is exceeded.
func TestCommitNothing(t *testing.T) {
	d := made(t, 9, 16)
	s := formatted(t, d, 5)
	committed(t, s, put("a", "1234"))
	cleared := batchOf(t, puts("b", "1"))
	cleared.Clear()
	for _, bad := range []func(){func() {}, func() { d.Fill(true) }, func() { off(d) }} {
		bad()
		before := image(d)
		for _, b := range []*batch.Batch{batch.New(), cleared} {
			if c := s.Commit(b); c != api.OK {
				t.Errorf("Commit of nothing = %d; want OK", int(c))
			}
		}
		unchanged(t, d, before)
		check(t, s, 5, pairs("a", "1234"))
	}
	d.Crash(nil, 0)
	s = opened(t, d, 0, pairs("a", "1234"))
	committed(t, s)
}

// Promise 11.2: one commit of each change on each key, on a store with and without that key.
func TestCommitOneChange(t *testing.T) {
	for _, has := range [][]kv.Pair{nil, pairs("b", "2"), all()} {
		for _, key := range append(keys(), "new", "c") {
			for _, c := range []batch.Change{put(key, "v"), put(key, ""), put(key, strings.Repeat("w", 500)), del(key)} {
				d := made(t, 201, 64)
				s := formatted(t, d, 1<<20)
				committed(t, s, changesOf(has)...)
				committed(t, s, c)
				want := applied(has, []batch.Change{c})
				check(t, s, 1<<20, want)
				checkGet(t, s, key, c.Value, !c.Gone)
				opened(t, d, 1<<20, want)
			}
		}
	}
}

// Promise 11.2: all changes of a batch are applied, and the texts of them, in order, are one group of the log.
func TestCommitIsOneGroup(t *testing.T) {
	d := made(t, 201, 64)
	s := formatted(t, d, 1<<20)
	var has []kv.Pair
	for _, changes := range [][]batch.Change{
		puts("b", "2", "a", "1", "ab", "3"),
		{del("b")},
		{del("none"), put("c", "4"), put("a", "")},
		changesOf(all()),
		{put("\xff", "5"), del("\xff\xff"), del("a"), put("\x00", ""), put("a\xff", "6")},
		puts("k", strings.Repeat("v", 2000)),
	} {
		b := batchOf(t, changes)
		before, room := logged(t, d)
		committed(t, s, changes...)
		after, left := logged(t, d)
		if !slices.Equal(after, slices.Concat(before, b.Texts())) {
			t.Errorf("the log has %.300q behind %.300q; want %.300q", after, before, b.Texts())
		}
		if left != room-wal.Need(b.Texts()) {
			t.Errorf("the room in the log goes from %d to %d; a group needs %d", room, left, wal.Need(b.Texts()))
		}
		has = applied(has, changes)
		check(t, s, 1<<20, has)
		opened(t, d, 1<<20, has)
	}
	if s.Half() != 0 {
		t.Errorf("half %d", s.Half())
	}
}

// Promise 11.2: the commit that uses exactly the quota is taken, and one of a byte more is refused, with no effect here or on the disk.
func TestQuota(t *testing.T) {
	has := pairs("a", "12", "bb", "345")
	for _, c := range []struct {
		quota   int
		changes []batch.Change
		want    api.Code
	}{
		{8, nil, api.OK}, {8, puts("a", "99"), api.OK}, {8, puts("a", "999"), api.ErrFull}, {8, puts("c", ""), api.ErrFull}, {9, puts("c", ""), api.OK},
		{10, puts("c", "1"), api.OK}, {10, puts("c", "12"), api.ErrFull}, {11, puts("c", "12"), api.OK}, {10, puts("cc", ""), api.OK}, {10, puts("cc", "1"), api.ErrFull},
		{11, puts("c", "", "d", "", "e", ""), api.OK}, {10, puts("c", "", "d", "", "e", ""), api.ErrFull},
		{8, []batch.Change{del("none")}, api.OK}, {8, []batch.Change{del("none"), put("c", "")}, api.ErrFull},
		{8, []batch.Change{del("a")}, api.OK}, {8, []batch.Change{del("a"), del("bb")}, api.OK},
		// Room that a batch makes and takes, whichever comes first in order.
		{8, []batch.Change{del("a"), put("c", "12")}, api.OK}, {8, []batch.Change{del("a"), put("c", "123")}, api.ErrFull},
		{8, []batch.Change{put("A", "1234"), del("bb")}, api.OK}, {8, []batch.Change{put("A", "12345"), del("bb")}, api.ErrFull},
		{8, []batch.Change{put("a", ""), put("bb", "34567")}, api.OK}, {8, []batch.Change{put("a", ""), put("bb", "345678")}, api.ErrFull},
		{8, []batch.Change{put("a", "1234567"), del("bb")}, api.OK}, {8, []batch.Change{put("a", "12345678"), del("bb")}, api.ErrFull},
		{8, []batch.Change{del("a"), del("bb"), put("z", "1234567")}, api.OK}, {8, []batch.Change{del("a"), del("bb"), put("z", "12345678")}, api.ErrFull},
		// Bytes are counted, not runes.
		{11, puts("c", "é"), api.OK}, {10, puts("c", "é"), api.ErrFull}, {10, puts("é", ""), api.OK}, {9, puts("é", ""), api.ErrFull},
		{11, puts("\xff", "\xff\x00"), api.OK}, {10, puts("\xff", "\xff\x00"), api.ErrFull},
	} {
		d := made(t, 41, 32)
		s := formatted(t, d, c.quota)
		committed(t, s, changesOf(has)...)
		before := image(d)
		commit(t, s, c.want, c.changes...)
		want := has
		if c.want == api.OK {
			want = applied(has, c.changes)
		} else {
			unchanged(t, d, before)
		}
		check(t, s, c.quota, want)
		opened(t, d, c.quota, want)
		if t.Failed() {
			t.Fatalf("with a quota of %d, a commit of %.300q", c.quota, batchOf(t, c.changes).Texts())
		}
	}
}

// Promise 11.2: with a quota of 0 no pair can be stored, not even one of an empty value; deletions and nothing can be committed.
func TestQuotaOfNothing(t *testing.T) {
	d := made(t, 41, 32)
	s := formatted(t, d, 0)
	for _, changes := range [][]batch.Change{{put("a", "")}, {put("a", "1")}, {del("a"), put("b", "")}, changesOf(all())} {
		commit(t, s, api.ErrFull, changes...)
		check(t, s, 0, nil)
	}
	committed(t, s)
	committed(t, s, del("a"))
	committed(t, s, del("a"), del("b"))
	compacted(t, s)
	check(t, s, 0, nil)
	opened(t, d, 0, nil)
	s = formatted(t, d, 1)
	commit(t, s, api.ErrFull, put("a", "1"))
	committed(t, s, put("a", ""))
	commit(t, s, api.ErrFull, put("b", ""))
	committed(t, s, put("b", ""), del("a"))
	opened(t, d, 1, pairs("b", ""))
}

// Promise 11.2: the quota is told before the disk's errors and before the log is full.
func TestQuotaFirst(t *testing.T) {
	for _, bad := range []func(d *disk.Disk){func(d *disk.Disk) { d.Fill(true) }, off, func(d *disk.Disk) { d.Cut(1) }} {
		d := made(t, 9, 16)
		s := formatted(t, d, 4)
		committed(t, s, put("a", "123"))
		bad(d)
		before := image(d)
		commit(t, s, api.ErrFull, put("b", ""))
		commit(t, s, api.ErrFull, put("a", strings.Repeat("v", 1000)))
		unchanged(t, d, before)
		check(t, s, 4, pairs("a", "123"))
	}
}

// Promise 11.2: a deletion of a key that is there takes it away, and one of a key that is not changes no pair, but is logged.
func TestDeletions(t *testing.T) {
	d := made(t, 101, 32)
	s := formatted(t, d, 1000)
	committed(t, s, puts("a", "1", "ab", "2", "b", "3")...)
	for _, c := range []struct {
		gone string
		want []kv.Pair
	}{
		{"aa", pairs("a", "1", "ab", "2", "b", "3")},
		{"A", pairs("a", "1", "ab", "2", "b", "3")},
		{"abc", pairs("a", "1", "ab", "2", "b", "3")},
		{"a", pairs("ab", "2", "b", "3")},
		{"a", pairs("ab", "2", "b", "3")},
		{"b", pairs("ab", "2")},
		{"ab", nil},
		{"ab", nil},
	} {
		before, _ := logged(t, d)
		committed(t, s, del(c.gone))
		check(t, s, 1000, c.want)
		checkGet(t, s, c.gone, "", false)
		opened(t, d, 1000, c.want)
		if after, _ := logged(t, d); !slices.Equal(after, append(before, fmt.Sprintf("1:-,%d:%s,", len(c.gone), c.gone))) {
			t.Errorf("the log has %q behind %q", after, before)
		}
	}
	committed(t, s, puts("a", "4")...)
	check(t, s, 1000, pairs("a", "4"))
}

// Promise 11.2: when the log has no room for the group, it is Reset to the pairs after the commit, in order.
func TestLogFull(t *testing.T) {
	// A half has 64 bytes; a commit of one pair of two bytes takes 25 of them.
	d := made(t, 9, 16)
	s := formatted(t, d, 1000)
	committed(t, s, put("b", "1"))
	committed(t, s, put("a", "2"))
	if l, room := logged(t, d); len(l) != 2 || room != 13 || s.Half() != 0 {
		t.Fatalf("the log has %q, room %d, half %d", l, room, s.Half())
	}
	committed(t, s, put("b", "3"))
	if l, room := logged(t, d); !slices.Equal(l, []string{"1:+,1:a,1:2,", "1:+,1:b,1:3,"}) || room != 63-41 || s.Half() != 1 {
		t.Errorf("the log has %q, room %d, half %d", l, room, s.Half())
	}
	check(t, s, 1000, pairs("a", "2", "b", "3"))
	committed(t, s, del("a"))
	if l, room := logged(t, d); !slices.Equal(l, []string{"1:+,1:a,1:2,", "1:+,1:b,1:3,", "1:-,1:a,"}) || room != 2 || s.Half() != 1 {
		t.Errorf("the log has %q, room %d, half %d", l, room, s.Half())
	}
	committed(t, s, del("b"), del("c"))
	if l, room := logged(t, d); len(l) != 0 || room != 63 || s.Half() != 0 {
		t.Errorf("the log has %q, room %d, half %d", l, room, s.Half())
	}
	opened(t, d, 1000, nil)
	committed(t, s, put("c", ""))
	check(t, s, 1000, pairs("c", ""))
	opened(t, d, 1000, pairs("c", ""))
}

// Promise 11.2: a group that fills the log to its last byte is appended, and one of a byte more makes it Reset.
func TestLogJustFull(t *testing.T) {
	for length := range 39 {
		d := made(t, 9, 16)
		s := formatted(t, d, 1000)
		committed(t, s, put("a", "1"))
		_, room := logged(t, d)
		b := batchOf(t, puts("a", strings.Repeat("v", length)))
		need := wal.Need(b.Texts())
		committed(t, s, put("a", strings.Repeat("v", length)))
		want := 0
		if need > room {
			want = 1
		}
		if s.Half() != want {
			t.Errorf("a group of %d bytes, with room for %d: half %d", need, room, s.Half())
		}
		opened(t, d, 1000, pairs("a", strings.Repeat("v", length)))
	}
}

// Promise 11.2: a batch whose changes are too large for the log is committed if the pairs after it fit.
func TestResetIsSmallerThanTheGroup(t *testing.T) {
	d := made(t, 9, 16)
	s := formatted(t, d, 1000)
	committed(t, s, put("a", "1"))
	committed(t, s, del("a"), del("b"), del("c"), del("d"), put("e", "2"))
	if l, _ := logged(t, d); !slices.Equal(l, []string{"1:+,1:e,1:2,"}) || s.Half() != 1 {
		t.Errorf("the log has %q, half %d", l, s.Half())
	}
	opened(t, d, 1000, pairs("e", "2"))
	var many []batch.Change
	for n := range api.MaxOps {
		many = append(many, del(numbered(n)))
	}
	committed(t, s, many...)
	if l, _ := logged(t, d); !slices.Equal(l, []string{"1:+,1:e,1:2,"}) || s.Half() != 0 {
		t.Errorf("the log has %q, half %d", l, s.Half())
	}
}

// Promise 11.2: on a disk on which even the pairs do not fit, a commit returns ErrFull, and has no effect here or on the disk.
func TestDiskTooSmall(t *testing.T) {
	for _, has := range [][]kv.Pair{nil, pairs("a", "1"), pairs("a", "1", "b", "2"), pairs("k", strings.Repeat("v", 38))} {
		d := made(t, 9, 16)
		s := formatted(t, d, 1000)
		committed(t, s, changesOf(has)...)
		before := image(d)
		for _, changes := range [][]batch.Change{
			puts("c", strings.Repeat("v", 40)),
			puts("a", "1", "b", "2", "c", "3", "d", "4"),
			puts("c", strings.Repeat("v", 999)),
			{del("a"), del("b"), del("k"), put("c", strings.Repeat("v", 40))},
		} {
			commit(t, s, 8, changes...)
			check(t, s, 1000, has)
			unchanged(t, d, before)
			opened(t, d, 1000, has)
		}
		// The store goes on.
		committed(t, s, del("a"), del("b"), del("k"), put("c", "3"))
		committed(t, s, put("d", "4"))
		opened(t, d, 1000, pairs("c", "3", "d", "4"))
		check(t, s, 1000, pairs("c", "3", "d", "4"))
	}
}

// Promise 11.2: the pairs that just fill a half are committed, by a group or by a Reset, and those of a byte more are refused.
func TestJustFits(t *testing.T) {
	largest := 0
	for length := range 60 {
		for _, past := range []int{0, 1, 2} {
			d := made(t, 9, 16)
			s := formatted(t, d, 1000)
			for n := range past {
				committed(t, s, put("a", fmt.Sprint(n)))
			}
			has := s.Scan("")
			value := strings.Repeat("v", length)
			want := api.OK
			if wal.Need(textsOf(pairs("a", value)))+1 > 64 {
				want = api.ErrFull
			}
			commit(t, s, want, put("a", value))
			if want == api.OK {
				has = pairs("a", value)
				largest = length
			}
			check(t, s, 1000, has)
			opened(t, d, 1000, has)
		}
	}
	if largest != 38 {
		t.Errorf("the largest value that fits has %d bytes; want 38", largest)
	}
}

// Promise 11.2: a lack of room, then of power, is told in this order, as the log's Reset does.
func TestDiskTooSmallWithoutPower(t *testing.T) {
	d := made(t, 9, 16)
	s := formatted(t, d, 1000)
	committed(t, s, put("a", "1"))
	off(d)
	commit(t, s, api.ErrFull, put("c", strings.Repeat("v", 40)))
	commit(t, s, api.ErrPower, put("c", strings.Repeat("v", 15)))
	commit(t, s, api.ErrPower, put("c", "1"))
	check(t, s, 1000, pairs("a", "1"))
	d.Crash(nil, 0)
	d.Fill(true)
	s = opened(t, d, 1000, pairs("a", "1"))
	commit(t, s, api.ErrFull, put("c", strings.Repeat("v", 40)))
	commit(t, s, api.ErrDisk, put("a", strings.Repeat("v", 30)))
	commit(t, s, api.ErrDisk, put("c", "1"))
	check(t, s, 1000, pairs("a", "1"))
}

// Promise 11.2: with an error of the disk the pairs are unchanged, and the next commit has nothing of the one that failed.
func TestCommitFails(t *testing.T) {
	d := made(t, 21, 16)
	s := formatted(t, d, 1000)
	has := pairs("a", "1", "b", "2")
	committed(t, s, changesOf(has)...)
	before, _ := logged(t, d)
	d.Fill(true)
	for _, changes := range [][]batch.Change{{put("c", "3")}, {del("a")}, {put("a", "9"), del("b"), put("d", "4")}, {put("e", strings.Repeat("v", 80))}} {
		commit(t, s, 81, changes...)
		check(t, s, 1000, has)
		opened(t, d, 1000, has)
	}
	d.Fill(false)
	committed(t, s, put("f", "5"))
	if after, _ := logged(t, d); !slices.Equal(after, append(before, "1:+,1:f,1:5,")) {
		t.Errorf("the log has %q behind %q", after, before)
	}
	has = pairs("a", "1", "b", "2", "f", "5")
	check(t, s, 1000, has)
	off(d)
	for _, changes := range [][]batch.Change{{put("c", "3")}, {del("a")}, {put("e", strings.Repeat("v", 80))}} {
		commit(t, s, 80, changes...)
		check(t, s, 1000, has)
	}
	d.Crash(nil, 0)
	check(t, s, 1000, has)
	opened(t, d, 1000, has)
}

// Promise 11.2 and rule R4: a batch can be changed and committed again; the store has what was in it when it was committed.
func TestBatchIsNotKept(t *testing.T) {
	d := made(t, 41, 32)
	s := formatted(t, d, 1000)
	b := batchOf(t, puts("a", "1", "b", "2"))
	if c := s.Commit(b); c != api.OK {
		t.Fatalf("Commit = %d", int(c))
	}
	b.Put("a", "9")
	b.Del("b")
	b.Put("c", "3")
	check(t, s, 1000, pairs("a", "1", "b", "2"))
	b.Clear()
	check(t, s, 1000, pairs("a", "1", "b", "2"))
	b.Put("d", "4")
	for range 3 {
		if c := s.Commit(b); c != api.OK || b.Len() != 1 {
			t.Fatalf("Commit = %d, %d changes", int(c), b.Len())
		}
		check(t, s, 1000, pairs("a", "1", "b", "2", "d", "4"))
	}
	opened(t, d, 1000, pairs("a", "1", "b", "2", "d", "4"))
}

// Promise 11.2: a full batch, of keys and values of the greatest length that a disk takes.
func TestFullBatch(t *testing.T) {
	d := made(t, 4096, 256)
	s := formatted(t, d, 1<<20)
	var changes []batch.Change
	for n := range api.MaxOps {
		changes = append(changes, put(strings.Repeat("k", 100)+numbered(n), strings.Repeat("v", 100)))
	}
	committed(t, s, changes...)
	want := applied(nil, changes)
	check(t, s, 1<<20, want)
	opened(t, d, 1<<20, want)
	for n := range changes {
		if n%3 > 0 {
			changes[n] = del(changes[n].Key)
		}
	}
	committed(t, s, changes...)
	check(t, s, 1<<20, applied(nil, changes))
	key, value := strings.Repeat("\xff", api.MaxKey), strings.Repeat("v", 200000)
	committed(t, s, put(key, value))
	checkGet(t, s, key, value, true)
	checkScan(t, s, key, pairs(key, value))
	opened(t, d, 1<<20, append(applied(nil, changes), kv.Pair{Key: key, Value: value}))
	before := s.Scan("")
	commit(t, s, api.ErrFull, put("l", strings.Repeat("v", 1<<20)))
	s = opened(t, d, 1<<30, before)
	commit(t, s, api.ErrFull, put("l", strings.Repeat("v", 1<<20)))
	check(t, s, 1<<30, before)
}

// Promise 11.3: Compact leaves in the log the texts that store the pairs, in the other half, and changes no pair.
func TestCompact(t *testing.T) {
	for _, has := range [][]kv.Pair{nil, pairs("a", ""), pairs("b", "2", "c", "3"), all()} {
		d := made(t, 401, 32)
		s := formatted(t, d, 1<<20)
		committed(t, s, puts("a", "0", "gone", strings.Repeat("v", 100))...)
		committed(t, s, del("gone"), del("a"))
		committed(t, s, changesOf(has)...)
		for n := range 4 {
			compacted(t, s)
			if s.Half() != 1-n%2 {
				t.Errorf("half %d after %d Compacts", s.Half(), n+1)
			}
			if l, room := logged(t, d); !slices.Equal(l, textsOf(has)) || len(has) > 0 && room != 200*32-1-wal.Need(textsOf(has)) {
				t.Errorf("the log has %.300q, room %d; want %.300q", l, room, textsOf(has))
			}
			check(t, s, 1<<20, has)
			opened(t, d, 1<<20, has)
		}
		committed(t, s, put("new", "1"))
		opened(t, d, 1<<20, applied(has, puts("new", "1")))
	}
}

// Promise 11.3: Compact of an empty store, and of stores that fill their half.
func TestCompactEdges(t *testing.T) {
	d := made(t, 4, 16)
	s := formatted(t, d, 0)
	compacted(t, s)
	if l, room := logged(t, d); len(l) != 0 || room != 15 || s.Half() != 1 {
		t.Errorf("the log has %q, room %d, half %d", l, room, s.Half())
	}
	opened(t, d, 0, nil)

	for _, has := range [][]kv.Pair{pairs("a", strings.Repeat("v", 38)), pairs("a", "1234", "b", "123", "c", "12")} {
		d = made(t, 9, 16)
		s = formatted(t, d, 1000)
		committed(t, s, changesOf(has)...)
		for range 3 {
			compacted(t, s)
			check(t, s, 1000, has)
			opened(t, d, 1000, has)
		}
	}
	// A log whose last byte but one is taken, by two groups.
	d = made(t, 9, 16)
	s = formatted(t, d, 1000)
	committed(t, s, put("a", "1"))
	committed(t, s, put("b", strings.Repeat("v", 13)))
	if _, room := logged(t, d); room != 0 {
		t.Fatalf("the log has room for %d", room)
	}
	compacted(t, s)
	opened(t, d, 1000, pairs("a", "1", "b", strings.Repeat("v", 13)))
}

// Promise 11.3: Compact returns the error of the Reset, and changes no pair, here or in a store that is opened.
func TestCompactFails(t *testing.T) {
	for _, has := range [][]kv.Pair{nil, pairs("a", "1", "b", "2")} {
		d := made(t, 21, 16)
		s := formatted(t, d, 1000)
		committed(t, s, changesOf(has)...)
		d.Fill(true)
		for range 2 {
			if c := s.Compact(); c != 81 || s.Half() != 0 {
				t.Errorf("Compact on a full disk = %d, half %d", int(c), s.Half())
			}
		}
		check(t, s, 1000, has)
		opened(t, d, 1000, has)
		d.Fill(false)
		off(d)
		for range 2 {
			if c := s.Compact(); c != 80 || s.Half() != 0 {
				t.Errorf("Compact without power = %d, half %d", int(c), s.Half())
			}
		}
		check(t, s, 1000, has)
		d.Crash(nil, 0)
		s = opened(t, d, 1000, has)
		compacted(t, s)
		opened(t, d, 1000, has)
	}
}

// Promise 11.3: Get of every key, and of those near them, also such as no key can be.
func TestGet(t *testing.T) {
	d := made(t, 401, 32)
	s := formatted(t, d, 1<<20)
	committed(t, s, changesOf(all())...)
	has := map[string]string{}
	for _, p := range all() {
		has[p.Key] = p.Value
	}
	for _, key := range bounds() {
		value, is := has[key]
		checkGet(t, s, key, value, is)
	}
	committed(t, s, put("k", ""))
	checkGet(t, s, "k", "", true)
	checkGet(t, s, "K", "", false)
	checkGet(t, s, "", "", false)
}

// Promise 11.3: Scan, written out.
func TestScan(t *testing.T) {
	s := formatted(t, made(t, 401, 32), 1<<20)
	has := pairs("A", "0", "a", "1", "a\x00", "2", "aa", "3", "ab", "4", "a\xff", "5", "b", "6", "bc", "7", "\x80", "8", "\xff", "9", "\xff\xff", "10")
	committed(t, s, changesOf(has)...)
	for _, c := range []struct {
		prefix string
		want   []kv.Pair
	}{
		{"", has}, {"A", has[:1]}, {"a", has[1:6]}, {"aa", has[3:4]}, {"a\x00", has[2:3]}, {"a\xff", has[5:6]}, {"b", has[6:8]}, {"bc", has[7:8]},
		{"\x80", has[8:9]}, {"\xff", has[9:]}, {"\xff\xff", has[10:]},
		{"aaa", nil}, {"ac", nil}, {"a\x01", nil}, {"B", nil}, {"c", nil}, {"\x00", nil}, {"\x7f", nil}, {"\x81", nil}, {"\xff\xff\xff", nil}, {"\xff\xff\x00", nil}, {"é", nil},
		{strings.Repeat("a", 1000), nil}, {strings.Repeat("\xff", 1000), nil},
	} {
		checkScan(t, s, c.prefix, c.want)
	}
}

// Promise 11.3: Range, written out.
func TestRange(t *testing.T) {
	s := formatted(t, made(t, 401, 32), 1<<20)
	has := pairs("A", "0", "a", "1", "a\x00", "2", "aa", "3", "ab", "4", "a\xff", "5", "b", "6", "bc", "7", "\x80", "8", "\xff", "9")
	committed(t, s, changesOf(has)...)
	for _, c := range []struct {
		from, to string
		want     []kv.Pair
	}{
		{"", "", nil}, {"", "A", nil}, {"", "A\x00", has[:1]}, {"", "a", has[:1]}, {"A", "a", has[:1]}, {"A\x00", "a", nil}, {"B", "a\x00", has[1:2]},
		{"a", "a", nil}, {"a", "b", has[1:6]}, {"a", "aa", has[1:3]}, {"a\x00", "aa", has[2:3]}, {"aa", "ab", has[3:4]}, {"aa", "ac", has[3:5]}, {"aaa", "ab", nil},
		{"b", "bc", has[6:7]}, {"b", "bd", has[6:8]}, {"b", "b", nil}, {"bc", "b", nil}, {"b", "a", nil}, {"\xff", "", nil}, {"z", "\x80", nil}, {"z", "\x81", has[8:9]},
		{"\x80", "\xff", has[8:9]}, {"\x80", "\xff\x00", has[8:]}, {"\x7f", "\xff\xff", has[8:]}, {"\xff", "\xff\x00", has[9:]}, {"\xff\x00", "\xff\xff", nil},
		{"", strings.Repeat("\xff", 1000), has}, {strings.Repeat("\xff", 1000), "", nil}, {strings.Repeat("a", 1000), "ab", nil}, {"", strings.Repeat("a", 1000), has[:4]},
	} {
		checkRange(t, s, c.from, c.to, c.want)
	}
}

// Promise 11.3: every prefix and every range, on stores of all keys and of some, held against the chapter's words.
func TestScanAndRangeAsPromised(t *testing.T) {
	for some := range 4 {
		var has []kv.Pair
		for i, p := range all() {
			if some == 0 || i%4 == some {
				has = append(has, p)
			}
		}
		d := made(t, 401, 32)
		committed(t, formatted(t, d, 1<<20), changesOf(has)...)
		s := opened(t, d, 1<<20, has)
		for _, from := range bounds() {
			checkScan(t, s, from, scanned(has, from))
			for _, to := range bounds() {
				checkRange(t, s, from, to, ranged(has, from, to))
			}
		}
	}
}

// Rule R4: what Scan and Range returned is neither the store's nor another result's, with its spare capacity.
func TestResultsAreNewMemory(t *testing.T) {
	d := made(t, 41, 32)
	s := formatted(t, d, 1000)
	has := pairs("a", "1", "ab", "2", "b", "3", "c", "4")
	committed(t, s, changesOf(has)...)
	for _, ask := range []func() []kv.Pair{
		func() []kv.Pair { return s.Scan("") }, func() []kv.Pair { return s.Scan("a") }, func() []kv.Pair { return s.Scan("zz") }, func() []kv.Pair { return s.Scan("aa") },
		func() []kv.Pair { return s.Range("a", "b") }, func() []kv.Pair { return s.Range("", "z") }, func() []kv.Pair { return s.Range("b", "a") }, func() []kv.Pair { return s.Range("b", "b") },
	} {
		first, second := ask(), ask()
		want := slices.Clone(second)
		for i := range first[:cap(first)] {
			first[:cap(first)][i] = kv.Pair{Key: "spoilt", Value: "spoilt"}
		}
		first = append(first, kv.Pair{Key: "appended"})
		if !slices.Equal(second, want) || len(first) != len(want)+1 {
			t.Errorf("results share memory: %q", second)
		}
		check(t, s, 1000, has)
	}
	// A result stays as it was when the store goes on.
	before, part := s.Scan(""), s.Range("ab", "c")
	committed(t, s, put("a", "9"), del("ab"), put("b", "8"), put("aa", "7"))
	compacted(t, s)
	if !slices.Equal(before, has) || !slices.Equal(part, has[1:3]) {
		t.Errorf("a result has changed: %q, %q", before, part)
	}
}

// Rule R7: asking changes nothing, and the same is answered again.
func TestAskingChangesNothing(t *testing.T) {
	d := made(t, 401, 32)
	s := formatted(t, d, 1<<20)
	committed(t, s, changesOf(all())...)
	before := image(d)
	for range 2 {
		for _, key := range bounds() {
			s.Get(key)
			s.Scan(key)
			s.Range(key, "b")
		}
		check(t, s, 1<<20, all())
	}
	unchanged(t, d, before)
	d.Fill(true)
	check(t, s, 1<<20, all())
	off(d)
	check(t, s, 1<<20, all())
}

// Two stores on two disks have nothing in common.
func TestTwoStores(t *testing.T) {
	d, e := made(t, 21, 32), made(t, 21, 32)
	r, s := formatted(t, d, 10), formatted(t, e, 20)
	committed(t, r, put("a", "1"))
	committed(t, s, put("b", "2"))
	committed(t, r, put("c", "3"))
	compacted(t, s)
	check(t, r, 10, pairs("a", "1", "c", "3"))
	check(t, s, 20, pairs("b", "2"))
	if r.Half() != 0 || s.Half() != 1 {
		t.Errorf("halves %d, %d", r.Half(), s.Half())
	}
	opened(t, d, 30, pairs("a", "1", "c", "3"))
	opened(t, e, 30, pairs("b", "2"))
}

// Promises 11.1 to 11.3: a store that is opened, committed to, and opened again many times.
func TestOpenedManyTimes(t *testing.T) {
	d := made(t, 61, 16)
	formatted(t, d, 100)
	var has []kv.Pair
	halves := map[int]int{}
	for n := range 500 {
		s := opened(t, d, 100, has)
		changes := puts(fmt.Sprint("k", n%7), fmt.Sprint(n))
		if n%5 == 0 {
			changes = append(changes, del(fmt.Sprint("k", n%3)))
		}
		committed(t, s, changes...)
		has = applied(has, changes)
		check(t, s, 100, has)
		if n%50 == 0 {
			compacted(t, s)
		}
		if n%3 == 0 {
			d.Crash(nil, 0)
		}
		halves[s.Half()]++
		opened(t, d, 100, has)
	}
	if halves[0] < 100 || halves[1] < 100 {
		t.Errorf("halves: %v", halves)
	}
}

// lists are all lists of bools of the length.
func lists(length int) [][]bool {
	var l [][]bool
	for bits := range 1 << length {
		keep := make([]bool, length)
		for i := range keep {
			keep[i] = bits>>i&1 == 1
		}
		l = append(l, keep)
	}
	return l
}

// past is what a store has been through before something is tried.
type past struct {
	name  string
	steps [][]batch.Change // a commit each; one of no changes stands for a Compact
}

// pasts are stores in either half, whose logs are empty, or have room or none for one commit more.
func pasts() []past {
	return []past{
		{"new", nil},
		{"one pair", [][]batch.Change{puts("a", "1")}},
		{"two commits", [][]batch.Change{puts("a", "1"), puts("b", "2")}},
		{"three commits", [][]batch.Change{puts("a", "1"), puts("b", "2"), puts("a", "3")}},
		{"many commits", slices.Repeat([][]batch.Change{puts("a", "1"), puts("b", "2"), {del("a")}}, 4)},
		{"compacted", [][]batch.Change{puts("a", "1", "b", "2"), nil}},
		{"compacted empty", [][]batch.Change{puts("a", "1"), {del("a")}, nil}},
		{"compacted twice", [][]batch.Change{puts("a", "1"), nil, puts("c", "2"), nil}},
		{"compacted, then a commit", [][]batch.Change{puts("a", "1"), nil, puts("b", "2")}},
		{"a full half", [][]batch.Change{puts("a", strings.Repeat("\x01", 38))}},
	}
}

// lived is a store on a littered disk behind a past, and its pairs.
func (p past) lived(t *testing.T, sectors int) (*disk.Disk, *kv.Store, []kv.Pair) {
	t.Helper()
	d := littered(t, sectors, 16, 1)
	s := formatted(t, d, 1000)
	var has []kv.Pair
	for _, changes := range p.steps {
		if changes == nil {
			compacted(t, s)
			continue
		}
		committed(t, s, changes...)
		has = applied(has, changes)
	}
	return d, s, has
}

// afterCrash opens the store on a disk that crashed, which must have the pairs of one of the two, opens it again, and goes on with it. It returns whether the store has the second.
func afterCrash(t *testing.T, d *disk.Disk, before, after []kv.Pair) bool {
	t.Helper()
	s, c := kv.Open(d, 1000)
	if c != api.OK {
		t.Fatalf("Open after a crash = %d", int(c))
	}
	has := s.Scan("")
	if !slices.Equal(has, before) && !slices.Equal(has, after) {
		t.Fatalf("after a crash there are %s; want %s, or %s", short(has), short(before), short(after))
	}
	opened(t, d, 1000, has)
	d.Crash(nil, 0)
	s = opened(t, d, 1000, has)
	compacted(t, s)
	opened(t, d, 1000, has)
	committed(t, s, del("b"))
	opened(t, d, 1000, applied(has, []batch.Change{del("b")}))
	return slices.Equal(has, after)
}

// crashes makes power fail at every operation of an act, and once at none, with every choice of the writes that survive, and every tear of the last of them.
func crashes(t *testing.T, p past, act func(s *kv.Store) api.Code, after func(has []kv.Pair) []kv.Pair) {
	t.Helper()
	for _, sectors := range []int{9, 10} {
		seen := map[bool]int{}
		for cut := 1; ; cut++ {
			cached, failed := 0, false
			for i := 0; i < 1<<cached; i++ {
				for torn := -1; torn <= 15; torn++ {
					d, s, has := p.lived(t, sectors)
					d.Cut(cut)
					c := act(s)
					want := after(has)
					failed = d.Off()
					if failed != (c == api.ErrPower) || !failed && c != api.OK {
						t.Fatalf("%s: with Cut(%d), the act returns %d", p.name, cut, int(c))
					}
					told := has
					if !failed {
						told = want
					}
					check(t, s, 1000, told)
					cached = d.Cached()
					d.Crash(lists(cached)[i], torn)
					seen[afterCrash(t, d, told, want)]++
					if t.Failed() {
						t.Fatalf("%s: with Cut(%d), survivors %v, torn at %d", p.name, cut, lists(cached)[i], torn)
					}
				}
			}
			if !failed {
				break
			}
		}
		_, _, has := p.lived(t, sectors)
		if !slices.Equal(has, after(has)) && (seen[false] == 0 || seen[true] == 0) {
			t.Errorf("%s: crashes leave the pairs as before and as after: %v", p.name, seen)
		}
	}
}

// Promises 11.2 and 11.4: power fails at each operation of a commit, be it a group that is appended or a Reset.
func TestCommitCrashes(t *testing.T) {
	resets, groups := 0, 0
	for _, p := range pasts() {
		for _, changes := range [][]batch.Change{
			{put("a", "9")},
			{put("c", "")},
			{del("a")},
			{del("a"), put("b", "8")},
			{del("none")},
			{del("a"), del("b"), put("c", strings.Repeat("\x01", 30))},
		} {
			_, s, _ := p.lived(t, 9)
			half := s.Half()
			if c := s.Commit(batchOf(t, changes)); c == api.ErrFull {
				continue
			}
			if s.Half() == half {
				groups++
			} else {
				resets++
			}
			crashes(t, p, func(s *kv.Store) api.Code { return s.Commit(batchOf(t, changes)) }, func(has []kv.Pair) []kv.Pair { return applied(has, changes) })
		}
	}
	if resets < 10 || groups < 10 {
		t.Errorf("%d commits are Resets, %d are groups", resets, groups)
	}
}

// Promises 11.3 and 11.4: power fails at each operation of a Compact, which changes no pair.
func TestCompactCrashes(t *testing.T) {
	for _, p := range pasts() {
		crashes(t, p, func(s *kv.Store) api.Code { return s.Compact() }, func(has []kv.Pair) []kv.Pair { return has })
	}
}

// Promise 11.4: power fails again and again, each time at another operation of one commit, until it is done; every store that is opened on the way has all of it or nothing.
func TestCrashesOneAfterAnother(t *testing.T) {
	for seed := range 300 {
		r := rand.New(rand.NewSource(int64(seed)))
		d := littered(t, 9+r.Intn(2), 16, byte(r.Intn(2)))
		s := formatted(t, d, 1000)
		var has []kv.Pair
		for n := range 12 {
			changes := []batch.Change{put(fmt.Sprint(n%2), fmt.Sprint(n)), del(fmt.Sprint(r.Intn(3)))}[r.Intn(2):]
			want := applied(has, changes)
			for {
				d.Cut(1 + r.Intn(12))
				c := s.Commit(batchOf(t, changes))
				d.Cut(0)
				if c == api.OK {
					break
				}
				if c != api.ErrPower {
					t.Fatalf("seed %d: Commit = %d", seed, int(c))
				}
				d.Crash(lists(6)[r.Intn(64)], r.Intn(32)-8)
				s, c = kv.Open(d, 1000)
				if c != api.OK {
					t.Fatalf("seed %d: Open = %d", seed, int(c))
				}
				if l := s.Scan(""); !slices.Equal(l, has) && !slices.Equal(l, want) {
					t.Fatalf("seed %d: after a crash there are %s; want %s, or %s", seed, short(l), short(has), short(want))
				}
			}
			has = want
			check(t, s, 1000, has)
		}
		opened(t, d, 1000, has)
	}
}

// Promise 11.4: a crash between calls takes nothing away, and changes nothing.
func TestCrashBetweenCalls(t *testing.T) {
	for _, p := range pasts() {
		for _, keep := range [][]bool{nil, {true}, {true, true, true}} {
			d, s, has := p.lived(t, 9)
			if d.Cached() != 0 {
				t.Errorf("%s: %d writes are in the cache", p.name, d.Cached())
			}
			d.Crash(keep, 3)
			opened(t, d, 1000, has)
			committed(t, s, del("a"))
			opened(t, d, 1000, applied(has, []batch.Change{del("a")}))
		}
	}
}

// model is a store by the words of the chapter, on a log of its own.
type model struct {
	log   *wal.Wal
	quota int
	has   []kv.Pair
}

// commit does what promise 11.2 says, step by step.
func (m *model) commit(changes []batch.Change, texts []string) api.Code {
	if len(changes) == 0 {
		return api.OK
	}
	after := applied(m.has, changes)
	if usedBy(after) > m.quota {
		return api.ErrFull
	}
	for _, s := range texts {
		m.log.Append(s)
	}
	c := m.log.Sync()
	if c == api.ErrFull {
		c = m.log.Reset(textsOf(after))
	}
	if c == api.OK {
		m.has = after
	}
	return c
}

// twins are a store and its model, each on a disk of its own, to which the same is done.
type twins struct {
	d, e *disk.Disk
	s    *kv.Store
	m    *model
}

// both does the same to both disks.
func (w *twins) both(do func(d *disk.Disk)) {
	do(w.d)
	do(w.e)
}

// open opens both anew.
func (w *twins) open(t *testing.T, quota int) {
	t.Helper()
	s, c := kv.Open(w.d, quota)
	log, l, want := wal.Open(w.e)
	if c != want || (s == nil) != (log == nil) {
		t.Fatalf("Open = %v, %d; want %d", s, int(c), int(want))
	}
	if c != api.OK {
		return
	}
	var changes []batch.Change
	for _, text := range l {
		change, c := batch.Read(text)
		if c != api.OK {
			t.Fatalf("the log has %q", text)
		}
		changes = append(changes, change)
	}
	w.s, w.m = s, &model{log: log, quota: quota, has: applied(nil, changes)}
}

// check compares the store and its disk with the model's.
func (w *twins) check(t *testing.T, after string) {
	t.Helper()
	check(t, w.s, w.m.quota, w.m.has)
	if w.s.Half() != w.m.log.Half() || !slices.Equal(image(w.d), image(w.e)) {
		t.Errorf("half %d, disk %s; want %d, %s", w.s.Half(), image(w.d)[0], w.m.log.Half(), image(w.e)[0])
	}
	if t.Failed() {
		t.Fatalf("after %s", after)
	}
}

// randomChanges are up to five changes of a few keys.
func randomChanges(r *rand.Rand) []batch.Change {
	few := []string{"a", "ab", "b", "B", "\xff", "c/1", "c/2"}
	var l []batch.Change
	for range r.Intn(6) {
		key := few[r.Intn(len(few))]
		if r.Intn(3) == 0 {
			l = append(l, del(key))
		} else {
			l = append(l, put(key, strings.Repeat(string([]byte{byte(r.Intn(256))}), r.Intn(5)*r.Intn(8))))
		}
	}
	return l
}

// Promises 11.1 to 11.4: long lives of a store from fixed seeds, held against the chapter's words, with full disks, and power failing at any operation, more than once, any writes surviving and torn ones.
func TestLongLives(t *testing.T) {
	told := map[api.Code]int{}
	for seed := range 300 {
		r := rand.New(rand.NewSource(int64(seed)))
		sectors, size, litter := 4+r.Intn(30), []int{16, 17, 24, 40}[r.Intn(4)], byte(r.Intn(3))
		w := &twins{d: littered(t, sectors, size, litter), e: littered(t, sectors, size, litter)}
		w.s = formatted(t, w.d, 60)
		log, _ := wal.Format(w.e)
		w.m = &model{log: log, quota: 60}
		for n := range 150 {
			before, after := w.m.has, w.m.has
			did := fmt.Sprintf("step %d with seed %d", n, seed)
			switch r.Intn(12) {
			case 0:
				full := r.Intn(3) == 0
				w.both(func(d *disk.Disk) { d.Fill(full) })
			case 1:
				cut := r.Intn(12)
				w.both(func(d *disk.Disk) { d.Cut(cut) })
			case 2:
				w.open(t, []int{0, 20, 60, 1000}[r.Intn(4)])
			case 3:
				got, want := w.s.Compact(), w.m.log.Reset(textsOf(w.m.has))
				if got != want {
					t.Errorf("Compact = %d; want %d", int(got), int(want))
				}
			default:
				changes := randomChanges(r)
				b := batchOf(t, changes)
				after = applied(before, changes)
				got, want := w.s.Commit(b), w.m.commit(changes, b.Texts())
				if got != want {
					t.Errorf("Commit of %.300q = %d; want %d", b.Texts(), int(got), int(want))
				}
				told[got]++
				if got == api.OK {
					before = after
				}
			}
			w.check(t, did)
			if !w.d.Off() && r.Intn(20) > 0 {
				continue
			}
			keep, torn := lists(6)[r.Intn(64)], r.Intn(2*size)-size/2
			w.both(func(d *disk.Disk) { d.Crash(keep, torn) })
			w.open(t, w.m.quota)
			w.check(t, did+", and a crash")
			if !slices.Equal(w.m.has, before) && !slices.Equal(w.m.has, after) {
				t.Fatalf("after %s there are %s; want %s, or %s", did, short(w.m.has), short(before), short(after))
			}
		}
	}
	if told[api.OK] < 1000 || told[api.ErrFull] < 1000 || told[api.ErrDisk] < 1000 || told[api.ErrPower] < 1000 {
		t.Errorf("commits returned %v", told)
	}
}

// Promise P1: the largest disk, filled with as many pairs as it takes, ends soon, in whatever order they come.
func TestManyPairs(t *testing.T) {
	const n = 20000
	order := rand.New(rand.NewSource(1)).Perm(n)
	d := made(t, 4096, 256)
	s := formatted(t, d, 1<<20)
	var want []kv.Pair
	for i := range n {
		want = append(want, kv.Pair{Key: numbered(i), Value: "v"})
	}
	for from := 0; from < n; from += api.MaxOps {
		var changes []batch.Change
		for _, i := range order[from : from+api.MaxOps] {
			changes = append(changes, put(numbered(i), "v"))
		}
		committed(t, s, changes...)
	}
	check(t, s, 1<<20, want)
	s = opened(t, d, 1<<20, want)
	compacted(t, s)
	s = opened(t, d, 1<<20, want)
	for i := range 200 {
		committed(t, s, put(numbered(order[i]), "w"))
		want[order[i]].Value = "w"
	}
	check(t, s, 1<<20, want)
	opened(t, d, 1<<20, want)

	// A log of single changes, the last key first.
	w, c := wal.Format(d)
	for i := n - 1; i >= 0 && c == api.OK; i-- {
		w.Append(batch.Write(put(numbered(i), "v")))
		if i%1000 == 0 {
			c = w.Sync()
		}
	}
	if c != api.OK {
		t.Fatalf("Sync = %d", int(c))
	}
	s, c = kv.Open(d, 1<<20)
	if c != api.OK || s.Len() != n {
		t.Errorf("Open = %d, %d pairs", int(c), s.Len())
	}
}
