package wal_test

import (
	"encoding/binary"
	"fmt"
	"hash/crc32"
	"math"
	"math/rand"
	"slices"
	"strconv"
	"strings"
	"testing"

	"bulletin/api"
	"bulletin/disk"
	"bulletin/wal"
)

// made is a new disk.
func made(t *testing.T, sectors, size int) *disk.Disk {
	t.Helper()
	d, c := disk.New(sectors, size)
	if c != api.OK {
		t.Fatalf("disk.New(%d, %d) = %d", sectors, size, int(c))
	}
	return d
}

// littered is a disk on which every byte of every sector is the one given.
func littered(t *testing.T, sectors, size int, b byte) *disk.Disk {
	t.Helper()
	d := made(t, sectors, size)
	for at := range sectors {
		wrote(t, d, at, strings.Repeat(string([]byte{b}), size))
	}
	d.Flush()
	return d
}

// wrote writes what must be written.
func wrote(t *testing.T, d *disk.Disk, at int, s string) {
	t.Helper()
	if c := d.Write(at, s); c != api.OK {
		t.Fatalf("Write(%d, %q) = %d", at, s, int(c))
	}
}

// formatted is a log that must be made.
func formatted(t *testing.T, d *disk.Disk) *wal.Wal {
	t.Helper()
	w, c := wal.Format(d)
	if w == nil || c != api.OK {
		t.Fatalf("Format = %v, %d; want a log, OK", w, int(c))
	}
	return w
}

// opened is the log of a disk, which must have these strings.
func opened(t *testing.T, d *disk.Disk, want []string) *wal.Wal {
	t.Helper()
	w, l, c := wal.Open(d)
	if w == nil || c != api.OK {
		t.Fatalf("Open = %v, %d; want a log, OK", w, int(c))
	}
	if !slices.Equal(l, want) {
		t.Fatalf("Open has the strings %.300q; want %.300q", l, want)
	}
	if w.Waiting() != 0 {
		t.Errorf("a log that was opened has %d waiting strings", w.Waiting())
	}
	return w
}

// synced syncs a group that must be written.
func synced(t *testing.T, w *wal.Wal, l ...string) {
	t.Helper()
	if c := syncOf(w, l); c != api.OK {
		t.Fatalf("Sync of %.100q = %d; want OK", l, int(c))
	}
}

func syncOf(w *wal.Wal, l []string) api.Code {
	for _, s := range l {
		w.Append(s)
	}
	return w.Sync()
}

// reset resets to a group that must fit.
func reset(t *testing.T, w *wal.Wal, l ...string) {
	t.Helper()
	if c := w.Reset(l); c != api.OK {
		t.Fatalf("Reset(%.100q) = %d; want OK", l, int(c))
	}
}

// checkLog compares what a log tells of itself.
func checkLog(t *testing.T, w *wal.Wal, half, room, waiting int) {
	t.Helper()
	if w.Half() != half || w.Room() != room || w.Waiting() != waiting {
		t.Errorf("Half %d, Room %d, Waiting %d; want %d, %d, %d", w.Half(), w.Room(), w.Waiting(), half, room, waiting)
	}
}

// durables are the durable contents of all sectors.
func durables(d *disk.Disk) []string {
	var l []string
	for at := range d.Sectors() {
		l = append(l, d.Durable(at))
	}
	return l
}

// halfSize is the number of bytes of a half.
func halfSize(d *disk.Disk) int {
	return (d.Sectors() - 1) / 2 * d.Size()
}

// filling is a string that alone makes a frame of the size, and false if none does.
func filling(size int) (string, bool) {
	for n := max(size-20, 0); n < size; n++ {
		s := strings.Repeat("f", n)
		if len(framed(1, []string{s})) == size {
			return s, true
		}
	}
	return "", false
}

// grouping is a group that makes a frame of the size, which is at least 12.
func grouping(t *testing.T, size int) []string {
	t.Helper()
	if s, ok := filling(size); ok {
		return []string{s}
	}
	if s, ok := filling(size - 3); ok {
		return []string{"", s}
	}
	t.Fatalf("no group for a frame of %d bytes", size)
	return nil
}

// framed is the frame of a group with the flag, by the words of the chapter.
func framed(flag byte, l []string) []byte {
	return enframed(flag, []byte(rowOf(l)))
}

// enframed is a frame of any payload.
func enframed(flag byte, payload []byte) []byte {
	f := make([]byte, 9, 9+len(payload))
	f[0] = flag
	binary.LittleEndian.PutUint32(f[1:], uint32(len(payload)))
	binary.LittleEndian.PutUint32(f[5:], crc32.Checksum(payload, crc32.MakeTable(crc32.Castagnoli)))
	return append(f, payload...)
}

func rowOf(l []string) string {
	row := ""
	for _, s := range l {
		row += fmt.Sprintf("%d:%s,", len(s), s)
	}
	return row
}

// unrowed are the strings of a row, and true; false if it's none.
func unrowed(row string) ([]string, bool) {
	var l []string
	rest := row
	for rest != "" {
		digits, tail, _ := strings.Cut(rest, ":")
		n, err := strconv.Atoi(digits)
		if err != nil || n < 0 || n+1 > len(tail) {
			return nil, false
		}
		l = append(l, tail[:n])
		rest = tail[n+1:]
	}
	return l, rowOf(l) == row
}

// scanned are the strings of the frames of a half, and where these end, by the words of the chapter.
func scanned(half string) (l []string, at int) {
	for {
		s := half[at:]
		if len(s) < 10 || s[0] != 1 {
			return l, at
		}
		n := int64(binary.LittleEndian.Uint32([]byte(s[1:5])))
		if 9+n+1 > int64(len(s)) {
			return l, at
		}
		texts, ok := unrowed(s[9 : 9+n])
		if !ok || string(enframed(1, []byte(s[9:9+n]))) != s[:9+n] {
			return l, at
		}
		l = append(l, texts...)
		at += int(9 + n)
	}
}

// model is a log by the words of the chapter, on a disk of its own. It has the bytes of a half in one piece.
type model struct {
	d        *disk.Disk
	half, at int
	waiting  []string
}

// bytesOf are the bytes of a half.
func (m *model) bytesOf(half int) ([]byte, api.Code) {
	var b []byte
	sectors := (m.d.Sectors() - 1) / 2
	for at := 1 + half*sectors; at < 1+(half+1)*sectors; at++ {
		s, c := m.d.Read(at)
		if c != api.OK {
			return nil, c
		}
		b = append(b, s...)
	}
	return b, api.OK
}

// store writes the sectors of the half that have one of the bytes from .. to - 1, and flushes.
func (m *model) store(half int, b []byte, from, to int) api.Code {
	size := m.d.Size()
	sectors := (m.d.Sectors() - 1) / 2
	for i := range sectors {
		if (i+1)*size <= from || i*size >= to {
			continue
		}
		if c := m.d.Write(1+half*sectors+i, string(b[i*size:(i+1)*size])); c != api.OK {
			return c
		}
	}
	return m.d.Flush()
}

func modelFormat(d *disk.Disk) (*model, api.Code) {
	zero := string(make([]byte, d.Size()))
	if c := d.Write(1, zero); c != api.OK {
		return nil, c
	}
	if c := d.Write(0, zero); c != api.OK {
		return nil, c
	}
	if c := d.Flush(); c != api.OK {
		return nil, c
	}
	return &model{d: d}, api.OK
}

func modelOpen(d *disk.Disk) (*model, []string, api.Code) {
	s, c := d.Read(0)
	if c != api.OK {
		return nil, nil, c
	}
	if s[0] != 0 && s[0] != 1 {
		return nil, nil, api.ErrForm
	}
	m := &model{d: d, half: int(s[0])}
	b, c := m.bytesOf(m.half)
	if c != api.OK {
		return nil, nil, c
	}
	l, at := scanned(string(b))
	m.at = at
	return m, l, api.OK
}

func (m *model) room() int {
	return max(0, halfSize(m.d)-m.at-1)
}

func (m *model) sync() api.Code {
	f := framed(0, m.waiting)
	none := len(m.waiting) == 0
	m.waiting = nil
	if none {
		return api.OK
	}
	if len(f) > m.room() {
		return api.ErrFull
	}
	b, c := m.bytesOf(m.half)
	if c != api.OK {
		return c
	}
	copy(b[m.at:], append(slices.Clone(f), 0))
	if c := m.store(m.half, b, m.at, m.at+len(f)+1); c != api.OK {
		return c
	}
	b[m.at] = 1
	if c := m.store(m.half, b, m.at, m.at+1); c != api.OK {
		return c
	}
	m.at += len(f)
	return api.OK
}

func (m *model) reset(l []string) api.Code {
	f := framed(1, l)
	if len(f)+1 > halfSize(m.d) {
		return api.ErrFull
	}
	if len(l) == 0 {
		f = nil
	}
	b, c := m.bytesOf(1 - m.half)
	if c != api.OK {
		return c
	}
	copy(b, append(slices.Clone(f), 0))
	if c := m.store(1-m.half, b, 0, len(f)+1); c != api.OK {
		return c
	}
	first := make([]byte, m.d.Size())
	first[0] = byte(1 - m.half)
	if c := m.d.Write(0, string(first)); c != api.OK {
		return c
	}
	if c := m.d.Flush(); c != api.OK {
		return c
	}
	m.half = 1 - m.half
	m.at = len(f)
	return api.OK
}

// pair is a log and its model, each on a disk of its own, to which the same is done.
type pair struct {
	d, e *disk.Disk
	w    *wal.Wal
	m    *model
}

// newPair formats two disks of the same contents.
func newPair(t *testing.T, sectors, size int, litter byte) *pair {
	t.Helper()
	p := &pair{d: littered(t, sectors, size, litter), e: littered(t, sectors, size, litter)}
	p.format(t)
	return p
}

func (p *pair) format(t *testing.T) api.Code {
	t.Helper()
	w, got := wal.Format(p.d)
	m, want := modelFormat(p.e)
	if got != want || (w != nil) != (m != nil) {
		t.Fatalf("Format = %v, %d; want %d", w, int(got), int(want))
	}
	p.take(w, m)
	p.check(t, "Format")
	return got
}

func (p *pair) open(t *testing.T) ([]string, api.Code) {
	t.Helper()
	ops := p.d.Ops()
	w, l, got := wal.Open(p.d)
	m, want, c := modelOpen(p.e)
	if got != c || (w != nil) != (m != nil) || !slices.Equal(l, want) {
		t.Fatalf("Open = %v, %.300q, %d; want %.300q, %d", w, l, int(got), want, int(c))
	}
	if p.d.Ops() != ops {
		t.Fatalf("Open does %d operations", p.d.Ops()-ops)
	}
	p.take(w, m)
	p.check(t, "Open")
	return l, got
}

// take makes a log the current one, if there is one.
func (p *pair) take(w *wal.Wal, m *model) {
	if w != nil && m != nil {
		p.w, p.m = w, m
	}
}

func (p *pair) append(t *testing.T, l ...string) {
	t.Helper()
	for _, s := range l {
		p.w.Append(s)
		p.m.waiting = append(p.m.waiting, s)
	}
	p.check(t, "Append")
}

func (p *pair) sync(t *testing.T) api.Code {
	t.Helper()
	got, want := p.w.Sync(), p.m.sync()
	if got != want {
		t.Fatalf("Sync = %d; want %d", int(got), int(want))
	}
	p.check(t, "Sync")
	return got
}

func (p *pair) reset(t *testing.T, l []string) api.Code {
	t.Helper()
	got, want := p.w.Reset(l), p.m.reset(l)
	if got != want {
		t.Fatalf("Reset(%.100q) = %d; want %d", l, int(got), int(want))
	}
	p.check(t, "Reset")
	return got
}

func (p *pair) drop(t *testing.T) {
	t.Helper()
	if got, want := p.w.Drop(), len(p.m.waiting); got != want {
		t.Fatalf("Drop = %d; want %d", got, want)
	}
	p.m.waiting = nil
	p.check(t, "Drop")
}

func (p *pair) cut(n int) {
	p.d.Cut(n)
	p.e.Cut(n)
}

func (p *pair) fill(full bool) {
	p.d.Fill(full)
	p.e.Fill(full)
}

func (p *pair) crash(t *testing.T, keep []bool, torn int) {
	t.Helper()
	p.d.Crash(keep, torn)
	p.e.Crash(keep, torn)
	p.check(t, "Crash")
}

// check compares all that is told of the log and of its disk with the model's.
func (p *pair) check(t *testing.T, after string) {
	t.Helper()
	if p.w != nil && (p.w.Half() != p.m.half || p.w.Room() != p.m.room() || p.w.Waiting() != len(p.m.waiting)) {
		t.Fatalf("after %s, Half %d, Room %d, Waiting %d; want %d, %d, %d", after, p.w.Half(), p.w.Room(), p.w.Waiting(), p.m.half, p.m.room(), len(p.m.waiting))
	}
	if p.d.Ops() != p.e.Ops() || p.d.Cached() != p.e.Cached() || p.d.Off() != p.e.Off() {
		t.Fatalf("after %s, %d operations, %d in the cache, off: %v; want %d, %d, %v", after, p.d.Ops(), p.d.Cached(), p.d.Off(), p.e.Ops(), p.e.Cached(), p.e.Off())
	}
	for at := range p.d.Sectors() {
		got, _ := p.d.Read(at)
		want, _ := p.e.Read(at)
		if p.d.Durable(at) != p.e.Durable(at) || got != want {
			t.Fatalf("after %s, sector %d is %q, durable %q; want %q, %q", after, at, got, p.d.Durable(at), want, p.e.Durable(at))
		}
	}
}

// lists are all lists of bools of the length.
func lists(length int) [][]bool {
	var all [][]bool
	for bits := range 1 << length {
		keep := make([]bool, length)
		for i := range keep {
			keep[i] = bits>>i&1 == 1
		}
		all = append(all, keep)
	}
	return all
}

// step is something that is done to a log and its model.
type step func(t *testing.T, p *pair)

func syncStep(l ...string) step {
	return func(t *testing.T, p *pair) {
		t.Helper()
		p.append(t, l...)
		if c := p.sync(t); c != api.OK {
			t.Fatalf("Sync of %q = %d", l, int(c))
		}
	}
}

func resetStep(l ...string) step {
	return func(t *testing.T, p *pair) {
		t.Helper()
		if c := p.reset(t, l); c != api.OK {
			t.Fatalf("Reset(%q) = %d", l, int(c))
		}
	}
}

// refusedStep is a Sync and a Reset for which the disk has no space.
func refusedStep() step {
	return func(t *testing.T, p *pair) {
		t.Helper()
		p.fill(true)
		p.append(t, "never")
		p.sync(t)
		p.reset(t, []string{"never"})
		p.fill(false)
	}
}

// lostSyncStep is a Sync of a group in three sectors at whose n-th operation the power fails.
func lostSyncStep(n int, keep []bool, torn int) step {
	return lostStep(n, keep, torn, func(t *testing.T, p *pair) {
		t.Helper()
		p.append(t, strings.Repeat("\x01", 20))
		p.sync(t)
	})
}

// lostResetStep is a Reset to a group in three sectors at whose n-th operation the power fails.
func lostResetStep(n int, keep []bool, torn int) step {
	return lostStep(n, keep, torn, func(t *testing.T, p *pair) {
		t.Helper()
		p.reset(t, []string{strings.Repeat("\x01", 30)})
	})
}

func lostStep(n int, keep []bool, torn int, call step) step {
	return func(t *testing.T, p *pair) {
		t.Helper()
		p.cut(n)
		call(t, p)
		if !p.d.Off() || p.d.Cached() != len(keep) {
			t.Fatalf("off: %v, %d writes in the cache; want %d", p.d.Off(), p.d.Cached(), len(keep))
		}
		p.crash(t, keep, torn)
		p.open(t)
	}
}

// past is what was done to a log before a test, and the strings that it has by then.
type past struct {
	name  string
	steps []step
	has   []string
}

func (b past) do(t *testing.T, p *pair) {
	t.Helper()
	for _, s := range b.steps {
		s(t, p)
	}
}

// pasts are the logs on a disk of 9 or 10 sectors of 16 bytes (a half of 64) with which a power failure is tried.
func pasts() []past {
	x := syncStep("x")
	return []past{
		{"an empty log", nil, nil},
		{"two groups", []step{syncStep("ab", ""), syncStep("c")}, []string{"ab", "", "c"}},
		{"a frame that ends at the end of a sector", []step{syncStep("abcd")}, []string{"abcd"}},
		{"a frame that ends a byte before the end of a sector", []step{syncStep("abc")}, []string{"abc"}},
		{"a frame that ends a byte behind the end of a sector", []step{syncStep("abcde")}, []string{"abcde"}},
		{"a Reset", []step{resetStep("snap")}, []string{"snap"}},
		{"a Reset with no strings", []step{resetStep()}, nil},
		{"two Resets, with stale frames behind the last",
			[]step{x, syncStep("yy"), syncStep("zzz"), resetStep("snap"), resetStep("s")}, []string{"s"}},
		{"two Resets, the last with no strings, with stale frames from the first byte on",
			[]step{x, syncStep("yy"), resetStep("snap"), syncStep("t"), resetStep()}, nil},
		{"a Reset and a group", []step{x, resetStep("snap"), syncStep("g")}, []string{"snap", "g"}},
		{"refused calls", []step{x, refusedStep()}, []string{"x"}},
		{"a Sync of which only the sector of the flag survived", []step{x, lostSyncStep(4, []bool{true, false, false}, -1)}, []string{"x"}},
		{"a Sync of which only a part behind that sector survived", []step{x, lostSyncStep(3, []bool{false, true, false}, 7)}, []string{"x"}},
		{"a Sync whose flag was lost", []step{x, lostSyncStep(6, []bool{false}, -1)}, []string{"x"}},
		{"a Reset of which only the first sectors survived", []step{x, lostResetStep(4, []bool{true, true, false}, -1)}, []string{"x"}},
		{"a Reset whose sector 0 was lost", []step{x, lostResetStep(6, []bool{false}, -1)}, []string{"x"}},
	}
}

// crashes makes the power fail at each operation of a call in turn, with every choice of the writes that survive and
// with the last of them torn everywhere, and asks each time what the log has when it's opened, once and again.
func crashes(t *testing.T, start func() *pair, call func(p *pair) api.Code, before, after []string) {
	t.Helper()
	for n := 1; ; n++ {
		p := start()
		p.cut(n)
		c := call(p)
		if c == api.OK {
			p.crash(t, nil, 0)
			checkOpen(t, p, after)
			return
		}
		if c != api.ErrPower || n > 100 {
			t.Fatalf("with the power failing at operation %d, the call answers %d", n, int(c))
		}
		cached := p.d.Cached()
		for _, keep := range lists(cached) {
			for torn := -1; torn < p.d.Size(); torn++ {
				p := start()
				p.cut(n)
				call(p)
				p.crash(t, keep, torn)
				l, c := p.open(t)
				if c != api.OK || !slices.Equal(l, before) && !slices.Equal(l, after) {
					t.Fatalf("power fails at operation %d, %v survive, torn at %d: Open has %q, %d; want %q or %q", n, keep, torn, l, int(c), before, after)
				}
				checkOpen(t, p, l)
				goOn(t, p, l)
			}
		}
	}
}

// checkOpen opens a log twice; it has the same strings each time.
func checkOpen(t *testing.T, p *pair, want []string) {
	t.Helper()
	for range 2 {
		if l, c := p.open(t); c != api.OK || !slices.Equal(l, want) {
			t.Fatalf("Open has %q, %d; want %q", l, int(c), want)
		}
	}
}

// goOn adds groups to a log that was opened, and resets it, and loses power once more between.
func goOn(t *testing.T, p *pair, has []string) {
	t.Helper()
	has = further(t, p, has, "z")
	p.crash(t, nil, 0)
	checkOpen(t, p, has)
	p.append(t, "lost")
	p.cut(2)
	if c := p.sync(t); c == api.OK {
		t.Fatalf("a Sync without power = %d", int(c))
	}
	p.crash(t, []bool{true, true}, 3)
	checkOpen(t, p, has)
	if c := p.reset(t, []string{"all"}); c != api.OK {
		t.Fatalf("a further Reset = %d", int(c))
	}
	has = further(t, p, []string{"all"}, "", "y")
	p.crash(t, nil, 0)
	checkOpen(t, p, has)
}

// further syncs a group, for which there is room or not, and returns what the log has then.
func further(t *testing.T, p *pair, has []string, l ...string) []string {
	t.Helper()
	fits := len(framed(0, l)) <= p.w.Room()
	p.append(t, l...)
	c := p.sync(t)
	if fits && c != api.OK || !fits && c != api.ErrFull {
		t.Fatalf("a further Sync = %d; it fits: %v", int(c), fits)
	}
	if !fits {
		return has
	}
	return slices.Concat(has, l)
}

// Promises 9.1 to 9.3: the examples of the chapter.
func TestExamples(t *testing.T) {
	if n := wal.Need([]string{"hi"}); n != 14 {
		t.Errorf("Need of hi = %d", n)
	}
	if n := wal.Need([]string{"ab", ""}); n != 17 {
		t.Errorf("Need of ab and the empty string = %d", n)
	}
	w := formatted(t, made(t, 9, 16))
	checkLog(t, w, 0, 63, 0)
	w.Append("ab")
	w.Append("")
	checkLog(t, w, 0, 63, 2)
	synced(t, w)
	checkLog(t, w, 0, 46, 0)
	if c := syncOf(w, []string{strings.Repeat("x", 34)}); c != 8 {
		t.Errorf("Sync of a frame of 47 bytes = %d; want ErrFull", int(c))
	}
	checkLog(t, w, 0, 46, 0)
	reset(t, w, "snap")
	checkLog(t, w, 1, 63-16, 0)
}

// Promises 9.1 to 9.3: the bytes on the disk, written out.
func TestBytes(t *testing.T) {
	d := littered(t, 10, 16, '.')
	w := formatted(t, d)
	check := func(after string, want ...string) {
		t.Helper()
		if got := durables(d); !slices.Equal(got, want) || d.Cached() != 0 {
			t.Fatalf("after %s, the disk has\n%q; want\n%q", after, got, want)
		}
	}
	zero, dots := strings.Repeat("\x00", 16), strings.Repeat(".", 16)
	check("Format", zero, zero, dots, dots, dots, dots, dots, dots, dots, dots)
	synced(t, w, "ab", "")
	check("Sync", zero, "\x01\x08\x00\x00\x00\x34\xbf\x52\xcc2:ab,0:", ","+"\x00"+dots[2:], dots, dots, dots, dots, dots, dots, dots)
	synced(t, w, "abc")
	check("another Sync", zero, "\x01\x08\x00\x00\x00\x34\xbf\x52\xcc2:ab,0:", ",\x01\x06\x00\x00\x00\x2b\x95\xac\x163:abc,",
		"\x00"+dots[1:], dots, dots, dots, dots, dots, dots)
	reset(t, w, "snap")
	check("Reset", "\x01"+zero[1:], "\x01\x08\x00\x00\x00\x34\xbf\x52\xcc2:ab,0:", ",\x01\x06\x00\x00\x00\x2b\x95\xac\x163:abc,",
		"\x00"+dots[1:], dots, "\x01\x07\x00\x00\x00\xd4\x00\x01\xb54:snap,", "\x00"+dots[1:], dots, dots, dots)
	synced(t, w, "")
	check("Sync behind a Reset", "\x01"+zero[1:], "\x01\x08\x00\x00\x00\x34\xbf\x52\xcc2:ab,0:", ",\x01\x06\x00\x00\x00\x2b\x95\xac\x163:abc,",
		"\x00"+dots[1:], dots, "\x01\x07\x00\x00\x00\xd4\x00\x01\xb54:snap,", "\x01\x03\x00\x00\x00\x3f\x85\x63\x660:,\x00...", dots, dots, dots)
	reset(t, w)
	check("Reset with no strings", zero, "\x00\x08\x00\x00\x00\x34\xbf\x52\xcc2:ab,0:", ",\x01\x06\x00\x00\x00\x2b\x95\xac\x163:abc,",
		"\x00"+dots[1:], dots, "\x01\x07\x00\x00\x00\xd4\x00\x01\xb54:snap,", "\x01\x03\x00\x00\x00\x3f\x85\x63\x660:,\x00...", dots, dots, dots)
}

// Promise 9.2: while a Sync is at work the flag is 0, and its sector alone is written again.
func TestFlagComesLast(t *testing.T) {
	for _, c := range []struct {
		n, cached int
		durable   string
	}{
		{3, 2, strings.Repeat("\x00", 16)},
		{4, 1, "\x00\x08\x00\x00\x00\x34\xbf\x52\xcc2:ab,0:"},
		{5, 1, "\x00\x08\x00\x00\x00\x34\xbf\x52\xcc2:ab,0:"},
	} {
		d := littered(t, 9, 16, '.')
		w := formatted(t, d)
		d.Cut(c.n)
		if got := syncOf(w, []string{"ab", ""}); got != api.ErrPower {
			t.Errorf("Sync with Cut(%d) = %d", c.n, int(got))
		}
		if d.Cached() != c.cached || d.Durable(1) != c.durable {
			t.Errorf("Cut(%d): %d writes in the cache, sector 1 is %q; want %d, %q", c.n, d.Cached(), d.Durable(1), c.cached, c.durable)
		}
		checkLog(t, w, 0, 63, 0)
	}
}

// Promise 9.1: Format makes an empty log of any disk, and leaves what it need not write.
func TestFormat(t *testing.T) {
	for _, sectors := range []int{4, 5, 6, 7, 8, 9, 10, 11, 4095, 4096} {
		for _, size := range []int{16, 17, 255, 256} {
			d := littered(t, sectors, size, 1)
			ops := d.Ops()
			w := formatted(t, d)
			checkLog(t, w, 0, halfSize(d)-1, 0)
			if d.Ops() != ops+3 || d.Cached() != 0 {
				t.Errorf("Format: %d operations, %d writes in the cache; want 3, 0", d.Ops()-ops, d.Cached())
			}
			for at, s := range durables(d) {
				want := "\x01"
				if at < 2 {
					want = "\x00"
				}
				if s != strings.Repeat(want, size) {
					t.Fatalf("after Format, sector %d is %q", at, s)
				}
			}
			opened(t, d, nil)
		}
	}
}

// Promise 9.1: Format of a disk with a log leaves nothing of it, in whichever half it was.
func TestFormatAgain(t *testing.T) {
	for resets := range 3 {
		d := made(t, 9, 16)
		w := formatted(t, d)
		synced(t, w, "old")
		for range resets {
			reset(t, w, "older")
			synced(t, w, "oldest")
		}
		w = formatted(t, d)
		checkLog(t, w, 0, 63, 0)
		checkLog(t, opened(t, d, nil), 0, 63, 0)
		synced(t, w, "new")
		opened(t, d, []string{"new"})
		reset(t, w)
		opened(t, d, nil)
	}
}

// Promise 9.1: an error of the disk ends Format at once.
func TestFormatFails(t *testing.T) {
	for n := 1; n <= 3; n++ {
		d := littered(t, 9, 16, 'x')
		ops := d.Ops()
		d.Cut(n)
		if w, c := wal.Format(d); w != nil || c != 80 {
			t.Errorf("Format with Cut(%d) = %v, %d; want nil, ErrPower", n, w, int(c))
		}
		if d.Ops() != ops+n || d.Cached() != min(n, 2) {
			t.Errorf("Format with Cut(%d): %d operations, %d in the cache", n, d.Ops()-ops, d.Cached())
		}
		if w, c := wal.Format(d); w != nil || c != 80 || d.Ops() != ops+n {
			t.Errorf("Format without power = %v, %d, and %d operations", w, int(c), d.Ops()-ops)
		}
	}
	d := littered(t, 9, 16, 'x')
	before, ops := durables(d), d.Ops()
	d.Fill(true)
	if w, c := wal.Format(d); w != nil || c != 81 {
		t.Errorf("Format of a full disk = %v, %d; want nil, ErrDisk", w, int(c))
	}
	if d.Ops() != ops+1 || d.Cached() != 0 || !slices.Equal(durables(d), before) {
		t.Errorf("Format of a full disk: %d operations, %d in the cache, %q", d.Ops()-ops, d.Cached(), durables(d))
	}
}

// Promises 9.1 and 9.4: the first sector of half 0 is written before sector 0, and either may survive alone.
func TestFormatCrashes(t *testing.T) {
	for n := 1; n <= 3; n++ {
		for _, keep := range lists(min(n, 2)) {
			for torn := -1; torn < 16; torn++ {
				p := newPair(t, 9, 16, '.')
				p.append(t, "a")
				p.sync(t)
				p.reset(t, []string{"b"})
				p.cut(n)
				if c := p.format(t); c != api.ErrPower {
					t.Fatalf("Format with Cut(%d) = %d", n, int(c))
				}
				p.crash(t, keep, torn)
				l, c := p.open(t)
				if c != api.OK {
					t.Fatalf("Open = %d", int(c))
				}
				checkOpen(t, p, l)
				goOn(t, p, l)
				p.format(t)
				checkOpen(t, p, nil)
			}
		}
	}
}

// Promise 9.1: a disk of zero bytes is an empty log.
func TestOpenOfZeros(t *testing.T) {
	for _, sectors := range []int{4, 5, 9, 4096} {
		for _, size := range []int{16, 256} {
			d := made(t, sectors, size)
			checkLog(t, opened(t, d, nil), 0, halfSize(d)-1, 0)
			if d.Ops() != 0 || d.Cached() != 0 {
				t.Errorf("Open does %d operations", d.Ops())
			}
		}
	}
}

// Promise 9.1: Open reads the half that the first byte of sector 0 says; above 1 there's none. The other bytes of that sector say nothing.
func TestFirstByte(t *testing.T) {
	for b := range 256 {
		for _, rest := range []string{"\x00", "\x01", "\xff", "x"} {
			d := made(t, 9, 16)
			wrote(t, d, 1, strings.Repeat("\x00", 16))
			wrote(t, d, 5, string(framed(1, []string{"snap"})))
			wrote(t, d, 0, string([]byte{byte(b)})+strings.Repeat(rest, 15))
			d.Flush()
			before, ops := durables(d), d.Ops()
			switch b {
			case 0:
				checkLog(t, opened(t, d, nil), 0, 63, 0)
			case 1:
				checkLog(t, opened(t, d, []string{"snap"}), 1, 63-16, 0)
			default:
				if w, l, c := wal.Open(d); w != nil || l != nil || c != 3 {
					t.Errorf("Open with first byte %d = %v, %q, %d; want ErrForm", b, w, l, int(c))
				}
			}
			if !slices.Equal(durables(d), before) || d.Ops() != ops {
				t.Errorf("Open with first byte %d changes the disk", b)
			}
		}
	}
}

// Promise 9.1: a sector 0 with other bytes than zeros is written anew by a Reset.
func TestResetCleansSector0(t *testing.T) {
	d := littered(t, 9, 16, 1)
	w := opened(t, d, nil)
	reset(t, w, "a")
	if s := d.Durable(0); s != strings.Repeat("\x00", 16) {
		t.Errorf("sector 0 is %q", s)
	}
	reset(t, w, "a")
	if s := d.Durable(0); s != "\x01"+strings.Repeat("\x00", 15) {
		t.Errorf("sector 0 is %q", s)
	}
}

// Promise 9.1: Open returns the error of reading, which is of power: before it looks at the first byte.
func TestOpenWithoutPower(t *testing.T) {
	for _, first := range []byte{0, 1, 2, 255} {
		d := littered(t, 9, 16, first)
		ops := d.Ops()
		d.Cut(1)
		d.Flush()
		if w, l, c := wal.Open(d); w != nil || l != nil || c != 80 {
			t.Errorf("Open without power = %v, %q, %d; want ErrPower", w, l, int(c))
		}
		if d.Ops() != ops+1 {
			t.Errorf("Open without power does operations")
		}
	}
}

// Promise 9.1: Open does no operation, at which the power could fail, and needs no space.
func TestOpenDoesNothing(t *testing.T) {
	d := made(t, 9, 16)
	w := formatted(t, d)
	synced(t, w, "a")
	synced(t, w, "b", "c")
	d.Cut(1)
	d.Fill(true)
	for range 5 {
		opened(t, d, []string{"a", "b", "c"})
	}
	if d.Off() || d.Ops() != 3+4+5 {
		t.Errorf("after Open, off: %v, %d operations", d.Off(), d.Ops())
	}
}

// Promise 9.1: Open reads what was written and not flushed yet.
func TestOpenReadsTheCache(t *testing.T) {
	d := made(t, 9, 16)
	wrote(t, d, 1, string(framed(1, []string{"snap"})))
	opened(t, d, []string{"snap"})
	d.Crash(nil, 0)
	opened(t, d, nil)
}

// laid is a disk with these bytes at the beginning of a half, other bytes in the rest of it, and an empty other half.
func laid(t *testing.T, sectors, size, half int, b []byte, other byte) *disk.Disk {
	t.Helper()
	d := made(t, sectors, size)
	n := (sectors - 1) / 2
	whole := append(slices.Clone(b), slices.Repeat([]byte{other}, n*size)...)[:n*size]
	for i := range n {
		wrote(t, d, 1+half*n+i, string(whole[i*size:(i+1)*size]))
	}
	first := make([]byte, size)
	first[0] = byte(half)
	wrote(t, d, 0, string(first))
	d.Flush()
	return d
}

// Promise 9.1: the frames end where one has a wrong flag, length, checksum or row, or is cut off, even if a good one follows.
func TestNoFrame(t *testing.T) {
	good := framed(1, []string{"ab"})
	edited := func(at int, b byte) []byte {
		f := slices.Clone(good)
		f[at] = b
		return f
	}
	cases := map[string][]byte{
		"flag 0":                      edited(0, 0),
		"flag 2":                      edited(0, 2),
		"flag 255":                    edited(0, 255),
		"a length of less":            edited(1, 4),
		"a length of more":            edited(1, 6),
		"a length of none":            edited(1, 0),
		"a second byte of the length": edited(2, 1),
		"a third byte of the length":  edited(3, 1),
		"a fourth byte of the length": edited(4, 1),
		"the greatest length":         append([]byte{1, 255, 255, 255, 255}, good[5:]...),
		"a length of 2^31":            append([]byte{1, 0, 0, 0, 128}, good[5:]...),
		"a length of 2^31 - 1":        append([]byte{1, 255, 255, 255, 127}, good[5:]...),
		"a length turned round":       append([]byte{1, 0, 0, 0, 5}, good[5:]...),
		"a checksum turned round":     {1, 5, 0, 0, 0, good[8], good[7], good[6], good[5], '2', ':', 'a', 'b', ','},
		"a checksum of zeros":         append([]byte{1, 5, 0, 0, 0, 0, 0, 0, 0}, good[9:]...),
		"another string":              edited(11, 'A'),
		"no row: a byte":              enframed(1, []byte("x")),
		"no row: no comma":            enframed(1, []byte("2:ab.")),
		"no row: too short":           enframed(1, []byte("3:ab,")),
		"no row: no end":              enframed(1, []byte("2:ab")),
		"no row: a zero in front":     enframed(1, []byte("02:ab,")),
		"no row: more behind it":      enframed(1, []byte("2:ab,x")),
		"no row: zero bytes":          enframed(1, []byte{0, 0, 0}),
		"no row: digits":              enframed(1, []byte("1234567890:")),
		"no row: a net in the second": enframed(1, []byte("1:a,1:b,1:c")),
		"random bytes":                {1, 3, 0, 0, 0, 9, 9, 9, 9, 9, 9, 9, 9},
		"bytes 1":                     slices.Repeat([]byte{1}, 30),
	}
	for name, bad := range cases {
		for _, half := range []int{0, 1} {
			d := laid(t, 9, 16, half, slices.Concat(good, bad, good), 0)
			w, l, c := wal.Open(d)
			if c != api.OK || !slices.Equal(l, []string{"ab"}) || w.Room() != 63-14 || w.Half() != half {
				t.Errorf("behind a frame, %s: Open has %q, %d, and is at %d", name, l, int(c), 63-w.Room())
			}
			synced(t, w, "next", "one")
			opened(t, d, []string{"ab", "next", "one"})

			d = laid(t, 9, 16, half, slices.Concat(bad, good), 0)
			w = opened(t, d, nil)
			checkLog(t, w, half, 63, 0)
			synced(t, w, "next")
			opened(t, d, []string{"next"})
		}
	}
}

// Promise 9.1: whichever bit of a frame is flipped, it's no frame any more.
func TestEveryBit(t *testing.T) {
	bytes := slices.Concat(framed(1, []string{"a"}), framed(1, []string{"bcd", ""}), framed(1, []string{"e"}))
	for i := range 8 * len(bytes) {
		b := slices.Clone(bytes)
		b[i/8] ^= 1 << (i % 8)
		d := laid(t, 9, 16, 0, b, 0)
		want := []string{"a", "bcd", ""}
		switch {
		case i/8 < 13:
			want = nil
		case i/8 < 31:
			want = want[:1]
		}
		opened(t, d, want)
	}
}

// Promise 9.1: a frame and one byte more must be within the half: a frame that ends with it, or goes on in the next, is none.
func TestFrameAtTheEnd(t *testing.T) {
	for _, sectors := range []int{4, 5, 6, 7, 9, 10} {
		for _, size := range []int{16, 17, 64} {
			for _, half := range []int{0, 1} {
				end := (sectors - 1) / 2 * size
				for length := end - 3; length <= end+3; length++ {
					l := grouping(t, length)
					d := laid(t, sectors, size, half, nil, 0)
					f := append(framed(1, l), 0, 0, 0, 0)
					for i := range 1 + (length-1)/size {
						at := 1 + half*((sectors-1)/2) + i
						if at < sectors {
							wrote(t, d, at, string(append(f[i*size:], make([]byte, size)...)[:size]))
						}
					}
					if length < end {
						checkLog(t, opened(t, d, l), half, end-length-1, 0)
					} else {
						checkLog(t, opened(t, d, nil), half, end-1, 0)
					}
				}
			}
		}
	}
}

// Promise 9.1: a frame of no strings is a frame, though no call writes it.
func TestFrameOfNothing(t *testing.T) {
	none := enframed(1, nil)
	d := laid(t, 9, 16, 0, slices.Concat(none, framed(1, []string{"a"}), none, none, framed(1, []string{"b"})), 0)
	checkLog(t, opened(t, d, []string{"a", "b"}), 0, 63-3*9-2*13, 0)
	d = laid(t, 9, 16, 0, slices.Repeat(none, 8), 0)
	checkLog(t, opened(t, d, nil), 0, 0, 0)
	d = laid(t, 4, 16, 1, none, 1)
	checkLog(t, opened(t, d, nil), 1, 6, 0)
}

// Promise 9.1: Open of random bytes, of good frames between them and of edited ones tells what the chapter's words say.
func TestOpenOfAnything(t *testing.T) {
	r := rand.New(rand.NewSource(9))
	for range 20000 {
		var b []byte
		for range r.Intn(5) {
			f := framed(1, []string{strings.Repeat("s", r.Intn(12)), "t"}[:r.Intn(3)])
			switch r.Intn(6) {
			case 0:
				f[r.Intn(len(f))] = byte(r.Intn(256))
			case 1:
				f = f[:r.Intn(len(f))]
			case 2:
				f = enframed(1, []byte(strings.Repeat("1:,a:0", 3)[r.Intn(6):][:r.Intn(12)]))
			}
			b = append(b, f...)
		}
		sectors := 4 + r.Intn(9)
		half := r.Intn(2)
		d := laid(t, sectors, 16, half, b, byte(r.Intn(2)))
		whole := ""
		for i := range (sectors - 1) / 2 {
			whole += d.Durable(1 + half*((sectors-1)/2) + i)
		}
		want, at := scanned(whole)
		checkLog(t, opened(t, d, want), half, max(0, len(whole)-at-1), 0)
	}
}

// Promise 9.1: Need is the size of the frame, for any group.
func TestNeed(t *testing.T) {
	for _, c := range []struct {
		l    []string
		want int
	}{
		{nil, 9},
		{[]string{}, 9},
		{[]string{""}, 12},
		{[]string{"", ""}, 15},
		{[]string{"hi"}, 14},
		{[]string{"ab", ""}, 17},
		{[]string{"\x00\r\n,:"}, 17},
		{[]string{strings.Repeat("é", 3)}, 18},
		{[]string{strings.Repeat("x", 9)}, 9 + 12},
		{[]string{strings.Repeat("x", 10)}, 9 + 14},
		{[]string{strings.Repeat("x", 99)}, 9 + 103},
		{[]string{strings.Repeat("x", 100)}, 9 + 105},
		{[]string{strings.Repeat("x", 1<<20)}, 9 + 1<<20 + 9},
		{slices.Repeat([]string{"ab"}, 2000), 9 + 10000},
	} {
		if got := wal.Need(c.l); got != c.want {
			t.Errorf("Need(%.40q) = %d; want %d", c.l, got, c.want)
		}
	}
}

// Promises 9.1 and 9.2: Append, Drop and Waiting count strings, empty ones and equal ones too, and leave the disk.
func TestWaiting(t *testing.T) {
	d := made(t, 9, 16)
	w := formatted(t, d)
	for round := range 3 {
		for i := range 100 {
			checkLog(t, w, 0, 63, i)
			w.Append([]string{"", "a", "\x00", strings.Repeat("x", 1000)}[i%(round+2)])
		}
		if n := w.Drop(); n != 100 {
			t.Errorf("Drop = %d; want 100", n)
		}
		if n := w.Drop(); n != 0 {
			t.Errorf("Drop of nothing = %d", n)
		}
		checkLog(t, w, 0, 63, 0)
	}
	if d.Ops() != 3 {
		t.Errorf("%d operations; Append and Drop have none", d.Ops()-3)
	}
	synced(t, w)
	opened(t, d, nil)
	w.Append("a")
	w.Drop()
	synced(t, w, "b")
	opened(t, d, []string{"b"})
}

// Promises 9.1 and 9.2: strings that wait don't take room till they're written, and are lost with the log.
func TestWaitingIsNotWritten(t *testing.T) {
	d := made(t, 9, 16)
	w := formatted(t, d)
	w.Append("a")
	checkLog(t, w, 0, 63, 1)
	opened(t, d, nil)
	checkLog(t, w, 0, 63, 1)
	synced(t, w)
	opened(t, d, []string{"a"})
}

// Promise 9.2: with nothing waiting a Sync is OK and does nothing: without power, on a full disk and without room.
func TestSyncOfNothing(t *testing.T) {
	d := made(t, 9, 16)
	w := formatted(t, d)
	synced(t, w, grouping(t, 63)...)
	checkLog(t, w, 0, 0, 0)
	ops := d.Ops()
	synced(t, w)
	d.Fill(true)
	synced(t, w)
	d.Cut(1)
	synced(t, w)
	if d.Off() || d.Ops() != ops {
		t.Errorf("a Sync of nothing does %d operations", d.Ops()-ops)
	}
	d.Flush()
	synced(t, w)
	checkLog(t, w, 0, 0, 0)
	if d.Ops() != ops+1 {
		t.Errorf("a Sync of nothing does operations")
	}
}

// Promise 9.2: a frame of exactly Room fits, one of a byte more doesn't; nothing waits after either, and the disk is as it was.
func TestRoom(t *testing.T) {
	for sectors := 4; sectors <= 12; sectors++ {
		for _, size := range []int{16, 17, 100, 255, 256} {
			for _, first := range []int{0, 12, 14, 15, 16, 17} {
				d := littered(t, sectors, size, 1)
				w := formatted(t, d)
				var has []string
				if first > 0 && first <= w.Room() {
					has = grouping(t, first)
					synced(t, w, has...)
				}
				room := w.Room()
				if want := halfSize(d) - wal.Need(has) - 1; has != nil && room != want {
					t.Errorf("Room = %d; want %d", room, want)
				}
				if room < 12 {
					continue
				}
				before, ops := durables(d), d.Ops()
				for _, more := range []int{1, 2, 3, 15, 16, 17, 1 << 10} {
					if c := syncOf(w, grouping(t, room+more)); c != api.ErrFull {
						t.Errorf("%d sectors of %d: Sync of %d bytes more than Room = %d; want ErrFull", sectors, size, more, int(c))
					}
					checkLog(t, w, 0, room, 0)
				}
				if !slices.Equal(durables(d), before) || d.Ops() != ops || d.Cached() != 0 {
					t.Errorf("a Sync that is too large does %d operations", d.Ops()-ops)
				}
				opened(t, d, has)
				all := slices.Concat(has, grouping(t, room))
				synced(t, w, grouping(t, room)...)
				checkLog(t, w, 0, 0, 0)
				checkLog(t, opened(t, d, all), 0, 0, 0)
				if c := syncOf(w, []string{""}); c != api.ErrFull {
					t.Errorf("Sync without room = %d", int(c))
				}
				reset(t, w, "s")
				synced(t, w)
				checkLog(t, w, 1, halfSize(d)-1-13, 0)
				checkLog(t, opened(t, d, []string{"s"}), 1, halfSize(d)-1-13, 0)
			}
		}
	}
}

// Promise 9.2: the lack of room is told before the lack of power or space.
func TestFullBeforeTheDisk(t *testing.T) {
	d := made(t, 9, 16)
	w := formatted(t, d)
	d.Fill(true)
	if c := syncOf(w, grouping(t, 64)); c != api.ErrFull {
		t.Errorf("on a full disk, Sync = %d; want ErrFull", int(c))
	}
	if c := w.Reset(grouping(t, 64)); c != api.ErrFull {
		t.Errorf("on a full disk, Reset = %d; want ErrFull", int(c))
	}
	d.Cut(1)
	d.Flush()
	if c := syncOf(w, grouping(t, 64)); c != api.ErrFull {
		t.Errorf("without power, Sync = %d; want ErrFull", int(c))
	}
	if c := w.Reset(grouping(t, 64)); c != api.ErrFull {
		t.Errorf("without power, Reset = %d; want ErrFull", int(c))
	}
	checkLog(t, w, 0, 63, 0)
}

// Promise 9.2: what is far too large is refused, and later groups are written.
func TestFarTooLarge(t *testing.T) {
	d := made(t, 4, 16)
	w := formatted(t, d)
	huge := strings.Repeat("x", 1<<24)
	if c := syncOf(w, []string{huge, huge}); c != api.ErrFull || w.Waiting() != 0 {
		t.Errorf("Sync of 32 MiB = %d, %d waiting", int(c), w.Waiting())
	}
	if c := syncOf(w, slices.Repeat([]string{""}, 100000)); c != api.ErrFull || w.Waiting() != 0 {
		t.Errorf("Sync of 100000 strings = %d, %d waiting", int(c), w.Waiting())
	}
	if c := w.Reset([]string{huge}); c != api.ErrFull {
		t.Errorf("Reset of 16 MiB = %d", int(c))
	}
	synced(t, w, "a")
	opened(t, d, []string{"a"})
}

// Promise 9.2: without power or space a Sync ends with that error, nothing waits, and the log is as it was.
func TestSyncFails(t *testing.T) {
	d := made(t, 9, 16)
	w := formatted(t, d)
	synced(t, w, "a")
	before, ops := durables(d), d.Ops()
	d.Fill(true)
	for _, l := range [][]string{{"b"}, grouping(t, 50), {"", "", ""}} {
		if c := syncOf(w, l); c != 81 {
			t.Errorf("on a full disk, Sync of %q = %d; want ErrDisk", l, int(c))
		}
		checkLog(t, w, 0, 50, 0)
		ops++
		if d.Ops() != ops || d.Cached() != 0 || !slices.Equal(durables(d), before) {
			t.Errorf("on a full disk, Sync of %q goes on", l)
		}
	}
	d.Fill(false)
	synced(t, w, "c")
	checkLog(t, opened(t, d, []string{"a", "c"}), 0, 37, 0)
	d.Cut(1)
	d.Flush()
	ops = d.Ops()
	if c := syncOf(w, []string{"d"}); c != 80 || d.Ops() != ops {
		t.Errorf("without power, Sync = %d, %d operations; want ErrPower", int(c), d.Ops()-ops)
	}
	checkLog(t, w, 0, 37, 0)
	d.Crash(nil, 0)
	synced(t, w)
	synced(t, w, "e")
	opened(t, d, []string{"a", "c", "e"})
}

// Promise 9.2: groups of every size behind frames of every size are written and read, with other bytes as they were.
func TestEverySize(t *testing.T) {
	for first := 0; first <= 40; first++ {
		for size := 12; size <= 50; size++ {
			if first > 0 && first < 12 {
				continue
			}
			p := newPair(t, 10, 16, 'x')
			var has []string
			if first > 0 {
				has = grouping(t, first)
				p.append(t, has...)
				p.sync(t)
			}
			l := grouping(t, size)
			p.append(t, l...)
			c := p.sync(t)
			if want := first+size <= 63; want != (c == api.OK) {
				t.Fatalf("Sync of %d bytes behind %d = %d", size, first, int(c))
			}
			if c == api.OK {
				has = append(has, l...)
			}
			p.crash(t, nil, 0)
			checkOpen(t, p, has)
			goOn(t, p, has)
		}
	}
}

// Promise 9.2: the strings of a group are what was appended, whatever bytes they have.
func TestAnyBytes(t *testing.T) {
	every := make([]byte, 256)
	for i := range every {
		every[i] = byte(i)
	}
	d := made(t, 100, 64)
	w := formatted(t, d)
	var all []string
	for _, l := range [][]string{
		{string(every)}, {""}, {"", "", ""}, {"\x00"}, {"\x01"}, {"1:a,", ",", ":"}, {"\xff\xfe", "é", "\r\n"},
		{string(framed(1, []string{"inner"})), strings.Repeat("\x01", 130)}, {strings.Repeat("\x00", 64)},
	} {
		synced(t, w, l...)
		all = append(all, l...)
		opened(t, d, all)
	}
	reset(t, w, all...)
	opened(t, d, all)
}

// Promise 9.2: many groups are read in their order.
func TestManyGroups(t *testing.T) {
	d := made(t, 1001, 64)
	w := formatted(t, d)
	var all []string
	for i := range 1000 {
		l := []string{fmt.Sprint("group ", i), strings.Repeat("x", i%13)}
		synced(t, w, l...)
		all = append(all, l...)
		if i%100 == 99 {
			d.Crash(nil, 0)
			w = opened(t, d, all)
		}
	}
	reset(t, w, all...)
	opened(t, d, all)
}

// Promises 9.1 to 9.3: the largest disk has frames as large as its halves.
func TestLargest(t *testing.T) {
	for _, sectors := range []int{4095, 4096} {
		d := made(t, sectors, 256)
		w := formatted(t, d)
		checkLog(t, w, 0, 2047*256-1, 0)
		if c := syncOf(w, grouping(t, 2047*256)); c != api.ErrFull {
			t.Errorf("Sync of a half = %d; want ErrFull", int(c))
		}
		l := grouping(t, 2047*256-1)
		if c := w.Reset(append([]string{"x"}, l...)); c != api.ErrFull {
			t.Errorf("Reset of more than a half = %d; want ErrFull", int(c))
		}
		synced(t, w, l...)
		checkLog(t, opened(t, d, l), 0, 0, 0)
		reset(t, w, l...)
		checkLog(t, opened(t, d, l), 1, 0, 0)
		reset(t, w, "a")
		checkLog(t, opened(t, d, []string{"a"}), 0, 2047*256-1-13, 0)
	}
}

// Promise 9.3: a group that just fits a half with the byte behind it, and one of a byte more, on small disks of even and odd sectors.
func TestResetSizes(t *testing.T) {
	for sectors := 4; sectors <= 12; sectors++ {
		for _, size := range []int{16, 17, 256} {
			d := littered(t, sectors, size, 1)
			w := formatted(t, d)
			synced(t, w, "")
			end := halfSize(d)
			before, ops := durables(d), d.Ops()
			for _, length := range []int{end, end + 1, end + 2, end + 16, 2 * end, 10 * end} {
				if c := w.Reset(grouping(t, length)); c != 8 {
					t.Errorf("Reset to a frame of %d in a half of %d = %d; want ErrFull", length, end, int(c))
				}
				checkLog(t, w, 0, end-13, 0)
			}
			if !slices.Equal(durables(d), before) || d.Ops() != ops || d.Cached() != 0 {
				t.Errorf("a Reset that is too large does %d operations", d.Ops()-ops)
			}
			opened(t, d, []string{""})
			for half := range 4 {
				l := grouping(t, end-1)
				reset(t, w, l...)
				checkLog(t, w, 1-half%2, 0, 0)
				checkLog(t, opened(t, d, l), 1-half%2, 0, 0)
			}
			if sectors%2 == 0 && d.Durable(sectors-1) != strings.Repeat("\x01", size) {
				t.Errorf("%d sectors of %d: the last one is in neither half, but is written", sectors, size)
			}
		}
	}
}

// Promise 9.3: a Reset with no strings leaves none, whatever the other half had, and writes one sector of it.
func TestResetToNothing(t *testing.T) {
	for _, l := range [][]string{nil, {}} {
		d := made(t, 9, 16)
		w := formatted(t, d)
		synced(t, w, "a")
		synced(t, w, "b")
		for half := range 5 {
			ops := d.Ops()
			reset(t, w, l...)
			if d.Ops() != ops+4 || d.Cached() != 0 {
				t.Errorf("Reset to nothing does %d operations", d.Ops()-ops)
			}
			checkLog(t, w, 1-half%2, 63, 0)
			checkLog(t, opened(t, d, nil), 1-half%2, 63, 0)
		}
		synced(t, w, "c")
		opened(t, d, []string{"c"})
	}
}

// Promise 9.3: a Reset takes what was logged away, leaves what waits, and a Sync behind it goes on in the new half.
func TestSyncAndResetBehindReset(t *testing.T) {
	d := made(t, 9, 16)
	w := formatted(t, d)
	synced(t, w, "a", "b")
	w.Append("c")
	w.Append("")
	reset(t, w, "d")
	checkLog(t, w, 1, 63-13, 2)
	checkLog(t, opened(t, d, []string{"d"}), 1, 63-13, 0)
	synced(t, w)
	checkLog(t, w, 1, 63-13-16, 0)
	opened(t, d, []string{"d", "c", ""})
	w.Append("e")
	reset(t, w)
	checkLog(t, w, 0, 63, 1)
	opened(t, d, nil)
	reset(t, w, "f", "f")
	checkLog(t, w, 1, 63-17, 1)
	synced(t, w)
	opened(t, d, []string{"f", "f", "e"})
	if c := w.Reset(grouping(t, 64)); c != api.ErrFull {
		t.Errorf("Reset = %d; want ErrFull", int(c))
	}
	w.Append("g")
	if c := w.Reset(grouping(t, 64)); c != api.ErrFull {
		t.Errorf("Reset = %d; want ErrFull", int(c))
	}
	checkLog(t, w, 1, 63-17-13, 1)
	synced(t, w)
	opened(t, d, []string{"f", "f", "e", "g"})
}

// Promise 9.3: without power or space a Reset ends with that error; half, position, and what waits are as they were.
func TestResetFails(t *testing.T) {
	d := made(t, 9, 16)
	w := formatted(t, d)
	synced(t, w, "a")
	w.Append("b")
	before := durables(d)
	d.Fill(true)
	for _, l := range [][]string{nil, {"snap"}, grouping(t, 63)} {
		ops := d.Ops()
		if c := w.Reset(l); c != 81 || d.Ops() != ops+1 || d.Cached() != 0 {
			t.Errorf("on a full disk, Reset(%q) = %d, %d operations; want ErrDisk", l, int(c), d.Ops()-ops)
		}
		checkLog(t, w, 0, 50, 1)
	}
	if !slices.Equal(durables(d), before) {
		t.Errorf("on a full disk, Reset changes it")
	}
	d.Fill(false)
	d.Cut(1)
	d.Flush()
	for _, l := range [][]string{nil, {"snap"}} {
		ops := d.Ops()
		if c := w.Reset(l); c != 80 || d.Ops() != ops {
			t.Errorf("without power, Reset(%q) = %d, %d operations; want ErrPower", l, int(c), d.Ops()-ops)
		}
		checkLog(t, w, 0, 50, 1)
	}
	d.Crash(nil, 0)
	synced(t, w)
	opened(t, d, []string{"a", "b"})
}

// Promise 9.3: the other half is durable before sector 0 is written.
func TestResetOrder(t *testing.T) {
	for _, c := range []struct {
		n, cached int
		half      string
	}{
		{1, 1, strings.Repeat("\x00", 16)},
		{3, 2, strings.Repeat("\x00", 16)},
		{4, 1, "\x01\x07\x00\x00\x00\xd4\x00\x01\xb54:snap,"},
		{5, 1, "\x01\x07\x00\x00\x00\xd4\x00\x01\xb54:snap,"},
	} {
		d := made(t, 9, 16)
		w := formatted(t, d)
		synced(t, w, "a")
		d.Cut(c.n)
		if got := w.Reset([]string{"snap"}); got != api.ErrPower {
			t.Errorf("Reset with Cut(%d) = %d", c.n, int(got))
		}
		if d.Cached() != c.cached || d.Durable(5) != c.half || d.Durable(0)[0] != 0 {
			t.Errorf("Cut(%d): %d writes in the cache, half 1 begins %q; want %d, %q", c.n, d.Cached(), d.Durable(5), c.cached, c.half)
		}
		checkLog(t, w, 0, 50, 0)
	}
}

// inEveryPast tries a test with each of the pasts, on a disk of an odd and of an even number of sectors.
func inEveryPast(t *testing.T, try func(t *testing.T, past past, start func() *pair)) {
	for _, sectors := range []int{9, 10} {
		for _, past := range pasts() {
			t.Run(fmt.Sprintf("%d sectors, %s", sectors, past.name), func(t *testing.T) {
				try(t, past, func() *pair {
					p := newPair(t, sectors, 16, 1)
					past.do(t, p)
					return p
				})
			})
		}
	}
}

// Promises 9.2 and 9.4: power fails at each operation of a Sync, of small frames, of large ones, and of one that takes all the room.
func TestSyncCrashes(t *testing.T) {
	inEveryPast(t, func(t *testing.T, past past, start func() *pair) {
		room := start().w.Room()
		for _, l := range [][]string{{""}, {"a"}, {"ab", "", "c"}, {strings.Repeat("\x01", 16)}, grouping(t, room)} {
			waits := func() *pair {
				p := start()
				p.append(t, l...)
				return p
			}
			if len(framed(0, l)) <= room {
				crashes(t, waits, func(p *pair) api.Code { return p.sync(t) }, past.has, slices.Concat(past.has, l))
			}
		}
	})
}

// Promises 9.3 and 9.4: power fails at each operation of a Reset, which leaves what waits.
func TestResetCrashes(t *testing.T) {
	inEveryPast(t, func(t *testing.T, past past, start func() *pair) {
		waits := func() *pair {
			p := start()
			p.append(t, "waits")
			return p
		}
		for _, l := range [][]string{nil, {""}, {"snap"}, {"a", "b"}, {strings.Repeat("\x01", 20)}, grouping(t, 63)} {
			crashes(t, waits, func(p *pair) api.Code { return p.reset(t, l) }, past.has, l)
		}
	})
}

// Promises 9.1 to 9.4: the smallest disk, with one sector a half.
func TestSmallest(t *testing.T) {
	start := func(has, waits []string) func() *pair {
		return func() *pair {
			p := newPair(t, 4, 16, 1)
			p.append(t, has...)
			p.sync(t)
			p.append(t, waits...)
			return p
		}
	}
	abc := []string{"abc"}
	p := start(abc, nil)()
	checkLog(t, p.w, 0, 0, 0)
	checkOpen(t, p, abc)
	p.append(t, "")
	if c := p.sync(t); c != api.ErrFull {
		t.Errorf("Sync without room = %d", int(c))
	}
	if c := p.reset(t, []string{"abcd"}); c != api.ErrFull {
		t.Errorf("Reset of a byte more = %d", int(c))
	}
	checkOpen(t, p, abc)
	checkLog(t, start(nil, nil)().w, 0, 15, 0)
	for _, l := range [][]string{abc, {"", ""}, {""}} {
		crashes(t, start(nil, l), func(p *pair) api.Code { return p.sync(t) }, nil, l)
	}
	for _, has := range [][]string{nil, abc, {""}} {
		for _, l := range [][]string{{"def"}, nil, {"", ""}, {""}} {
			crashes(t, start(has, nil), func(p *pair) api.Code { return p.reset(t, l) }, has, l)
		}
	}
}

// outcome is what a log may have after a crash: one of these.
type outcome [][]string

func (o outcome) has(l []string) bool {
	return slices.ContainsFunc(o, func(want []string) bool { return slices.Equal(l, want) })
}

// Promises 9.1 to 9.4: long lives of a log, with power failing at any operation, more than once, any writes surviving and torn ones.
func TestLongLives(t *testing.T) {
	for seed := range 400 {
		r := rand.New(rand.NewSource(int64(seed)))
		p := newPair(t, 4+r.Intn(12), []int{16, 17, 24, 40}[r.Intn(4)], byte(r.Intn(3)))
		var has []string
		for range 120 {
			may := outcome{has}
			switch r.Intn(12) {
			case 0, 1, 2:
				p.append(t, randomGroup(r)...)
			case 3:
				p.drop(t)
			case 4:
				p.fill(r.Intn(3) == 0)
			case 5:
				p.cut(r.Intn(7))
			case 6, 7:
				l := randomGroup(r)
				if p.reset(t, l) == api.OK {
					has = slices.Clone(l)
				}
				may = append(may, l)
			case 8:
				if !p.d.Off() {
					p.d.Flush()
					p.e.Flush()
				}
			default:
				l := slices.Clone(p.m.waiting)
				all := slices.Concat(has, l)
				if p.sync(t) == api.OK {
					has = all
				}
				may = append(may, all)
			}
			if !p.d.Off() && r.Intn(20) > 0 {
				continue
			}
			if !p.d.Off() {
				may = outcome{has}
			}
			p.crash(t, lists(6)[r.Intn(64)], r.Intn(2*p.d.Size())-p.d.Size()/2)
			l, c := p.open(t)
			if c != api.OK || !may.has(l) {
				t.Fatalf("seed %d: after a crash Open has %.300q, %d; want one of %.600q", seed, l, int(c), may)
			}
			checkOpen(t, p, l)
			has = l
		}
	}
}

// randomGroup is a group of up to three strings, most of them short.
func randomGroup(r *rand.Rand) []string {
	l := make([]string, r.Intn(4))
	for i := range l {
		b := make([]byte, r.Intn(4)*r.Intn(8))
		for j := range b {
			b[j] = byte(r.Intn(3))
		}
		l[i] = string(b)
	}
	return l
}

// Rules R4 and R7: lists that are passed or returned are nobody else's, with their spare capacity.
func TestLists(t *testing.T) {
	d := made(t, 20, 32)
	w := formatted(t, d)
	l := append(make([]string, 0, 8), "a", "b")
	copy(l[:8], []string{"a", "b", "c", "d", "e", "f", "g", "h"})
	reset(t, w, l...)
	if c := w.Reset(l); c != api.OK || wal.Need(l) != 17 {
		t.Fatalf("Reset = %d", int(c))
	}
	if !slices.Equal(l[:8], []string{"a", "b", "c", "d", "e", "f", "g", "h"}) {
		t.Errorf("Reset or Need changes its argument: %q", l[:8])
	}
	l[0] = "changed"
	opened(t, d, []string{"a", "b"})
	synced(t, w, "c")

	x, got, _ := wal.Open(d)
	got = append(got, "more")
	got[0] = "changed"
	_, again, _ := wal.Open(d)
	if !slices.Equal(again, []string{"a", "b", "c"}) {
		t.Errorf("Open has %q", again)
	}
	checkLog(t, x, w.Half(), w.Room(), 0)
	synced(t, x, "d")
	opened(t, d, []string{"a", "b", "c", "d"})
}

// Two logs on two disks have nothing in common.
func TestTwoLogs(t *testing.T) {
	d, e := made(t, 9, 16), made(t, 9, 16)
	v, w := formatted(t, d), formatted(t, e)
	v.Append("a")
	w.Append("b")
	w.Append("c")
	checkLog(t, v, 0, 63, 1)
	synced(t, v)
	checkLog(t, w, 0, 63, 2)
	reset(t, w, "d")
	checkLog(t, v, 0, 50, 0)
	opened(t, d, []string{"a"})
	opened(t, e, []string{"d"})
}

// Wrong inputs: numbers on the disk as wrong as can be are no frames, and no reason to panic.
func TestWildLengths(t *testing.T) {
	for _, n := range []uint32{0, 1, 54, 55, 56, 63, 64, 1 << 16, 1<<31 - 1, 1 << 31, math.MaxUint32 - 9, math.MaxUint32 - 8, math.MaxUint32} {
		b := make([]byte, 64)
		b[0] = 1
		binary.LittleEndian.PutUint32(b[1:], n)
		d := laid(t, 9, 16, 0, b, 0)
		w, l, c := wal.Open(d)
		if c != api.OK || len(l) != 0 {
			t.Errorf("Open with a length of %d = %q, %d", n, l, int(c))
		}
		want := 63
		if n == 0 {
			want = 63 - 9
		}
		checkLog(t, w, 0, want, 0)
	}
}
