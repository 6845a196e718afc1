package disk_test

import (
	"fmt"
	"math"
	"math/rand"
	"slices"
	"strings"
	"testing"

	"bulletin/api"
	"bulletin/disk"
)

// size is that of the sectors of most tests.
const size = 16

// of is a sector's worth of the text.
func of(text string) string {
	return strings.Repeat(text, size/len(text))
}

// zero is a sector that was never written.
var zero = of("\x00")

// made is a new disk that the test can't do without.
func made(t *testing.T, sectors, size int) *disk.Disk {
	t.Helper()
	d, c := disk.New(sectors, size)
	if d == nil || c != api.OK {
		t.Fatalf("New(%d, %d) = %v, %d", sectors, size, d, int(c))
	}
	return d
}

// wrote writes what must be written.
func wrote(t *testing.T, d *disk.Disk, at int, s string) {
	t.Helper()
	if c := d.Write(at, s); c != api.OK {
		t.Fatalf("Write(%d, %q) = %d; want OK", at, s, int(c))
	}
}

// flushed flushes what must be flushed.
func flushed(t *testing.T, d *disk.Disk) {
	t.Helper()
	if c := d.Flush(); c != api.OK {
		t.Fatalf("Flush() = %d; want OK", int(c))
	}
}

// state is all that a disk tells of itself.
type state struct {
	sectors, size, cached, ops int
	off                        bool
	durable, read              string
	codes                      string
}

// stateOf asks a disk all that it tells.
func stateOf(d *disk.Disk) state {
	s := state{sectors: d.Sectors(), size: d.Size(), cached: d.Cached(), ops: d.Ops(), off: d.Off()}
	for at := range d.Sectors() {
		contents, c := d.Read(at)
		s.durable += d.Durable(at) + "|"
		s.read += contents + "|"
		s.codes += fmt.Sprint(int(c), " ")
	}
	return s
}

// checkState compares what a disk tells with what it should.
func checkState(t *testing.T, d *disk.Disk, want state) {
	t.Helper()
	if got := stateOf(d); got != want {
		t.Errorf("the disk tells\n%+q; want\n%+q", fmt.Sprintf("%+v", got), fmt.Sprintf("%+v", want))
	}
}

// check compares the durable contents of the first sectors, and what is read of them, where the power is on.
func check(t *testing.T, d *disk.Disk, durable, read []string) {
	t.Helper()
	for at, want := range durable {
		if got := d.Durable(at); got != want {
			t.Errorf("Durable(%d) = %q; want %q", at, got, want)
		}
	}
	for at, want := range read {
		if got, c := d.Read(at); got != want || c != api.OK {
			t.Errorf("Read(%d) = %q, %d; want %q", at, got, int(c), want)
		}
	}
}

// outside are numbers of sectors that a disk with so many hasn't.
func outside(sectors int) []int {
	return []int{-1, sectors, -2, sectors + 1, 2 * sectors, -sectors, math.MaxInt, math.MinInt, 1 << 32, -1 << 32}
}

// model is a disk by the words of the chapter: a sector is sought in the cache whenever it's read.
type model struct {
	size, ops, left int
	durable         [][]byte
	at              []int
	cache           []string
	full, off       bool
}

func newModel(sectors, size int) *model {
	m := &model{size: size}
	for range sectors {
		m.durable = append(m.durable, make([]byte, size))
	}
	return m
}

func (m *model) read(at int) (string, api.Code) {
	if at < 0 || at >= len(m.durable) {
		return "", api.ErrRange
	}
	if m.off {
		return "", api.ErrPower
	}
	for i := len(m.cache) - 1; i >= 0; i-- {
		if m.at[i] == at {
			return m.cache[i], api.OK
		}
	}
	return string(m.durable[at]), api.OK
}

func (m *model) fails() bool {
	m.ops++
	m.left--
	return m.left == 0
}

func (m *model) write(at int, s string) api.Code {
	if at < 0 || at >= len(m.durable) || len(s) != m.size {
		return api.ErrRange
	}
	if m.off {
		return api.ErrPower
	}
	if m.fails() {
		m.at, m.cache = append(m.at, at), append(m.cache, s)
		m.off = true
		return api.ErrPower
	}
	if m.full {
		return api.ErrDisk
	}
	m.at, m.cache = append(m.at, at), append(m.cache, s)
	return api.OK
}

func (m *model) flush() api.Code {
	if m.off {
		return api.ErrPower
	}
	if m.fails() {
		m.off = true
		return api.ErrPower
	}
	for i, s := range m.cache {
		copy(m.durable[m.at[i]], s)
	}
	m.at, m.cache = nil, nil
	return api.OK
}

func (m *model) crash(keep []bool, torn int) {
	last := -1
	for i := range m.cache {
		if i < len(keep) && keep[i] {
			last = i
		}
	}
	for i, s := range m.cache {
		if i == last && torn >= 0 && torn < m.size {
			s = s[:torn]
		}
		if i < len(keep) && keep[i] {
			copy(m.durable[m.at[i]], s)
		}
	}
	m.at, m.cache = nil, nil
	m.off = false
	m.left = 0
}

func (m *model) state() state {
	s := state{sectors: len(m.durable), size: m.size, cached: len(m.cache), ops: m.ops, off: m.off}
	for at := range m.durable {
		contents, c := m.read(at)
		s.durable += string(m.durable[at]) + "|"
		s.read += contents + "|"
		s.codes += fmt.Sprint(int(c), " ")
	}
	return s
}

// step is something that is done to a disk and to its model alike; it reports whether both answer the same.
type step struct {
	name string
	do   func(d *disk.Disk, m *model) bool
}

func writeStep(at int, s string) step {
	return step{fmt.Sprintf("Write(%d, %.3q)", at, s), func(d *disk.Disk, m *model) bool {
		return d.Write(at, s) == m.write(at, s)
	}}
}

func flushStep() step {
	return step{"Flush()", func(d *disk.Disk, m *model) bool { return d.Flush() == m.flush() }}
}

func cutStep(n int) step {
	return step{fmt.Sprintf("Cut(%d)", n), func(d *disk.Disk, m *model) bool {
		d.Cut(n)
		m.left = n
		return true
	}}
}

func fillStep(full bool) step {
	return step{fmt.Sprintf("Fill(%v)", full), func(d *disk.Disk, m *model) bool {
		d.Fill(full)
		m.full = full
		return true
	}}
}

func crashStep(keep []bool, torn int) step {
	return step{fmt.Sprintf("Crash(%v, %d)", keep, torn), func(d *disk.Disk, m *model) bool {
		d.Crash(keep, torn)
		m.crash(keep, torn)
		return true
	}}
}

// follow does the steps on a new disk and compares it after each with its model.
func follow(t *testing.T, sectors, size int, steps []step) {
	t.Helper()
	d, m := made(t, sectors, size), newModel(sectors, size)
	for i, s := range steps {
		same := s.do(d, m)
		if got, want := stateOf(d), m.state(); !same || got != want {
			t.Fatalf("after %q: same answer: %v; the disk tells\n%q; want\n%q", names(steps[:i+1]), same, fmt.Sprintf("%+v", got), fmt.Sprintf("%+v", want))
		}
	}
}

func names(steps []step) []string {
	var l []string
	for _, s := range steps {
		l = append(l, s.name)
	}
	return l
}

// lists are all lists of bools of the length.
func lists(length int) [][]bool {
	var all [][]bool
	for bits := range 1 << length {
		keep := make([]bool, length)
		for i := range keep {
			keep[i] = bits>>i&1 == 1
		}
		all = append(all, keep)
	}
	return all
}

// Promise 8.1: New refuses what is too small or too large, and nothing else.
func TestNew(t *testing.T) {
	numbers := []int{math.MinInt, -1 << 32, -16, -4, -1, 0, 1, 3, 4, 5, 15, 16, 17, 255, 256, 257, 1000, 4095, 4096, 4097, 1 << 32, 1<<32 + 16, math.MaxInt}
	for _, sectors := range numbers {
		for _, size := range numbers {
			d, c := disk.New(sectors, size)
			if sectors < 4 || sectors > 4096 || size < 16 || size > 256 {
				if d != nil || c != 1 {
					t.Errorf("New(%d, %d) = %v, %d; want nil, ErrRange", sectors, size, d, int(c))
				}
				continue
			}
			if d == nil || c != 0 {
				t.Fatalf("New(%d, %d) = %v, %d; want a disk, OK", sectors, size, d, int(c))
			}
			if d.Sectors() != sectors || d.Size() != size {
				t.Errorf("New(%d, %d) has %d sectors of %d bytes", sectors, size, d.Sectors(), d.Size())
			}
		}
	}
}

// Promise 8.1: the document's examples of New.
func TestNewExamples(t *testing.T) {
	if d, c := disk.New(3, 16); d != nil || c != api.ErrRange {
		t.Errorf("New(3, 16) = %v, %d", d, int(c))
	}
	if d, c := disk.New(4, 257); d != nil || c != api.ErrRange {
		t.Errorf("New(4, 257) = %v, %d", d, int(c))
	}
}

// Promises 8.1 and 8.3: a new disk has zero bytes, power, space, nothing in its cache, and no power failure scheduled.
func TestNewDisk(t *testing.T) {
	for _, shape := range [][2]int{{4, 16}, {4, 256}, {4096, 16}, {4096, 256}, {9, 17}} {
		d := made(t, shape[0], shape[1])
		if d.Off() || d.Cached() != 0 || d.Ops() != 0 {
			t.Errorf("a new disk is off: %v, has %d writes in its cache and %d operations", d.Off(), d.Cached(), d.Ops())
		}
		empty := strings.Repeat("\x00", shape[1])
		for at := range shape[0] {
			if s, c := d.Read(at); s != empty || c != api.OK || d.Durable(at) != empty {
				t.Fatalf("sector %d of a new disk is %q, %d; durable %q", at, s, int(c), d.Durable(at))
			}
		}
		for range 10 {
			wrote(t, d, 0, empty)
			flushed(t, d)
		}
	}
}

// Promise 8.1: every sector of the smallest and of the largest disk is its own, from the first to the last.
func TestEverySector(t *testing.T) {
	for _, shape := range [][2]int{{4, 16}, {4, 256}, {4096, 16}, {4096, 256}} {
		sectors, size := shape[0], shape[1]
		contents := func(at int) string { return strings.Repeat(string([]byte{byte(at), byte(at >> 8), 1, 255}), size/4) }
		d := made(t, sectors, size)
		for at := range sectors {
			wrote(t, d, at, contents(at))
		}
		if d.Cached() != sectors || d.Ops() != sectors {
			t.Errorf("%d writes in the cache, %d operations; want %d of each", d.Cached(), d.Ops(), sectors)
		}
		for at := range sectors {
			if s, c := d.Read(at); s != contents(at) || c != api.OK || d.Durable(at) != strings.Repeat("\x00", size) {
				t.Fatalf("before the flush, sector %d is %q, %d; durable %q", at, s, int(c), d.Durable(at))
			}
		}
		flushed(t, d)
		for at := range sectors {
			if s, c := d.Read(at); s != contents(at) || c != api.OK || d.Durable(at) != contents(at) {
				t.Fatalf("after the flush, sector %d is %q, %d; durable %q", at, s, int(c), d.Durable(at))
			}
		}
		if d.Cached() != 0 || d.Ops() != sectors+1 {
			t.Errorf("after the flush, %d writes in the cache, %d operations", d.Cached(), d.Ops())
		}
	}
}

// Promises 8.1 and 8.3: there is no sector beyond either end.
func TestNoSuchSector(t *testing.T) {
	for _, sectors := range []int{4, 5, 4096} {
		d := made(t, sectors, size)
		wrote(t, d, 0, of("a"))
		wrote(t, d, sectors-1, of("b"))
		flushed(t, d)
		before := stateOf(d)
		for _, at := range outside(sectors) {
			if s, c := d.Read(at); s != "" || c != api.ErrRange {
				t.Errorf("Read(%d) = %q, %d; want ErrRange", at, s, int(c))
			}
			if c := d.Write(at, of("c")); c != api.ErrRange {
				t.Errorf("Write(%d, ..) = %d; want ErrRange", at, int(c))
			}
			if s := d.Durable(at); s != "" {
				t.Errorf("Durable(%d) = %q; want none", at, s)
			}
		}
		checkState(t, d, before)
	}
}

// Promise 8.1: a Write has exactly the bytes of a sector.
func TestWrongLength(t *testing.T) {
	for _, size := range []int{16, 17, 255, 256} {
		d := made(t, 4, size)
		wrote(t, d, 1, strings.Repeat("a", size))
		before := stateOf(d)
		for _, length := range []int{0, 1, size - 1, size + 1, 2 * size, 1 << 16} {
			for _, at := range []int{0, 1, 3, 4, -1} {
				if c := d.Write(at, strings.Repeat("b", length)); c != api.ErrRange {
					t.Errorf("Write(%d, %d bytes) = %d on sectors of %d; want ErrRange", at, length, int(c), size)
				}
			}
		}
		checkState(t, d, before)
	}
}

// Promise 8.1: the document's example of rejected writes, which are no operations.
func TestRejectedWritesAreNoOperations(t *testing.T) {
	d := made(t, 4, 16)
	if c := d.Write(4, of("a")); c != api.ErrRange {
		t.Errorf("Write(4, ..) = %d", int(c))
	}
	if c := d.Write(0, "a"); c != api.ErrRange {
		t.Errorf("Write of a byte = %d", int(c))
	}
	if d.Ops() != 0 || d.Cached() != 0 {
		t.Errorf("%d operations, %d writes in the cache; want none", d.Ops(), d.Cached())
	}
	d.Cut(2)
	d.Write(4, of("a"))
	d.Write(0, "a")
	d.Read(0)
	d.Read(-1)
	wrote(t, d, 0, of("a"))
	d.Write(-1, of("a"))
	if c := d.Flush(); c != api.ErrPower || d.Ops() != 2 {
		t.Errorf("the second operation = %d, the number of operations %d", int(c), d.Ops())
	}
}

// Promise 8.1: errors come in the order of the chapter: the range, then the power, then the space.
func TestOrderOfErrors(t *testing.T) {
	d := made(t, 4, 16)
	d.Fill(true)
	for _, at := range outside(4) {
		if c := d.Write(at, of("a")); c != api.ErrRange {
			t.Errorf("on a full disk, Write(%d, ..) = %d; want ErrRange", at, int(c))
		}
	}
	d.Cut(1)
	d.Flush()
	before := stateOf(d)
	for _, at := range outside(4) {
		if s, c := d.Read(at); s != "" || c != api.ErrRange {
			t.Errorf("without power, Read(%d) = %q, %d; want ErrRange", at, s, int(c))
		}
		if c := d.Write(at, of("a")); c != api.ErrRange {
			t.Errorf("without power, Write(%d, ..) = %d; want ErrRange", at, int(c))
		}
	}
	for at := range 4 {
		if s, c := d.Read(at); s != "" || c != 80 {
			t.Errorf("without power, Read(%d) = %q, %d; want ErrPower", at, s, int(c))
		}
		if c := d.Write(at, of("a")); c != 80 {
			t.Errorf("without power, on a full disk, Write(%d, ..) = %d; want ErrPower", at, int(c))
		}
		if c := d.Write(at, "a"); c != api.ErrRange {
			t.Errorf("without power, Write(%d, one byte) = %d; want ErrRange", at, int(c))
		}
	}
	if c := d.Flush(); c != 80 {
		t.Errorf("without power, Flush() = %d; want ErrPower", int(c))
	}
	checkState(t, d, before)
}

// Promise 8.1: of several writes to one sector in the cache the last is read, and the last is durable after a Flush.
func TestSeveralWritesToOneSector(t *testing.T) {
	d := made(t, 4, 16)
	for i, s := range []string{"a", "b", "c", "b", "a", "d"} {
		wrote(t, d, 2, of(s))
		check(t, d, []string{zero, zero, zero, zero}, []string{zero, zero, of(s), zero})
		if d.Cached() != i+1 {
			t.Errorf("%d writes in the cache after %d", d.Cached(), i+1)
		}
	}
	wrote(t, d, 1, of("e"))
	wrote(t, d, 2, of("f"))
	wrote(t, d, 1, of("g"))
	check(t, d, []string{zero, zero, zero, zero}, []string{zero, of("g"), of("f"), zero})
	flushed(t, d)
	check(t, d, []string{zero, of("g"), of("f"), zero}, []string{zero, of("g"), of("f"), zero})
	wrote(t, d, 2, of("a"))
	check(t, d, []string{zero, of("g"), of("f"), zero}, []string{zero, of("g"), of("a"), zero})
}

// Promise 8.1: a Write stores any bytes.
func TestAnyBytes(t *testing.T) {
	every := make([]byte, 256)
	for i := range every {
		every[i] = byte(i)
	}
	for _, s := range []string{string(every), strings.Repeat("\xff", 256), strings.Repeat("\r\n", 128), strings.Repeat("é", 128), strings.Repeat("\x00", 256)} {
		d := made(t, 4, 256)
		wrote(t, d, 3, strings.Repeat("x", 256))
		wrote(t, d, 3, s)
		if got, c := d.Read(3); got != s || c != api.OK {
			t.Errorf("Read(3) = %q, %d; want %q", got, int(c), s)
		}
		flushed(t, d)
		if got := d.Durable(3); got != s {
			t.Errorf("Durable(3) = %q; want %q", got, s)
		}
	}
}

// Promise 8.1: a Flush of nothing is an operation too, and changes nothing else.
func TestFlushOfNothing(t *testing.T) {
	d := made(t, 4, 16)
	wrote(t, d, 0, of("a"))
	flushed(t, d)
	want := stateOf(d)
	for range 3 {
		flushed(t, d)
		want.ops++
		checkState(t, d, want)
	}
}

// Promises 8.1 and 8.2: the power fails at a Write, which is in the cache nevertheless: it may survive or not.
func TestPowerFailsAtWrite(t *testing.T) {
	for _, full := range []bool{false, true} {
		for _, survives := range []bool{false, true} {
			d := made(t, 4, 16)
			wrote(t, d, 1, of("a"))
			flushed(t, d)
			d.Fill(full)
			d.Cut(1)
			if c := d.Write(1, of("b")); c != api.ErrPower {
				t.Errorf("the Write at which the power fails = %d; want ErrPower", int(c))
			}
			if !d.Off() || d.Cached() != 1 || d.Ops() != 3 || d.Durable(1) != of("a") {
				t.Errorf("off: %v, %d in the cache, %d operations, durable %q", d.Off(), d.Cached(), d.Ops(), d.Durable(1))
			}
			if s, c := d.Read(1); s != "" || c != api.ErrPower {
				t.Errorf("without power, Read(1) = %q, %d", s, int(c))
			}
			d.Crash([]bool{survives}, -1)
			want := of(map[bool]string{false: "a", true: "b"}[survives])
			check(t, d, []string{zero, want}, []string{zero, want, zero, zero})
			if d.Off() || d.Cached() != 0 || d.Ops() != 3 {
				t.Errorf("after the crash, off: %v, %d in the cache, %d operations", d.Off(), d.Cached(), d.Ops())
			}
		}
	}
}

// Promises 8.1 and 8.2: the power fails at a Flush, and the cache is as it was: each of its writes may survive or not.
func TestPowerFailsAtFlush(t *testing.T) {
	for _, keep := range lists(2) {
		d := made(t, 4, 16)
		wrote(t, d, 0, of("a"))
		wrote(t, d, 3, of("b"))
		d.Cut(1)
		if c := d.Flush(); c != api.ErrPower {
			t.Errorf("the Flush at which the power fails = %d; want ErrPower", int(c))
		}
		check(t, d, []string{zero, zero, zero, zero}, nil)
		if !d.Off() || d.Cached() != 2 || d.Ops() != 3 {
			t.Errorf("off: %v, %d in the cache, %d operations", d.Off(), d.Cached(), d.Ops())
		}
		d.Crash(keep, -1)
		want := []string{zero, zero, zero, zero}
		if keep[0] {
			want[0] = of("a")
		}
		if keep[1] {
			want[3] = of("b")
		}
		check(t, d, want, want)
	}
}

// Promise 8.2: the document's example of Cut.
func TestCutExample(t *testing.T) {
	d := made(t, 4, 16)
	d.Cut(2)
	if c := d.Write(0, of("a")); c != api.OK || d.Off() {
		t.Errorf("the first Write = %d, off: %v", int(c), d.Off())
	}
	if c := d.Write(1, of("b")); c != api.ErrPower || !d.Off() {
		t.Errorf("the second Write = %d, off: %v", int(c), d.Off())
	}
	if d.Cached() != 2 {
		t.Errorf("%d writes in the cache; want both", d.Cached())
	}
}

// Promise 8.2: the power fails at the n-th operation, be it a Write, a Flush or a Write for which there is no space, and only once.
func TestCutAtEachOperation(t *testing.T) {
	for n := 1; n <= 20; n++ {
		d := made(t, 4, 16)
		for range n % 4 {
			wrote(t, d, 0, of("a"))
		}
		ops := d.Ops()
		d.Cut(n)
		for i := 1; i <= n+3; i++ {
			d.Fill(i%3 == 1)
			var c api.Code
			if i%3 == 0 {
				c = d.Flush()
			} else {
				c = d.Write(i%4, of("b"))
			}
			want := api.OK
			switch {
			case i >= n:
				want = api.ErrPower
			case i%3 == 1:
				want = 81
			}
			if c != want || d.Off() != (i >= n) || d.Ops() != ops+min(i, n) {
				t.Errorf("Cut(%d): operation %d = %d, off: %v, %d operations; want %d", n, i, int(c), d.Off(), d.Ops()-ops, int(want))
			}
		}
		d.Fill(false)
		d.Crash(nil, 0)
		for range 2 * n {
			wrote(t, d, 0, of("c"))
			flushed(t, d)
		}
	}
}

// Promise 8.2: Cut of less than 1 means no failure at all, also where one was scheduled.
func TestCutOfNone(t *testing.T) {
	for _, n := range []int{0, -1, -2, math.MinInt} {
		for _, before := range []int{0, 1, 2, 5, math.MaxInt} {
			d := made(t, 4, 16)
			d.Cut(before)
			d.Cut(n)
			for range 10 {
				wrote(t, d, 0, of("a"))
				flushed(t, d)
			}
			if d.Off() {
				t.Errorf("Cut(%d), Cut(%d) and the power is off", before, n)
			}
		}
	}
}

// Promise 8.2: the last Cut counts, from the moment it is called.
func TestCutAgain(t *testing.T) {
	for _, first := range []int{2, 3, 10, math.MaxInt} {
		for second := 1; second < 5; second++ {
			d := made(t, 4, 16)
			d.Cut(first)
			wrote(t, d, 0, of("a"))
			d.Cut(second)
			for range second - 1 {
				flushed(t, d)
			}
			if c := d.Flush(); c != api.ErrPower {
				t.Errorf("Cut(%d), Write, Cut(%d): Flush %d = %d; want ErrPower", first, second, second, int(c))
			}
		}
	}
	d := made(t, 4, 16)
	d.Cut(math.MaxInt)
	for range 1000 {
		wrote(t, d, 0, of("a"))
		flushed(t, d)
	}
}

// Promise 8.2: a crash takes back every Cut, whether the power was on or off at either.
func TestCrashTakesCutBack(t *testing.T) {
	for _, off := range []bool{false, true} {
		d := made(t, 4, 16)
		if off {
			d.Cut(1)
			d.Flush()
		}
		d.Cut(1)
		if d.Off() != off {
			t.Errorf("Cut alone changes the power: off: %v", d.Off())
		}
		d.Crash(nil, 0)
		wrote(t, d, 0, of("a"))
		flushed(t, d)
		if d.Off() {
			t.Error("the power fails after the crash")
		}
	}
}

// Promises 8.1 and 8.2: a full disk takes no Write, but flushes, until there is space again.
func TestFull(t *testing.T) {
	d := made(t, 4, 16)
	wrote(t, d, 0, of("a"))
	d.Fill(true)
	d.Fill(true)
	want := stateOf(d)
	for at := range 4 {
		if c := d.Write(at, of("b")); c != 81 {
			t.Errorf("on a full disk, Write(%d, ..) = %d; want ErrDisk", at, int(c))
		}
		want.ops++
		checkState(t, d, want)
	}
	flushed(t, d)
	check(t, d, []string{of("a"), zero, zero, zero}, []string{of("a"), zero, zero, zero})
	if c := d.Write(0, of("b")); c != api.ErrDisk {
		t.Errorf("after the flush of a full disk, Write = %d; want ErrDisk", int(c))
	}
	d.Fill(false)
	wrote(t, d, 0, of("c"))
	flushed(t, d)
	check(t, d, []string{of("c"), zero, zero, zero}, []string{of("c"), zero, zero, zero})
}

// Promise 8.2: a crash turns the power on, but makes no space, and takes none; nor does a power failure.
func TestFullThroughCrash(t *testing.T) {
	for _, full := range []bool{false, true} {
		d := made(t, 4, 16)
		d.Fill(full)
		d.Cut(1)
		d.Flush()
		d.Crash([]bool{true}, 3)
		want := map[bool]api.Code{false: api.OK, true: api.ErrDisk}[full]
		if c := d.Write(0, of("a")); c != want {
			t.Errorf("Fill(%v) and a crash: Write = %d; want %d", full, int(c), int(want))
		}
		d.Cut(1)
		d.Flush()
		d.Fill(!full)
		d.Crash(nil, 0)
		want = map[bool]api.Code{true: api.OK, false: api.ErrDisk}[full]
		if c := d.Write(0, of("a")); c != want {
			t.Errorf("Fill(%v) without power, and a crash: Write = %d; want %d", !full, int(c), int(want))
		}
	}
}

// Promise 8.2: the document's example of Crash.
func TestCrashExample(t *testing.T) {
	d := made(t, 4, 16)
	wrote(t, d, 0, of("a"))
	wrote(t, d, 1, of("b"))
	wrote(t, d, 2, of("x"))
	flushed(t, d)
	wrote(t, d, 0, of("c"))
	wrote(t, d, 1, of("d"))
	wrote(t, d, 2, of("e"))
	d.Crash([]bool{true, false, true}, 5)
	want := []string{of("c"), of("b"), "eeeeexxxxxxxxxxx", zero}
	check(t, d, want, want)
	if d.Cached() != 0 || d.Ops() != 7 {
		t.Errorf("%d in the cache, %d operations", d.Cached(), d.Ops())
	}
}

// Promise 8.2: torn counts the bytes of the last surviving write that become durable; beyond 0 to Size - 1 all of them do.
func TestTorn(t *testing.T) {
	for _, size := range []int{16, 17, 256} {
		old, fresh := strings.Repeat("o", size), strings.Repeat("n", size)
		torns := []int{math.MinInt, -1 << 32, -size, -2, -1, size, size + 1, 2 * size, 1 << 32, math.MaxInt}
		for torn := range size {
			torns = append(torns, torn)
		}
		for _, torn := range torns {
			d := made(t, 4, size)
			wrote(t, d, 2, old)
			flushed(t, d)
			wrote(t, d, 1, fresh)
			wrote(t, d, 2, fresh)
			wrote(t, d, 3, fresh)
			d.Crash([]bool{true, true, false}, torn)
			want := fresh
			if torn >= 0 && torn < size {
				want = strings.Repeat("n", torn) + strings.Repeat("o", size-torn)
			}
			none := strings.Repeat("\x00", size)
			check(t, d, []string{none, fresh, want, none}, []string{none, fresh, want, none})
		}
	}
}

// Promise 8.2: the bytes beyond torn are those that the sector has when the last write is torn, which are those of an earlier survivor.
func TestTornOverSurvivor(t *testing.T) {
	for _, c := range []struct {
		keep []bool
		want string
	}{
		{[]bool{true, true, true, true}, of("d")[:3] + of("c")[3:]},
		{[]bool{true, true, false, true}, of("d")[:3] + of("b")[3:]},
		{[]bool{true, false, false, true}, of("d")[:3] + of("a")[3:]},
		{[]bool{false, false, false, true}, of("d")[:3] + of("o")[3:]},
		{[]bool{true, true, true, false}, of("c")[:3] + of("b")[3:]},
		{[]bool{false, false, true}, of("c")[:3] + of("o")[3:]},
		{[]bool{true}, of("a")[:3] + of("o")[3:]},
		{[]bool{false, false, false, false}, of("o")},
	} {
		d := made(t, 4, 16)
		wrote(t, d, 1, of("o"))
		flushed(t, d)
		for _, s := range []string{"a", "b", "c", "d"} {
			wrote(t, d, 1, of(s))
		}
		d.Crash(c.keep, 3)
		check(t, d, []string{zero, c.want, zero, zero}, []string{zero, c.want, zero, zero})
	}
}

// Promise 8.2: what is beyond the list is dropped, and what the list has beyond the cache is ignored: the last write is that of the cache.
func TestLengthOfKeep(t *testing.T) {
	for length := range 7 {
		for _, keep := range lists(length) {
			for _, torn := range []int{-1, 0, 1, 15, 16} {
				follow(t, 4, 16, []step{
					writeStep(0, of("a")), writeStep(1, of("b")), writeStep(0, of("c")), flushStep(),
					writeStep(1, of("d")), writeStep(0, of("e")), writeStep(3, of("f")), writeStep(0, of("g")),
					crashStep(keep, torn), writeStep(2, of("h")), crashStep(keep, torn), flushStep(),
				})
			}
		}
	}
}

// Promise 8.2: a crash of an empty cache keeps what is durable, whatever the list says.
func TestCrashOfNothing(t *testing.T) {
	for _, keep := range [][]bool{nil, {}, {true}, {true, true, true, true, true}} {
		for _, torn := range []int{-1, 0, 5, 16} {
			d := made(t, 4, 16)
			wrote(t, d, 0, of("a"))
			flushed(t, d)
			want := stateOf(d)
			d.Crash(keep, torn)
			checkState(t, d, want)
			d.Crash(keep, torn)
			checkState(t, d, want)
		}
	}
}

// Promise 8.2 and example 1 of the chapter: what was not flushed is gone after a crash that keeps nothing.
func TestCrashThatKeepsNothing(t *testing.T) {
	for _, keep := range [][]bool{nil, {}, {false}, {false, false, false}} {
		d := made(t, 4, 16)
		wrote(t, d, 0, of("a"))
		wrote(t, d, 1, of("a"))
		d.Crash(keep, 4)
		check(t, d, []string{zero, zero, zero, zero}, []string{zero, zero, zero, zero})
		if d.Cached() != 0 {
			t.Errorf("%d in the cache", d.Cached())
		}
	}
}

// Promise 8.3: the state can be asked without power, and asking changes nothing.
func TestStateWithoutPower(t *testing.T) {
	d := made(t, 4, 16)
	wrote(t, d, 0, of("a"))
	flushed(t, d)
	wrote(t, d, 0, of("b"))
	d.Cut(1)
	d.Write(1, of("c"))
	for range 3 {
		if !d.Off() || d.Cached() != 2 || d.Ops() != 4 || d.Sectors() != 4 || d.Size() != 16 {
			t.Errorf("off: %v, %d in the cache, %d operations, %d sectors of %d", d.Off(), d.Cached(), d.Ops(), d.Sectors(), d.Size())
		}
		check(t, d, []string{of("a"), zero, zero, zero, "", ""}, nil)
		if s := d.Durable(-1); s != "" {
			t.Errorf("Durable(-1) = %q", s)
		}
		d.Flush()
		d.Write(2, of("d"))
		d.Read(0)
	}
}

// Promise 8.3: Ops counts on through power failures and crashes, and only Writes and Flushes.
func TestOps(t *testing.T) {
	d := made(t, 4, 16)
	want := 0
	for i := range 50 {
		d.Cut(i%3 + 1)
		for range i%3 + 1 {
			if i%2 == 0 {
				d.Flush()
			} else {
				d.Write(0, of("a"))
			}
			want++
			if d.Ops() != want {
				t.Fatalf("%d operations; want %d", d.Ops(), want)
			}
		}
		d.Write(0, of("b"))
		d.Flush()
		d.Read(0)
		d.Fill(i%5 == 0)
		d.Crash([]bool{true}, 1)
		d.Durable(0)
		d.Read(0)
		if d.Ops() != want {
			t.Fatalf("%d operations; want %d: others are none", d.Ops(), want)
		}
	}
}

// Promises 8.1 to 8.3: every sequence of four steps answers and leaves what the chapter's words say.
func TestEverySequence(t *testing.T) {
	steps := []step{
		writeStep(0, of("a")), writeStep(0, of("bc")), writeStep(3, of("d")), writeStep(4, of("e")), writeStep(0, "f"),
		flushStep(), cutStep(0), cutStep(1), cutStep(2), fillStep(true), fillStep(false),
		crashStep(nil, 0), crashStep([]bool{true}, 5), crashStep([]bool{true, true}, 16), crashStep([]bool{false, true, true}, 1),
	}
	n := len(steps)
	for sequence := range n * n * n * n {
		follow(t, 4, 16, []step{steps[sequence%n], steps[sequence/n%n], steps[sequence/n/n%n], steps[sequence/n/n/n]})
	}
}

// Promises 8.1 to 8.3: long sequences, with caches of many writes.
func TestLongSequences(t *testing.T) {
	for seed := range 300 {
		r := rand.New(rand.NewSource(int64(seed)))
		sectors, size := 4+r.Intn(4), 16+r.Intn(4)
		var steps []step
		for range 100 {
			switch k := r.Intn(20); {
			case k < 12:
				s := make([]byte, size)
				r.Read(s)
				steps = append(steps, writeStep(r.Intn(sectors), string(s)))
			case k < 14:
				steps = append(steps, flushStep())
			case k < 16:
				steps = append(steps, cutStep(r.Intn(12)))
			case k < 17:
				steps = append(steps, fillStep(r.Intn(3) == 0))
			default:
				keep := make([]bool, r.Intn(12))
				for i := range keep {
					keep[i] = r.Intn(3) > 0
				}
				steps = append(steps, crashStep(keep, r.Intn(size+4)-2))
			}
		}
		follow(t, sectors, size, steps)
	}
}

// Promise 8.4: what was flushed remains durable through any crash, but for the sectors of surviving writes.
func TestFlushedRemains(t *testing.T) {
	at := []int{0, 2, 0, 3, 2}
	for _, keep := range lists(len(at)) {
		for torn := -1; torn <= size; torn++ {
			d := made(t, 5, size)
			for sector := range 5 {
				wrote(t, d, sector, of("o"))
			}
			flushed(t, d)
			touched := map[int]int{}
			for i, sector := range at {
				wrote(t, d, sector, of("n"))
				if keep[i] {
					touched[sector]++
				}
			}
			d.Crash(keep, torn)
			for sector := range 5 {
				if s := d.Durable(sector); touched[sector] == 0 && s != of("o") {
					t.Errorf("Crash(%v, %d): sector %d is %q", keep, torn, sector, s)
				}
			}
			before := stateOf(d)
			d.Crash(nil, 0)
			checkState(t, d, before)
		}
	}
}

// Promise 8.4: a crash in which no write survives has the same effect as if nothing had been written since the last flush.
func TestAsIfNothingWritten(t *testing.T) {
	for _, cut := range []int{0, 1, 2, 3, 4, 5} {
		for _, keep := range [][]bool{nil, {false}, {false, false, false, false, false, false}, {false, false, false, false, true, true}} {
			written, bare := made(t, 4, 16), made(t, 4, 16)
			for _, d := range []*disk.Disk{written, bare} {
				wrote(t, d, 0, of("a"))
				wrote(t, d, 1, of("b"))
				flushed(t, d)
			}
			written.Cut(cut)
			for i, s := range []string{"c", "d", "e", "f"} {
				written.Write(i%3, of(s))
			}
			written.Crash(keep, 3)
			bare.Crash(nil, 3)
			want := stateOf(bare)
			want.ops = written.Ops()
			checkState(t, written, want)
		}
	}
}

// Rule R4: what is passed is not modified, what follows a list is not read, and what is passed can be changed afterwards.
func TestArguments(t *testing.T) {
	d := made(t, 4, 16)
	for range 3 {
		wrote(t, d, 1, of("a"))
	}
	wrote(t, d, 2, of("b"))
	all := []bool{true, false, true, true, true}
	d.Crash(all[:3], 16)
	if !slices.Equal(all, []bool{true, false, true, true, true}) {
		t.Errorf("the list is %v now", all)
	}
	check(t, d, []string{zero, of("a"), zero, zero}, nil)
	text := []byte(of("c"))
	wrote(t, d, 3, string(text))
	clear(text)
	s, _ := d.Read(3)
	wrote(t, d, 3, of("d"))
	flushed(t, d)
	if s != of("c") {
		t.Errorf("what was read is %q now", s)
	}
}

// Rule R7: disks share nothing, and the same steps lead to the same.
func TestDisksAreApart(t *testing.T) {
	a, b, c := made(t, 4, 16), made(t, 4, 16), made(t, 4, 16)
	for _, d := range []*disk.Disk{a, b} {
		wrote(t, d, 0, of("a"))
		flushed(t, d)
		wrote(t, d, 1, of("b"))
		d.Fill(true)
		d.Cut(1)
		d.Flush()
	}
	if stateOf(a) != stateOf(b) {
		t.Errorf("two disks with the same steps differ: %+q, %+q", fmt.Sprint(stateOf(a)), fmt.Sprint(stateOf(b)))
	}
	checkState(t, c, stateOf(made(t, 4, 16)))
	wrote(t, c, 0, of("c"))
}

// Promise P1: many writes without a flush, each read at once, end soon.
func TestManyWrites(t *testing.T) {
	const n = 300000
	d := made(t, 4096, 16)
	keep := make([]bool, n)
	for i := range n {
		wrote(t, d, i%4000, of(string(rune('a'+i%26))))
		if s, c := d.Read(4095); s != zero || c != api.OK {
			t.Fatalf("Read(4095) = %q, %d", s, int(c))
		}
		keep[i] = i%2 == 0
	}
	if d.Cached() != n || d.Ops() != n {
		t.Errorf("%d in the cache, %d operations; want %d", d.Cached(), d.Ops(), n)
	}
	d.Crash(keep, 0)
	if s := d.Durable(0); s != of(string(rune('a'+(n-4000)%26))) {
		t.Errorf("Durable(0) = %q", s)
	}
}
