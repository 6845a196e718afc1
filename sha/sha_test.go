package sha_test

import (
	"crypto/sha256"
	"encoding/hex"
	"strings"
	"testing"

	"bulletin/sha"
)

// anyBytes is a string with every byte once, so also bytes that are no text.
func anyBytes() string {
	b := make([]byte, 256)
	for i := range b {
		b[i] = byte(i)
	}
	return string(b)
}

// samples are strings of many lengths and contents, with lengths at the edges
// of a block and of what its padding leaves.
func samples() []string {
	l := []string{"a", "b", "abc", "\x00", "\x80", "\xff", "é", "\r\n", "hello", anyBytes(), anyBytes() + anyBytes()[:77]}
	for _, n := range []int{0, 1, 54, 55, 56, 57, 62, 63, 64, 65, 118, 119, 120, 121, 127, 128, 129, 191, 192, 193} {
		l = append(l, strings.Repeat("x", n), strings.Repeat("\x00", n), anyBytes()[:n])
	}
	return l
}

// model is the library's digest.
func model(s string) string {
	sum := sha256.Sum256([]byte(s))
	return string(sum[:])
}

// hashOf is a Hash to which the pieces were written.
func hashOf(pieces ...string) *sha.Hash {
	h := sha.New()
	for _, s := range pieces {
		h.Write(s)
	}
	return h
}

// checkHash checks that h is as if s was written to it.
func checkHash(t *testing.T, h *sha.Hash, s string) {
	t.Helper()
	if sum := h.Sum(); sum != model(s) {
		t.Errorf("after %d bytes, %.40q, Sum() = %x; want %x", len(s), s, sum, model(s))
	}
	if n := h.Len(); n != len(s) {
		t.Errorf("after %d bytes, %.40q, Len() = %d", len(s), s, n)
	}
}

// Promise 3.1: Sum, by digests that are published.
func TestSum(t *testing.T) {
	const twoBlocks = "abcdbcdecdefdefgefghfghighijhijkijkljklmklmnlmnomnopnopq"
	const fourBlocks = "abcdefghbcdefghicdefghijdefghijkefghijklfghijklmghijklmnhijklmnoijklmnopjklmnopqklmnopqrlmnopqrsmnopqrstnopqrstu"
	for _, c := range []struct{ s, sum string }{
		{"", "e3b0c44298fc1c149afbf4c8996fb92427ae41e4649b934ca495991b7852b855"},
		{"abc", "ba7816bf8f01cfea414140de5dae2223b00361a396177a9cb410ff61f20015ad"},
		{twoBlocks, "248d6a61d20638b8e5c026930c3e6039a33ce45964ff2167f6ecedd419db06c1"},
		{fourBlocks, "cf5b16a778af8380036ce59e7b0492370b249b11e8f07a51afac45037afee9d1"},
		{"\xbd", "68325720aabd7c82f30f554b313d0570c95accbb7dc4b5aae11204c08ffe732b"},
		{"The quick brown fox jumps over the lazy dog", "d7a8fbb307d7809469ca9abcb0082e4f8d5651e46d3cdb762d02d0bf37c9e592"},
		{"The quick brown fox jumps over the lazy dog.", "ef537f25c895bfa782526529a9b63d97aa631564d5d789c2b765448c8635fb6c"},
		{strings.Repeat("a", 1000), "41edece42d63e8d9bf515a9ba6932e1c20cbc9f5a5d134645adb5db1b9737ea3"},
		{strings.Repeat("a", 1000000), "cdc76e5c9914fb9281a1c7e284d73e67f1809a48a497200e046d39ccc7112cd0"},
	} {
		if sum := hex.EncodeToString([]byte(sha.Sum(c.s))); sum != c.sum {
			t.Errorf("Sum(%.40q) = %s; want %s", c.s, sum, c.sum)
		}
	}
}

// Promise 3.1: Sum returns bytes, not their digits, and always 32 of them.
func TestSumIsBytes(t *testing.T) {
	if sum := sha.Sum("abc"); !strings.HasPrefix(sum, "\xba\x78\x16\xbf") {
		t.Errorf("the digest of abc begins with % X", sum[:min(4, len(sum))])
	}
	for _, s := range samples() {
		if n := len(sha.Sum(s)); n != 32 {
			t.Errorf("the digest of %.40q has %d bytes", s, n)
		}
		if n := len(hashOf(s).Sum()); n != 32 {
			t.Errorf("the digest of a Hash of %.40q has %d bytes", s, n)
		}
	}
}

// Promise 3.1: Sum against the library's, for every string of at most two bytes and for every length over several blocks.
func TestSumAsModel(t *testing.T) {
	check := func(s string) {
		if sum, want := sha.Sum(s), model(s); sum != want {
			t.Errorf("Sum of %d bytes, %.40q = %x; want %x", len(s), s, sum, want)
		}
	}
	for a := range 256 {
		check(string([]byte{byte(a)}))
		for b := range 256 {
			check(string([]byte{byte(a), byte(b)}))
		}
	}
	for _, s := range samples() {
		check(s)
	}
	for _, text := range []string{strings.Repeat(anyBytes(), 3), strings.Repeat("\x00", 768), strings.Repeat("\xff", 768), strings.Repeat("\x80", 768)} {
		for n := range len(text) + 1 {
			check(text[:n])
		}
	}
}

// Promise 3.1: strings that end as their padding begins have digests of their own.
func TestPaddingIsTold(t *testing.T) {
	seen := map[string]string{}
	for _, end := range []string{"", "\x80", "\x00"} {
		for n := range 130 {
			s := "abc" + end + strings.Repeat("\x00", n)
			sum := sha.Sum(s)
			if other, is := seen[sum]; is && other != s {
				t.Errorf("%q and %q have one digest", other, s)
			}
			seen[sum] = s
		}
	}
	// The padding of abc, written out: the block is the same, the length is not.
	s := "abc\x80" + strings.Repeat("\x00", 59) + "\x18"
	checkHash(t, hashOf(s), s)
	if sha.Sum(s) == sha.Sum("abc") {
		t.Error("a string has the digest of its padded message")
	}
}

// Promise 3.1: a new Hash has nothing written to it, whatever others have.
func TestNew(t *testing.T) {
	checkHash(t, sha.New(), "")
	other := hashOf("abc")
	h := sha.New()
	checkHash(t, h, "")
	h.Write("x")
	checkHash(t, other, "abc")
	checkHash(t, h, "x")
	checkHash(t, sha.New(), "")
	if sha.Sum("abc") != model("abc") || h.Sum() != model("x") {
		t.Error("Sum of a string and a Hash in progress touch each other")
	}
}

// Promise 3.1: the chapter's example of Write, Sum and Len.
func TestWrite(t *testing.T) {
	h := sha.New()
	h.Write("ab")
	checkHash(t, h, "ab")
	h.Write("c")
	checkHash(t, h, "abc")
	if h.Sum() != sha.Sum("abc") || h.Len() != 3 {
		t.Errorf("Sum() = %x, Len() = %d", h.Sum(), h.Len())
	}
}

// Promise 3.1: writing nothing changes nothing.
func TestWriteNothing(t *testing.T) {
	checkHash(t, hashOf(""), "")
	for _, s := range samples() {
		h := hashOf("", s, "", "")
		checkHash(t, h, s)
		h.Write("")
		checkHash(t, h, s)
	}
}

// Promise 3.1: Len counts bytes, not runes and not what Sum pads with.
func TestLen(t *testing.T) {
	h := sha.New()
	total := 0
	for _, s := range append(samples(), "é", "\xff", strings.Repeat("é", 100), strings.Repeat("z", 100000)) {
		h.Write(s)
		total += len(s)
		if n := h.Len(); n != total {
			t.Errorf("Len() = %d; want %d", n, total)
		}
		h.Sum()
		if n := h.Len(); n != total {
			t.Errorf("after Sum, Len() = %d; want %d", n, total)
		}
	}
}

// Promise 3.2: a string split anywhere in two, with and without Sum between.
func TestSplitInTwo(t *testing.T) {
	for _, s := range samples() {
		for at := range len(s) + 1 {
			checkHash(t, hashOf(s[:at], s[at:]), s)
			h := hashOf(s[:at])
			checkHash(t, h, s[:at])
			h.Write(s[at:])
			checkHash(t, h, s)
		}
	}
}

// Promise 3.2: a string split in three, around the edges of the blocks.
func TestSplitInThree(t *testing.T) {
	s := strings.Repeat(anyBytes(), 2)[:200]
	for first := range len(s) + 1 {
		for second := first; second <= len(s); second++ {
			h := hashOf(s[:first], s[first:second], s[second:])
			if h.Sum() != model(s) || h.Len() != len(s) {
				t.Errorf("split at %d and %d: %x, %d", first, second, h.Sum(), h.Len())
			}
		}
	}
}

// Promise 3.2: a string split in pieces of every size, of which the last may be shorter.
func TestSplitInPieces(t *testing.T) {
	s := strings.Repeat(anyBytes(), 3)[:700]
	for size := 1; size <= len(s); size++ {
		h := sha.New()
		for at := 0; at < len(s); at += size {
			h.Write(s[at:min(at+size, len(s))])
		}
		checkHash(t, h, s)
	}
}

// Promise 3.2: Sum, called any number of times at any place, does not change the Hash.
func TestSumDoesNotChange(t *testing.T) {
	s := strings.Repeat(anyBytes(), 2)
	h := sha.New()
	var sums []string
	for i := range len(s) {
		sums = append(sums, h.Sum())
		for range 3 {
			checkHash(t, h, s[:i])
		}
		h.Write(s[i : i+1])
	}
	checkHash(t, h, s)
	for i, sum := range sums {
		if sum != model(s[:i]) {
			t.Errorf("the digest of %d bytes was changed later", i)
		}
	}
}

// Promises 3.1 and 3.2, and rule R7: a copy of the writes is a Hash of its own.
func TestHashesAreSeparate(t *testing.T) {
	first, second := sha.New(), sha.New()
	var a, b string
	for i, s := range samples() {
		first.Write(s)
		a += s
		if i%3 == 0 {
			second.Write(s + "y")
			b += s + "y"
		}
		checkHash(t, first, a)
		checkHash(t, second, b)
	}
}

// Promise P1 and the bound: the number of bits of a long message needs more than four bytes.
func TestLongMessage(t *testing.T) {
	piece := strings.Repeat(anyBytes(), 1<<12)
	h, want := sha.New(), sha256.New()
	total := 0
	for total <= 1<<29 {
		h.Write(piece)
		want.Write([]byte(piece))
		total += len(piece)
	}
	h.Write("abc")
	want.Write([]byte("abc"))
	if sum := h.Sum(); sum != string(want.Sum(nil)) {
		t.Errorf("Sum() = %x; want %x", sum, want.Sum(nil))
	}
	if n := h.Len(); n != total+3 {
		t.Errorf("Len() = %d; want %d", n, total+3)
	}
}
