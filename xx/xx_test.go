package xx

import (
	"bytes"
	"encoding/binary"
	"fmt"
	"math"
	"math/bits"
	"math/rand"
	"strings"
	"testing"
)

// edgeSeeds are words at the ends, with patterns, and some of which the sums at first are 0 or run over.
func edgeSeeds() []uint64 {
	return []uint64{
		0, 1, 7, 123, 1 << 31, 1 << 32, 1 << 63, 0x0123456789abcdef, 2654435761,
		p1, less(p1), less(p2), less(p5), less(p1) - p2, math.MaxUint64 - 1, math.MaxUint64,
	}
}

// less is the word whose sum with x is 0.
func less(x uint64) uint64 {
	return -x
}

// drawn are n bytes, the same ones each time.
func drawn(n int) []byte {
	b := make([]byte, n)
	rand.New(rand.NewSource(int64(n))).Read(b)
	return b
}

// rising are n bytes, of which no two neighbours are alike.
func rising(n int) []byte {
	b := make([]byte, n)
	for i := range b {
		b[i] = byte(i*7 + 1)
	}
	return b
}

// texts are n bytes of several kinds.
func texts(n int) [][]byte {
	return [][]byte{
		make([]byte, n),
		bytes.Repeat([]byte{0xff}, n),
		bytes.Repeat([]byte{0x80}, n),
		rising(n),
		drawn(n),
	}
}

// sanity are the bytes that XXH64's own tests take.
func sanity(n int) []byte {
	b := make([]byte, n)
	from := uint32(2654435761)
	for i := range b {
		b[i] = byte(from >> 24)
		from *= from
	}
	return b
}

// roundByTheWords is a round of s by x.
func roundByTheWords(s, x uint64) uint64 {
	s += x * 0xc2b2ae3d27d4eb4f
	s = bits.RotateLeft64(s, 31)
	return s * 0x9e3779b185ebca87
}

// sumsByTheWords is h behind all whole blocks, and the place at which the bytes that are left begin.
func sumsByTheWords(b []byte, seed uint64) (uint64, int) {
	if len(b) < 32 {
		return seed + 0x27d4eb2f165667c5, 0
	}
	first := seed
	first += 0x9e3779b185ebca87
	first += 0xc2b2ae3d27d4eb4f
	second := seed + 0xc2b2ae3d27d4eb4f
	third := seed
	fourth := seed - 0x9e3779b185ebca87
	place := 0
	for ; len(b)-place >= 32; place += 32 {
		first = roundByTheWords(first, binary.LittleEndian.Uint64(b[place:]))
		second = roundByTheWords(second, binary.LittleEndian.Uint64(b[place+8:]))
		third = roundByTheWords(third, binary.LittleEndian.Uint64(b[place+16:]))
		fourth = roundByTheWords(fourth, binary.LittleEndian.Uint64(b[place+24:]))
	}
	h := bits.RotateLeft64(first, 1) + bits.RotateLeft64(second, 7)
	h += bits.RotateLeft64(third, 12) + bits.RotateLeft64(fourth, 18)
	for _, sum := range []uint64{first, second, third, fourth} {
		h ^= roundByTheWords(0, sum)
		h *= 0x9e3779b185ebca87
		h += 0x85ebca77c2b2ae63
	}
	return h, place
}

// digestByTheWords is the digest of b by the seed, as the chapter's words say it.
func digestByTheWords(b []byte, seed uint64) uint64 {
	h, place := sumsByTheWords(b, seed)
	h += uint64(len(b))
	for ; len(b)-place >= 8; place += 8 {
		h ^= roundByTheWords(0, binary.LittleEndian.Uint64(b[place:]))
		h = bits.RotateLeft64(h, 27)
		h *= 0x9e3779b185ebca87
		h += 0x85ebca77c2b2ae63
	}
	if len(b)-place >= 4 {
		h ^= uint64(binary.LittleEndian.Uint32(b[place:])) * 0x9e3779b185ebca87
		h = bits.RotateLeft64(h, 23)
		h *= 0xc2b2ae3d27d4eb4f
		h += 0x165667b19e3779f9
		place += 4
	}
	for ; place < len(b); place++ {
		h ^= uint64(b[place]) * 0x27d4eb2f165667c5
		h = bits.RotateLeft64(h, 11)
		h *= 0x9e3779b185ebca87
	}
	h ^= h >> 33
	h *= 0xc2b2ae3d27d4eb4f
	h ^= h >> 29
	h *= 0x165667b19e3779f9
	return h ^ h>>32
}

// P4.1, example 1, and known values of XXH64.
func TestSumKnown(t *testing.T) {
	ishmael := "Call me Ishmael. Some years ago--never mind how long precisely-"
	for _, c := range []struct {
		text []byte
		seed uint64
		want uint64
	}{
		{nil, 0, 0xef46db3751d8e999},
		{[]byte{}, 0, 0xef46db3751d8e999},
		{[]byte("abc"), 0, 0x44bc2cf5ad770999},
		{[]byte("a"), 0, 0xd24ec4f1a98c6e5b},
		{[]byte("as"), 0, 0x1c330fb2d66be179},
		{[]byte("asd"), 0, 0x631c37ce72a97393},
		{[]byte("asdf"), 0, 0x415872f599cea71e},
		{[]byte(ishmael), 0, 0x02a2e85470d6fd96},
		{[]byte("Nobody inspects the spammish repetition"), 0, 0xfbcea83c8a378bf1},
		{nil, 123, 0xe0db84de91f3e198},
		{nil, 2654435761, 0xac75fda2929b17ef},
		{sanity(1), 0, 0x4fce394cc88952d8},
		{sanity(1), 2654435761, 0x739840cb819fa723},
		{sanity(14), 0, 0xcffa8db881bc3a3d},
		{sanity(14), 2654435761, 0x5b9611585efcc9cb},
		{sanity(101), 0, 0x0eab543384f878ad},
		{sanity(101), 2654435761, 0xcaa65939306f1e21},
	} {
		if got := Sum(c.text, c.seed); got != c.want {
			t.Errorf("Sum(%q, %d) = %#x, want %#x", c.text, c.seed, got, c.want)
		}
		if got := digestByTheWords(c.text, c.seed); got != c.want {
			t.Errorf("by the words, of %q and %d: %#x, want %#x", c.text, c.seed, got, c.want)
		}
	}
}

// P4.1: each length from 0 on, so that each number of bytes from 0 to 31 is left, behind no block, one, and more.
func TestSumByTheWords(t *testing.T) {
	for n := range 32*5 + 1 {
		for _, text := range texts(n) {
			for _, seed := range edgeSeeds() {
				if got, want := Sum(text, seed), digestByTheWords(text, seed); got != want {
					t.Fatalf("Sum(%x, %#x) = %#x, want %#x", text, seed, got, want)
				}
			}
		}
	}
}

// P4.1: long texts.
func TestSumOfLongTexts(t *testing.T) {
	for _, n := range []int{1000, 1023, 1024, 1025, 1 << 16, 1<<20 - 1, 1 << 20, 1<<20 + 31} {
		text := drawn(n)
		if got, want := Sum(text, 9), digestByTheWords(text, 9); got != want {
			t.Errorf("Sum of %d bytes = %#x, want %#x", n, got, want)
		}
	}
}

// P4.1: a digest hangs on each bit, on the order, on the length and on the seed.
func TestSumHangsOnAll(t *testing.T) {
	text := rising(75)
	seen := map[uint64]string{}
	note := func(sum uint64, what string) {
		if other, there := seen[sum]; there {
			t.Errorf("%s and %s have one digest", other, what)
		}
		seen[sum] = what
	}
	for _, seed := range edgeSeeds() {
		note(Sum(text, seed), fmt.Sprintf("the text by %#x", seed))
	}
	for i := range text {
		for bit := range 8 {
			text[i] ^= 1 << bit
			note(Sum(text, 0), fmt.Sprintf("bit %d of byte %d turned", bit, i))
			text[i] ^= 1 << bit
		}
	}
	for i := range len(text) - 1 {
		text[i], text[i+1] = text[i+1], text[i]
		note(Sum(text, 0), fmt.Sprintf("bytes %d and %d changed", i, i+1))
		text[i], text[i+1] = text[i+1], text[i]
	}
	for n := range text {
		note(Sum(make([]byte, n), 0), fmt.Sprintf("%d zeros", n))
	}
}

// P4.2: a new Digest has no bytes, and is another one each time.
func TestNew(t *testing.T) {
	for _, seed := range edgeSeeds() {
		d, other := New(seed), New(seed)
		if d == nil || d == other {
			t.Fatalf("New(%#x) is nil, or one that was told already", seed)
		}
		if d.Count() != 0 {
			t.Errorf("New(%#x).Count() = %d", seed, d.Count())
		}
		if got, want := d.Sum(), digestByTheWords(nil, seed); got != want {
			t.Errorf("New(%#x).Sum() = %#x, want %#x", seed, got, want)
		}
	}
}

// P4.2: the digest, and how many, of what one part has.
func TestDigestOfOnePart(t *testing.T) {
	for n := range 32*4 + 2 {
		text := drawn(n)
		for _, seed := range edgeSeeds() {
			d := New(seed)
			d.Write(text)
			if got, want := d.Sum(), digestByTheWords(text, seed); got != want {
				t.Errorf("%d bytes by %#x: Sum() = %#x, want %#x", n, seed, got, want)
			}
			if d.Count() != n {
				t.Errorf("%d bytes by %#x: Count() = %d", n, seed, d.Count())
			}
		}
	}
}

// P4.2: nothing is written to a nil Digest, however often.
func TestNilDigest(t *testing.T) {
	var d *Digest
	for _, part := range [][]byte{nil, {}, {1}, rising(31), rising(32), rising(100)} {
		d.Write(part)
		if d.Sum() != 0 || d.Count() != 0 {
			t.Errorf("a nil Digest behind %d bytes: Sum() = %#x, Count() = %d", len(part), d.Sum(), d.Count())
		}
	}
}

// P4.2: empty parts are no bytes.
func TestWriteOfNothing(t *testing.T) {
	text := rising(70)
	for _, n := range []int{0, 1, 31, 32, 33, 63, 64, 65, 70} {
		d := New(5)
		d.Write(nil)
		d.Write(text[:n])
		d.Write([]byte{})
		d.Write(nil)
		d.Write(text[n:n])
		if got, want := d.Sum(), digestByTheWords(text[:n], 5); got != want || d.Count() != n {
			t.Errorf("%d bytes and nothing: Sum() = %#x, want %#x; Count() = %d", n, got, want, d.Count())
		}
	}
}

// checkParts writes a text in parts, and asks behind each of them.
func checkParts(t *testing.T, seed uint64, parts ...[]byte) {
	t.Helper()
	quiet, asked := New(seed), New(seed)
	var all []byte
	var lengths []string
	for _, part := range parts {
		quiet.Write(part)
		asked.Write(part)
		all = append(all, part...)
		lengths = append(lengths, fmt.Sprint(len(part)))
		want := digestByTheWords(all, seed)
		for range 2 {
			if got := asked.Sum(); got != want {
				t.Fatalf("parts of %s bytes by %#x: Sum() = %#x, want %#x", strings.Join(lengths, ", "), seed, got, want)
			}
			if asked.Count() != len(all) {
				t.Fatalf("parts of %s bytes: Count() = %d", strings.Join(lengths, ", "), asked.Count())
			}
		}
	}
	if quiet.Sum() != asked.Sum() || quiet.Count() != asked.Count() {
		t.Fatalf("parts of %s bytes by %#x: what was asked in between is to be seen", strings.Join(lengths, ", "), seed)
	}
}

// P4.3: each way to cut a text in two, and in three, so that parts end below, at and beyond 32 bytes.
func TestCutTexts(t *testing.T) {
	for n := range 32*3 + 2 {
		text := drawn(n)
		for first := range n + 1 {
			checkParts(t, uint64(n), text[:first], text[first:])
		}
	}
	text := drawn(100)
	for first := range len(text) + 1 {
		for second := first; second <= len(text); second++ {
			checkParts(t, math.MaxUint64, text[:first], text[first:second], text[second:])
		}
	}
}

// P4.3: parts that are alike in length, from one byte on.
func TestPartsOfOneLength(t *testing.T) {
	text := drawn(200)
	for length := 1; length <= 101; length++ {
		var parts [][]byte
		for left := text; len(left) > 0; left = left[min(length, len(left)):] {
			parts = append(parts, left[:min(length, len(left))])
		}
		checkParts(t, 0, parts...)
	}
}

// P4.3: parts of lengths that are drawn, empty ones and long ones among them.
func TestDrawnParts(t *testing.T) {
	source := rand.New(rand.NewSource(4))
	lengths := []int{0, 1, 2, 3, 4, 7, 8, 9, 15, 16, 24, 30, 31, 32, 33, 63, 64, 65, 96, 100}
	for range 300 {
		var parts [][]byte
		for range 1 + source.Intn(12) {
			parts = append(parts, drawn(lengths[source.Intn(len(lengths))]))
		}
		checkParts(t, source.Uint64(), parts...)
	}
}

// P4.3: two Digests don't know of one another.
func TestDigestsApart(t *testing.T) {
	text := drawn(150)
	one, other := New(1), New(1)
	for i := range text {
		one.Write(text[i : i+1])
		other.Write(text[len(text)-1-i:])
	}
	if got, want := one.Sum(), digestByTheWords(text, 1); got != want {
		t.Errorf("Sum() = %#x, want %#x", got, want)
	}
	if one.Count() != 150 || other.Count() != 150*151/2 {
		t.Errorf("Count() = %d and %d", one.Count(), other.Count())
	}
}

// P4.2 with rule 3: what is written is neither changed nor kept, nor is the room behind its end.
func TestWrittenBytesStayTheCallers(t *testing.T) {
	for _, n := range []int{0, 1, 5, 31, 32, 33, 60, 64, 70} {
		text := drawn(n)
		room := append(bytes.Clone(text), bytes.Repeat([]byte{0xee}, 50)...)
		before := bytes.Clone(room)
		d := New(3)
		d.Write(room[:n])
		if Sum(room[:n], 3) != d.Sum() {
			t.Errorf("%d bytes: Sum and the Digest differ", n)
		}
		if !bytes.Equal(room, before) {
			t.Errorf("%d bytes: what was handed in, or behind it, was changed", n)
		}
		clear(room)
		if got, want := d.Sum(), digestByTheWords(text, 3); got != want {
			t.Errorf("%d bytes, changed by the caller: Sum() = %#x, want %#x", n, got, want)
		}
		d.Write([]byte("more"))
		if got, want := d.Sum(), digestByTheWords(append(text, "more"...), 3); got != want {
			t.Errorf("%d bytes, changed by the caller, and more: Sum() = %#x, want %#x", n, got, want)
		}
	}
}
