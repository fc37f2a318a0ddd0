package fnv

import (
	"bytes"
	standard "hash/fnv"
	"math"
	"math/big"
	"math/rand"
	"strings"
	"testing"
)

const allOnes = math.MaxUint64

// edgeWords are words at the ends, with one bit, with all bits but one, with the lowest 8 bits alone, and drawn ones.
func edgeWords() []uint64 {
	words := []uint64{
		0, 1, 2, 127, 128, 254, 255, 256, 257, Begin - 1, Begin, Begin + 1, factor, allOnes - factor,
		0x5555555555555555, 0xaaaaaaaaaaaaaaaa, 0x0123456789abcdef, allOnes - 255, allOnes - 1, allOnes,
	}
	for place := range 64 {
		words = append(words, 1<<place, allOnes^1<<place)
	}
	source := rand.New(rand.NewSource(1))
	for range 100 {
		words = append(words, source.Uint64())
	}
	return words
}

// drawn are n bytes, the same ones each time.
func drawn(n int) []byte {
	b := make([]byte, n)
	rand.New(rand.NewSource(int64(n))).Read(b)
	return b
}

// texts are n bytes of several kinds.
func texts(n int) [][]byte {
	return [][]byte{
		make([]byte, n),
		bytes.Repeat([]byte{0xff}, n),
		bytes.Repeat([]byte{0x80}, n),
		[]byte(strings.Repeat("ü€", n))[:n],
		drawn(n),
	}
}

// nextByTheWords is h gone on by b, bit by bit, and by numbers of any length.
func nextByTheWords(h uint64, b byte) uint64 {
	for place := range 8 {
		if b&(1<<place) != 0 {
			if h&(1<<place) != 0 {
				h -= 1 << place
			} else {
				h += 1 << place
			}
		}
	}
	product := new(big.Int).SetUint64(h)
	product.Mul(product, new(big.Int).SetUint64(0x100000001b3))
	return product.And(product, new(big.Int).SetUint64(allOnes)).Uint64()
}

// goneByTheWords is h gone on by all of b.
func goneByTheWords(h uint64, b []byte) uint64 {
	for i := 0; i < len(b); i++ {
		h = nextByTheWords(h, b[i])
	}
	return h
}

// digest is FNV-1a as the library has it.
func digest(b []byte) uint64 {
	d := standard.New64a()
	d.Write(b)
	return d.Sum64()
}

// P5.1: the edges.
func TestNextExamples(t *testing.T) {
	for _, c := range []struct {
		h    uint64
		b    byte
		want uint64
	}{
		{0, 0, 0},
		{0, 1, 0x100000001b3},
		{1, 0, 0x100000001b3},
		{1, 1, 0},
		{2, 1, 0x30000000519},
		{255, 255, 0},
		{256, 0, 0x100000001b300},
		{0, 255, 0xff000001b14d},
		{1 << 63, 0, 1 << 63},
		{1 << 24, 0, 0x1b3000000},
		{allOnes, 0, 0xfffffefffffffe4d},
		{allOnes, 255, 0xfffefffffffe4d00},
		{Begin, 0, 0xaf63bd4c8601b7df},
		{Begin, 'a', 0xaf63dc4c8601ec8c},
		{Begin, 255, 0xaf64724c8602eb6e},
	} {
		if got := Next(c.h, c.b); got != c.want {
			t.Errorf("Next(%#x, %d) = %#x, want %#x", c.h, c.b, got, c.want)
		}
		if got := nextByTheWords(c.h, c.b); got != c.want {
			t.Errorf("by the words, of %#x and %d: %#x, want %#x", c.h, c.b, got, c.want)
		}
	}
}

// P5.1: each byte, at words of all kinds.
func TestNextByTheWords(t *testing.T) {
	for _, h := range edgeWords() {
		for b := range 256 {
			if got, want := Next(h, byte(b)), nextByTheWords(h, byte(b)); got != want {
				t.Fatalf("Next(%#x, %d) = %#x, want %#x", h, b, got, want)
			}
		}
	}
}

// P5.1, example 1, and known values of FNV-1a.
func TestTextKnown(t *testing.T) {
	for _, c := range []struct {
		text string
		want uint64
	}{
		{"", 0xcbf29ce484222325},
		{"a", 0xaf63dc4c8601ec8c},
		{"b", 0xaf63df4c8601f1a5},
		{"f", 0xaf63db4c8601ead9},
		{"fo", 0x08985907b541d342},
		{"foo", 0xdcb27518fed9d577},
		{"foob", 0xdd120e790c2512af},
		{"fooba", 0xcac165afa2fef40a},
		{"foobar", 0x85944171f73967e8},
		{"\x00", 0xaf63bd4c8601b7df},
		{"foo\x00", 0xdd1270790c25b935},
		{"\xff", 0xaf64724c8602eb6e},
	} {
		if got := Text(c.text); got != c.want {
			t.Errorf("Text(%q) = %#x, want %#x", c.text, got, c.want)
		}
		if got := Go(Begin, []byte(c.text)); got != c.want {
			t.Errorf("Go(Begin, %q) = %#x, want %#x", c.text, got, c.want)
		}
	}
}

// P5.1: no bytes leave any number as it is.
func TestGoByNothing(t *testing.T) {
	for _, h := range edgeWords() {
		for _, nothing := range [][]byte{nil, {}, make([]byte, 0, 9), drawn(9)[4:4]} {
			if got := Go(h, nothing); got != h {
				t.Fatalf("Go(%#x) by nothing = %#x", h, got)
			}
		}
	}
}

// P5.1: one byte is what Next is told.
func TestGoByOneByte(t *testing.T) {
	for _, h := range []uint64{0, 1, Begin, allOnes} {
		for b := range 256 {
			if got, want := Go(h, []byte{byte(b)}), nextByTheWords(h, byte(b)); got != want {
				t.Fatalf("Go(%#x) by %d = %#x, want %#x", h, b, got, want)
			}
		}
	}
}

// P5.1: bytes in order, from numbers of all kinds.
func TestGoByTheWords(t *testing.T) {
	for n := range 40 {
		for _, text := range texts(n) {
			for _, h := range edgeWords() {
				if got, want := Go(h, text), goneByTheWords(h, text); got != want {
					t.Fatalf("Go(%#x, %x) = %#x, want %#x", h, text, got, want)
				}
			}
		}
	}
}

// P5.1: a text's bytes, whether they are runes or not, in short texts and long ones.
func TestTextByTheLibrary(t *testing.T) {
	lengths := []int{1000, 1 << 16, 1<<20 + 3}
	for n := range 100 {
		lengths = append(lengths, n)
	}
	for _, n := range lengths {
		for _, text := range texts(n) {
			want := digest(text)
			if got := Text(string(text)); got != want {
				t.Fatalf("Text of %d bytes = %#x, want %#x", n, got, want)
			}
			if got := Go(Begin, text); got != want {
				t.Fatalf("Go by %d bytes = %#x, want %#x", n, got, want)
			}
		}
	}
	for _, text := range []string{"ü", "€", "a€b", "\u00e9t\u00e9", "\xc3", "\xe2\x82", "\xffa\x80", "😀"} {
		if got, want := Text(text), digest([]byte(text)); got != want {
			t.Errorf("Text(%q) = %#x, want %#x", text, got, want)
		}
	}
}

// P5.1 with rule 3: bytes that are handed in are not changed, nor is the room behind their end.
func TestBytesStayTheCallers(t *testing.T) {
	for n := range 20 {
		room := drawn(n + 20)
		before := bytes.Clone(room)
		if got, want := Go(Begin, room[:n]), goneByTheWords(Begin, before[:n]); got != want {
			t.Errorf("Go by %d bytes = %#x, want %#x", n, got, want)
		}
		if !bytes.Equal(room, before) {
			t.Errorf("%d bytes: what was handed in, or behind it, was changed", n)
		}
	}
}

// P5.2: the edges.
func TestBackExamples(t *testing.T) {
	for _, c := range []struct {
		h    uint64
		b    byte
		want uint64
	}{
		{0, 0, 0},
		{0, 1, 1},
		{0, 255, 255},
		{0x100000001b3, 0, 1},
		{0x100000001b3, 1, 0},
		{1, 0, 0xce965057aff6957b},
		{1, 255, 0xce965057aff69584},
		{1 << 63, 0, 1 << 63},
		{0xfffffefffffffe4d, 0, allOnes},
		{0xfffefffffffe4d00, 255, allOnes},
		{0xaf63dc4c8601ec8c, 'a', Begin},
		{0x85944171f73967e8, 'r', 0xcac165afa2fef40a},
	} {
		if got := Back(c.h, c.b); got != c.want {
			t.Errorf("Back(%#x, %d) = %#x, want %#x", c.h, c.b, got, c.want)
		}
	}
}

// P5.2: the number whose Next by b is h, and the only one: there and back, and back and there.
func TestBackUndoesNext(t *testing.T) {
	for _, h := range edgeWords() {
		for b := range 256 {
			b := byte(b)
			if got := Back(nextByTheWords(h, b), b); got != h {
				t.Fatalf("%#x gone on by %d, and back, is %#x", h, b, got)
			}
			if got := nextByTheWords(Back(h, b), b); got != h {
				t.Fatalf("Back(%#x, %d), gone on, is %#x", h, b, got)
			}
			if got := Back(Next(h, b), b); got != h {
				t.Fatalf("Back(Next(%#x, %d)) = %#x", h, b, got)
			}
			if got := Next(Back(h, b), b); got != h {
				t.Fatalf("Next(Back(%#x, %d)) = %#x", h, b, got)
			}
		}
	}
}

// P5.2: a text is gone back by its bytes from the last one on, to where it began.
func TestBackToTheBeginning(t *testing.T) {
	for n := range 40 {
		for _, text := range texts(n) {
			h := Text(string(text))
			for i := n - 1; i >= 0; i-- {
				h = Back(h, text[i])
				if want := digest(text[:i]); h != want {
					t.Fatalf("%x, gone back to %d bytes, is %#x, want %#x", text, i, h, want)
				}
			}
			if h != Begin {
				t.Fatalf("%x, gone back by all bytes, is %#x", text, h)
			}
		}
	}
}

// P5.3: bytes in two parts, cut at every place, the first and the last among them.
func TestTwoParts(t *testing.T) {
	for n := range 40 {
		for _, text := range texts(n) {
			for cut := range n + 1 {
				first, last := text[:cut], text[cut:]
				for _, h := range []uint64{0, 1, Begin, allOnes} {
					if got, want := Go(Go(h, first), last), Go(h, text); got != want {
						t.Fatalf("%x behind %x, from %#x: %#x, want %#x", last, first, h, got, want)
					}
				}
				if got, want := Go(Text(string(first)), last), Text(string(text)); got != want {
					t.Fatalf("%x behind Text(%x): %#x, want %#x", last, first, got, want)
				}
			}
		}
	}
}

// P5.3: parts of one byte each, by Next and by Go.
func TestPartsOfOneByte(t *testing.T) {
	text := drawn(300)
	byNext, byGo := uint64(Begin), uint64(Begin)
	for i := range text {
		byNext = Next(byNext, text[i])
		byGo = Go(byGo, text[i:i+1])
		if want := Text(string(text[:i+1])); byNext != want || byGo != want {
			t.Fatalf("%d bytes: %#x by Next, %#x by Go, want %#x", i+1, byNext, byGo, want)
		}
	}
}

// P5.3: bytes of which one alone is another one, at each place from the first one to the last one, have unlike digests.
func TestOneByteAlone(t *testing.T) {
	for _, n := range []int{1, 2, 3, 8, 9, 33} {
		for _, text := range texts(n) {
			for place := range n {
				checkOneByteAlone(t, text, place)
			}
		}
	}
}

// checkOneByteAlone holds the digests of a text with each of the 256 bytes at one place against one another.
func checkOneByteAlone(t *testing.T, text []byte, place int) {
	t.Helper()
	for _, h := range []uint64{0, Begin, allOnes} {
		seen := map[uint64]int{}
		texts := map[uint64]int{}
		for b := range 256 {
			other := bytes.Clone(text)
			other[place] = byte(b)
			sum := Go(h, other)
			if like, there := seen[sum]; there {
				t.Fatalf("%x with %d or %d at %d, from %#x: both are %#x", text, like, b, place, h, sum)
			}
			seen[sum] = b
			sum = Text(string(other))
			if like, there := texts[sum]; there {
				t.Fatalf("Text of %x with %d or %d at %d: both are %#x", text, like, b, place, sum)
			}
			texts[sum] = b
		}
	}
}

// P5.3: numbers that are unlike stay unlike, whatever they are gone on by.
func TestUnlikeStayUnlike(t *testing.T) {
	for _, text := range [][]byte{nil, {0}, {255}, drawn(7), drawn(40)} {
		from := map[uint64]uint64{}
		for h := range uint64(1 << 12) {
			for _, x := range []uint64{h, h<<50 + 1<<49, allOnes - h} {
				sum := Go(x, text)
				if other, there := from[sum]; there && other != x {
					t.Fatalf("%#x and %#x, gone on by %x, are both %#x", x, other, text, sum)
				}
				from[sum] = x
			}
		}
	}
}
