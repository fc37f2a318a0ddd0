package key

import (
	"bytes"
	standard "hash/fnv"
	"math"
	"math/big"
	"math/rand"
	"slices"
	"strings"
	"testing"

	"cortado/api"
	"cortado/fnv"
	"cortado/mix"
	"cortado/xx"
)

const allOnes = math.MaxUint64

// edgeWords are words at the ends, with one bit, with all bits but one, and drawn ones.
func edgeWords() []uint64 {
	words := []uint64{
		0, 1, 2, 3, 255, 256, 257, 515, 1<<32 - 1, 1 << 32, 1<<63 - 1, 1 << 63,
		0x5555555555555555, 0xaaaaaaaaaaaaaaaa, 0x0123456789abcdef, allOnes - 255, allOnes - 1, allOnes,
	}
	for place := range 64 {
		words = append(words, 1<<place, allOnes^1<<place)
	}
	source := rand.New(rand.NewSource(1))
	for range 100 {
		words = append(words, source.Uint64())
	}
	return words
}

// edgePairs are all pairs of a few words, and the pairs of numbers and of texts.
func edgePairs() []api.Pair {
	var pairs []api.Pair
	few := []uint64{0, 1, 2, 255, 256, 1<<63 - 1, 1 << 63, allOnes - 1, allOnes}
	for _, hash := range few {
		for _, conflict := range few {
			pairs = append(pairs, api.Pair{Hash: hash, Conflict: conflict})
		}
	}
	for _, n := range few {
		pairs = append(pairs, Number(n))
	}
	return append(pairs, Text(""), Text("abc"), Text("\xff"))
}

// allBits are counts of bits in and out of range, with both ends of int.
func allBits() []int {
	counts := []int{math.MinInt, math.MinInt + 1, -1 << 32, -65, -64, -63, -2, -1, 65, 66, 127, 128, 1 << 32, math.MaxInt - 1, math.MaxInt}
	for bits := range 65 {
		counts = append(counts, bits)
	}
	return counts
}

// drawn are n bytes, the same ones each time.
func drawn(n int) []byte {
	b := make([]byte, n)
	rand.New(rand.NewSource(int64(n))).Read(b)
	return b
}

// texts are n bytes of several kinds.
func texts(n int) [][]byte {
	return [][]byte{
		make([]byte, n),
		bytes.Repeat([]byte{0xff}, n),
		[]byte(strings.Repeat("ü€", n))[:n],
		drawn(n),
	}
}

// folded is x, each bit of which is turned if the one k places above it is 1, bit by bit.
func folded(x uint64, k int) uint64 {
	out := x
	for place := 0; place+k < 64; place++ {
		if x&(1<<(place+k)) != 0 {
			out ^= 1 << place
		}
	}
	return out
}

// mixedByTheWords is Mix by layer 3's words.
func mixedByTheWords(x uint64) uint64 {
	x = folded(x, 30) * 0xbf58476d1ce4e5b9
	x = folded(x, 27) * 0x94d049bb133111eb
	return folded(x, 31)
}

// twistedByTheWords is Twist by layer 3's words.
func twistedByTheWords(x uint64) uint64 {
	x = folded(x, 33) * 0xff51afd7ed558ccd
	x = folded(x, 33) * 0xc4ceb9fe1a85ec53
	return folded(x, 33)
}

// lowByTheWords is x with all places from bits on emptied one by one.
func lowByTheWords(x uint64, bits int) uint64 {
	for place := range 64 {
		if place >= bits {
			x &^= 1 << place
		}
	}
	return x
}

// lessByTheWords holds pairs against each other as numbers of two words.
func lessByTheWords(a, b api.Pair) bool {
	return long(a).Cmp(long(b)) < 0
}

// long is a pair as one number, the Hash above the Conflict.
func long(p api.Pair) *big.Int {
	n := new(big.Int).SetUint64(p.Hash)
	n.Lsh(n, 64)
	return n.Add(n, new(big.Int).SetUint64(p.Conflict))
}

// P6.1: the edges, and known values of SplitMix64 and MurmurHash3.
func TestNumberKnown(t *testing.T) {
	for _, c := range []struct {
		n    uint64
		want api.Pair
	}{
		{0, api.Pair{}},
		{1, api.Pair{Hash: 0x5692161d100b05e5, Conflict: 0xb456bcfc34c2cb2c}},
		{0x9e3779b97f4a7c15, api.Pair{Hash: 0xe220a8397b1dcdaf, Conflict: twistedByTheWords(0x9e3779b97f4a7c15)}},
		{allOnes, api.Pair{Hash: 0xb4d055fcf2cbbd7b, Conflict: 0x64b5720b4b825f21}},
	} {
		if got := Number(c.n); got != c.want {
			t.Errorf("Number(%#x) = %#x, want %#x", c.n, got, c.want)
		}
	}
}

// P6.1: numbers of all kinds, by layer 3's words.
func TestNumberByTheWords(t *testing.T) {
	for _, n := range edgeWords() {
		want := api.Pair{Hash: mixedByTheWords(n), Conflict: twistedByTheWords(n)}
		if got := Number(n); got != want {
			t.Fatalf("Number(%#x) = %#x, want %#x", n, got, want)
		}
		if layer := (api.Pair{Hash: mix.Mix(n), Conflict: mix.Twist(n)}); layer != want {
			t.Fatalf("by layer 3, of %#x: %#x, want %#x", n, layer, want)
		}
	}
}

// P6.1: an int's pair is its number's; of one below 0 with 2^64 added.
func TestInt(t *testing.T) {
	ints := []int{math.MinInt, math.MinInt + 1, -1 << 32, -256, -2, -1, 0, 1, 2, 255, 1 << 32, math.MaxInt - 1, math.MaxInt}
	for _, w := range edgeWords() {
		ints = append(ints, int(w))
	}
	above := new(big.Int).Lsh(big.NewInt(1), 64)
	for _, n := range ints {
		number := big.NewInt(int64(n))
		if n < 0 {
			number.Add(number, above)
		}
		if !number.IsUint64() {
			t.Fatalf("%d is no word", n)
		}
		if got, want := Int(n), Number(number.Uint64()); got != want {
			t.Errorf("Int(%d) = %#x, want %#x", n, got, want)
		}
	}
	for n, number := range map[int]uint64{-1: allOnes, math.MinInt: 1 << 63, math.MaxInt: 1<<63 - 1, 0: 0, 1: 1} {
		if got, want := Int(n), Number(number); got != want {
			t.Errorf("Int(%d) = %#x, want the pair of %#x", n, got, number)
		}
	}
}

// P6.1: known values of XXH64 by the seed 0, and of FNV-1a.
func TestTextKnown(t *testing.T) {
	for _, c := range []struct {
		text string
		want api.Pair
	}{
		{"", api.Pair{Hash: 0xef46db3751d8e999, Conflict: 0xcbf29ce484222325}},
		{"a", api.Pair{Hash: 0xd24ec4f1a98c6e5b, Conflict: 0xaf63dc4c8601ec8c}},
		{"abc", api.Pair{Hash: 0x44bc2cf5ad770999, Conflict: 0xe71fa2190541574b}},
	} {
		if got := Text(c.text); got != c.want {
			t.Errorf("Text(%q) = %#x, want %#x", c.text, got, c.want)
		}
		if got := Bytes([]byte(c.text)); got != c.want {
			t.Errorf("Bytes(%q) = %#x, want %#x", c.text, got, c.want)
		}
	}
}

// P6.1: nothing, as nil or as an empty list, has the pair of an empty text.
func TestNoBytes(t *testing.T) {
	want := api.Pair{Hash: 0xef46db3751d8e999, Conflict: fnv.Begin}
	for _, nothing := range [][]byte{nil, {}, make([]byte, 0, 9), drawn(9)[4:4]} {
		if got := Bytes(nothing); got != want {
			t.Errorf("Bytes of nothing = %#x, want %#x", got, want)
		}
	}
	if got := Text(""); got != want {
		t.Errorf("Text of nothing = %#x, want %#x", got, want)
	}
}

// P6.1: bytes of all lengths, by layers 4 and 5 and the library.
func TestBytesByTheLayers(t *testing.T) {
	lengths := []int{1000, 1<<16 + 1}
	for n := range 140 {
		lengths = append(lengths, n)
	}
	for _, n := range lengths {
		for _, text := range texts(n) {
			checkBytes(t, text)
		}
	}
}

// P6.1: texts whose bytes are runes, and texts whose bytes are none.
func TestTextOfAnyBytes(t *testing.T) {
	for _, text := range []string{"ü", "€", "a€b", "😀", "\x00", "a\x00", "\xc3", "\xe2\x82", "\xffa\x80", "\xed\xa0\x80", "\xf8\x88\x80\x80\x80"} {
		checkBytes(t, []byte(text))
	}
	for b := range 256 {
		checkBytes(t, []byte{byte(b)})
	}
	if Text("\xff") == Text("\ufffd") {
		t.Error("a byte that is no rune has the pair of the rune that stands for such ones")
	}
}

// checkBytes holds the pairs of a text and its bytes against the layers below.
func checkBytes(t *testing.T, text []byte) {
	t.Helper()
	d := standard.New64a()
	d.Write(text)
	want := api.Pair{Hash: xx.Sum(text, 0), Conflict: d.Sum64()}
	if layer := fnv.Go(fnv.Begin, text); layer != want.Conflict {
		t.Fatalf("by layer 5, of %d bytes: %#x, want %#x", len(text), layer, want.Conflict)
	}
	if got := Bytes(text); got != want {
		t.Fatalf("Bytes of %d bytes = %#x, want %#x", len(text), got, want)
	}
	if got := Text(string(text)); got != want {
		t.Fatalf("Text of %d bytes = %#x, want %#x", len(text), got, want)
	}
}

// P6.1 with rule 3: bytes that are handed in are not changed, nor is the room behind their end.
func TestBytesStayTheCallers(t *testing.T) {
	for n := range 70 {
		room := drawn(n + 40)
		before := bytes.Clone(room)
		if got, want := Bytes(room[:n]), Text(string(before[:n])); got != want {
			t.Errorf("Bytes of %d bytes = %#x, want %#x", n, got, want)
		}
		if !bytes.Equal(room, before) {
			t.Errorf("%d bytes: what was handed in, or behind it, was changed", n)
		}
	}
}

// P6.1: the number of a number's pair.
func TestOfNumber(t *testing.T) {
	for _, n := range edgeWords() {
		if got, ok := Of(Number(n)); got != n || !ok {
			t.Fatalf("Of(Number(%#x)) = %#x, %t", n, got, ok)
		}
		pair := api.Pair{Hash: mixedByTheWords(n), Conflict: twistedByTheWords(n)}
		if got, ok := Of(pair); got != n || !ok {
			t.Fatalf("Of(%#x) = %#x, %t, want %#x", pair, got, ok, n)
		}
		if got, ok := Of(Int(int(n))); got != n || !ok {
			t.Fatalf("Of(Int(%d)) = %#x, %t", int(n), got, ok)
		}
	}
}

// P6.1: pairs of which there is no number, for the Hash or the Conflict is wrong by any bit, or both are some other number's.
func TestOfNone(t *testing.T) {
	words := edgeWords()
	for i, n := range words {
		right := Number(n)
		for place := range 64 {
			checkNone(t, api.Pair{Hash: right.Hash, Conflict: right.Conflict ^ 1<<place})
			checkNone(t, api.Pair{Hash: right.Hash ^ 1<<place, Conflict: right.Conflict})
		}
		if other := words[(i+1)%len(words)]; other != n {
			checkNone(t, api.Pair{Hash: right.Hash, Conflict: Number(other).Conflict})
			checkNone(t, api.Pair{Hash: Number(other).Hash, Conflict: right.Conflict})
		}
		if right.Hash != right.Conflict {
			checkNone(t, api.Pair{Hash: right.Conflict, Conflict: right.Hash})
		}
	}
	for _, p := range []api.Pair{{Hash: 1, Conflict: 1}, {Hash: 0, Conflict: 1}, {Hash: 1, Conflict: 0}, {Hash: allOnes, Conflict: allOnes}, Text(""), Text("abc")} {
		checkNone(t, p)
	}
	for _, n := range []uint64{1, 2, 1 << 63, allOnes} {
		checkNone(t, Cut(Number(n), 0))
	}
}

// checkNone asks for the number of a pair that no number has.
func checkNone(t *testing.T, p api.Pair) {
	t.Helper()
	if got, ok := Of(p); got != 0 || ok {
		t.Fatalf("Of(%#x) = %#x, %t, want none", p, got, ok)
	}
}

// P6.2, example 1, and the edges.
func TestCutExamples(t *testing.T) {
	p := api.Pair{Hash: 0xfedcba9876543217, Conflict: 0x0123456789abcdef}
	for _, c := range []struct {
		bits int
		want uint64
	}{
		{math.MinInt, 0},
		{-64, 0},
		{-1, 0},
		{0, 0},
		{1, 1},
		{3, 7},
		{4, 7},
		{8, 0x17},
		{32, 0x76543217},
		{63, 0x7edcba9876543217},
		{64, 0xfedcba9876543217},
		{65, 0xfedcba9876543217},
		{128, 0xfedcba9876543217},
		{math.MaxInt, 0xfedcba9876543217},
	} {
		want := api.Pair{Hash: c.want, Conflict: 0x0123456789abcdef}
		if got := Cut(p, c.bits); got != want {
			t.Errorf("Cut(%#x, %d) = %#x, want %#x", p, c.bits, got, want)
		}
	}
}

// P6.2: any pair by any count of bits; to 0 bits each Hash is 0, and a Conflict stays what it is.
func TestCutByTheWords(t *testing.T) {
	for _, p := range edgePairs() {
		for _, bits := range allBits() {
			want := api.Pair{Hash: lowByTheWords(p.Hash, bits), Conflict: p.Conflict}
			if got := Cut(p, bits); got != want {
				t.Fatalf("Cut(%#x, %d) = %#x, want %#x", p, bits, got, want)
			}
			if got := Cut(Cut(p, bits), bits); got != want {
				t.Fatalf("%#x, cut to %d bits twice, is %#x, want %#x", p, bits, got, want)
			}
		}
		if got := Cut(p, 0).Hash; got != 0 {
			t.Fatalf("%#x, cut to 0 bits, has the Hash %#x", p, got)
		}
		if got := Cut(p, 64); got != p {
			t.Fatalf("%#x, cut to 64 bits, is %#x", p, got)
		}
	}
}

// P6.2, example 1, and the edges.
func TestShard(t *testing.T) {
	for _, c := range []struct {
		hash uint64
		want int
	}{
		{0, 0},
		{1, 1},
		{254, 254},
		{255, 255},
		{256, 0},
		{257, 1},
		{515, 3},
		{1 << 63, 0},
		{1<<63 + 7, 7},
		{1<<63 - 1, 255},
		{allOnes - 255, 0},
		{allOnes - 1, 254},
		{allOnes, 255},
	} {
		if got := Shard(c.hash); got != c.want {
			t.Errorf("Shard(%#x) = %d, want %d", c.hash, got, c.want)
		}
	}
	for _, hash := range edgeWords() {
		got := Shard(hash)
		if got < 0 || got >= api.Shards || (hash-uint64(got))/api.Shards*api.Shards+uint64(got) != hash {
			t.Fatalf("Shard(%#x) = %d", hash, got)
		}
	}
}

// P6.2: equal pairs, pairs of one Hash, and pairs whose Hash and Conflict say otherwise.
func TestLessExamples(t *testing.T) {
	for _, c := range []struct {
		a, b api.Pair
		want bool
	}{
		{api.Pair{}, api.Pair{}, false},
		{api.Pair{Hash: 2, Conflict: 3}, api.Pair{Hash: 2, Conflict: 3}, false},
		{api.Pair{Hash: allOnes, Conflict: allOnes}, api.Pair{Hash: allOnes, Conflict: allOnes}, false},
		{api.Pair{Hash: 2, Conflict: 3}, api.Pair{Hash: 2, Conflict: 4}, true},
		{api.Pair{Hash: 2, Conflict: 4}, api.Pair{Hash: 2, Conflict: 3}, false},
		{api.Pair{Hash: 1, Conflict: 9}, api.Pair{Hash: 2, Conflict: 0}, true},
		{api.Pair{Hash: 2, Conflict: 0}, api.Pair{Hash: 1, Conflict: 9}, false},
		{api.Pair{Hash: 1, Conflict: 3}, api.Pair{Hash: 2, Conflict: 3}, true},
		{api.Pair{Hash: 2, Conflict: 3}, api.Pair{Hash: 1, Conflict: 3}, false},
		{api.Pair{Hash: 1<<63 - 1}, api.Pair{Hash: 1 << 63}, true},
		{api.Pair{Hash: 1 << 63}, api.Pair{Hash: 1<<63 - 1}, false},
		{api.Pair{Conflict: 1<<63 - 1}, api.Pair{Conflict: 1 << 63}, true},
		{api.Pair{Conflict: 1 << 63}, api.Pair{Conflict: 1<<63 - 1}, false},
		{api.Pair{Conflict: allOnes}, api.Pair{Hash: 1}, true},
		{api.Pair{}, api.Pair{Hash: allOnes, Conflict: allOnes}, true},
		{api.Pair{Hash: allOnes, Conflict: allOnes}, api.Pair{}, false},
	} {
		if got := Less(c.a, c.b); got != c.want {
			t.Errorf("Less(%#x, %#x) = %t", c.a, c.b, got)
		}
	}
}

// P6.2: any two pairs; of unlike ones just one is below the other, and of like ones none.
func TestLessByTheWords(t *testing.T) {
	pairs := edgePairs()
	for _, a := range pairs {
		for _, b := range pairs {
			if got, want := Less(a, b), lessByTheWords(a, b); got != want {
				t.Fatalf("Less(%#x, %#x) = %t", a, b, got)
			}
			if (Less(a, b) || Less(b, a)) != (a != b) {
				t.Fatalf("of %#x and %#x both or none is below the other", a, b)
			}
		}
	}
}

// P6.3: unlike numbers have unlike pairs, cut by any count of bits, to none of them too.
func TestUnlikeNumbers(t *testing.T) {
	numbers := edgeWords()
	for n := range uint64(2000) {
		numbers = append(numbers, n, n<<40+1<<39, allOnes-n)
	}
	slices.Sort(numbers)
	numbers = slices.Compact(numbers)
	for _, bits := range allBits() {
		of := map[api.Pair]uint64{}
		for _, n := range numbers {
			p := Cut(Number(n), bits)
			if other, there := of[p]; there {
				t.Fatalf("%#x and %#x, cut to %d bits, are both %#x", n, other, bits, p)
			}
			of[p] = n
		}
	}
}

// P6.3: the Conflict alone tells of which number a pair is, so nothing that is cut off can be missed.
func TestConflictTellsTheNumber(t *testing.T) {
	for _, n := range edgeWords() {
		for _, bits := range allBits() {
			if got := mix.Untwist(Cut(Number(n), bits).Conflict); got != n {
				t.Fatalf("%#x, cut to %d bits, has the Conflict of %#x", n, bits, got)
			}
		}
	}
}

// P6.3: unlike ints too, whether below 0 or not.
func TestUnlikeInts(t *testing.T) {
	for _, bits := range []int{-1, 0, 1, 8, 63, 64, 65} {
		of := map[api.Pair]int{}
		for n := -3000; n <= 3000; n++ {
			p := Cut(Int(n), bits)
			if other, there := of[p]; there {
				t.Fatalf("%d and %d, cut to %d bits, are both %#x", n, other, bits, p)
			}
			of[p] = n
		}
	}
}
