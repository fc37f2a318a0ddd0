package mix

import (
	"math"
	"math/big"
	"math/rand"
	"testing"
)

const allOnes = math.MaxUint64

// edgeWords are words at the ends, with one bit, with all bits but one, with patterns, and drawn ones.
func edgeWords() []uint64 {
	words := []uint64{
		0, 1, 2, 3, 5, 6, 7, 12, 15, 255,
		0x5555555555555555, 0xaaaaaaaaaaaaaaaa, 0x0123456789abcdef, 0xaaaaaaaaaaaaaaab,
		allOnes - 2, allOnes - 1, allOnes,
	}
	for place := range 64 {
		words = append(words, 1<<place, allOnes^1<<place, 1<<place-1)
	}
	source := rand.New(rand.NewSource(1))
	for range 100 {
		words = append(words, source.Uint64())
	}
	return words
}

// placesThatFold are 1 to 63.
func placesThatFold() []int {
	var places []int
	for k := 1; k <= 63; k++ {
		places = append(places, k)
	}
	return places
}

// placesThatDoNot are numbers below 1 and above 63, the least and the greatest int among them, and those that are 1 to 63 modulo 64 or modulo 2^32.
func placesThatDoNot() []int {
	places := []int{
		math.MinInt, math.MinInt + 1, math.MinInt + 2, math.MinInt + 63, math.MinInt / 2,
		-1<<32 + 1, -1 << 32, -1000, 1000, 1 << 32, 1<<32 + 1, 1<<32 + 63,
		math.MaxInt / 2, math.MaxInt/2 + 1, math.MaxInt - 62, math.MaxInt - 1, math.MaxInt,
	}
	for k := -200; k <= 0; k++ {
		places = append(places, k)
	}
	for k := 64; k <= 300; k++ {
		places = append(places, k)
	}
	return places
}

// foldedBitByBit is x folded by k, from 1 to 63, as the chapter's words say it.
func foldedBitByBit(x uint64, k int) uint64 {
	folded := x
	for place := 0; place+k < 64; place++ {
		if x&(1<<(place+k)) != 0 {
			folded ^= 1 << place
		}
	}
	return folded
}

// times is the product modulo 2^64, by numbers of any length.
func times(a, b uint64) uint64 {
	product := new(big.Int).Mul(new(big.Int).SetUint64(a), new(big.Int).SetUint64(b))
	return product.And(product, new(big.Int).SetUint64(allOnes)).Uint64()
}

// mixedByTheWords is P3.2's Mix, word by word.
func mixedByTheWords(x uint64) uint64 {
	x = foldedBitByBit(x, 30)
	x = times(x, 0xbf58476d1ce4e5b9)
	x = foldedBitByBit(x, 27)
	x = times(x, 0x94d049bb133111eb)
	return foldedBitByBit(x, 31)
}

// twistedByTheWords is P3.2's Twist, word by word.
func twistedByTheWords(x uint64) uint64 {
	x = foldedBitByBit(x, 33)
	x = times(x, 0xff51afd7ed558ccd)
	x = foldedBitByBit(x, 33)
	x = times(x, 0xc4ceb9fe1a85ec53)
	return foldedBitByBit(x, 33)
}

// P3.1, example 1, and the edges.
func TestFoldExamples(t *testing.T) {
	for _, c := range []struct {
		x    uint64
		k    int
		want uint64
	}{
		{12, 2, 15},
		{12, 1, 10},
		{12, 3, 13},
		{12, 4, 12},
		{12, 0, 12},
		{12, 63, 12},
		{12, 64, 12},
		{12, 65, 12},
		{12, -1, 12},
		{12, -2, 12},
		{12, 66, 12},
		{12, math.MinInt, 12},
		{12, math.MaxInt, 12},
		{0, 1, 0},
		{0, 64, 0},
		{1, 1, 1},
		{2, 1, 3},
		{3, 1, 2},
		{1 << 63, 63, 1<<63 + 1},
		{1<<63 + 1, 63, 1 << 63},
		{1 << 63, 1, 3 << 62},
		{1 << 62, 63, 1 << 62},
		{allOnes, 1, 1 << 63},
		{allOnes, 32, 0xffffffff00000000},
		{allOnes, 63, allOnes - 1},
		{allOnes, 0, allOnes},
		{allOnes, 64, allOnes},
	} {
		if got := Fold(c.x, c.k); got != c.want {
			t.Errorf("Fold(%#x, %d) = %#x, want %#x", c.x, c.k, got, c.want)
		}
	}
}

// P3.1: bit by bit.
func TestFoldTurnsEachBit(t *testing.T) {
	for _, x := range edgeWords() {
		for _, k := range placesThatFold() {
			if got, want := Fold(x, k), foldedBitByBit(x, k); got != want {
				t.Fatalf("Fold(%#x, %d) = %#x, want %#x", x, k, got, want)
			}
		}
	}
}

// P3.1: a k that isn't from 1 to 63 leaves all as it is, there and back.
func TestFoldOutOfRange(t *testing.T) {
	for _, x := range edgeWords() {
		for _, k := range placesThatDoNot() {
			if got := Fold(x, k); got != x {
				t.Fatalf("Fold(%#x, %d) = %#x", x, k, got)
			}
			if got := Unfold(x, k); got != x {
				t.Fatalf("Unfold(%#x, %d) = %#x", x, k, got)
			}
		}
	}
}

// P3.1: the edges.
func TestUnfoldExamples(t *testing.T) {
	for _, c := range []struct {
		x    uint64
		k    int
		want uint64
	}{
		{15, 2, 12},
		{10, 1, 12},
		{0, 1, 0},
		{3, 1, 2},
		{1 << 63, 1, allOnes},
		{1 << 63, 2, 0xaaaaaaaaaaaaaaaa},
		{1 << 63, 63, 1<<63 + 1},
		{1<<63 + 1, 63, 1 << 63},
		{allOnes, 1, 0xaaaaaaaaaaaaaaaa},
		{0xffffffff00000000, 32, allOnes},
		{12, 0, 12},
		{12, 64, 12},
		{12, -4, 12},
		{12, math.MinInt, 12},
		{12, math.MaxInt, 12},
	} {
		if got := Unfold(c.x, c.k); got != c.want {
			t.Errorf("Unfold(%#x, %d) = %#x, want %#x", c.x, c.k, got, c.want)
		}
	}
}

// P3.1: the number whose Fold by k is x, and the only one.
func TestUnfoldUndoesFold(t *testing.T) {
	for _, x := range edgeWords() {
		for _, k := range placesThatFold() {
			if got := foldedBitByBit(Unfold(x, k), k); got != x {
				t.Fatalf("Unfold(%#x, %d), folded, is %#x", x, k, got)
			}
			if got := Unfold(foldedBitByBit(x, k), k); got != x {
				t.Fatalf("%#x folded by %d, and unfolded, is %#x", x, k, got)
			}
		}
	}
}

// P3.1, example 1, and the edges.
func TestInverseExamples(t *testing.T) {
	for _, c := range []struct{ a, want uint64 }{
		{3, 0xaaaaaaaaaaaaaaab},
		{0xaaaaaaaaaaaaaaab, 3},
		{1, 1},
		{5, 0xcccccccccccccccd},
		{allOnes, allOnes},
		{1<<63 + 1, 1<<63 + 1},
		{1<<32 + 1, 0xffffffff00000001},
		{1<<63 - 1, 1<<63 - 1},
		{0, 0},
		{2, 0},
		{4, 0},
		{6, 0},
		{1 << 63, 0},
		{allOnes - 1, 0},
	} {
		if got := Inverse(c.a); got != c.want {
			t.Errorf("Inverse(%#x) = %#x, want %#x", c.a, got, c.want)
		}
	}
}

// checkInverse holds Inverse(a) against numbers of any length.
func checkInverse(t *testing.T, a uint64) {
	t.Helper()
	got := Inverse(a)
	if a%2 == 0 {
		if got != 0 {
			t.Fatalf("Inverse(%#x) = %#x, want 0 of an even number", a, got)
		}
		return
	}
	if product := times(a, got); product != 1 {
		t.Fatalf("Inverse(%#x) = %#x, their product is %#x", a, got, product)
	}
	if back := Inverse(got); back != a {
		t.Fatalf("Inverse(%#x) = %#x, whose own is %#x", a, got, back)
	}
}

// P3.1: odd and even numbers.
func TestInverseIsTheInverse(t *testing.T) {
	for _, a := range edgeWords() {
		checkInverse(t, a)
	}
	for a := range uint64(1 << 12) {
		checkInverse(t, a)
		checkInverse(t, allOnes-a)
	}
	source := rand.New(rand.NewSource(2))
	for range 5000 {
		checkInverse(t, source.Uint64())
	}
}

// P3.2: numbers that are known of the finish of SplitMix64: its first outputs, from the states 0 and 1234567.
func TestMixExamples(t *testing.T) {
	const gamma = 0x9e3779b97f4a7c15
	second := uint64(gamma)
	second *= 2
	for _, c := range []struct{ x, want uint64 }{
		{0, 0},
		{gamma, 0xe220a8397b1dcdaf},
		{second, 0x6e789e6aa1b965f4},
		{1234567 + gamma, 6457827717110365317},
		{1234567 + second, 3203168211198807973},
	} {
		if got := Mix(c.x); got != c.want {
			t.Errorf("Mix(%#x) = %#x, want %#x", c.x, got, c.want)
		}
		if got := Unmix(c.want); got != c.x {
			t.Errorf("Unmix(%#x) = %#x, want %#x", c.want, got, c.x)
		}
	}
}

// P3.2: numbers that are known of the finish of MurmurHash3.
func TestTwistExamples(t *testing.T) {
	for _, c := range []struct{ x, want uint64 }{
		{0, 0},
		{1, 0xb456bcfc34c2cb2c},
		{2, 0x3abf2a20650683e7},
		{allOnes, 0x64b5720b4b825f21},
	} {
		if got := Twist(c.x); got != c.want {
			t.Errorf("Twist(%#x) = %#x, want %#x", c.x, got, c.want)
		}
		if got := Untwist(c.want); got != c.x {
			t.Errorf("Untwist(%#x) = %#x, want %#x", c.want, got, c.x)
		}
	}
}

// checkThereAndBack holds all four calls at x against the chapter's words.
func checkThereAndBack(t *testing.T, x uint64) {
	t.Helper()
	mixed, twisted := mixedByTheWords(x), twistedByTheWords(x)
	if got := Mix(x); got != mixed {
		t.Fatalf("Mix(%#x) = %#x, want %#x", x, got, mixed)
	}
	if got := Unmix(mixed); got != x {
		t.Fatalf("Unmix(%#x) = %#x, want %#x", mixed, got, x)
	}
	if got := mixedByTheWords(Unmix(x)); got != x {
		t.Fatalf("Unmix(%#x), mixed, is %#x", x, got)
	}
	if got := Twist(x); got != twisted {
		t.Fatalf("Twist(%#x) = %#x, want %#x", x, got, twisted)
	}
	if got := Untwist(twisted); got != x {
		t.Fatalf("Untwist(%#x) = %#x, want %#x", twisted, got, x)
	}
	if got := twistedByTheWords(Untwist(x)); got != x {
		t.Fatalf("Untwist(%#x), twisted, is %#x", x, got)
	}
}

// P3.2: step by step, and undone in the other order.
func TestMixAndTwistByTheWords(t *testing.T) {
	for _, x := range edgeWords() {
		checkThereAndBack(t, x)
	}
	for x := range uint64(1000) {
		checkThereAndBack(t, x)
		checkThereAndBack(t, allOnes-x)
	}
	source := rand.New(rand.NewSource(3))
	for range 2000 {
		checkThereAndBack(t, source.Uint64())
	}
}

// unlikeWords are words of which no two are alike: rows at both ends, and words in which a few bits are 1.
func unlikeWords() []uint64 {
	seen := map[uint64]bool{}
	var words []uint64
	add := func(x uint64) {
		if !seen[x] {
			seen[x] = true
			words = append(words, x)
		}
	}
	for x := range uint64(1 << 15) {
		add(x)
		add(allOnes - x)
		add(x << 49)
	}
	for i := range 64 {
		for j := range 64 {
			add(1<<i | 1<<j)
			add(allOnes ^ (1<<i | 1<<j))
		}
	}
	return words
}

// P3.3: unlike numbers come to unlike ones, by each of the calls that are undone by another.
func TestUnlikeStayUnlike(t *testing.T) {
	words := unlikeWords()
	for name, call := range map[string]func(uint64) uint64{"Mix": Mix, "Unmix": Unmix, "Twist": Twist, "Untwist": Untwist} {
		from := make(map[uint64]uint64, len(words))
		for _, x := range words {
			y := call(x)
			if other, ok := from[y]; ok {
				t.Fatalf("%s(%#x) and %s(%#x) are both %#x", name, x, name, other, y)
			}
			from[y] = x
		}
	}
}

// P3.3: each word is the Mix, and the Twist, of one.
func TestEachWordIsReached(t *testing.T) {
	for _, x := range edgeWords() {
		if got := Mix(Unmix(x)); got != x {
			t.Fatalf("Mix(Unmix(%#x)) = %#x", x, got)
		}
		if got := Twist(Untwist(x)); got != x {
			t.Fatalf("Twist(Untwist(%#x)) = %#x", x, got)
		}
	}
}
