package word

import (
	"math"
	"math/big"
	"math/rand"
	"testing"
)

const allOnes = math.MaxUint64

// edgeWords are words at which carries, shifts and places change.
func edgeWords() []uint64 {
	words := []uint64{
		0, 1, 2, 3, 5, 6, 7, 9, 255,
		1<<31 - 1, 1 << 31, 1<<32 - 1, 1 << 32, 1<<32 + 1,
		1<<62 - 1, 1 << 62, 1<<63 - 1, 1 << 63, 1<<63 + 1,
		0xffffffff00000000, 0x5555555555555555, 0xaaaaaaaaaaaaaaaa,
		allOnes - 1, allOnes,
	}
	source := rand.New(rand.NewSource(1))
	for range 60 {
		words = append(words, source.Uint64())
	}
	for range 60 { // words with few ones, high or low
		words = append(words, source.Uint64()&source.Uint64()&source.Uint64()>>(source.Uint64()%64))
	}
	return words
}

// edgeCounts are numbers of places, in the word's range, out of it and at the ends of int.
func edgeCounts() []int {
	counts := []int{
		math.MinInt, math.MinInt + 1, math.MinInt + 63, -1 << 32, -1000, 1000, 1 << 32,
		math.MaxInt - 63, math.MaxInt - 1, math.MaxInt,
	}
	for k := -200; k <= 200; k++ {
		counts = append(counts, k)
	}
	return counts
}

// bitAt is the bit of x at a place, taken by halving alone.
func bitAt(x uint64, place int) uint64 {
	for range place {
		x /= 2
	}
	return x % 2
}

// placeAfterTurn is place + k modulo 64, without running over.
func placeAfterTurn(place, k int) int {
	return ((place+k%64)%64 + 64) % 64
}

// P1.1, example 1.
func TestTurnExamples(t *testing.T) {
	for _, c := range []struct {
		x    uint64
		k    int
		want uint64
	}{
		{1, 65, 2},
		{1, 0, 1},
		{1, 1, 2},
		{1, 63, 1 << 63},
		{1, 64, 1},
		{1, -1, 1 << 63},
		{1, -63, 2},
		{1, -64, 1},
		{1, -65, 1 << 63},
		{1 << 63, 1, 1},
		{7, 0, 7},
		{0, 17, 0},
		{allOnes, 17, allOnes},
		{allOnes, -17, allOnes},
		{0x0123456789abcdef, 4, 0x123456789abcdef0},
		{0x0123456789abcdef, 8, 0x23456789abcdef01},
		{0x0123456789abcdef, -4, 0xf0123456789abcde},
		{1, math.MaxInt, 1 << 63},
		{1, math.MinInt, 1},
		{1, math.MinInt + 1, 2},
	} {
		if got := Turn(c.x, c.k); got != c.want {
			t.Errorf("Turn(%#x, %d) = %#x, want %#x", c.x, c.k, got, c.want)
		}
	}
}

// P1.1: bit by bit.
func TestTurnMovesEachBit(t *testing.T) {
	for _, x := range edgeWords() {
		for _, k := range edgeCounts() {
			var want uint64
			for place := range 64 {
				want |= bitAt(x, place) << placeAfterTurn(place, k)
			}
			if got := Turn(x, k); got != want {
				t.Fatalf("Turn(%#x, %d) = %#x, want %#x", x, k, got, want)
			}
		}
	}
}

// P1.1, example 1.
func TestHighExamples(t *testing.T) {
	for _, c := range []struct{ a, b, want uint64 }{
		{1 << 63, 6, 3},
		{6, 1 << 63, 3},
		{0, 0, 0},
		{0, allOnes, 0},
		{1, allOnes, 0},
		{2, allOnes, 1},
		{5, 7, 0},
		{1 << 32, 1 << 32, 1},
		{1<<32 - 1, 1<<32 + 1, 0},
		{1<<32 + 1, 1<<32 + 1, 1},
		{1 << 63, 1 << 63, 1 << 62},
		{allOnes, allOnes, allOnes - 1},
	} {
		if got := High(c.a, c.b); got != c.want {
			t.Errorf("High(%#x, %#x) = %#x, want %#x", c.a, c.b, got, c.want)
		}
	}
}

// P1.1: held against numbers of any length.
func TestHighIsTheProductsUpperWord(t *testing.T) {
	words := edgeWords()
	for _, a := range words {
		for _, b := range words {
			product := new(big.Int).Mul(new(big.Int).SetUint64(a), new(big.Int).SetUint64(b))
			want := product.Rsh(product, 64).Uint64()
			if got := High(a, b); got != want {
				t.Fatalf("High(%#x, %#x) = %#x, want %#x", a, b, got, want)
			}
		}
	}
}

// P1.1.
func TestOnes(t *testing.T) {
	for _, c := range []struct {
		x    uint64
		want int
	}{
		{0, 0}, {1, 1}, {9, 2}, {255, 8}, {1 << 63, 1}, {0x5555555555555555, 32}, {allOnes - 1, 63}, {allOnes, 64},
	} {
		if got := Ones(c.x); got != c.want {
			t.Errorf("Ones(%#x) = %d, want %d", c.x, got, c.want)
		}
	}
	for _, x := range edgeWords() {
		want := 0
		for place := range 64 {
			want += int(bitAt(x, place))
		}
		if got := Ones(x); got != want {
			t.Errorf("Ones(%#x) = %d, want %d", x, got, want)
		}
	}
}

// P1.2, example 1.
func TestLog(t *testing.T) {
	for _, c := range []struct {
		x    uint64
		want int
	}{
		{9, 3}, {0, -1}, {1, 0}, {2, 1}, {3, 1}, {7, 2}, {8, 3}, {1<<63 - 1, 62}, {1 << 63, 63}, {allOnes, 63},
	} {
		if got := Log(c.x); got != c.want {
			t.Errorf("Log(%#x) = %d, want %d", c.x, got, c.want)
		}
	}
	for place := range 64 {
		lowest, highest := uint64(1)<<place, uint64(1)<<place|(uint64(1)<<place-1)
		if Log(lowest) != place || Log(highest) != place {
			t.Errorf("Log at the place %d: %d and %d", place, Log(lowest), Log(highest))
		}
	}
}

// P1.2, example 1.
func TestPowerExamples(t *testing.T) {
	for _, c := range []struct{ n, want int }{
		{5, 8},
		{1, 1}, {2, 2}, {3, 4}, {4, 4}, {7, 8}, {8, 8}, {9, 16}, {1000, 1024},
		{0, 1}, {-1, 1}, {-9, 1}, {math.MinInt, 1},
		{1<<61 - 1, 1 << 61}, {1 << 61, 1 << 61}, {1<<61 + 1, 1 << 62},
		{1<<62 - 1, 1 << 62}, {1 << 62, 1 << 62}, {1<<62 + 1, 1 << 62}, {math.MaxInt, 1 << 62},
	} {
		if got := Power(c.n); got != c.want {
			t.Errorf("Power(%d) = %d, want %d", c.n, got, c.want)
		}
	}
}

// P1.2: at least n, and no power of 2 below it is.
func TestPowerIsTheLeast(t *testing.T) {
	numbers := []int{}
	for n := 1; n <= 5000; n++ {
		numbers = append(numbers, n)
	}
	for place := 13; place < 62; place++ {
		numbers = append(numbers, 1<<place-1, 1<<place, 1<<place+1)
	}
	for _, n := range numbers {
		want := 1
		for want < n {
			want *= 2
		}
		if got := Power(n); got != want {
			t.Fatalf("Power(%d) = %d, want %d", n, got, want)
		}
	}
}

// P1.2.
func TestLowExamples(t *testing.T) {
	for _, c := range []struct {
		x    uint64
		k    int
		want uint64
	}{
		{255, 4, 15}, {255, 0, 0}, {255, -3, 0}, {255, 99, 255}, {0, 64, 0},
		{allOnes, 1, 1}, {allOnes, 63, 1<<63 - 1}, {allOnes, 64, allOnes}, {allOnes, 65, allOnes},
		{allOnes, -1, 0}, {allOnes, 0, 0}, {allOnes, math.MinInt, 0}, {allOnes, math.MaxInt, allOnes},
		{1 << 63, 63, 0}, {1 << 63, 64, 1 << 63},
	} {
		if got := Low(c.x, c.k); got != c.want {
			t.Errorf("Low(%#x, %d) = %#x, want %#x", c.x, c.k, got, c.want)
		}
	}
}

// P1.2: bit by bit.
func TestLowKeepsTheBitsBelow(t *testing.T) {
	for _, x := range edgeWords() {
		for _, k := range edgeCounts() {
			var want uint64
			for place := range 64 {
				if place < k {
					want |= bitAt(x, place) << place
				}
			}
			if got := Low(x, k); got != want {
				t.Fatalf("Low(%#x, %d) = %#x, want %#x", x, k, got, want)
			}
		}
	}
}

// P1.3: there and back.
func TestTurnedBackIsTheSame(t *testing.T) {
	for _, x := range edgeWords() {
		for _, k := range edgeCounts() {
			if got := Turn(Turn(x, k), -k); got != x {
				t.Fatalf("%#x turned by %d and back is %#x", x, k, got)
			}
			if got := Turn(Turn(x, -k), k); got != x {
				t.Fatalf("%#x turned by less %d and back is %#x", x, k, got)
			}
		}
	}
}

// P1.3: the Low bits and the others have nothing in common, and are the word together.
func TestLowAndOthersAreTheWord(t *testing.T) {
	for _, x := range edgeWords() {
		for k := range 65 {
			low := Low(x, k)
			others := Low(Turn(x, -k), 64-k) << k
			if low&others != 0 || low|others != x || low+others != x {
				t.Fatalf("%#x at %d: low %#x, others %#x", x, k, low, others)
			}
			if Ones(low)+Ones(others) != Ones(x) {
				t.Fatalf("%#x at %d: %d and %d ones", x, k, Ones(low), Ones(others))
			}
		}
	}
}
