package door

import (
	"math"
	"math/big"
	"math/rand"
	"slices"
	"testing"

	"cortado/mix"
)

var seeds = []uint64{0, 1, 2, 7, 9, 1 << 32, 1 << 63, 0x9e3779b97f4a7c15, math.MaxUint64 - 1, math.MaxUint64}

var hashes = []uint64{0, 1, 2, 3, 7, 255, 1 << 31, 1 << 32, 1 << 63, 1<<63 - 1, 0xbf58476d1ce4e5b9, math.MaxUint64 - 1, math.MaxUint64}

// Numbers of keys, by each of which a door has another number of bits.
var sizes = []int{1, 2, 4, 8, 16, 32, 64, 128, 256, 512, 1024, 2048, 4096}

// turnedBy answers x with the bits turned that are 1 in ones, one bit behind the other.
func turnedBy(x, ones uint64) uint64 {
	for i := range 64 {
		if ones>>i%2 == 1 {
			if x>>i%2 == 1 {
				x -= 1 << i
			} else {
				x += 1 << i
			}
		}
	}
	return x
}

// saidPlaces are a key's places as the chapter's words tell them, by numbers that never run over.
func saidPlaces(hash, seed uint64, bits int) [4]int {
	x := turnedBy(hash, mix.Mix(seed))
	a, b := new(big.Int).SetUint64(mix.Mix(x)), new(big.Int).SetUint64(mix.Twist(x))
	b.SetBit(b, 0, 1)
	all := new(big.Int).Lsh(big.NewInt(1), 64)
	var places [4]int
	for times := range places {
		sum := new(big.Int).Mul(b, big.NewInt(int64(times)))
		sum.Add(sum, a)
		sum.Mod(sum, all)
		places[times] = int(sum.Mod(sum, big.NewInt(int64(bits))).Int64())
	}
	return places
}

// byTheWords is a door as the chapter's words tell it: a plain list of bits.
type byTheWords struct {
	bits []bool
	seed uint64
}

func said(bits int, seed uint64) *byTheWords {
	return &byTheWords{bits: make([]bool, bits), seed: seed}
}

func (w *byTheWords) has(hash uint64) bool {
	for _, place := range saidPlaces(hash, w.seed, len(w.bits)) {
		if !w.bits[place] {
			return false
		}
	}
	return true
}

func (w *byTheWords) put(hash uint64) bool {
	had := w.has(hash)
	for _, place := range saidPlaces(hash, w.seed, len(w.bits)) {
		w.bits[place] = true
	}
	return !had
}

func (w *byTheWords) clear() {
	w.bits = make([]bool, len(w.bits))
}

func (w *byTheWords) full() int {
	full := 0
	for _, bit := range w.bits {
		if bit {
			full++
		}
	}
	return full
}

// same fails if the door tells anything else, of itself or of these keys, than the words do.
func same(t *testing.T, d *Door, w *byTheWords, keys ...uint64) {
	t.Helper()
	if d.Bits() != len(w.bits) {
		t.Fatalf("%d bits, want %d", d.Bits(), len(w.bits))
	}
	fulls(t, d, w.full())
	for _, hash := range keys {
		has(t, d, hash, w.has(hash))
	}
}

// has fails if the door tells another thing of the key.
func has(t *testing.T, d *Door, hash uint64, want bool) {
	t.Helper()
	if got := d.Has(hash); got != want {
		t.Fatalf("has %#x: %v, want %v", hash, got, want)
	}
}

// puts puts the key, and fails if another thing is told.
func puts(t *testing.T, d *Door, hash uint64, want bool) {
	t.Helper()
	if got := d.Put(hash); got != want {
		t.Fatalf("put of %#x: %v, want %v", hash, got, want)
	}
}

// fulls fails if another number of bits are 1.
func fulls(t *testing.T, d *Door, want int) {
	t.Helper()
	if got := d.Full(); got != want {
		t.Fatalf("%d bits are 1, want %d", got, want)
	}
}

// common tells how many places both keys have, in whatever order.
func common(d *Door, a, b uint64) int {
	shared := 0
	places := d.Places(b)
	for _, place := range d.Places(a) {
		if slices.Contains(places[:], place) {
			shared++
		}
	}
	return shared
}

// other finds another key, of which this holds.
func other(t *testing.T, hash uint64, holds func(other uint64) bool) uint64 {
	t.Helper()
	for key := range uint64(1 << 21) {
		if key != hash && holds(key) {
			return key
		}
	}
	t.Fatalf("no other key than %#x is such a one", hash)
	return 0
}

// sharing finds another key that has so many places in common with it.
func sharing(t *testing.T, d *Door, hash uint64, places int) uint64 {
	t.Helper()
	return other(t, hash, func(key uint64) bool { return common(d, hash, key) == places })
}

// distinct tells how many unlike places there are.
func distinct(places [4]int) int {
	slices.Sort(places[:])
	return len(slices.Compact(places[:]))
}

// P12.2, example 1: Put of one key tells true, then false.
func TestExample(t *testing.T) {
	for _, keys := range sizes {
		for _, seed := range seeds {
			for _, hash := range hashes {
				d := New(keys, seed)
				puts(t, d, hash, true)
				puts(t, d, hash, false)
			}
		}
	}
}

// P12.1: the bits are the Power of 8 times the keys, brought between 1 and 4096, whatever the seed; all of them are 0.
func TestNew(t *testing.T) {
	for _, c := range []struct{ keys, want int }{
		{math.MinInt, 8}, {math.MinInt + 1, 8}, {-1 << 32, 8}, {-4096, 8}, {-2, 8}, {-1, 8}, {0, 8}, {1, 8}, {2, 16}, {3, 32}, {4, 32}, {5, 64}, {7, 64}, {8, 64}, {9, 128}, {15, 128}, {16, 128}, {17, 256},
		{100, 1024}, {127, 1024}, {128, 1024}, {129, 2048}, {1000, 8192}, {2047, 16384}, {2048, 16384}, {2049, 32768}, {4095, 32768}, {4096, 32768}, {4097, 32768}, {8191, 32768}, {8192, 32768}, {65536, 32768},
		{1 << 30, 32768}, {1 << 32, 32768}, {1<<32 + 1, 32768}, {1 << 60, 32768}, {1 << 61, 32768}, {1<<61 + 1, 32768}, {1 << 62, 32768}, {math.MaxInt - 1, 32768}, {math.MaxInt, 32768},
	} {
		for _, seed := range seeds {
			d := New(c.keys, seed)
			same(t, d, said(c.want, seed), hashes...)
			fulls(t, d, 0)
		}
	}
}

// P12.1: places, at each number of bits, against the words.
func TestPlaces(t *testing.T) {
	r := rand.New(rand.NewSource(12))
	keys := slices.Clone(hashes)
	for range 100 {
		keys = append(keys, r.Uint64())
	}
	for _, size := range sizes {
		for _, seed := range seeds {
			d := New(size, seed)
			for _, hash := range keys {
				if got, want := d.Places(hash), saidPlaces(hash, seed, 8*size); got != want {
					t.Fatalf("%d keys, seed %#x: %#x is at %v, want %v", size, seed, hash, got, want)
				}
			}
		}
	}
}

// P12.1: places that are known ahead, reckoned elsewhere.
func TestKnownPlaces(t *testing.T) {
	for _, c := range []struct {
		keys       int
		seed, hash uint64
		want       [4]int
	}{
		{1, 0, 0, [4]int{0, 1, 2, 3}}, {128, 0, 0, [4]int{0, 1, 2, 3}}, {4096, 0, 0, [4]int{0, 1, 2, 3}},
		{1, 0, 1, [4]int{5, 2, 7, 4}}, {128, 0, 1, [4]int{485, 274, 63, 876}}, {4096, 0, 1, [4]int{1509, 20754, 7231, 26476}},
		{1, 0, 2, [4]int{2, 1, 0, 7}}, {128, 0, 2, [4]int{138, 113, 88, 63}}, {4096, 0, 2, [4]int{5258, 6257, 7256, 8255}},
		{1, 0, math.MaxUint64, [4]int{3, 4, 5, 6}}, {128, 0, math.MaxUint64, [4]int{379, 156, 957, 734}}, {4096, 0, math.MaxUint64, [4]int{15739, 7324, 31677, 23262}},
		{1, 9, 0, [4]int{3, 4, 5, 6}}, {128, 9, 0, [4]int{219, 188, 157, 126}}, {4096, 9, 0, [4]int{3291, 8380, 13469, 18558}},
		{1, 9, 1, [4]int{7, 4, 1, 6}}, {128, 9, 1, [4]int{95, 764, 409, 54}}, {4096, 9, 1, [4]int{95, 24316, 15769, 7222}},
		{1, 9, math.MaxUint64, [4]int{0, 5, 2, 7}}, {128, 9, math.MaxUint64, [4]int{688, 229, 794, 335}}, {4096, 9, math.MaxUint64, [4]int{16048, 28901, 8986, 21839}},
		{1, math.MaxUint64, 0, [4]int{4, 5, 6, 7}}, {128, math.MaxUint64, 0, [4]int{484, 157, 854, 527}}, {4096, math.MaxUint64, 0, [4]int{5604, 22685, 6998, 24079}},
		{1, math.MaxUint64, 1, [4]int{3, 2, 1, 0}}, {128, math.MaxUint64, 1, [4]int{531, 474, 417, 360}}, {4096, math.MaxUint64, 1, [4]int{14867, 25050, 2465, 12648}},
		{1, math.MaxUint64, math.MaxUint64, [4]int{3, 4, 5, 6}}, {128, math.MaxUint64, math.MaxUint64, [4]int{459, 916, 349, 806}}, {4096, math.MaxUint64, math.MaxUint64, [4]int{18891, 3988, 21853, 6950}},
	} {
		if got := New(c.keys, c.seed).Places(c.hash); got != c.want {
			t.Errorf("%d keys, seed %#x: %#x is at %v, want %v", c.keys, c.seed, c.hash, got, c.want)
		}
	}
}

// P12.1: the bits turned are those of the seed's Mix. Of 0 it is 0, which turns nothing; what is turned to 0 is at the first places.
func TestTurned(t *testing.T) {
	for _, size := range sizes {
		plain := New(size, 0)
		for _, seed := range seeds {
			d := New(size, seed)
			if got, want := d.Places(mix.Mix(seed)), [4]int{0, 1, 2, 3}; got != want {
				t.Errorf("%d keys, seed %#x: what is turned to 0 is at %v, want %v", size, seed, got, want)
			}
			for _, hash := range hashes {
				if got, want := d.Places(turnedBy(hash, mix.Mix(seed))), plain.Places(hash); got != want {
					t.Errorf("%d keys, seed %#x: %#x, turned, is at %v, want %v", size, seed, hash, got, want)
				}
			}
		}
	}
}

// apartBy tells how far, with so many bits, each place stands behind the one ahead.
func apartBy(places [4]int, bits int) [3]int {
	var far [3]int
	for i := range far {
		far[i] = (places[i+1] - places[i] + bits) % bits
	}
	return far
}

// P12.1: the lowest bit of b is made 1, where it was 0 and where it was 1, so that two twists have one b; a stays as it is, even or odd.
func TestLowestBit(t *testing.T) {
	const bits = 32768
	for _, seed := range seeds {
		d := New(bits/8, seed)
		for _, even := range []uint64{0, 2, 4, 6, 128, 1 << 14, 32766, 1 << 32, 1 << 63, math.MaxUint64 - 1} {
			by := int((even + 1) % bits)
			for _, twist := range []uint64{even, even + 1} {
				places := d.Places(mix.Untwist(twist) ^ mix.Mix(seed))
				if got, want := apartBy(places, bits), [3]int{by, by, by}; got != want {
					t.Errorf("seed %#x: of the Twist %#x the places stand apart by %v, want %v", seed, twist, got, want)
				}
			}
			for _, first := range []uint64{even, even + 1} {
				places := d.Places(mix.Unmix(first) ^ mix.Mix(seed))
				if got, want := places[0], int(first%bits); got != want {
					t.Errorf("seed %#x: of the Mix %#x the first place is %d, want %d", seed, first, got, want)
				}
			}
		}
	}
}

// passes tells how many of the three sums behind the first pass 2^64 anew.
func passes(hash, seed uint64) int {
	x := hash ^ mix.Mix(seed)
	sum, step, times := mix.Mix(x), mix.Twist(x)|1, 0
	for range 3 {
		if sum+step < sum {
			times++
		}
		sum += step
	}
	return times
}

// P12.1: sums that never pass 2^64, or once, twice, three times.
func TestSumsThatPass(t *testing.T) {
	for _, seed := range seeds {
		seen := [4]int{}
		for hash := range uint64(400) {
			seen[passes(hash, seed)]++
			for _, size := range []int{1, 128, 4096} {
				if got, want := New(size, seed).Places(hash), saidPlaces(hash, seed, 8*size); got != want {
					t.Fatalf("%d keys, seed %#x: %#x is at %v, want %v", size, seed, hash, got, want)
				}
			}
		}
		for times, keys := range seen {
			if keys == 0 {
				t.Errorf("seed %#x: of no key the sums pass 2^64 %d times", seed, times)
			}
		}
	}
}

// P12.1: one key's places never fall together: b is odd, and the bits are a power of 2, 8 at least. Of a nil door all do.
func TestPlacesOfOneKey(t *testing.T) {
	for _, size := range sizes {
		for _, seed := range seeds {
			d := New(size, seed)
			for hash := range uint64(300) {
				places := d.Places(hash * 0x9e3779b97f4a7c15)
				if distinct(places) != 4 {
					t.Fatalf("%d keys, seed %#x: places %v", size, seed, places)
				}
				for _, place := range places {
					if place < 0 || place >= d.Bits() {
						t.Fatalf("%d keys, seed %#x: places %v", size, seed, places)
					}
				}
			}
		}
	}
	var d *Door
	if distinct(d.Places(5)) != 1 {
		t.Errorf("places of a nil door: %v", d.Places(5))
	}
}

// P12.1: each bit of the greatest door is a place of some key, the first one and each behind it.
func TestEachBit(t *testing.T) {
	d := New(4096, 7)
	for place := range d.Bits() {
		hash := mix.Unmix(uint64(place)+1<<63) ^ mix.Mix(7)
		places := d.Places(hash)
		if places[0] != place {
			t.Fatalf("first place %d, want %d", places[0], place)
		}
		d.Put(hash)
	}
	fulls(t, d, 32768)
	for _, hash := range hashes {
		has(t, d, hash, true)
		puts(t, d, hash, false)
	}
}

// P12.1: what came has no part in places and bits.
func TestPlacesStay(t *testing.T) {
	d := New(8, 7)
	for range 3 {
		for _, hash := range hashes {
			d.Put(hash)
			for _, key := range hashes {
				if got, want := d.Places(key), saidPlaces(key, 7, 64); got != want {
					t.Fatalf("%#x is at %v, want %v", key, got, want)
				}
			}
		}
		d.Clear()
		if d.Bits() != 64 {
			t.Fatalf("%d bits", d.Bits())
		}
	}
}

// P12.2, P12.3: a key is there behind its Put, not ahead of it, and as often as it is put.
func TestOneKey(t *testing.T) {
	for _, size := range sizes {
		for _, seed := range seeds {
			for _, hash := range hashes {
				d, w := New(size, seed), said(8*size, seed)
				for i := range 4 {
					has(t, d, hash, i > 0)
					puts(t, d, hash, i == 0)
					w.put(hash)
					has(t, d, hash, true)
					fulls(t, d, 4)
				}
				same(t, d, w, hashes...)
			}
		}
	}
}

// P12.2: a key is there only if the bits at all four of its places are 1, and Put tells true if one of them wasn't.
func TestSomePlacesByOthers(t *testing.T) {
	d := New(2, 7)
	const hash = 5
	for places := range 5 {
		d.Clear()
		key := sharing(t, d, hash, places)
		puts(t, d, key, true)
		has(t, d, hash, places == 4)
		fulls(t, d, 4)
		puts(t, d, hash, places < 4)
		has(t, d, hash, true)
		has(t, d, key, true)
		fulls(t, d, 8-places)
		puts(t, d, hash, false)
		puts(t, d, key, false)
	}
}

// P12.2, P12.3: where all bits are 1 but the one at one place of a key, whichever of its four, the key isn't there.
func TestOnePlaceLeft(t *testing.T) {
	d := New(2, 7)
	for hash := range uint64(20) {
		for _, place := range d.Places(hash) {
			d.Clear()
			for key := range uint64(300) {
				if places := d.Places(key); !slices.Contains(places[:], place) {
					d.Put(key)
				}
			}
			fulls(t, d, 15)
			has(t, d, hash, false)
			puts(t, d, hash, true)
			fulls(t, d, 16)
			has(t, d, hash, true)
			puts(t, d, hash, false)
		}
	}
}

// P12.2: Put tells true as long as others have put but some of a key's places, and false once they have put them all, none of them all four.
func TestAllPlacesByOthers(t *testing.T) {
	const hash = 5
	for _, size := range []int{1, 2, 4} {
		d := New(size, 7)
		places := d.Places(hash)
		for _, place := range places {
			has(t, d, hash, bitOf(d, places[0]) && bitOf(d, places[1]) && bitOf(d, places[2]) && bitOf(d, places[3]))
			d.Put(other(t, hash, func(key uint64) bool {
				own := d.Places(key)
				return slices.Contains(own[:], place) && common(d, hash, key) < 4
			}))
		}
		full := d.Full()
		has(t, d, hash, true)
		puts(t, d, hash, false)
		has(t, d, hash, true)
		fulls(t, d, full)
	}
}

// bitOf tells whether the bit at a place is 1.
func bitOf(d *Door, place int) bool {
	return d.bytes[place/8]>>(place%8)%2 == 1
}

// P12.2: the bits that are 1 are those at the places that were put, and no others.
func TestBits(t *testing.T) {
	for _, size := range []int{1, 2, 16, 4096} {
		for _, seed := range seeds {
			d, w := New(size, seed), said(8*size, seed)
			for _, hash := range hashes {
				if d.Put(hash) != w.put(hash) {
					t.Fatalf("%d keys, seed %#x: put of %#x", size, seed, hash)
				}
				for place, bit := range w.bits {
					if bitOf(d, place) != bit {
						t.Fatalf("%d keys, seed %#x: bit %d isn't %v", size, seed, place, bit)
					}
				}
			}
		}
	}
}

// P12.2: a key that never came isn't there, as long as few came.
func TestNeverCame(t *testing.T) {
	d := New(4096, 7)
	for _, hash := range hashes {
		has(t, d, hash, false)
		d.Put(hash)
	}
	for _, hash := range hashes {
		has(t, d, hash, true)
	}
	there := 0
	for hash := range uint64(4000) {
		if key := hash*2 + 1<<40; d.Has(key) {
			there++
		}
	}
	if there > 0 {
		t.Errorf("%d of 4000 keys are there that never came", there)
	}
}

// P12.2: all bits are 0 behind Clear, and keys come anew.
func TestClear(t *testing.T) {
	for _, size := range sizes {
		d, w := New(size, 7), said(8*size, 7)
		for range 3 {
			d.Clear()
			w.clear()
			same(t, d, w, hashes...)
			fulls(t, d, 0)
			for _, hash := range hashes {
				puts(t, d, hash, w.put(hash))
				same(t, d, w, hashes...)
			}
		}
		d.Clear()
		d.Clear()
		fulls(t, d, 0)
		puts(t, d, 5, true)
		has(t, d, 5, true)
		fulls(t, d, 4)
	}
}

// P12.2: how many bits are 1: none, of one key, of keys with places in common, all.
func TestFull(t *testing.T) {
	d := New(2, 7)
	fulls(t, d, 0)
	d.Put(5)
	fulls(t, d, 4)
	d.Put(5)
	fulls(t, d, 4)
	for places := range 5 {
		d.Clear()
		d.Put(5)
		d.Put(sharing(t, d, 5, places))
		fulls(t, d, 8-places)
	}
	for _, size := range []int{1, 2, 64, 4096} {
		d = New(size, 7)
		for hash := range uint64(40 * size) {
			d.Put(hash)
		}
		fulls(t, d, 8*size)
		d.Put(1 << 50)
		fulls(t, d, 8*size)
		d.Clear()
		fulls(t, d, 0)
	}
}

// inOrder tells the places, rising.
func inOrder(places [4]int) [4]int {
	slices.Sort(places[:])
	return places
}

// P12.2: keys are alike if they have the same places in the same order.
func TestAlike(t *testing.T) {
	for _, seed := range seeds {
		d := New(1, seed)
		for _, hash := range hashes {
			places := d.Places(hash)
			like := other(t, hash, func(key uint64) bool { return d.Places(key) == places })
			turned := other(t, hash, func(key uint64) bool {
				return d.Places(key) != places && inOrder(d.Places(key)) == inOrder(places)
			})
			for _, c := range []struct {
				key  uint64
				want bool
			}{
				{hash, true}, {like, true}, {turned, false},
				{sharing(t, d, hash, 0), false}, {sharing(t, d, hash, 2), false},
			} {
				if d.Alike(hash, c.key) != c.want || d.Alike(c.key, hash) != c.want {
					t.Fatalf("seed %#x: %#x at %v, %#x at %v: alike isn't %v", seed, hash, places, c.key, d.Places(c.key), c.want)
				}
			}
		}
	}
}

// P12.2: keys with some places in common, at each of the four, aren't alike; with more bits, keys that were alike are no more.
func TestAlikeInPart(t *testing.T) {
	d := New(2, 7)
	const hash = 5
	places := d.Places(hash)
	for i := range places {
		key := other(t, hash, func(key uint64) bool {
			return d.Places(key)[i] == places[i] && d.Places(key) != places
		})
		if d.Alike(hash, key) || d.Alike(key, hash) {
			t.Errorf("alike by the place %d alone: %v and %v", i, places, d.Places(key))
		}
	}
	like := other(t, hash, func(key uint64) bool { return d.Places(key) == places })
	if !d.Alike(hash, like) {
		t.Errorf("not alike: %v and %v", places, d.Places(like))
	}
	if New(4096, 7).Alike(hash, like) {
		t.Error("alike among 32768 bits too")
	}
}

// P12.2: what is alike hangs on places only, not on what was put.
func TestAlikeWhateverCame(t *testing.T) {
	d := New(1, 7)
	for range 2 {
		for _, a := range hashes {
			for _, b := range hashes {
				if got, want := d.Alike(a, b), saidPlaces(a, 7, 8) == saidPlaces(b, 7, 8); got != want {
					t.Fatalf("%#x and %#x: alike %v, want %v", a, b, got, want)
				}
			}
		}
		for hash := range uint64(50) {
			d.Put(hash)
		}
		fulls(t, d, 8)
	}
}

// P12.2, P12.3: keys that are alike are there together.
func TestAlikeAreThereTogether(t *testing.T) {
	d := New(1, 7)
	for a := range uint64(60) {
		for b := range uint64(60) {
			if !d.Alike(a, b) {
				continue
			}
			d.Clear()
			puts(t, d, a, true)
			has(t, d, b, true)
			puts(t, d, b, false)
		}
	}
}

// P12.1, P12.2: many steps mixed, against a plain list of bits at each step.
func TestMixedSteps(t *testing.T) {
	for _, size := range []int{1, 2, 3, 4, 16, 100} {
		for _, seed := range seeds {
			r := rand.New(rand.NewSource(int64(size)))
			keys := slices.Clone(hashes)
			for range 4 * size {
				keys = append(keys, r.Uint64())
			}
			d := New(size, seed)
			w := said(d.Bits(), seed)
			for range 150 {
				if r.Intn(30) == 0 {
					d.Clear()
					w.clear()
				} else {
					hash := keys[r.Intn(len(keys))]
					has(t, d, hash, w.has(hash))
					puts(t, d, hash, w.put(hash))
				}
				same(t, d, w, keys[:min(len(keys), 16)]...)
			}
		}
	}
}

// P12.3: what was put since all was cleared is there; what wasn't put, and has a place at which nothing else was put, isn't.
func TestWhatFollows(t *testing.T) {
	for _, size := range sizes {
		for _, seed := range seeds {
			r := rand.New(rand.NewSource(int64(size)))
			d := New(size, seed)
			for range 3 {
				came, at := map[uint64]bool{}, map[int]bool{}
				for range size/2 + 1 {
					hash := r.Uint64() >> r.Intn(64)
					d.Put(hash)
					came[hash] = true
					for _, place := range d.Places(hash) {
						at[place] = true
					}
				}
				follows(t, r, d, came, at)
				d.Clear()
			}
		}
	}
}

// follows fails if a key that came isn't there, or one is that has a place at which none of these came.
func follows(t *testing.T, r *rand.Rand, d *Door, came map[uint64]bool, at map[int]bool) {
	t.Helper()
	for hash := range came {
		has(t, d, hash, true)
	}
	out := 0
	for range 200 {
		hash := r.Uint64()
		for _, place := range d.Places(hash) {
			if !at[place] {
				has(t, d, hash, false)
				out++
				break
			}
		}
	}
	if out == 0 {
		t.Fatalf("%d bits: no key has a place of its own", d.Bits())
	}
}

// P12.2: what is done to one door isn't seen in another one.
func TestApart(t *testing.T) {
	a, b := New(64, 7), New(64, 7)
	a.Put(5)
	fulls(t, b, 0)
	has(t, b, 5, false)
	puts(t, b, 5, true)
	a.Clear()
	has(t, b, 5, true)
	fulls(t, b, 4)
	fulls(t, a, 0)
}

// P12.2: asking changes nothing, nor does what is done to the places that were told.
func TestAskingChangesNothing(t *testing.T) {
	d, w := New(8, 7), said(64, 7)
	for _, hash := range hashes[:5] {
		d.Put(hash)
		w.put(hash)
	}
	for _, a := range hashes {
		places := d.Places(a)
		clear(places[:])
		d.Has(a)
		d.Full()
		d.Bits()
		for _, b := range hashes {
			d.Alike(a, b)
		}
		if got, want := d.Places(a), saidPlaces(a, 7, 64); got != want {
			t.Fatalf("%#x is at %v, want %v", a, got, want)
		}
		same(t, d, w, hashes...)
	}
}

// P12.2: a nil door tells 0, zeros and false, does nothing, and takes all keys for alike.
func TestNil(t *testing.T) {
	var d *Door
	for _, hash := range hashes {
		has(t, d, hash, false)
		puts(t, d, hash, false)
		puts(t, d, hash, false)
		has(t, d, hash, false)
		d.Clear()
		if got := d.Places(hash); got != [4]int{} {
			t.Errorf("%#x is at %v", hash, got)
		}
		for _, key := range hashes {
			if !d.Alike(hash, key) {
				t.Errorf("%#x and %#x aren't alike", hash, key)
			}
		}
	}
	fulls(t, d, 0)
	if d.Bits() != 0 {
		t.Errorf("%d bits", d.Bits())
	}
}
