package tiny

import (
	"math"
	"math/rand"
	"slices"
	"testing"

	"cortado/door"
	"cortado/sketch"
)

var seeds = []uint64{0, 1, 7, 9, 1 << 32, 1 << 63, 0x9e3779b97f4a7c15, math.MaxUint64 - 4, math.MaxUint64 - 1, math.MaxUint64}

var hashes = []uint64{0, 1, 2, 3, 7, 255, 1 << 31, 1 << 32, 1 << 63, 1<<63 - 1, 0xbf58476d1ce4e5b9, math.MaxUint64 - 1, math.MaxUint64}

// Limits, of which some are no powers of 2.
var limits = []int{1, 2, 3, 4, 5, 7, 8, 9, 16, 17, 31, 32, 33, 100, 4095, 4096}

// byTheWords is a tiny as the chapter's words tell it, of a sketch and a door that the test made.
type byTheWords struct {
	sketch             *sketch.Sketch
	door               *door.Door
	seed               uint64
	limit, count, aged int
}

func said(limit int, seed uint64) *byTheWords {
	return &byTheWords{sketch: sketch.New(limit, seed), door: door.New(limit, seed), seed: seed, limit: limit}
}

func (w *byTheWords) add(hash uint64) {
	there := w.door.Has(hash)
	w.door.Put(hash)
	if there {
		w.sketch.Add(hash)
	}
	w.count++
	if w.count == w.limit {
		w.sketch.Halve()
		w.door.Clear()
		w.count = 0
		w.aged++
	}
}

func (w *byTheWords) estimate(hash uint64) int {
	estimate := w.sketch.Count(hash)
	if w.door.Has(hash) {
		estimate++
	}
	return estimate
}

func (w *byTheWords) clear() {
	*w = *said(w.limit, w.seed)
}

// same fails if the tiny tells anything else, of itself or of these keys, than the words do.
func same(t *testing.T, x *Tiny, w *byTheWords, keys ...uint64) {
	t.Helper()
	if x.Limit() != w.limit {
		t.Fatalf("limit %d, want %d", x.Limit(), w.limit)
	}
	counts(t, x, w.count, w.aged)
	fulls(t, x, w.sketch.Full(), w.door.Full())
	for _, hash := range keys {
		estimates(t, x, hash, w.estimate(hash))
		if got, want := x.Sketch().Count(hash), w.sketch.Count(hash); got != want {
			t.Fatalf("the sketch has %d of %#x, want %d", got, hash, want)
		}
		if got, want := x.Door().Has(hash), w.door.Has(hash); got != want {
			t.Fatalf("the door has %#x: %v, want %v", hash, got, want)
		}
	}
}

// counts fails if another number of keys came, or if all was aged another number of times.
func counts(t *testing.T, x *Tiny, count, aged int) {
	t.Helper()
	if x.Count() != count || x.Aged() != aged {
		t.Fatalf("count %d, aged %d, want %d and %d", x.Count(), x.Aged(), count, aged)
	}
}

// fulls fails if another number of the sketch's counters, or of the door's bits, aren't 0.
func fulls(t *testing.T, x *Tiny, counters, bits int) {
	t.Helper()
	if x.Sketch().Full() != counters || x.Door().Full() != bits {
		t.Fatalf("%d counters and %d bits aren't 0, want %d and %d", x.Sketch().Full(), x.Door().Full(), counters, bits)
	}
}

// estimates fails if another estimate is told of the key.
func estimates(t *testing.T, x *Tiny, hash uint64, want int) {
	t.Helper()
	if got := x.Estimate(hash); got != want {
		t.Fatalf("estimate of %#x: %d, want %d", hash, got, want)
	}
}

// adds adds a key again and again.
func adds(x *Tiny, hash uint64, times int) {
	for range times {
		x.Add(hash)
	}
}

// other finds another key, of which this holds.
func other(t *testing.T, hash uint64, holds func(other uint64) bool) uint64 {
	t.Helper()
	for key := range uint64(1 << 21) {
		if key != hash && holds(key) {
			return key
		}
	}
	t.Fatalf("no other key than %#x is such a one", hash)
	return 0
}

// sketchShares tells in how many of the sketch's rows both keys have one place.
func sketchShares(x *Tiny, a, b uint64) int {
	shared := 0
	for row := range 4 {
		if x.Sketch().Place(a, row) == x.Sketch().Place(b, row) {
			shared++
		}
	}
	return shared
}

// doorShares tells how many of the door's places both keys have, in whatever order.
func doorShares(x *Tiny, a, b uint64) int {
	shared := 0
	places := x.Door().Places(b)
	for _, place := range x.Door().Places(a) {
		if slices.Contains(places[:], place) {
			shared++
		}
	}
	return shared
}

// P13.2, example 1: one key three times, with 4 counters: its estimate is 3; once more: the count is 0, and the estimate 1.
func TestExample(t *testing.T) {
	for _, seed := range seeds {
		for _, hash := range hashes {
			x := New(4, seed)
			adds(x, hash, 3)
			estimates(t, x, hash, 3)
			counts(t, x, 3, 0)
			x.Add(hash)
			estimates(t, x, hash, 1)
			counts(t, x, 0, 1)
		}
	}
}

// P13.1: the limit is the counters, brought between 1 and 4096; sketch and door are of that many, and no key came.
func TestNew(t *testing.T) {
	for _, c := range []struct{ counters, limit, width, bits int }{
		{math.MinInt, 1, 1, 8}, {math.MinInt + 1, 1, 1, 8}, {-1 << 32, 1, 1, 8}, {-4096, 1, 1, 8}, {-2, 1, 1, 8}, {-1, 1, 1, 8}, {0, 1, 1, 8}, {1, 1, 1, 8}, {2, 2, 2, 16}, {3, 3, 4, 32}, {4, 4, 4, 32}, {5, 5, 8, 64},
		{7, 7, 8, 64}, {8, 8, 8, 64}, {9, 9, 16, 128}, {100, 100, 128, 1024}, {1000, 1000, 1024, 8192}, {2048, 2048, 2048, 16384}, {2049, 2049, 4096, 32768}, {4095, 4095, 4096, 32768}, {4096, 4096, 4096, 32768},
		{4097, 4096, 4096, 32768}, {8192, 4096, 4096, 32768}, {1 << 32, 4096, 4096, 32768}, {1<<32 + 1, 4096, 4096, 32768}, {1 << 62, 4096, 4096, 32768}, {math.MaxInt - 1, 4096, 4096, 32768}, {math.MaxInt, 4096, 4096, 32768},
	} {
		for _, seed := range seeds {
			x := New(c.counters, seed)
			if x.Limit() != c.limit || x.Sketch().Width() != c.width || x.Door().Bits() != c.bits {
				t.Fatalf("%d counters: limit %d, width %d, %d bits", c.counters, x.Limit(), x.Sketch().Width(), x.Door().Bits())
			}
			counts(t, x, 0, 0)
			fulls(t, x, 0, 0)
			for _, hash := range hashes {
				estimates(t, x, hash, 0)
			}
		}
	}
}

// P13.1: sketch and door are those of the seed: keys have the places that they have in others of that seed.
func TestSeed(t *testing.T) {
	for _, limit := range limits {
		for _, seed := range seeds {
			x, s, d := New(limit, seed), sketch.New(limit, seed), door.New(limit, seed)
			for _, hash := range hashes {
				for row := range 4 {
					if got, want := x.Sketch().Place(hash, row), s.Place(hash, row); got != want {
						t.Fatalf("seed %#x: %#x is at %d in row %d, want %d", seed, hash, got, row, want)
					}
				}
				if got, want := x.Door().Places(hash), d.Places(hash); got != want {
					t.Fatalf("seed %#x: %#x is at %v, want %v", seed, hash, got, want)
				}
			}
		}
	}
}

// P13.1, P13.2: what is known ahead, reckoned elsewhere: keys are the squares of the numbers from 0 to 249, modulo 31.
func TestKnown(t *testing.T) {
	for _, c := range []struct {
		counters                int
		seed                    uint64
		estimates               [11]int
		count, aged, full, bits int
	}{
		{1, 0, [11]int{0, 0, 0, 0, 0, 0, 0, 0, 0, 0, 0}, 0, 250, 0, 0},
		{2, 0, [11]int{0, 0, 0, 0, 0, 0, 0, 0, 0, 0, 0}, 0, 125, 0, 0},
		{3, 0, [11]int{0, 1, 0, 0, 0, 0, 1, 0, 0, 0, 0}, 1, 83, 0, 4},
		{3, 9, [11]int{0, 1, 0, 0, 0, 0, 0, 0, 0, 0, 0}, 1, 83, 0, 4},
		{4, 9, [11]int{1, 1, 0, 0, 0, 0, 0, 0, 0, 0, 0}, 2, 62, 0, 7},
		{7, 0, [11]int{1, 2, 0, 0, 1, 0, 0, 0, 0, 1, 0}, 5, 35, 4, 14},
		{8, 9, [11]int{1, 1, 0, 0, 0, 0, 0, 0, 0, 0, 0}, 2, 31, 0, 7},
		{8, math.MaxUint64, [11]int{1, 1, 0, 0, 0, 0, 0, 0, 0, 0, 0}, 2, 31, 0, 8},
		{100, 0, [11]int{3, 8, 7, 0, 7, 7, 0, 7, 7, 7, 7}, 50, 2, 62, 61},
		{100, 9, [11]int{3, 8, 7, 0, 7, 7, 0, 7, 7, 7, 7}, 50, 2, 62, 62},
		{100, math.MaxUint64, [11]int{3, 8, 7, 0, 7, 7, 0, 7, 7, 7, 7}, 50, 2, 60, 63},
		{4096, 9, [11]int{9, 16, 16, 0, 16, 16, 0, 16, 16, 16, 16}, 250, 0, 64, 64},
		{4096, math.MaxUint64, [11]int{9, 16, 16, 0, 16, 16, 0, 16, 16, 16, 16}, 250, 0, 64, 64},
	} {
		x := New(c.counters, c.seed)
		for i := range uint64(250) {
			x.Add(i * i % 31)
		}
		for hash, want := range c.estimates {
			estimates(t, x, uint64(hash), want)
		}
		counts(t, x, c.count, c.aged)
		fulls(t, x, c.full, c.bits)
	}
}

// P13.2: one key, as often as the limit and far beyond, at each step: it is put first, then added, up to 15; the one that fills the count is added ahead of the halving.
func TestOneKey(t *testing.T) {
	for _, limit := range limits {
		for _, hash := range hashes[:5] {
			x := New(limit, 7)
			number, came, count, aged := 0, 0, 0, 0
			for range min(3*limit+2, 200) {
				estimates(t, x, hash, number+came)
				counts(t, x, count, aged)
				x.Add(hash)
				number, came, count = min(number+came, 15), 1, count+1
				if count == limit {
					number, came, count, aged = number/2, 0, 0, aged+1
				}
			}
			estimates(t, x, hash, number+came)
			counts(t, x, count, aged)
		}
	}
}

// P13.2: once, twice, as often as the limit, and once more behind that, with numbers written out.
func TestOneKeyWrittenOut(t *testing.T) {
	for _, c := range []struct {
		limit     int
		estimates []int
	}{
		{1, []int{0, 0, 0}},
		{2, []int{1, 0, 1, 0}},
		{3, []int{1, 2, 1, 2, 3, 1, 2, 3, 1}},
		{4, []int{1, 2, 3, 1, 2, 3, 4, 2, 3, 4, 5, 2, 3}},
		{5, []int{1, 2, 3, 4, 2, 3, 4, 5, 6, 3, 4, 5, 6, 7, 3}},
		{20, []int{1, 2, 3, 4, 5, 6, 7, 8, 9, 10, 11, 12, 13, 14, 15, 16, 16, 16, 16, 7, 8}},
	} {
		for _, seed := range seeds {
			x := New(c.limit, seed)
			for i, want := range c.estimates {
				x.Add(5)
				estimates(t, x, 5, want)
				counts(t, x, (i+1)%c.limit, (i+1)/c.limit)
			}
		}
	}
}

// P13.2: all is aged by the key with which the count is the limit, not ahead of it, whatever the keys.
func TestLimit(t *testing.T) {
	for _, limit := range limits {
		x := New(limit, 9)
		for i := 1; i < limit; i++ {
			x.Add(uint64(i) * 0x9e3779b97f4a7c15)
			counts(t, x, i, 0)
		}
		x.Add(5)
		counts(t, x, 0, 1)
		fulls(t, x, 0, 0)
		for i := range 2*limit + 1 {
			counts(t, x, i%limit, 1+i/limit)
			x.Add(5)
		}
	}
}

// P13.2: with a limit of 1 each key that comes ages all, so that nothing is ever known.
func TestLimitOfOne(t *testing.T) {
	for _, counters := range []int{math.MinInt, -1, 0, 1} {
		x := New(counters, 7)
		for i := range 40 {
			hash := hashes[i/2%len(hashes)]
			x.Add(hash)
			counts(t, x, 0, i+1)
			fulls(t, x, 0, 0)
			for _, key := range hashes {
				estimates(t, x, key, 0)
			}
		}
	}
}

// P13.2: a key goes through the door first, and comes to the sketch only from its second time on.
func TestDoorFirst(t *testing.T) {
	for _, seed := range seeds {
		for _, hash := range hashes {
			x := New(100, seed)
			x.Add(hash)
			fulls(t, x, 0, 4)
			if !x.Door().Has(hash) || x.Sketch().Count(hash) != 0 {
				t.Fatalf("seed %#x: behind the first time the door has %#x: %v, the sketch %d", seed, hash, x.Door().Has(hash), x.Sketch().Count(hash))
			}
			x.Add(hash)
			fulls(t, x, 4, 4)
			if !x.Door().Has(hash) || x.Sketch().Count(hash) != 1 {
				t.Fatalf("seed %#x: behind the second time the door has %#x: %v, the sketch %d", seed, hash, x.Door().Has(hash), x.Sketch().Count(hash))
			}
		}
	}
}

// P13.2: keys that came once each are in the door alone, and the sketch is empty.
func TestEachKeyOnce(t *testing.T) {
	x := New(4096, 7)
	for _, hash := range hashes {
		x.Add(hash)
	}
	fulls(t, x, 0, 4*len(hashes))
	counts(t, x, len(hashes), 0)
	for _, hash := range hashes {
		estimates(t, x, hash, 1)
	}
}

// P13.2: where others have put all of a key's places, it comes to the sketch its first time already.
func TestDoorByOthers(t *testing.T) {
	x := New(4, 7)
	const hash = 5
	like := other(t, hash, func(key uint64) bool { return doorShares(x, hash, key) == 4 && sketchShares(x, hash, key) == 0 })
	x.Add(hash)
	estimates(t, x, like, 1)
	fulls(t, x, 0, 4)
	x.Add(like)
	estimates(t, x, like, 2)
	estimates(t, x, hash, 1)
	fulls(t, x, 4, 4)
	counts(t, x, 2, 0)
}

// P13.2: where others have put some of a key's places only, it is put, and not added.
func TestDoorInPart(t *testing.T) {
	x := New(4, 7)
	const hash = 5
	for places := range 4 {
		x.Clear()
		part := other(t, hash, func(key uint64) bool { return doorShares(x, hash, key) == places })
		x.Add(hash)
		estimates(t, x, part, 0)
		x.Add(part)
		estimates(t, x, part, 1)
		fulls(t, x, 0, 8-places)
	}
}

// P13.2: the key that fills the count, new: it is put, and the door is cleared with it.
func TestNewKeyFills(t *testing.T) {
	x := New(3, 7)
	const hash = 5
	apart := other(t, hash, func(key uint64) bool { return doorShares(x, hash, key) == 0 && sketchShares(x, hash, key) == 0 })
	adds(x, hash, 2)
	x.Add(apart)
	counts(t, x, 0, 1)
	fulls(t, x, 0, 0)
	estimates(t, x, apart, 0)
	estimates(t, x, hash, 0)
	x.Add(apart)
	estimates(t, x, apart, 1)
	fulls(t, x, 0, 4)
}

// P13.2: the key that fills the count, known: it is added, and the sketch is halved with it, without what is left over.
func TestKnownKeyFills(t *testing.T) {
	for limit, want := range []int{0, 0, 0, 1, 1, 2, 2, 3, 3, 4, 4, 5, 5, 6, 6, 7, 7, 7, 7} {
		if limit == 0 {
			continue
		}
		x := New(limit, 7)
		adds(x, 5, limit)
		counts(t, x, 0, 1)
		estimates(t, x, 5, want)
		if x.Sketch().Count(5) != want || x.Door().Has(5) || x.Door().Full() != 0 {
			t.Fatalf("limit %d: the sketch has %d, want %d; the door has %d bits", limit, x.Sketch().Count(5), want, x.Door().Full())
		}
	}
}

// P13.2: all keys are aged, not the one alone that fills the count.
func TestAllAreAged(t *testing.T) {
	x, w := New(40, 7), said(40, 7)
	for i := range 39 {
		x.Add(hashes[i%5])
		w.add(hashes[i%5])
	}
	for _, hash := range hashes[:5] {
		if x.Estimate(hash) < 7 {
			t.Fatalf("estimate of %#x: %d", hash, x.Estimate(hash))
		}
	}
	x.Add(99)
	w.add(99)
	same(t, x, w, append(slices.Clone(hashes), 99)...)
	for _, hash := range hashes[:5] {
		estimates(t, x, hash, 3)
	}
	estimates(t, x, 99, 0)
}

// P13.2: behind an aging the sketch has a key that the door doesn't; as it comes, the door has it first, and then the sketch has one more.
func TestSketchAlone(t *testing.T) {
	x := New(9, 7)
	adds(x, 5, 9)
	for i, want := range []int{4, 5, 6, 7} {
		estimates(t, x, 5, want)
		if x.Door().Has(5) != (i > 0) || x.Sketch().Count(5) != 4+max(i-1, 0) {
			t.Fatalf("step %d: the door has it: %v, the sketch %d", i, x.Door().Has(5), x.Sketch().Count(5))
		}
		x.Add(5)
	}
}

// P13.2: estimates of a key that never came, of one in the door, in the sketch, in both.
func TestEstimate(t *testing.T) {
	for _, hash := range hashes {
		x := New(4096, 7)
		estimates(t, x, hash, 0)
		x.Add(hash)
		estimates(t, x, hash, 1)
		x.Add(hash)
		estimates(t, x, hash, 2)
		x.Door().Clear()
		estimates(t, x, hash, 1)
		x.Sketch().Clear()
		estimates(t, x, hash, 0)
	}
}

// P13.2: the estimate of a key that never came is that of the others at its places.
func TestNeverCame(t *testing.T) {
	x := New(4, 7)
	const hash = 5
	inDoor := other(t, hash, func(key uint64) bool { return doorShares(x, hash, key) == 4 && sketchShares(x, hash, key) < 4 })
	inSketch := other(t, hash, func(key uint64) bool { return doorShares(x, hash, key) < 4 && sketchShares(x, hash, key) == 4 })
	inBoth := other(t, hash, func(key uint64) bool { return doorShares(x, hash, key) == 4 && sketchShares(x, hash, key) == 4 })
	inNone := other(t, hash, func(key uint64) bool { return doorShares(x, hash, key) < 4 && sketchShares(x, hash, key) < 4 })
	adds(x, hash, 3)
	estimates(t, x, hash, 3)
	estimates(t, x, inDoor, 1)
	estimates(t, x, inSketch, 2)
	estimates(t, x, inBoth, 3)
	estimates(t, x, inNone, 0)
}

// P13.2, P13.3: an estimate is 16 where the sketch's count is 15 and the door has the key, and goes no higher; without the door it is 15.
func TestMost(t *testing.T) {
	for _, seed := range seeds {
		x := New(4096, seed)
		for i := range 60 {
			estimates(t, x, 5, min(i, 16))
			x.Add(5)
		}
		if x.Sketch().Count(5) != 15 || !x.Door().Has(5) {
			t.Fatalf("the sketch has %d, the door has it: %v", x.Sketch().Count(5), x.Door().Has(5))
		}
		x.Door().Clear()
		estimates(t, x, 5, 15)
		for range 3 {
			x.Add(5)
			estimates(t, x, 5, 16)
		}
		adds(x, 6, 4096-63)
		counts(t, x, 0, 1)
		estimates(t, x, 5, 7)
		x.Add(5)
		estimates(t, x, 5, 8)
	}
}

// pushes fails if Push of a list tells another thing than Add of each in order, or changes what was handed in.
func pushes(t *testing.T, x *Tiny, w *byTheWords, list []uint64) {
	t.Helper()
	kept := slices.Clone(list[:cap(list)])
	x.Push(list)
	for _, hash := range list {
		w.add(hash)
	}
	same(t, x, w, hashes...)
	if !slices.Equal(kept, list[:cap(list)]) {
		t.Fatalf("the list is %v, was %v", list[:cap(list)], kept)
	}
}

// P13.2: Push of no list, an empty one, one of a key, and ones as long as the limit, longer, and much longer, with room behind the end.
func TestPush(t *testing.T) {
	for _, limit := range limits {
		r := rand.New(rand.NewSource(int64(limit)))
		x, w := New(limit, 7), said(limit, 7)
		for _, length := range []int{0, 1, 2, limit - 1, limit, limit + 1, 3*limit + 2} {
			list := make([]uint64, length, length+3)
			for i := range cap(list) {
				list[:cap(list)][i] = hashes[r.Intn(len(hashes))]
			}
			pushes(t, x, w, list)
			pushes(t, x, w, nil)
			pushes(t, x, w, []uint64{})
			pushes(t, x, w, list[:length:length])
		}
	}
}

// P13.2: Push of nothing changes nothing, also where a key more would fill the count.
func TestPushNothing(t *testing.T) {
	for _, limit := range []int{1, 2, 4} {
		x := New(limit, 7)
		adds(x, 5, limit-1)
		for range 3 {
			x.Push(nil)
			x.Push([]uint64{})
			x.Push([]uint64{5}[:0])
		}
		counts(t, x, limit-1, 0)
		estimates(t, x, 5, limit-1)
	}
}

// P13.2: keys that are pushed come in the list's order.
func TestPushOrder(t *testing.T) {
	x := New(4, 7)
	const a = 5
	b := other(t, a, func(key uint64) bool { return doorShares(x, a, key) == 0 && sketchShares(x, a, key) == 0 })
	x.Push([]uint64{a, a, a, b, b})
	estimates(t, x, a, 1)
	estimates(t, x, b, 1)
	counts(t, x, 1, 1)
	x.Clear()
	x.Push([]uint64{b, b, a, a, a})
	estimates(t, x, a, 1)
	estimates(t, x, b, 0)
	counts(t, x, 1, 1)
	x.Clear()
	x.Push([]uint64{a, b, a, b, b, a, a})
	estimates(t, x, a, 2)
	estimates(t, x, b, 1)
	counts(t, x, 3, 1)
}

// P13.2: the list isn't kept: what is done to it later isn't seen.
func TestPushKeepsNothing(t *testing.T) {
	x, w := New(100, 7), said(100, 7)
	list := slices.Clone(hashes)
	pushes(t, x, w, list)
	for i := range list {
		list[i] = 77
	}
	same(t, x, w, append(slices.Clone(hashes), 77)...)
	estimates(t, x, 77, 0)
}

// P13.2: Clear ahead of and behind agings: all is as New has it, and goes on as from there.
func TestClear(t *testing.T) {
	for _, limit := range limits {
		for _, times := range []int{0, 1, 2, limit - 1, limit, limit + 1, 2*limit + 3} {
			x, w := New(limit, 7), said(limit, 7)
			for i := range times {
				x.Add(hashes[i%3])
			}
			x.Clear()
			counts(t, x, 0, 0)
			fulls(t, x, 0, 0)
			same(t, x, w, hashes...)
			for i := range min(limit+2, 40) {
				x.Add(hashes[i%4])
				w.add(hashes[i%4])
				same(t, x, w, hashes...)
			}
			x.Clear()
			x.Clear()
			w.clear()
			same(t, x, w, hashes...)
		}
	}
}

// P13.2: keys that filled the sketch are forgotten by Clear, not halved.
func TestClearForgets(t *testing.T) {
	x := New(4096, 7)
	adds(x, 5, 40)
	estimates(t, x, 5, 16)
	x.Clear()
	estimates(t, x, 5, 0)
	x.Add(5)
	estimates(t, x, 5, 1)
	counts(t, x, 1, 0)
}

// P13.2: Sketch and Door are the tiny's own ones, the same at each call, also behind agings and Clear.
func TestOwn(t *testing.T) {
	x := New(4, 7)
	s, d := x.Sketch(), x.Door()
	if s == nil || d == nil {
		t.Fatal("no sketch, or no door")
	}
	for i := range 20 {
		x.Add(5)
		if i%7 == 6 {
			x.Clear()
		}
		if x.Sketch() != s || x.Door() != d {
			t.Fatalf("step %d: another sketch, or another door", i)
		}
	}
}

// P13.2: what is done to the tiny's own sketch and door is what it knows; the count is another thing.
func TestOwnAreAsked(t *testing.T) {
	x := New(100, 7)
	x.Sketch().Add(5)
	estimates(t, x, 5, 1)
	x.Sketch().Add(5)
	estimates(t, x, 5, 2)
	x.Door().Put(5)
	estimates(t, x, 5, 3)
	counts(t, x, 0, 0)
	x.Add(5)
	estimates(t, x, 5, 4)
	x.Sketch().Halve()
	estimates(t, x, 5, 2)
	x.Door().Clear()
	estimates(t, x, 5, 1)
	counts(t, x, 1, 0)
	x.Sketch().Clear()
	counts(t, x, 1, 0)
	x.Clear()
	x.Door().Put(5)
	x.Add(5)
	fulls(t, x, 4, 4)
}

// P13.1, P13.2: many steps mixed, against the words at each step.
func TestMixedSteps(t *testing.T) {
	for _, limit := range []int{1, 2, 3, 4, 7, 16, 50, 100} {
		for _, seed := range seeds {
			r := rand.New(rand.NewSource(int64(limit)))
			keys := slices.Clone(hashes)
			for range limit {
				keys = append(keys, r.Uint64())
			}
			x, w := New(limit, seed), said(limit, seed)
			for range 300 {
				mixedStep(r, x, w, keys)
				same(t, x, w, keys[:min(len(keys), 20)]...)
			}
		}
	}
}

// mixedStep does one thing to both, mostly an Add.
func mixedStep(r *rand.Rand, x *Tiny, w *byTheWords, keys []uint64) {
	switch r.Intn(60) {
	case 0:
		x.Clear()
		w.clear()
	case 1, 2, 3:
		list := make([]uint64, r.Intn(8))
		for i := range list {
			list[i] = keys[r.Intn(len(keys))]
			w.add(list[i])
		}
		x.Push(list)
	default:
		hash := keys[r.Intn(1+r.Intn(len(keys)))]
		x.Add(hash)
		w.add(hash)
	}
}

// told is what a tiny tells of these keys.
func told(x *Tiny, keys []uint64) []int {
	var list []int
	for _, hash := range keys {
		list = append(list, x.Estimate(hash))
	}
	return list
}

// P13.3: estimates are from 0 to 16; between two agings none falls, and that of the key that comes rises, unless it is 16; the count is below the limit.
func TestWhatFollows(t *testing.T) {
	for _, limit := range limits {
		for _, seed := range seeds[:6] {
			r := rand.New(rand.NewSource(int64(limit)))
			x := New(limit, seed)
			for range 300 {
				hash := hashes[r.Intn(1+r.Intn(len(hashes)))]
				was, aged, own := told(x, hashes), x.Aged(), x.Estimate(hash)
				x.Add(hash)
				if x.Count() < 0 || x.Count() >= x.Limit() {
					t.Fatalf("limit %d: count %d", limit, x.Count())
				}
				if x.Aged() == aged {
					rises(t, was, told(x, hashes))
					if x.Estimate(hash) <= own && own != 16 {
						t.Fatalf("limit %d: %#x came, and its estimate is %d behind %d", limit, hash, x.Estimate(hash), own)
					}
				}
			}
		}
	}
}

// rises fails if an estimate fell, or is none from 0 to 16.
func rises(t *testing.T, was, is []int) {
	t.Helper()
	for i := range is {
		if is[i] < was[i] || is[i] < 0 || is[i] > 16 {
			t.Fatalf("estimate %d behind %d", is[i], was[i])
		}
	}
}

// P13.3: an estimate of a key that comes rises by 1, where it has places of its own, up to 16; one that doesn't come stays.
func TestRisesByOne(t *testing.T) {
	x := New(4096, 9)
	for round := range 20 {
		for i, hash := range hashes[1:] {
			x.Add(hash)
			estimates(t, x, hash, min(round+1, 16))
			estimates(t, x, hashes[0], 0)
			for _, later := range hashes[i+2:] {
				estimates(t, x, later, min(round, 16))
			}
		}
	}
}

// P13.2: what is done to one tiny isn't seen in another one of its seed.
func TestApart(t *testing.T) {
	a, b := New(4, 7), New(4, 7)
	if a.Sketch() == b.Sketch() || a.Door() == b.Door() {
		t.Fatal("one sketch, or one door, of two tinies")
	}
	adds(a, 5, 6)
	counts(t, b, 0, 0)
	estimates(t, b, 5, 0)
	fulls(t, b, 0, 0)
	adds(b, 5, 3)
	estimates(t, a, 5, 3)
	counts(t, a, 2, 1)
	a.Clear()
	estimates(t, b, 5, 3)
	counts(t, b, 3, 0)
}

// P13.2: asking changes nothing.
func TestAskingChangesNothing(t *testing.T) {
	x, w := New(8, 7), said(8, 7)
	for i := range 13 {
		x.Add(hashes[i%3])
		w.add(hashes[i%3])
	}
	for range 3 {
		for _, hash := range hashes {
			x.Estimate(hash)
			x.Count()
			x.Aged()
			x.Limit()
			x.Sketch()
			x.Door()
		}
		same(t, x, w, hashes...)
	}
}

// P13.2: a nil tiny tells 0 and nil, and does nothing.
func TestNil(t *testing.T) {
	var x *Tiny
	for _, hash := range hashes {
		x.Add(hash)
		x.Push(nil)
		x.Push([]uint64{})
		x.Push([]uint64{hash, hash})
		x.Clear()
		estimates(t, x, hash, 0)
	}
	counts(t, x, 0, 0)
	if x.Limit() != 0 || x.Sketch() != nil || x.Door() != nil {
		t.Errorf("limit %d, sketch %v, door %v", x.Limit(), x.Sketch(), x.Door())
	}
}
