package exact

import (
	"math"
	"math/rand"
	"slices"
	"testing"

	"cortado/tiny"
)

var seeds = []uint64{0, 1, 7, 9, 1 << 32, 1 << 63, 0x9e3779b97f4a7c15, math.MaxUint64 - 4, math.MaxUint64 - 1, math.MaxUint64}

var hashes = []uint64{0, 1, 2, 3, 7, 255, 1 << 31, 1 << 32, 1 << 63, 1<<63 - 1, 0xbf58476d1ce4e5b9, math.MaxUint64 - 1, math.MaxUint64}

// Limits, of which some are no powers of 2.
var limits = []int{1, 2, 3, 4, 5, 7, 8, 9, 16, 17, 31, 32, 33, 100, 4095, 4096}

// byTheWords is an exact as the chapter's words tell it; it forgets no key.
type byTheWords struct {
	number       map[uint64]int
	came         map[uint64]bool
	limit, count int
}

func said(limit int) *byTheWords {
	return &byTheWords{number: map[uint64]int{}, came: map[uint64]bool{}, limit: limit}
}

func (w *byTheWords) add(hash uint64) {
	if w.came[hash] {
		w.number[hash] = min(w.number[hash]+1, 15)
	} else {
		w.number[hash] += 0
		w.came[hash] = true
	}
	w.count++
	if w.count == w.limit {
		for key := range w.number {
			w.number[key] /= 2
		}
		clear(w.came)
		w.count = 0
	}
}

func (w *byTheWords) estimate(hash uint64) int {
	estimate := w.number[hash]
	if w.came[hash] {
		estimate++
	}
	return estimate
}

// len answers of how many of the keys that ever came the estimate isn't 0.
func (w *byTheWords) len() int {
	sum := 0
	for key := range w.number {
		if w.estimate(key) != 0 {
			sum++
		}
	}
	return sum
}

func (w *byTheWords) clear() {
	*w = *said(w.limit)
}

// same fails if the exact tells anything else, of itself, of any key that ever came or of these keys, than the words do.
func same(t *testing.T, e *Exact, w *byTheWords, keys ...uint64) {
	t.Helper()
	counts(t, e, w.count, w.len())
	for hash := range w.number {
		estimates(t, e, hash, w.estimate(hash))
	}
	for _, hash := range keys {
		estimates(t, e, hash, w.estimate(hash))
	}
}

// counts fails if another number of keys came, or if of another number the estimate isn't 0.
func counts(t *testing.T, e *Exact, count, length int) {
	t.Helper()
	if e.Count() != count || e.Len() != length {
		t.Fatalf("count %d, len %d, want %d and %d", e.Count(), e.Len(), count, length)
	}
}

// estimates fails if another estimate is told of the key.
func estimates(t *testing.T, e *Exact, hash uint64, want int) {
	t.Helper()
	if got := e.Estimate(hash); got != want {
		t.Fatalf("estimate of %#x: %d, want %d", hash, got, want)
	}
}

// adds adds a key again and again.
func adds(e *Exact, hash uint64, times int) {
	for range times {
		e.Add(hash)
	}
}

// P14.1, example 1: one key three times, with 4 counters: its estimate is 3; once more: 1.
func TestExample(t *testing.T) {
	for _, hash := range hashes {
		e := New(4)
		adds(e, hash, 3)
		estimates(t, e, hash, 3)
		counts(t, e, 3, 1)
		e.Add(hash)
		estimates(t, e, hash, 1)
		counts(t, e, 0, 1)
	}
}

// P14.1: no key came, and all is aged behind the counters, brought between 1 and 4096.
func TestNew(t *testing.T) {
	for _, c := range []struct{ counters, limit int }{
		{math.MinInt, 1}, {math.MinInt + 1, 1}, {-1 << 32, 1}, {-4096, 1}, {-2, 1}, {-1, 1}, {0, 1}, {1, 1}, {2, 2}, {3, 3}, {4, 4}, {5, 5}, {7, 7}, {8, 8}, {9, 9}, {100, 100}, {1000, 1000}, {2049, 2049}, {4095, 4095}, {4096, 4096},
		{4097, 4096}, {8192, 4096}, {1 << 32, 4096}, {1<<32 + 1, 4096}, {1 << 62, 4096}, {math.MaxInt - 1, 4096}, {math.MaxInt, 4096},
	} {
		e := New(c.counters)
		counts(t, e, 0, 0)
		for _, hash := range hashes {
			estimates(t, e, hash, 0)
		}
		for round := range 2 {
			for i := range c.limit {
				if e.Count() != i {
					t.Fatalf("%d counters: count %d in round %d, want %d", c.counters, e.Count(), round, i)
				}
				e.Add(uint64(i))
			}
			counts(t, e, 0, 0)
		}
	}
}

// P14.1: with one counter each key that comes ages all, so nothing is ever known.
func TestOneCounter(t *testing.T) {
	for _, counters := range []int{math.MinInt, -1, 0, 1} {
		e := New(counters)
		for i := range 60 {
			e.Add(hashes[i/4%len(hashes)])
			counts(t, e, 0, 0)
			for _, hash := range hashes {
				estimates(t, e, hash, 0)
			}
		}
	}
}

// P14.1: what is known ahead, by hand: a key that comes again and again, step by step.
func TestOneKey(t *testing.T) {
	for _, c := range []struct {
		counters  int
		estimates []int
	}{
		{1, []int{0, 0, 0}},
		{2, []int{1, 0, 1, 0, 1}},
		{3, []int{1, 2, 1, 2, 3, 1, 2, 3, 1}},
		{4, []int{1, 2, 3, 1, 2, 3, 4, 2, 3, 4, 5, 2, 3, 4, 5, 2}},
		{5, []int{1, 2, 3, 4, 2, 3, 4, 5, 6, 3, 4, 5, 6, 7, 3}},
		{16, []int{1, 2, 3, 4, 5, 6, 7, 8, 9, 10, 11, 12, 13, 14, 15, 7, 8, 9, 10, 11, 12, 13, 14, 15, 16, 16, 16, 16, 16, 16, 16, 7, 8}},
		{18, []int{1, 2, 3, 4, 5, 6, 7, 8, 9, 10, 11, 12, 13, 14, 15, 16, 16, 7, 8}},
	} {
		e := New(c.counters)
		for i, want := range c.estimates {
			e.Add(5)
			estimates(t, e, 5, want)
			counts(t, e, (i+1)%c.counters, min(want, 1))
		}
	}
}

// P14.1: one key once, twice, as often as the counters, and once more behind that, at all limits, against the words at each step.
func TestSteps(t *testing.T) {
	for _, limit := range limits {
		e, w := New(limit), said(limit)
		same(t, e, w, hashes...)
		for range 2*limit + 3 {
			e.Add(5)
			w.add(5)
			same(t, e, w, 4, 5, 6)
		}
	}
}

// P14.1: a number of 15 stays 15 as its key comes again: the estimate is 16, and behind the aging 7.
func TestMost(t *testing.T) {
	e := New(4096)
	for i := range 300 {
		estimates(t, e, 5, min(i, 16))
		e.Add(5)
	}
	for i := range 4096 - 300 {
		e.Add(uint64(1000 + i))
	}
	counts(t, e, 0, 1)
	estimates(t, e, 5, 7)
	for i := range 12 {
		estimates(t, e, 5, min(7+i, 16))
		e.Add(5)
	}
}

// P14.1: a number that is 15 behind no aging alone: one that was left by an aging goes up to 15 too, and its estimate is 15 while the key didn't come since.
func TestMostBehindAging(t *testing.T) {
	e := New(40)
	adds(e, 5, 40)
	estimates(t, e, 5, 7)
	adds(e, 5, 9)
	estimates(t, e, 5, 16)
	adds(e, 5, 30)
	estimates(t, e, 5, 16)
	e.Add(6)
	estimates(t, e, 5, 7)
	estimates(t, e, 6, 0)
	counts(t, e, 0, 1)
}

// P14.1: the key that fills the count, new: it came, and behind the aging nothing is known of it.
func TestNewKeyFills(t *testing.T) {
	e := New(3)
	adds(e, 5, 2)
	e.Add(6)
	counts(t, e, 0, 0)
	estimates(t, e, 6, 0)
	estimates(t, e, 5, 0)
	e.Add(6)
	counts(t, e, 1, 1)
	estimates(t, e, 6, 1)
}

// P14.1: the key that fills the count, known: its number is one more, and halved with that, without what is left over.
func TestKnownKeyFills(t *testing.T) {
	for limit, want := range []int{0, 0, 0, 1, 1, 2, 2, 3, 3, 4, 4, 5, 5, 6, 6, 7, 7, 7, 7, 7} {
		if limit == 0 {
			continue
		}
		e := New(limit)
		adds(e, 5, limit)
		estimates(t, e, 5, want)
		counts(t, e, 0, min(want, 1))
	}
}

// P14.1: all keys are aged, not the one alone that fills the count.
func TestAllAreAged(t *testing.T) {
	e := New(40)
	for i := range 39 {
		e.Add(hashes[i%5])
	}
	for i, hash := range hashes[:5] {
		estimates(t, e, hash, []int{8, 8, 8, 8, 7}[i])
	}
	counts(t, e, 39, 5)
	e.Add(99)
	for _, hash := range hashes[:5] {
		estimates(t, e, hash, 3)
	}
	estimates(t, e, 99, 0)
	counts(t, e, 0, 5)
}

// P14.1: a key that came once, or twice, since has a number of 0 behind an aging: its estimate is 0, it isn't counted, and it comes anew.
func TestLeftOut(t *testing.T) {
	for times := 1; times <= 2; times++ {
		e := New(8)
		adds(e, 5, times)
		adds(e, 6, 7-times)
		counts(t, e, 7, 2)
		e.Add(6)
		estimates(t, e, 5, 0)
		counts(t, e, 0, 1)
		e.Add(5)
		estimates(t, e, 5, 1)
		counts(t, e, 1, 2)
		e.Add(5)
		estimates(t, e, 5, 2)
		counts(t, e, 2, 2)
	}
}

// P14.1: a key whose number isn't 0 behind an aging: it is counted, it comes anew, and only as it comes again its number is more.
func TestNumberAlone(t *testing.T) {
	e := New(8)
	adds(e, 5, 8)
	estimates(t, e, 5, 3)
	counts(t, e, 0, 1)
	e.Add(5)
	estimates(t, e, 5, 4)
	counts(t, e, 1, 1)
	for i := range 7 {
		e.Add(uint64(10 + i))
	}
	estimates(t, e, 5, 1)
	counts(t, e, 0, 1)
	for i := range 8 {
		e.Add(uint64(20 + i))
	}
	estimates(t, e, 5, 0)
	counts(t, e, 0, 0)
}

// P14.1: a key that doesn't come falls by half at each aging, till nothing is known of it.
func TestFades(t *testing.T) {
	e := New(50)
	adds(e, 5, 49)
	estimates(t, e, 5, 16)
	e.Add(6)
	for round, want := range []int{7, 3, 1, 0, 0} {
		estimates(t, e, 5, want)
		counts(t, e, 0, min(want, 1))
		for i := range 50 {
			e.Add(uint64(100*round + 10 + i))
		}
	}
}

// P14.1: Len against the estimates of all keys that ever came, at each step, behind several agings.
func TestLen(t *testing.T) {
	for _, limit := range []int{1, 2, 3, 4, 7, 16, 50, 100} {
		r := rand.New(rand.NewSource(int64(limit)))
		e, w := New(limit), said(limit)
		for range 6*limit + 40 {
			hash := uint64(r.Intn(1 + r.Intn(2*limit)))
			e.Add(hash)
			w.add(hash)
			same(t, e, w)
		}
	}
}

// P14.1: keys of which nothing is known aren't kept, however many came: the agings' own halving bounds how many are left.
func TestBounded(t *testing.T) {
	for _, limit := range []int{1, 2, 3, 10, 100} {
		e := New(limit)
		for i := range 100 * limit {
			e.Add(uint64(i / 3))
			if e.keys.Len() != e.Len() || e.Len() > 2*limit {
				t.Fatalf("limit %d: %d keys are kept, and of %d something is known", limit, e.keys.Len(), e.Len())
			}
		}
	}
}

// P14.1: a key that never came has the estimate 0, whatever others came.
func TestNeverCame(t *testing.T) {
	for _, limit := range limits {
		e := New(limit)
		for i := range min(3*limit, 500) {
			for _, hash := range hashes {
				estimates(t, e, hash, 0)
			}
			e.Add(uint64(1<<40 + i%7))
		}
	}
}

// P14.1: a key's estimate rises by 1 as it comes, up to 16, and that of no other key, however many there are.
func TestNoError(t *testing.T) {
	e := New(4096)
	keys := append(slices.Clone(hashes), 4, 5, 6, 8, 254, 256, 1<<31+1, 1<<62)
	for round := range 20 {
		for i, hash := range keys {
			e.Add(hash)
			for j, key := range keys {
				want := min(round, 16)
				if j <= i {
					want = min(round+1, 16)
				}
				estimates(t, e, key, want)
			}
		}
	}
}

// pushes fails if Push of a list tells another thing than Add of each in order, or changes what was handed in.
func pushes(t *testing.T, e *Exact, w *byTheWords, list []uint64) {
	t.Helper()
	kept := slices.Clone(list[:cap(list)])
	e.Push(list)
	for _, hash := range list {
		w.add(hash)
	}
	same(t, e, w, hashes...)
	if !slices.Equal(kept, list[:cap(list)]) {
		t.Fatalf("the list is %v, was %v", list[:cap(list)], kept)
	}
}

// P14.1: Push of no list, an empty one, one of a key, and ones as long as the limit, longer, and much longer, with room behind the end.
func TestPush(t *testing.T) {
	for _, limit := range limits {
		r := rand.New(rand.NewSource(int64(limit)))
		e, w := New(limit), said(limit)
		for _, length := range []int{0, 1, 2, limit - 1, limit, limit + 1, 3*limit + 2} {
			list := make([]uint64, length, length+3)
			for i := range cap(list) {
				list[:cap(list)][i] = hashes[r.Intn(len(hashes))]
			}
			pushes(t, e, w, list)
			pushes(t, e, w, nil)
			pushes(t, e, w, []uint64{})
			pushes(t, e, w, list[:length:length])
		}
	}
}

// P14.1: Push of nothing changes nothing, also where a key more would fill the count.
func TestPushNothing(t *testing.T) {
	for _, limit := range []int{1, 2, 4} {
		e := New(limit)
		adds(e, 5, limit-1)
		for range 3 {
			e.Push(nil)
			e.Push([]uint64{})
			e.Push([]uint64{5}[:0])
		}
		counts(t, e, limit-1, min(limit-1, 1))
		estimates(t, e, 5, limit-1)
	}
}

// P14.1: keys that are pushed come in the list's order.
func TestPushOrder(t *testing.T) {
	e := New(4)
	e.Push([]uint64{5, 5, 5, 6, 6})
	estimates(t, e, 5, 1)
	estimates(t, e, 6, 1)
	counts(t, e, 1, 2)
	e.Clear()
	e.Push([]uint64{6, 6, 5, 5, 5})
	estimates(t, e, 5, 1)
	estimates(t, e, 6, 0)
	counts(t, e, 1, 1)
	e.Clear()
	e.Push([]uint64{5, 6, 5, 6, 6, 5, 5})
	estimates(t, e, 5, 2)
	estimates(t, e, 6, 1)
	counts(t, e, 3, 2)
}

// P14.1: the list isn't kept: what is done to it later isn't seen.
func TestPushKeepsNothing(t *testing.T) {
	e, w := New(100), said(100)
	list := slices.Clone(hashes)
	pushes(t, e, w, list)
	for i := range list {
		list[i] = 77
	}
	same(t, e, w, append(slices.Clone(hashes), 77)...)
	estimates(t, e, 77, 0)
}

// P14.1: Clear ahead of and behind agings: all is as New has it, and goes on as from there.
func TestClear(t *testing.T) {
	for _, limit := range limits {
		for _, times := range []int{0, 1, 2, limit - 1, limit, limit + 1, 2*limit + 3} {
			e, w := New(limit), said(limit)
			for i := range times {
				e.Add(hashes[i%3])
			}
			e.Clear()
			counts(t, e, 0, 0)
			same(t, e, w, hashes...)
			for i := range min(limit+2, 40) {
				e.Add(hashes[i%4])
				w.add(hashes[i%4])
				same(t, e, w, hashes...)
			}
			e.Clear()
			e.Clear()
			w.clear()
			same(t, e, w, hashes...)
		}
	}
}

// P14.1: keys that came often are forgotten by Clear, not halved, and it ages behind as many keys as before.
func TestClearForgets(t *testing.T) {
	e := New(30)
	adds(e, 5, 29)
	estimates(t, e, 5, 16)
	e.Clear()
	estimates(t, e, 5, 0)
	counts(t, e, 0, 0)
	e.Add(5)
	estimates(t, e, 5, 1)
	counts(t, e, 1, 1)
	adds(e, 6, 28)
	counts(t, e, 29, 2)
	e.Add(6)
	counts(t, e, 0, 1)
}

// P14.1: many steps mixed, against the words at each step.
func TestMixedSteps(t *testing.T) {
	for _, limit := range []int{1, 2, 3, 4, 7, 16, 50, 100} {
		for source := range int64(10) {
			r := rand.New(rand.NewSource(source))
			keys := slices.Clone(hashes)
			for range limit {
				keys = append(keys, r.Uint64())
			}
			e, w := New(limit), said(limit)
			for range 300 {
				mixedStep(r, e, w, keys)
				same(t, e, w, keys...)
			}
		}
	}
}

// mixedStep does one thing to both, mostly an Add.
func mixedStep(r *rand.Rand, e *Exact, w *byTheWords, keys []uint64) {
	switch r.Intn(60) {
	case 0:
		e.Clear()
		w.clear()
	case 1, 2, 3:
		list := make([]uint64, r.Intn(8))
		for i := range list {
			list[i] = keys[r.Intn(len(keys))]
			w.add(list[i])
		}
		e.Push(list)
	default:
		hash := keys[r.Intn(1+r.Intn(len(keys)))]
		e.Add(hash)
		w.add(hash)
	}
}

// P14.1: what is done to one exact isn't seen in another one.
func TestTwoExacts(t *testing.T) {
	a, b := New(4), New(4)
	adds(a, 5, 6)
	counts(t, b, 0, 0)
	estimates(t, b, 5, 0)
	adds(b, 5, 3)
	estimates(t, a, 5, 3)
	counts(t, a, 2, 1)
	a.Clear()
	estimates(t, b, 5, 3)
	counts(t, b, 3, 1)
	b.Add(6)
	counts(t, a, 0, 0)
	counts(t, b, 0, 1)
}

// P14.1: asking changes nothing.
func TestAskingChangesNothing(t *testing.T) {
	e, w := New(8), said(8)
	for i := range 13 {
		e.Add(hashes[i%3])
		w.add(hashes[i%3])
	}
	for range 3 {
		for _, hash := range append(slices.Clone(hashes), 99) {
			e.Estimate(hash)
			e.Count()
			e.Len()
		}
		same(t, e, w, hashes...)
	}
}

// P14.1: a nil exact tells 0, and does nothing.
func TestNil(t *testing.T) {
	var e *Exact
	for _, hash := range hashes {
		e.Add(hash)
		e.Push(nil)
		e.Push([]uint64{})
		e.Push([]uint64{hash, hash})
		e.Clear()
		estimates(t, e, hash, 0)
	}
	counts(t, e, 0, 0)
}

// apartByTheWords tells whether the keys are apart, asked key by key as the chapter's words say it.
func apartByTheWords(x *tiny.Tiny, keys []uint64) bool {
	for _, hash := range keys {
		others := slices.DeleteFunc(slices.Clone(keys), func(other uint64) bool { return other == hash })
		if !aloneInARow(x, hash, others) || !aloneInTheDoor(x, hash, others) {
			return false
		}
	}
	return true
}

// aloneInARow tells whether the key has, in some row, a place where none of the others stands.
func aloneInARow(x *tiny.Tiny, hash uint64, others []uint64) bool {
	for row := range 4 {
		place := x.Sketch().Place(hash, row)
		if !slices.ContainsFunc(others, func(other uint64) bool { return x.Sketch().Place(other, row) == place }) {
			return true
		}
	}
	return false
}

// aloneInTheDoor tells whether the key has, among its places in the door, one that is none of the others'.
func aloneInTheDoor(x *tiny.Tiny, hash uint64, others []uint64) bool {
	for _, place := range x.Door().Places(hash) {
		has := func(other uint64) bool {
			places := x.Door().Places(other)
			return slices.Contains(places[:], place)
		}
		if !slices.ContainsFunc(others, has) {
			return true
		}
	}
	return false
}

// aparts fails if the keys, in whatever order, are told to be anything else than this, or the words tell another thing.
func aparts(t *testing.T, x *tiny.Tiny, want bool, keys ...uint64) {
	t.Helper()
	if got := apartByTheWords(x, keys); got != want {
		t.Fatalf("%v: apart by the words: %v, want %v", keys, got, want)
	}
	turned := slices.Clone(keys)
	slices.Reverse(turned)
	for _, list := range [][]uint64{keys, turned, append(turned, keys...)} {
		if got := Apart(x, list); got != want {
			t.Fatalf("%v: apart: %v, want %v", list, got, want)
		}
	}
}

// rows tells in which of the sketch's rows both keys have one place.
func rows(x *tiny.Tiny, a, b uint64) [4]bool {
	var shared [4]bool
	for row := range shared {
		shared[row] = x.Sketch().Place(a, row) == x.Sketch().Place(b, row)
	}
	return shared
}

// doors tells which of the first key's places in the door are also the other one's.
func doors(x *tiny.Tiny, a, b uint64) [4]bool {
	var shared [4]bool
	places := x.Door().Places(b)
	for i, place := range x.Door().Places(a) {
		shared[i] = slices.Contains(places[:], place)
	}
	return shared
}

var (
	none   = [4]bool{}
	all    = [4]bool{true, true, true, true}
	lower  = [4]bool{true, true, false, false}
	higher = [4]bool{false, false, true, true}
)

// other finds another key, of which this holds.
func other(t *testing.T, hash uint64, holds func(other uint64) bool) uint64 {
	t.Helper()
	for key := range uint64(1 << 23) {
		if key != hash && holds(key) {
			return key
		}
	}
	t.Fatalf("no other key than %#x is such a one", hash)
	return 0
}

// sharing finds another key that shares just these places with the key: in the sketch, row by row, and of the key's in the door.
func sharing(t *testing.T, x *tiny.Tiny, hash uint64, inRows, inDoor [4]bool) uint64 {
	t.Helper()
	return other(t, hash, func(key uint64) bool { return rows(x, hash, key) == inRows && doors(x, hash, key) == inDoor })
}

// P14.2: no key, one key, and one key several times are apart, also where there is just one place.
func TestApartFew(t *testing.T) {
	for _, limit := range limits {
		for _, seed := range seeds {
			x := tiny.New(limit, seed)
			if !Apart(x, nil) {
				t.Fatal("no list")
			}
			aparts(t, x, true)
			for _, hash := range hashes {
				aparts(t, x, true, hash)
				aparts(t, x, true, hash, hash)
				aparts(t, x, true, hash, hash, hash, hash, hash)
			}
		}
	}
}

// P14.2: keys that share their places in each row of the sketch aren't apart, though the door has them apart.
func TestApartSketchShared(t *testing.T) {
	x := tiny.New(4, 7)
	b := sharing(t, x, 5, all, none)
	aparts(t, x, false, 5, b)
	aparts(t, x, false, 5, b, 5)
	aparts(t, x, false, b, 5, b)
}

// P14.2: keys that share all their places in the door aren't apart, though the sketch has them apart.
func TestApartDoorShared(t *testing.T) {
	x := tiny.New(4, 7)
	b := sharing(t, x, 5, none, all)
	aparts(t, x, false, 5, b)
	aparts(t, x, false, b, b, 5)
}

// P14.2: keys that share all places are apart in neither, and keys that share none in both.
func TestApartBothOrNone(t *testing.T) {
	x := tiny.New(4, 7)
	aparts(t, x, false, 5, sharing(t, x, 5, all, all))
	aparts(t, x, true, 5, sharing(t, x, 5, none, none))
}

// P14.2: one row in which a key stands alone is enough, whichever it is.
func TestApartByOneRow(t *testing.T) {
	x := tiny.New(4, 7)
	for row := range 4 {
		butOne := all
		butOne[row] = false
		aparts(t, x, true, 5, sharing(t, x, 5, butOne, none))
		aparts(t, x, false, 5, sharing(t, x, 5, butOne, all))
	}
}

// P14.2: one place in the door that a key has alone is enough, whichever it is.
func TestApartByOneOfTheDoor(t *testing.T) {
	x := tiny.New(16, 7)
	var sharers [4]uint64 // each has just one of the places
	for i := range sharers {
		var one [4]bool
		one[i] = true
		sharers[i] = sharing(t, x, 5, none, one)
		aparts(t, x, true, 5, sharers[i])
	}
	for i := range sharers {
		aparts(t, x, true, append(slices.Delete(slices.Clone(sharers[:]), i, i+1), 5)...)
	}
	aparts(t, x, false, append(sharers[:], 5)...)
}

// P14.2: a key that is apart from each of two others, but whose places in the sketch are shared between them, isn't apart from both.
func TestApartSketchSharedBetween(t *testing.T) {
	x := tiny.New(8, 7)
	b, c := sharing(t, x, 5, lower, none), sharing(t, x, 5, higher, none)
	aparts(t, x, true, 5, b)
	aparts(t, x, true, 5, c)
	aparts(t, x, true, b, c)
	aparts(t, x, false, 5, b, c)
	aparts(t, x, false, b, 5, c)
}

// P14.2: a key that is apart from each of two others, but whose places in the door are shared between them, isn't apart from both.
func TestApartDoorSharedBetween(t *testing.T) {
	x := tiny.New(8, 7)
	b, c := sharing(t, x, 5, none, lower), sharing(t, x, 5, none, higher)
	aparts(t, x, true, 5, b)
	aparts(t, x, true, 5, c)
	aparts(t, x, false, 5, b, c)
	aparts(t, x, false, b, 5, c)
}

// P14.2: a place in one row is another one than the same place in another row.
func TestApartRowsAreUnlike(t *testing.T) {
	x := tiny.New(8, 7)
	s := x.Sketch()
	moved := func(a, b uint64) bool { // in each row b has the place that a has in the next one
		for row := range 4 {
			if s.Place(b, row) != s.Place(a, (row+1)%4) {
				return false
			}
		}
		return true
	}
	a := other(t, 5, func(key uint64) bool {
		for row := range 4 {
			if s.Place(key, row) == s.Place(key, (row+1)%4) {
				return false
			}
		}
		return true
	})
	b := other(t, a, func(key uint64) bool { return moved(a, key) && doors(x, a, key) == none })
	aparts(t, x, true, a, b)
}

// P14.2: with one counter the sketch has no place for two keys, whatever the door has.
func TestApartOneCounter(t *testing.T) {
	for _, counters := range []int{math.MinInt, 0, 1} {
		for _, seed := range seeds {
			x := tiny.New(counters, seed)
			for _, a := range hashes {
				for _, b := range hashes {
					aparts(t, x, a == b, a, b)
				}
			}
			aparts(t, x, false, 5, sharing(t, x, 5, all, none))
		}
	}
}

// P14.2: of a nil tiny keys are apart only if they are alike.
func TestApartNil(t *testing.T) {
	var x *tiny.Tiny
	for _, c := range []struct {
		keys []uint64
		want bool
	}{
		{nil, true}, {[]uint64{}, true}, {[]uint64{0}, true}, {[]uint64{5}, true}, {[]uint64{5, 5}, true}, {[]uint64{0, 0, 0}, true},
		{[]uint64{math.MaxUint64, math.MaxUint64, math.MaxUint64}, true},
		{[]uint64{5, 6}, false}, {[]uint64{0, 1}, false}, {[]uint64{1, 0}, false}, {[]uint64{5, 5, 6}, false}, {[]uint64{6, 5, 5}, false}, {[]uint64{5, 6, 5}, false}, {[]uint64{1, 2, 3, 4}, false},
	} {
		if got := Apart(x, c.keys); got != c.want {
			t.Errorf("%v: apart: %v, want %v", c.keys, got, c.want)
		}
	}
}

// P14.2: many lists of mixed keys, some several times, against the words.
func TestApartMixed(t *testing.T) {
	told := map[bool]int{}
	for _, limit := range limits {
		for _, seed := range seeds {
			r := rand.New(rand.NewSource(int64(limit) + int64(seed)))
			x := tiny.New(limit, seed)
			for range 60 {
				list := make([]uint64, r.Intn(2+r.Intn(12)))
				for i := range list {
					list[i] = r.Uint64() >> r.Intn(64)
					if i > 0 && r.Intn(5) == 0 {
						list[i] = list[r.Intn(i)]
					}
				}
				want := apartByTheWords(x, list)
				aparts(t, x, want, list...)
				told[want]++
			}
		}
	}
	if told[true] < 1000 || told[false] < 1000 {
		t.Errorf("%d lists were apart, and %d not", told[true], told[false])
	}
}

// P14.2: keys that are apart stay so with some of them left out.
func TestApartParts(t *testing.T) {
	x := tiny.New(100, 7)
	for _, key := range grown(x, 40) {
		list := slices.DeleteFunc(grown(x, 40), func(other uint64) bool { return other == key })
		aparts(t, x, true, list...)
	}
}

// P14.2: more keys than there are places can't be apart, and are told soon.
func TestApartMany(t *testing.T) {
	x := tiny.New(4096, 7)
	list := make([]uint64, 200000)
	for i := range list {
		list[i] = uint64(i)
	}
	if Apart(x, list) {
		t.Error("200000 keys are apart")
	}
	for i := range list {
		list[i] = uint64(i % 9)
	}
	if !Apart(x, list) {
		t.Error("nine keys, again and again, aren't apart")
	}
}

// P14.2: Apart hangs on the places alone, not on what came; it changes neither the tiny nor the list.
func TestApartChangesNothing(t *testing.T) {
	x, y := tiny.New(8, 7), tiny.New(8, 7)
	apart := sharing(t, x, 5, none, none)
	taken := sharing(t, x, 5, all, all)
	list := []uint64{5, taken, 5, apart, 8, 9}
	kept := slices.Clone(list)
	for range 30 {
		x.Add(5)
		y.Add(5)
		if Apart(x, list[:3]) || !Apart(x, []uint64{5, apart}) {
			t.Fatal("apart hangs on what came")
		}
		Apart(x, list)
		if !slices.Equal(list, kept) {
			t.Fatalf("the list is %v, was %v", list, kept)
		}
		if x.Count() != y.Count() || x.Aged() != y.Aged() || x.Limit() != y.Limit() || x.Sketch().Full() != y.Sketch().Full() || x.Door().Full() != y.Door().Full() {
			t.Fatal("the tiny is another one")
		}
		for _, hash := range kept {
			if x.Estimate(hash) != y.Estimate(hash) || x.Sketch().Count(hash) != y.Sketch().Count(hash) || x.Door().Has(hash) != y.Door().Has(hash) {
				t.Fatalf("the tiny knows another thing of %#x", hash)
			}
		}
	}
}

// grown answers so many keys that are apart, or fewer if no more are found.
func grown(x *tiny.Tiny, count int) []uint64 {
	var list []uint64
	for key := range uint64(2000) {
		if len(list) == count {
			break
		}
		if with := append(slices.Clone(list), key*0x9e3779b97f4a7c15); apartByTheWords(x, with) {
			list = with
		}
	}
	return list
}

// alike does one thing to a tiny and an exact, mostly an Add.
func alike(r *rand.Rand, x *tiny.Tiny, e *Exact, keys []uint64) {
	if len(keys) == 0 {
		return
	}
	switch r.Intn(100) {
	case 0:
		x.Clear()
		e.Clear()
	case 1, 2, 3:
		list := make([]uint64, r.Intn(8))
		for i := range list {
			list[i] = keys[r.Intn(len(keys))]
		}
		x.Push(list)
		e.Push(list)
	default:
		hash := keys[r.Intn(1+r.Intn(len(keys)))]
		x.Add(hash)
		e.Add(hash)
	}
}

// P14.3: to whatever keys come alike, no estimate of the tiny is below the exact's, also of keys that never came; and the counts are the same.
func TestNeverBelow(t *testing.T) {
	above := 0
	for _, limit := range []int{1, 2, 3, 4, 5, 7, 8, 9, 16, 17, 33, 100} {
		for _, seed := range seeds {
			r := rand.New(rand.NewSource(int64(limit) + int64(seed)))
			var keys []uint64
			for range 3 + limit {
				keys = append(keys, r.Uint64()>>r.Intn(64))
			}
			x, e := tiny.New(limit, seed), New(limit)
			for range 400 {
				alike(r, x, e, keys)
				if x.Count() != e.Count() {
					t.Fatalf("limit %d: the tiny's count is %d, the exact's %d", limit, x.Count(), e.Count())
				}
				for _, hash := range append(keys, hashes...) {
					if x.Estimate(hash) < e.Estimate(hash) {
						t.Fatalf("limit %d: %#x has the estimate %d, without an error %d", limit, hash, x.Estimate(hash), e.Estimate(hash))
					}
					if x.Estimate(hash) > e.Estimate(hash) {
						above++
					}
				}
			}
		}
	}
	if above == 0 {
		t.Error("no estimate of a tiny had an error, so nothing was tried")
	}
}

// P14.3: where keys are apart, the tiny's estimates are the exact's, also of keys that didn't come but are apart with them, behind several agings.
func TestSameWhereApart(t *testing.T) {
	for _, limit := range []int{1, 2, 3, 4, 5, 7, 8, 9, 16, 17, 33, 100, 500} {
		for _, seed := range seeds {
			r := rand.New(rand.NewSource(int64(limit) + int64(seed)))
			x, e := tiny.New(limit, seed), New(limit)
			keys := grown(x, 30)
			if !Apart(x, keys) || limit > 7 && len(keys) < 3 {
				t.Fatalf("limit %d: %d keys, apart: %v", limit, len(keys), Apart(x, keys))
			}
			for range 700 {
				alike(r, x, e, keys[:(len(keys)+1)/2])
				for _, hash := range keys {
					if x.Estimate(hash) != e.Estimate(hash) {
						t.Fatalf("limit %d: %#x has the estimate %d, without an error %d", limit, hash, x.Estimate(hash), e.Estimate(hash))
					}
				}
			}
		}
	}
}

// P14.3: a key that isn't apart from those that came may be taken for one of them: the tiny's estimate of it is above the exact's.
func TestTakenForAnother(t *testing.T) {
	x, e := tiny.New(4, 7), New(4)
	taken := sharing(t, x, 5, all, all)
	list := []uint64{5, 5, 5}
	x.Push(list)
	e.Push(list)
	if Apart(x, []uint64{5, taken}) || x.Estimate(taken) != 3 {
		t.Fatalf("apart: %v, estimate %d", Apart(x, []uint64{5, taken}), x.Estimate(taken))
	}
	estimates(t, e, taken, 0)
	estimates(t, e, 5, 3)
}
