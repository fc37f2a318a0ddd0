package sketch

import (
	"math"
	"math/big"
	"math/rand"
	"slices"
	"testing"

	"cortado/mix"
)

// The rows that no sketch has.
var nowhere = []int{math.MinInt, math.MinInt + 1, -1 << 32, -4, -2, -1, 4, 5, 8, 1 << 32, 1<<32 + 1, math.MaxInt - 1, math.MaxInt}

// Seeds, some at which seed, row and 1 together run over 2^64 in some rows, or in all.
var seeds = []uint64{0, 1, 2, 7, 1 << 32, 1 << 63, 0x9e3779b97f4a7c15, math.MaxUint64 - 5, math.MaxUint64 - 4, math.MaxUint64 - 3, math.MaxUint64 - 2, math.MaxUint64 - 1, math.MaxUint64}

var hashes = []uint64{0, 1, 2, 3, 7, 255, 1 << 31, 1 << 32, 1 << 63, 1<<63 - 1, 0xbf58476d1ce4e5b9, math.MaxUint64 - 1, math.MaxUint64}

// saidPlace is a place as the chapter's words tell it, by numbers that never run over.
func saidPlace(hash, seed uint64, row, width int) int {
	together := new(big.Int).SetUint64(seed)
	together.Add(together, big.NewInt(int64(row)))
	together.Add(together, big.NewInt(1))
	together.Mod(together, new(big.Int).Lsh(big.NewInt(1), 64))
	ones := mix.Mix(together.Uint64())
	for i := range 64 {
		if ones>>i%2 == 1 {
			if hash>>i%2 == 1 {
				hash -= 1 << i
			} else {
				hash += 1 << i
			}
		}
	}
	mixed := new(big.Int).SetUint64(mix.Mix(hash))
	return int(mixed.Mod(mixed, big.NewInt(int64(width))).Int64())
}

// byTheWords is a sketch as the chapter's words tell it: four plain lists of numbers.
type byTheWords struct {
	rows [4][]int
	seed uint64
}

func said(width int, seed uint64) *byTheWords {
	w := &byTheWords{seed: seed}
	for row := range w.rows {
		w.rows[row] = make([]int, width)
	}
	return w
}

// at is the counter at a key's place in a row.
func (w *byTheWords) at(hash uint64, row int) *int {
	list := w.rows[row]
	return &list[saidPlace(hash, w.seed, row, len(list))]
}

func (w *byTheWords) add(hash uint64) {
	for row := range w.rows {
		if c := w.at(hash, row); *c < 15 {
			*c++
		}
	}
}

func (w *byTheWords) count(hash uint64) int {
	return min(*w.at(hash, 0), *w.at(hash, 1), *w.at(hash, 2), *w.at(hash, 3))
}

func (w *byTheWords) halve() {
	for _, list := range w.rows {
		for i, c := range list {
			list[i] = (c - c%2) / 2
		}
	}
}

func (w *byTheWords) clear() {
	for row, list := range w.rows {
		w.rows[row] = make([]int, len(list))
	}
}

func (w *byTheWords) full() int {
	full := 0
	for _, list := range w.rows {
		for _, c := range list {
			if c > 0 {
				full++
			}
		}
	}
	return full
}

// alike fails if the sketch tells anything else of these keys, or keeps anything else, than the words do.
func alike(t *testing.T, s *Sketch, w *byTheWords, keys ...uint64) {
	t.Helper()
	if s.Width() != len(w.rows[0]) {
		t.Fatalf("width %d, want %d", s.Width(), len(w.rows[0]))
	}
	if s.Full() != w.full() {
		t.Fatalf("%d counters aren't 0, want %d", s.Full(), w.full())
	}
	for _, hash := range keys {
		if s.Count(hash) != w.count(hash) {
			t.Fatalf("%d of %#x, want %d", s.Count(hash), hash, w.count(hash))
		}
	}
	for row, list := range w.rows {
		for i, c := range list {
			if got := s.rows[row].Get(i); got != c {
				t.Fatalf("row %d has %d at %d, want %d", row, got, i, c)
			}
		}
	}
}

// shares tells how many rows have one place for both keys.
func shares(s *Sketch, a, b uint64) int {
	shared := 0
	for row := range 4 {
		if s.Place(a, row) == s.Place(b, row) {
			shared++
		}
	}
	return shared
}

// sharing finds another key that has one place with it in so many rows.
func sharing(t *testing.T, s *Sketch, hash uint64, rows int) uint64 {
	t.Helper()
	for other := range uint64(1 << 20) {
		if other != hash && shares(s, hash, other) == rows {
			return other
		}
	}
	t.Fatalf("no key shares %d rows with %#x", rows, hash)
	return 0
}

// addTimes adds a key again and again.
func addTimes(s *Sketch, hash uint64, times int) {
	for range times {
		s.Add(hash)
	}
}

// counts fails if a key's count is another one.
func counts(t *testing.T, s *Sketch, hash uint64, want int) {
	t.Helper()
	if got := s.Count(hash); got != want {
		t.Fatalf("%d of %#x, want %d", got, hash, want)
	}
}

// fulls fails if another number of counters aren't 0.
func fulls(t *testing.T, s *Sketch, want int) {
	t.Helper()
	if got := s.Full(); got != want {
		t.Fatalf("%d counters aren't 0, want %d", got, want)
	}
}

// P11.1, P11.2, example 1: at width 1 all keys have one place, and so one count.
func TestExample(t *testing.T) {
	for _, seed := range seeds {
		s := New(1, seed)
		for i, hash := range hashes {
			s.Add(hash)
			for _, other := range hashes {
				counts(t, s, other, min(i+1, 15))
			}
			fulls(t, s, 4)
		}
	}
}

// P11.1: the width is the least power of 2 that is at least the number of counters, brought between 1 and 4096; all counters are 0.
func TestNew(t *testing.T) {
	for _, c := range []struct{ counters, want int }{
		{math.MinInt, 1}, {math.MinInt + 1, 1}, {-1 << 32, 1}, {-4096, 1}, {-2, 1}, {-1, 1}, {0, 1}, {1, 1}, {2, 2}, {3, 4}, {4, 4}, {5, 8}, {7, 8}, {8, 8}, {9, 16}, {15, 16}, {16, 16}, {17, 32},
		{100, 128}, {127, 128}, {128, 128}, {129, 256}, {1000, 1024}, {2047, 2048}, {2048, 2048}, {2049, 4096}, {4095, 4096}, {4096, 4096}, {4097, 4096}, {8191, 4096}, {8192, 4096}, {65536, 4096}, {65537, 4096},
		{1 << 30, 4096}, {1 << 32, 4096}, {1<<32 + 1, 4096}, {1 << 62, 4096}, {1<<62 + 1, 4096}, {math.MaxInt - 1, 4096}, {math.MaxInt, 4096},
	} {
		for _, seed := range []uint64{0, 7, math.MaxUint64} {
			alike(t, New(c.counters, seed), said(c.want, seed), hashes...)
		}
	}
}

// P11.1: places, at each width, against the words.
func TestPlace(t *testing.T) {
	for width := 1; width <= 4096; width *= 2 {
		for _, seed := range seeds {
			s := New(width, seed)
			for _, hash := range hashes {
				for row := range 4 {
					if got, want := s.Place(hash, row), saidPlace(hash, seed, row, width); got != want {
						t.Fatalf("width %d, seed %#x: %#x is at %d in row %d, want %d", width, seed, hash, got, row, want)
					}
				}
			}
		}
	}
}

// P11.1: places that are known ahead. Of 0 the Mix is 0: it turns nothing, and what is turned to it is at 0.
func TestPlaceOfNothingTurned(t *testing.T) {
	for row := range 4 {
		s := New(4096, math.MaxUint64-uint64(row))
		if got := s.Place(0, row); got != 0 {
			t.Errorf("row %d: 0 is at %d", row, got)
		}
		for _, hash := range hashes {
			if got, want := s.Place(hash, row), int(mix.Mix(hash)%4096); got != want {
				t.Errorf("row %d: %#x is at %d, want %d", row, hash, got, want)
			}
		}
		for _, seed := range seeds {
			if got := New(4096, seed).Place(mix.Mix(seed+uint64(row)+1), row); got != 0 {
				t.Errorf("row %d, seed %#x: at %d, want 0", row, seed, got)
			}
		}
	}
}

// P11.1: each place of the greatest width is the place of some key, in each row.
func TestEachPlace(t *testing.T) {
	for _, seed := range seeds {
		s := New(4096, seed)
		for row := range 4 {
			for place := range 4096 {
				hash := mix.Unmix(uint64(place)+1<<63) ^ mix.Mix(seed+uint64(row)+1)
				if got := s.Place(hash, row); got != place {
					t.Fatalf("row %d, seed %#x: at %d, want %d", row, seed, got, place)
				}
			}
		}
	}
}

// P11.1: 0 of a row that isn't there.
func TestPlaceNowhere(t *testing.T) {
	for _, width := range []int{1, 2, 64, 4096} {
		for _, seed := range seeds {
			s := New(width, seed)
			for _, hash := range hashes {
				for _, row := range nowhere {
					if got := s.Place(hash, row); got != 0 {
						t.Fatalf("width %d, seed %#x: %#x is at %d in row %d", width, seed, hash, got, row)
					}
				}
			}
		}
	}
}

// P11.1: what came has no part in places and width.
func TestPlaceStays(t *testing.T) {
	s := New(64, 7)
	for range 20 {
		for _, hash := range hashes {
			s.Add(hash)
		}
	}
	for row := range 4 {
		for _, hash := range hashes {
			if got, want := s.Place(hash, row), saidPlace(hash, 7, row, 64); got != want {
				t.Errorf("%#x is at %d in row %d, want %d", hash, got, row, want)
			}
		}
	}
	s.Halve()
	s.Clear()
	if s.Width() != 64 {
		t.Errorf("width %d", s.Width())
	}
}

// P11.2, P11.3: one key alone is counted up to 15, and no further.
func TestAddOneKey(t *testing.T) {
	for _, width := range []int{1, 2, 3, 64, 4096} {
		for _, hash := range hashes {
			s, w := New(width, 7), said(New(width, 7).Width(), 7)
			for i := range 40 {
				counts(t, s, hash, min(i, 15))
				s.Add(hash)
				w.add(hash)
				fulls(t, s, 4)
			}
			alike(t, s, w, hashes...)
		}
	}
}

// P11.2: a key that never came has 0, unless others stand at each of its places.
func TestCountOfNone(t *testing.T) {
	s := New(16, 7)
	const hash = 5
	for _, other := range hashes {
		counts(t, s, other, 0)
	}
	for rows := range 4 { // so at least one row has 0 at its place
		s.Clear()
		addTimes(s, sharing(t, s, hash, rows), 20)
		counts(t, s, hash, 0)
	}
	s.Clear()
	other := sharing(t, s, hash, 4)
	addTimes(s, other, 3)
	counts(t, s, hash, 3)
	addTimes(s, other, 20)
	counts(t, s, hash, 15)
}

// P11.2: of the counters at a key's places the least one is told, whichever row it stands in.
func TestCountIsLeast(t *testing.T) {
	s := New(16, 7)
	const hash = 5
	for row := range 4 {
		s.Clear()
		s.Add(hash)
		for other := range uint64(1 << 12) { // those that share other rows alone make all rows but one more
			if shares(s, hash, other) > 0 && s.Place(hash, row) != s.Place(other, row) {
				s.Add(other)
			}
		}
		counts(t, s, hash, 1)
		for other := range 4 {
			if got := s.rows[other].Get(s.Place(hash, other)); (got == 1) != (other == row) {
				t.Errorf("row %d has %d, where row %d is the least", other, got, row)
			}
		}
	}
}

// P11.2: keys that share some rows have each its own count, those that share all rows have one together.
func TestCountOfShared(t *testing.T) {
	const hash = 5
	for rows := range 4 {
		s := New(16, 7)
		other := sharing(t, s, hash, rows)
		addTimes(s, hash, 2)
		addTimes(s, other, 7)
		counts(t, s, hash, 2)
		counts(t, s, other, 7)
		fulls(t, s, 8-rows)
	}
	s := New(16, 7)
	other := sharing(t, s, hash, 4)
	addTimes(s, hash, 2)
	addTimes(s, other, 7)
	counts(t, s, hash, 9)
	counts(t, s, other, 9)
	fulls(t, s, 4)
	addTimes(s, hash, 20)
	counts(t, s, other, 15)
}

// P11.2, P11.3: even and odd counts are halved, again and again, down to 0.
func TestHalve(t *testing.T) {
	for _, width := range []int{1, 2, 64, 4096} {
		for times := range 20 {
			s := New(width, 7)
			addTimes(s, 5, times)
			for want := min(times, 15); want > 0; want /= 2 {
				counts(t, s, 5, want)
				fulls(t, s, 4)
				s.Halve()
			}
			counts(t, s, 5, 0)
			fulls(t, s, 0)
			s.Halve()
			fulls(t, s, 0)
			addTimes(s, 5, 3)
			counts(t, s, 5, 3)
		}
	}
}

// P11.2: all counters of all rows are halved.
func TestHalveAll(t *testing.T) {
	for _, width := range []int{1, 2, 64, 4096} {
		s, w := filled(width, 7)
		for range 6 {
			s.Halve()
			w.halve()
			alike(t, s, w, hashes...)
		}
		fulls(t, s, 0)
	}
}

// P11.2: all counters of all rows are cleared, and keys come anew.
func TestClear(t *testing.T) {
	for _, width := range []int{1, 2, 64, 4096} {
		s, w := filled(width, 7)
		for range 2 {
			s.Clear()
			w.clear()
			alike(t, s, w, hashes...)
			fulls(t, s, 0)
		}
		for _, hash := range hashes {
			s.Add(hash)
			w.add(hash)
			alike(t, s, w, hashes...)
		}
	}
}

// filled is a sketch whose counters are of all sizes, and the words of it.
func filled(width int, seed uint64) (*Sketch, *byTheWords) {
	s, w := New(width, seed), said(width, seed)
	for hash := range uint64(6 * width) {
		s.Add(hash)
		w.add(hash)
	}
	return s, w
}

// P11.2: counters that aren't 0, of all rows.
func TestFull(t *testing.T) {
	s := New(64, 7)
	fulls(t, s, 0)
	s.Add(5)
	fulls(t, s, 4)
	s.Add(5)
	fulls(t, s, 4)
	s.Add(sharing(t, s, 5, 0))
	fulls(t, s, 8)
	s.Halve() // the one that came twice is left
	fulls(t, s, 4)
	s.Halve()
	fulls(t, s, 0)
	for hash := range uint64(64 * 64) {
		s.Add(hash)
	}
	fulls(t, s, 4*64)
	s.Clear()
	fulls(t, s, 0)
	s.Add(5)
	fulls(t, s, 4)
}

// P11.1, P11.2: many steps mixed, against four plain lists of numbers at each step.
func TestMixedSteps(t *testing.T) {
	for _, width := range []int{1, 2, 4, 16, 64, 256} {
		for _, seed := range seeds {
			r := rand.New(rand.NewSource(int64(width)))
			keys := slices.Clone(hashes)
			for range 2 * width {
				keys = append(keys, r.Uint64())
			}
			s, w := New(width, seed), said(width, seed)
			for range 200 {
				switch pick := r.Intn(40); {
				case pick == 0:
					s.Clear()
					w.clear()
				case pick < 4:
					s.Halve()
					w.halve()
				default:
					hash := keys[r.Intn(len(keys))]
					for range r.Intn(8) {
						s.Add(hash)
						w.add(hash)
					}
				}
				alike(t, s, w, keys[:min(len(keys), 20)]...)
			}
		}
	}
}

// P11.3: no count is below how often the key came since all was 0, up to 15.
func TestNeverBelow(t *testing.T) {
	for width := 1; width <= 4096; width *= 4 {
		r := rand.New(rand.NewSource(int64(width)))
		s, came := New(width, r.Uint64()), map[uint64]int{}
		for step := range 3000 {
			hash := uint64(r.Intn(100)) * uint64(r.Intn(5))
			s.Add(hash)
			came[hash]++
			if step%1000 == 700 {
				s.Clear()
				clear(came)
			}
			for key := range came {
				if got, want := s.Count(key), min(came[key], 15); got < want {
					t.Fatalf("width %d: %d of %#x, which came %d times", width, got, key, came[key])
				}
			}
		}
	}
}

// alone tells whether some row has a place for the key at which no other one of these is.
func alone(s *Sketch, hash uint64, keys []uint64) bool {
	for row := range 4 {
		if !slices.ContainsFunc(keys, func(other uint64) bool {
			return other != hash && s.Place(other, row) == s.Place(hash, row)
		}) {
			return true
		}
	}
	return false
}

// P11.3: a key with a place of its own in some row has just its own count, with halvings between.
func TestOwnPlace(t *testing.T) {
	for _, seed := range seeds {
		for _, c := range []struct{ width, keys int }{{2, 2}, {16, 12}, {64, 60}, {1024, 300}, {4096, 800}} {
			r := rand.New(rand.NewSource(int64(c.width)))
			s, keys := New(c.width, seed), make([]uint64, c.keys)
			var own []uint64
			for i := range keys {
				keys[i] = r.Uint64()
			}
			for _, hash := range keys {
				if alone(s, hash, keys) {
					own = append(own, hash)
				}
			}
			if len(own) == 0 && c.width > 2 {
				t.Fatalf("width %d: no key has a place of its own", c.width)
			}
			ownCounts(t, r, s, keys, own)
		}
	}
}

// ownCounts lets keys come, and all be halved now and then, and fails if one with a place of its own has another count.
func ownCounts(t *testing.T, r *rand.Rand, s *Sketch, keys, own []uint64) {
	t.Helper()
	came := map[uint64]int{}
	for range 8 {
		for range 6 * len(keys) {
			hash := keys[r.Intn(len(keys))*r.Intn(len(keys))%len(keys)]
			s.Add(hash)
			came[hash] = min(came[hash]+1, 15)
		}
		for _, hash := range own {
			counts(t, s, hash, came[hash])
		}
		for range r.Intn(3) {
			s.Halve()
			for hash := range came {
				came[hash] /= 2
			}
		}
		for _, hash := range own {
			counts(t, s, hash, came[hash])
		}
	}
}

// P11.2: what is done to one sketch isn't seen in another one.
func TestApart(t *testing.T) {
	a, b := New(64, 7), New(64, 7)
	addTimes(a, 5, 3)
	fulls(t, b, 0)
	counts(t, b, 5, 0)
	b.Add(5)
	a.Halve()
	counts(t, a, 5, 1)
	counts(t, b, 5, 1)
	a.Clear()
	counts(t, b, 5, 1)
	fulls(t, b, 4)
}

// P11.2: asking changes nothing.
func TestAskingChangesNothing(t *testing.T) {
	s, w := filled(64, 7)
	for range 20 {
		for _, hash := range hashes {
			s.Count(hash)
			for _, row := range append([]int{0, 1, 2, 3}, nowhere...) {
				s.Place(hash, row)
			}
		}
		s.Width()
		s.Full()
	}
	alike(t, s, w, hashes...)
}

// P11.2: a nil sketch tells 0, and does nothing.
func TestNil(t *testing.T) {
	var s *Sketch
	for _, hash := range hashes {
		s.Add(hash)
		s.Halve()
		s.Clear()
		counts(t, s, hash, 0)
		for _, row := range append([]int{0, 1, 2, 3}, nowhere...) {
			if got := s.Place(hash, row); got != 0 {
				t.Errorf("%#x is at %d in row %d", hash, got, row)
			}
		}
	}
	fulls(t, s, 0)
	if s.Width() != 0 {
		t.Errorf("width %d", s.Width())
	}
}
