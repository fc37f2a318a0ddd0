package nibble

import (
	"iter"
	"math"
	"math/rand"
	"slices"
	"testing"
)

// The places that no row has, but for those behind a row's own end.
var nowhere = []int{-1, -2, -3, -65536, math.MinInt + 1, math.MinInt, 65536, 65537, 1 << 17, 1 << 32, 1<<32 + 1, math.MaxInt - 1, math.MaxInt}

// byTheWords is a row as the chapter's words tell it: a plain list of numbers.
type byTheWords []int

func (w byTheWords) add(i int) bool {
	if i < 0 || i >= len(w) || w[i] == 15 {
		return false
	}
	w[i]++
	return true
}

func (w byTheWords) halve() {
	for i := range w {
		w[i] = (w[i] - w[i]%2) / 2
	}
}

func (w byTheWords) clear() {
	for i := range w {
		w[i] = 0
	}
}

func (w byTheWords) sum() int {
	sum := 0
	for _, c := range w {
		sum += c
	}
	return sum
}

func (w byTheWords) bytes() []byte {
	var bytes []byte
	for i := 0; i < len(w); i += 2 {
		b := w[i]
		if i+1 < len(w) {
			b += 16 * w[i+1]
		}
		bytes = append(bytes, byte(b))
	}
	return bytes
}

// told is a place and its counter.
type told struct{ i, c int }

func (w byTheWords) all() []told {
	var all []told
	for i, c := range w {
		if c > 0 {
			all = append(all, told{i, c})
		}
	}
	return all
}

// allOf is what a row tells of its counters.
func allOf(seq iter.Seq2[int, int]) []told {
	var all []told
	for i, c := range seq {
		all = append(all, told{i, c})
	}
	return all
}

// alike fails if the row tells anything else than the words do.
func alike(t *testing.T, r *Row, w byTheWords) {
	t.Helper()
	if r.Len() != len(w) {
		t.Fatalf("%d counters, want %d", r.Len(), len(w))
	}
	for i, c := range w {
		if r.Get(i) != c {
			t.Fatalf("%d at %d, want %d", r.Get(i), i, c)
		}
	}
	if r.Sum() != w.sum() {
		t.Fatalf("%d together, want %d", r.Sum(), w.sum())
	}
	if got, want := r.Bytes(), w.bytes(); !slices.Equal(got, want) {
		t.Fatalf("bytes %v, want %v", got, want)
	}
	if got, want := allOf(r.All()), w.all(); !slices.Equal(got, want) {
		t.Fatalf("all are %v, want %v", got, want)
	}
}

// of is a row with these counters, and the words of it.
func of(t *testing.T, counters ...int) (*Row, byTheWords) {
	t.Helper()
	r := New(len(counters))
	for i, c := range counters {
		for range c {
			if !r.Add(i) {
				t.Fatalf("no Add at %d, of %v", i, counters)
			}
		}
	}
	w := byTheWords(slices.Clone(counters))
	alike(t, r, w)
	return r, w
}

// full is a row of n counters that are all Most.
func full(t *testing.T, n int) (*Row, byTheWords) {
	t.Helper()
	return of(t, slices.Repeat([]int{15}, n)...)
}

// P10.1, P10.2, example 1.
func TestExample(t *testing.T) {
	r := New(3)
	for range 3 {
		r.Add(1)
	}
	r.Halve()
	if got := r.Bytes(); !slices.Equal(got, []byte{16, 0}) {
		t.Errorf("bytes %v", got)
	}
}

// P10.1: the greatest counter.
func TestMost(t *testing.T) {
	if Most != 15 {
		t.Errorf("Most is %d", Most)
	}
}

// P10.1, P10.2: the number of counters is brought between 0 and 65536; so many there are, none more, and each is 0 at first.
func TestNew(t *testing.T) {
	for _, c := range []struct{ n, want int }{
		{math.MinInt, 0}, {math.MinInt + 1, 0}, {-1 << 32, 0}, {-65536, 0}, {-2, 0}, {-1, 0}, {0, 0}, {1, 1}, {2, 2}, {3, 3}, {4, 4}, {7, 7}, {255, 255}, {256, 256}, {1001, 1001},
		{65534, 65534}, {65535, 65535}, {65536, 65536}, {65537, 65536}, {65538, 65536}, {131072, 65536}, {1 << 32, 65536}, {1<<32 + 3, 65536}, {math.MaxInt - 1, 65536}, {math.MaxInt, 65536},
	} {
		r, w := New(c.n), make(byTheWords, c.want)
		alike(t, r, w)
		if r.Add(c.want) || r.Add(-1) {
			t.Fatalf("%d counters: Add where there is none", c.n)
		}
		alike(t, r, w)
		if last := c.want - 1; last >= 0 && (!r.Add(last) || !w.add(last)) {
			t.Fatalf("%d counters: no Add at the last place", c.n)
		}
		alike(t, r, w)
	}
}

// P10.1, P10.3: rows know nothing of one another.
func TestSeveralRows(t *testing.T) {
	p, q := New(5), New(5)
	p.Add(2)
	alike(t, p, byTheWords{0, 0, 1, 0, 0})
	alike(t, q, byTheWords{0, 0, 0, 0, 0})
	q.Add(3)
	p.Clear()
	alike(t, p, byTheWords{0, 0, 0, 0, 0})
	alike(t, q, byTheWords{0, 0, 0, 1, 0})
}

// P10.1, P10.3: there is nothing at places ahead of the first one and behind the last one, and nothing is done there, whatever the counters are.
func TestNowhere(t *testing.T) {
	for n := range 9 {
		for _, c := range []int{0, 1, 14, 15} {
			r, w := of(t, slices.Repeat([]int{c}, n)...)
			for _, i := range append([]int{n, n + 1, n + 2, n + 16, 2 * n}, nowhere...) {
				if i >= 0 && i < n {
					continue
				}
				if got := r.Get(i); got != 0 {
					t.Fatalf("%d at %d of %d counters", got, i, n)
				}
				for range 17 {
					if r.Add(i) {
						t.Fatalf("Add at %d of %d counters", i, n)
					}
				}
				if got := r.Get(i); got != 0 {
					t.Fatalf("%d at %d of %d counters, behind Add", got, i, n)
				}
				alike(t, r, w)
			}
		}
	}
}

// P10.1: also of the longest row.
func TestNowhereInTheLongest(t *testing.T) {
	r := New(65536)
	for _, i := range nowhere {
		if r.Add(i) || r.Get(i) != 0 {
			t.Fatalf("a counter at %d", i)
		}
	}
	alike(t, r, make(byTheWords, 65536))
}

// P10.1, P10.3: at each place, up to Most and on: one more each time, then nothing; those beside it stay, whatever they are.
func TestAddUpToMost(t *testing.T) {
	for n := 1; n <= 6; n++ {
		for _, beside := range []int{0, 1, 7, 8, 14, 15} {
			for i := range n {
				r, w := of(t, slices.Repeat([]int{beside}, n)...)
				for range 15 - beside {
					was := r.Get(i)
					if !r.Add(i) || !w.add(i) || r.Get(i) != was+1 {
						t.Fatalf("%d of %d: %d behind %d", i, n, r.Get(i), was)
					}
					alike(t, r, w)
				}
				for range 40 {
					if r.Add(i) || r.Get(i) != Most {
						t.Fatalf("%d of %d: more than Most", i, n)
					}
					alike(t, r, w)
				}
			}
		}
	}
}

// P10.1, P10.3: every two counters in a byte, and an Add to one or the other.
func TestAddBesideEach(t *testing.T) {
	for a := range 16 {
		for b := range 16 {
			for i := range 2 {
				r, w := of(t, a, b)
				if got, want := r.Add(i), w.add(i); got != want {
					t.Fatalf("Add at %d of %d, %d tells %v", i, a, b, got)
				}
				alike(t, r, w)
			}
		}
	}
}

// P10.1, P10.2, P10.3: the first and the last places of the longest row, and of the one that is odd.
func TestEndsOfTheLongest(t *testing.T) {
	for _, n := range []int{65535, 65536} {
		r, w := New(n), make(byTheWords, n)
		for turn, i := range []int{0, 1, n - 2, n - 1} {
			for range 15 - turn {
				if !r.Add(i) || !w.add(i) {
					t.Fatalf("no Add at %d", i)
				}
			}
			alike(t, r, w)
		}
		r.Halve()
		w.halve()
		alike(t, r, w)
	}
}

// P10.2, P10.3: every two counters in a byte, halved again and again, till they are 0, and once more.
func TestHalve(t *testing.T) {
	for a := range 16 {
		for b := range 16 {
			r, w := of(t, a, b)
			for range 6 {
				r.Halve()
				w.halve()
				alike(t, r, w)
			}
			if r.Get(0) != 0 || r.Get(1) != 0 {
				t.Fatalf("%d, %d are left of %d, %d", r.Get(0), r.Get(1), a, b)
			}
		}
	}
}

// P10.2, P10.3: each counter from 0 to Most in one row, even and odd ones at even and at odd places, in rows of either kind of number.
func TestHalveOfARow(t *testing.T) {
	rising := []int{0, 1, 2, 3, 4, 5, 6, 7, 8, 9, 10, 11, 12, 13, 14, 15}
	falling := slices.Clone(rising)
	slices.Reverse(falling)
	for _, counters := range [][]int{{}, {1}, {15}, {14, 15, 13}, rising, falling, rising[1:], falling[1:], slices.Concat(rising, falling, rising[3:10])} {
		r, w := of(t, counters...)
		for range 5 {
			r.Halve()
			w.halve()
			alike(t, r, w)
		}
		if r.Sum() != 0 {
			t.Fatalf("%d are left", r.Sum())
		}
	}
}

// P10.1, P10.2: one that was Most and is halved may be added to again, up to Most.
func TestAddBehindHalve(t *testing.T) {
	r, w := full(t, 3)
	r.Halve()
	w.halve()
	alike(t, r, byTheWords{7, 7, 7})
	for i := range 3 {
		for turn := range 10 {
			if got, want := r.Add(i), w.add(i); got != want || got != (turn < 8) {
				t.Fatalf("turn %d at %d: Add tells %v", turn, i, got)
			}
			alike(t, r, w)
		}
	}
}

// P10.1, P10.2: all are 0 behind Clear, and go on from there.
func TestClear(t *testing.T) {
	for n := range 9 {
		r, w := full(t, n)
		for range 2 {
			r.Clear()
			w.clear()
			alike(t, r, w)
		}
		for i := range n {
			if !r.Add(i) || !w.add(i) {
				t.Fatalf("no Add at %d behind Clear", i)
			}
			alike(t, r, w)
		}
		r.Clear()
		alike(t, r, make(byTheWords, n))
	}
}

// P10.2: none, all, some at even places, some at odd ones, at either end: told in rising order, left behind none, one, several and all.
func TestAll(t *testing.T) {
	for _, c := range []struct {
		counters []int
		want     []told
	}{
		{[]int{}, nil},
		{[]int{0}, nil},
		{[]int{0, 0, 0, 0, 0}, nil},
		{[]int{3}, []told{{0, 3}}},
		{[]int{15, 15, 15, 15}, []told{{0, 15}, {1, 15}, {2, 15}, {3, 15}}},
		{[]int{15, 1, 2, 8, 4}, []told{{0, 15}, {1, 1}, {2, 2}, {3, 8}, {4, 4}}},
		{[]int{5, 0, 6, 0, 7}, []told{{0, 5}, {2, 6}, {4, 7}}},
		{[]int{0, 5, 0, 6, 0, 7}, []told{{1, 5}, {3, 6}, {5, 7}}},
		{[]int{0, 5, 0, 0, 6, 0, 0}, []told{{1, 5}, {4, 6}}},
		{[]int{0, 0, 0, 0, 0, 0, 0, 1}, []told{{7, 1}}},
		{[]int{1, 0, 0, 0, 0, 0, 0, 0, 9}, []told{{0, 1}, {8, 9}}},
	} {
		r, w := of(t, c.counters...)
		if got := allOf(r.All()); !slices.Equal(got, c.want) {
			t.Fatalf("%v: all are %v", c.counters, got)
		}
		for leave := range len(c.want) + 1 {
			if got := firstOf(r.All(), leave); !slices.Equal(got, c.want[:leave]) {
				t.Fatalf("%v: left behind %d: %v", c.counters, leave, got)
			}
			alike(t, r, w)
		}
	}
}

// firstOf is what is told till so many were.
func firstOf(seq iter.Seq2[int, int], many int) []told {
	var first []told
	if many == 0 {
		return first
	}
	for i, c := range seq {
		first = append(first, told{i, c})
		if len(first) == many {
			break
		}
	}
	return first
}

// P10.2: who says that it is enough is told nothing more.
func TestAllEnds(t *testing.T) {
	r, _ := full(t, 7)
	for enough := 1; enough <= 7; enough++ {
		asked := 0
		r.All()(func(i, c int) bool {
			asked++
			return asked < enough
		})
		if asked != enough {
			t.Fatalf("told %d times, enough are %d", asked, enough)
		}
	}
}

// P10.2: nothing is changed by asking, and one answer may be asked again and again, within itself too.
func TestAllAskedTwice(t *testing.T) {
	r, w := of(t, 0, 3, 0, 0, 15, 1, 8)
	all := r.All()
	for range 3 {
		if got := allOf(all); !slices.Equal(got, w.all()) {
			t.Fatalf("all are %v", got)
		}
		firstOf(all, 2)
	}
	turns := 0
	for range all {
		if got := allOf(all); !slices.Equal(got, w.all()) {
			t.Fatalf("within: all are %v", got)
		}
		turns++
	}
	if turns != 4 {
		t.Fatalf("%d turns", turns)
	}
	alike(t, r, w)
}

// P10.2: what is asked later is told as it is then.
func TestAllAskedLater(t *testing.T) {
	r, w := of(t, 1, 0, 5)
	all := r.All()
	for _, change := range []func(){
		func() { r.Add(1); w.add(1) },
		func() { r.Halve(); w.halve() },
		func() { r.Clear(); w.clear() },
		func() { r.Add(2); w.add(2) },
	} {
		change()
		if got := allOf(all); !slices.Equal(got, w.all()) {
			t.Fatalf("all are %v, want %v", got, w.all())
		}
	}
}

// P10.2: while one adds, halves or clears: places rise, and what is told is a counter that isn't 0, as it is then.
func TestAllWhileItIsChanged(t *testing.T) {
	for _, c := range []struct {
		name   string
		change func(r *Row, i int)
		want   []told
	}{
		{"nothing", func(r *Row, i int) {}, []told{{1, 4}, {2, 1}, {4, 15}}},
		{"add here", func(r *Row, i int) { r.Add(i) }, []told{{1, 4}, {2, 1}, {4, 15}}},
		{"add ahead", func(r *Row, i int) { r.Add(i - 1) }, []told{{1, 4}, {2, 1}, {4, 15}}},
		{"add behind", func(r *Row, i int) { r.Add(i + 1) }, []told{{1, 4}, {2, 2}, {3, 1}, {4, 15}, {5, 1}}},
		{"halve", func(r *Row, i int) { r.Halve() }, []told{{1, 4}, {4, 7}}},
		{"clear", func(r *Row, i int) { r.Clear() }, []told{{1, 4}}},
	} {
		r, _ := of(t, 0, 4, 1, 0, 15, 0)
		var got []told
		for i, n := range r.All() {
			if n == 0 || n != r.Get(i) {
				t.Fatalf("%s: %d is told of %d, where %d is", c.name, n, i, r.Get(i))
			}
			got = append(got, told{i, n})
			c.change(r, i)
		}
		if !slices.Equal(got, c.want) {
			t.Errorf("%s: all are %v, want %v", c.name, got, c.want)
		}
	}
}

// P10.1, P10.2: a full row of each kind of number, and the longest one.
func TestSumOfAFullRow(t *testing.T) {
	for _, n := range []int{0, 1, 2, 3, 17, 65535, 65536} {
		r, _ := full(t, n)
		if got := r.Sum(); got != 15*n {
			t.Errorf("%d counters: %d together", n, got)
		}
	}
}

// P10.2: the lower 4 bits are of the even place, the upper ones of the odd one; what is left of the last byte is 0.
func TestBytes(t *testing.T) {
	for _, c := range []struct {
		counters []int
		want     []byte
	}{
		{[]int{}, nil},
		{[]int{0}, []byte{0}},
		{[]int{15}, []byte{15}},
		{[]int{1, 0}, []byte{1}},
		{[]int{0, 1}, []byte{16}},
		{[]int{15, 15}, []byte{255}},
		{[]int{1, 2, 3}, []byte{0x21, 0x03}},
		{[]int{15, 15, 15}, []byte{255, 15}},
		{[]int{1, 2, 3, 4}, []byte{0x21, 0x43}},
		{[]int{0, 15, 15, 0, 9}, []byte{0xf0, 0x0f, 0x09}},
	} {
		r, _ := of(t, c.counters...)
		r.Add(len(c.counters)) // where there is none
		if got := r.Bytes(); !slices.Equal(got, c.want) {
			t.Errorf("%v: bytes %v", c.counters, got)
		}
	}
	for n := range 20 {
		if got := New(n).Bytes(); len(got) != (n+1)/2 {
			t.Errorf("%d counters in %d bytes", n, len(got))
		}
	}
	if got := New(65536).Bytes(); len(got) != 32768 {
		t.Errorf("65536 counters in %d bytes", len(got))
	}
}

// P10.2, P10.3: bytes that were told are the row's no more: neither changes the other, nor are they one another's.
func TestBytesAreNew(t *testing.T) {
	for _, counters := range [][]int{{1}, {1, 2}, {1, 2, 3}, {15, 14, 13, 12, 11, 10}} {
		r, w := of(t, counters...)
		first, second := r.Bytes(), r.Bytes()
		for i := range first[:cap(first)] {
			first[:cap(first)][i] = 0xff
		}
		_ = append(first, 0xff)
		alike(t, r, w)
		if !slices.Equal(second, w.bytes()) {
			t.Fatalf("the others are %v", second)
		}
		r.Clear()
		if !slices.Equal(second, w.bytes()) {
			t.Fatalf("what was told is %v behind Clear", second)
		}
	}
}

// P10.1, P10.2, P10.3: many steps mixed, against a plain list of numbers at each step.
func TestManySteps(t *testing.T) {
	source := rand.New(rand.NewSource(10))
	for _, n := range []int{0, 1, 2, 3, 4, 5, 8, 13, 64} {
		r, w := New(n), make(byTheWords, n)
		for turn := range 3000 {
			switch kind := source.Intn(400); {
			case kind == 0:
				r.Clear()
				w.clear()
			case kind <= 10:
				r.Halve()
				w.halve()
			default:
				i := source.Intn(n+4) - 2
				if got, want := r.Add(i), w.add(i); got != want {
					t.Fatalf("turn %d: Add at %d of %d tells %v", turn, i, n, got)
				}
			}
			alike(t, r, w)
		}
	}
}

// P10.3: of every change at one place only that one's counter is another one then, in long rows too.
func TestOnlyOneIsChanged(t *testing.T) {
	source := rand.New(rand.NewSource(103))
	for _, n := range []int{2, 7, 300} {
		r := New(n)
		for range 20 * n {
			i := source.Intn(n)
			was := make([]int, n)
			for j := range was {
				was[j] = r.Get(j)
			}
			if r.Add(i) {
				was[i]++
			}
			for j := range was {
				if r.Get(j) != was[j] {
					t.Fatalf("Add at %d: %d at %d, where %d was", i, r.Get(j), j, was[j])
				}
			}
		}
	}
}

// P10.1, P10.2: what a nil row tells.
func TestNil(t *testing.T) {
	var r *Row
	for range 2 {
		if r.Len() != 0 || r.Sum() != 0 {
			t.Errorf("%d counters, %d together", r.Len(), r.Sum())
		}
		for _, i := range append([]int{0, 1, 2, 15}, nowhere...) {
			if r.Get(i) != 0 || r.Add(i) {
				t.Errorf("a counter at %d", i)
			}
		}
		r.Halve()
		r.Clear()
		if got := r.Bytes(); got != nil {
			t.Errorf("bytes %v", got)
		}
		for i, c := range r.All() {
			t.Errorf("%d at %d", c, i)
		}
	}
}
