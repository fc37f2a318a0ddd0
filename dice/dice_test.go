package dice

import (
	"math"
	"math/big"
	"math/rand"
	"slices"
	"testing"

	"cortado/mix"
)

// Lists without a number, with one, and with many, at all ends.
var lists = [][]int{
	nil, {}, {0}, {1}, {-1}, {5}, {math.MaxInt}, {math.MinInt}, {5, 9}, {5, 9, -1}, {0, 0, 0},
	{math.MinInt, math.MinInt + 1, -1 << 32, -256, -2, -1, 0, 1, 2, 255, 256, 1 << 32, math.MaxInt - 1, math.MaxInt},
	many(255), many(1000),
}

// Seeds, of which with the greater ones the sum is beyond 2^64 at once, or behind one more draw.
var seeds = []uint64{
	0, 1, 2, 3, 7, 1 << 32, 1<<63 - 1, 1 << 63, 0x61c8864680b583ea, 0x61c8864680b583eb, 0x61c8864680b583ec, 0x9e3779b97f4a7c14, 0x9e3779b97f4a7c15, 0xbf58476d1ce4e5b9, math.MaxUint64 - 1, math.MaxUint64,
}

// Bounds below which something is drawn.
var bounds = []int{1, 2, 3, 4, 5, 7, 8, 10, 255, 256, 1000, 1<<31 - 1, 1 << 32, 1<<53 + 1, 1 << 62, math.MaxInt - 1, math.MaxInt}

// Bounds below which there is nothing.
var noBounds = []int{0, -1, -2, -3, -256, -1 << 32, math.MinInt + 1, math.MinInt}

// beyond is 2^64.
var beyond = new(big.Int).Lsh(big.NewInt(1), 64)

// many answers so many numbers, some of them below 0.
func many(count int) []int {
	r := rand.New(rand.NewSource(int64(count)))
	l := make([]int, count)
	for i := range l {
		l[i] = int(r.Uint64()) >> r.Intn(64)
	}
	return l
}

// byTheWords answers the draw k as the chapter's words tell it, with numbers of any length.
func byTheWords(l []int, seed uint64, k int) uint64 {
	if k < len(l) {
		x := big.NewInt(int64(l[k]))
		if l[k] < 0 {
			x.Add(x, beyond)
		}
		return x.Uint64()
	}
	firstBehind := len(l)
	factor, _ := new(big.Int).SetString("9e3779b97f4a7c15", 16)
	sum := new(big.Int).Mul(factor, big.NewInt(int64(k-firstBehind)+1))
	sum.Add(sum, new(big.Int).SetUint64(seed))
	return mix.Mix(sum.Mod(sum, beyond).Uint64())
}

// leaves answers what x leaves, divided by n, with numbers of any length.
func leaves(x uint64, n int) int {
	rest := new(big.Int).SetUint64(x)
	return int(rest.Mod(rest, big.NewInt(int64(n))).Int64())
}

// each calls a test with each list and each seed.
func each(test func(l []int, seed uint64)) {
	for _, l := range lists {
		for _, seed := range seeds {
			test(l, seed)
		}
	}
}

// drawn answers dice of which so many were drawn.
func drawn(l []int, seed uint64, count int) *Dice {
	d := New(l, seed)
	for range count {
		d.Next()
	}
	return d
}

// used fails if another number of draws was drawn.
func used(t *testing.T, d *Dice, want int) {
	t.Helper()
	if got := d.Used(); got != want {
		t.Fatalf("used %d, want %d", got, want)
	}
}

// nexts fails if the next draws are others, or aren't counted.
func nexts(t *testing.T, d *Dice, want ...uint64) {
	t.Helper()
	for _, w := range want {
		k := d.Used()
		if got := d.Next(); got != w {
			t.Fatalf("draw %d is %#x, want %#x", k, got, w)
		}
		used(t, d, k+1)
	}
}

// goesOn fails if, of dice of this list and seed, not so many were drawn, or those that come aren't the ones that the words tell.
func goesOn(t *testing.T, d *Dice, l []int, seed uint64, at, count int) {
	t.Helper()
	used(t, d, at)
	for k := at; k < at+count; k++ {
		if got, want := d.Next(), byTheWords(l, seed, k); got != want {
			t.Fatalf("list of %d, seed %#x: draw %d is %#x, want %#x", len(l), seed, k, got, want)
		}
		used(t, d, k+1)
	}
}

// P15.2, example 1: New(5 9, 0): Below(4) tells 1, 1.
func TestExample(t *testing.T) {
	d := New([]int{5, 9}, 0)
	for range 2 {
		if got := d.Below(4); got != 1 {
			t.Errorf("below 4: %d", got)
		}
	}
	used(t, d, 2)
}

// P15.1: what is known ahead: without a list the draws are those of SplitMix64.
func TestKnownDraws(t *testing.T) {
	for _, c := range []struct {
		seed  uint64
		draws []uint64
	}{
		{0, []uint64{0xe220a8397b1dcdaf, 0x6e789e6aa1b965f4, 0x06c45d188009454f, 0xf88bb8a8724c81ec}},
		{1234567, []uint64{6457827717110365317, 3203168211198807973, 9817491932198370423, 4593380528125082431, 16408922859458223821}},
		{math.MaxUint64, []uint64{16490336266968443936, 16834447057089888969, 4048727598324417001, 7862637804313477842}},
		{0x61c8864680b583ea, []uint64{13029008266876403067, 16490336266968443936, 16834447057089888969}},
		{0x61c8864680b583eb, []uint64{0, 0xe220a8397b1dcdaf, 0x6e789e6aa1b965f4, 0x06c45d188009454f}},
	} {
		nexts(t, New(nil, c.seed), c.draws...)
		nexts(t, New([]int{}, c.seed), c.draws...)
		nexts(t, New([]int{5, -1}, c.seed), append([]uint64{5, math.MaxUint64}, c.draws...)...)
		nexts(t, drawn(many(40), c.seed, 40), c.draws...)
	}
}

// P15.1: the draws of the list are its numbers, of those below 0 with 2^64 added, whatever the seed.
func TestListed(t *testing.T) {
	for _, seed := range seeds {
		d := New([]int{0, 1, 2, -1, -2, 1 << 32, -1 << 32, math.MaxInt, math.MaxInt - 1, math.MinInt, math.MinInt + 1, 0}, seed)
		used(t, d, 0)
		nexts(t, d, 0, 1, 2, 1<<64-1, 1<<64-2, 1<<32, 1<<64-1<<32, 1<<63-1, 1<<63-2, 1<<63, 1<<63+1, 0)
	}
}

// P15.1: nobody drew from new dice; each draw, in the list, at its end and behind it, is what the words tell.
func TestDraws(t *testing.T) {
	each(func(l []int, seed uint64) {
		goesOn(t, New(l, seed), l, seed, 0, len(l)+50)
	})
}

// P15.1: draws many places behind the list.
func TestFarBehind(t *testing.T) {
	for _, l := range [][]int{nil, {5}, many(255)} {
		for _, seed := range []uint64{0, 7, math.MaxUint64} {
			d := drawn(l, seed, 100000)
			goesOn(t, d, l, seed, 100000, 50)
			if got, want := d.Peek(1<<20), byTheWords(l, seed, 100050+1<<20); got != want {
				t.Fatalf("2^20 ahead: %#x, want %#x", got, want)
			}
		}
	}
	nexts(t, drawn(nil, 0, 1000), 0x2cfa2f23425329e1)
	nexts(t, drawn([]int{-3, 4}, 7, 1002), 0xcf1b8d545d1615ca)
}

// P15.1: behind the list unlike seeds tell unlike draws.
func TestSeedsAreUnlike(t *testing.T) {
	seen := map[uint64]uint64{}
	for _, seed := range seeds {
		first := drawn([]int{5}, seed, 1).Next()
		if other, ok := seen[first]; ok {
			t.Fatalf("seeds %#x and %#x tell %#x", seed, other, first)
		}
		seen[first] = seed
	}
}

// P15.1: the list that is handed in, and the room behind its end, stay as they were; what is done to them afterwards changes no draw.
func TestListIsCopied(t *testing.T) {
	for _, seed := range seeds {
		room := []int{5, 9, -1, 77, 78}
		l, kept := room[:3], []int{5, 9, -1}
		d := New(l, seed)
		c := d.Clone()
		goesOn(t, c, kept, seed, 0, 10)
		d.Peek(1)
		d.Below(3)
		if !slices.Equal(room, []int{5, 9, -1, 77, 78}) {
			t.Fatalf("the list and its room are %v", room)
		}
		late := New(l, seed)
		clear(room)
		goesOn(t, d, kept, seed, 1, 10)
		goesOn(t, late.Clone(), kept, seed, 0, 10)
		room[1] = 4
		_ = append(l[:0], 3, 3, 3, 3)
		goesOn(t, late, kept, seed, 0, 10)
	}
}

// P15.1: a list is kept without room behind its end, so that nobody appends to it; a clone has its own one.
func TestKeptWithoutRoom(t *testing.T) {
	for _, l := range lists {
		d := New(l, 7)
		c := d.Clone()
		if cap(d.list) != len(l) || cap(c.list) != len(l) {
			t.Fatalf("%d numbers: room for %d and %d", len(l), cap(d.list), cap(c.list))
		}
		if len(l) > 0 && (&d.list[0] == &l[0] || &c.list[0] == &d.list[0]) {
			t.Fatalf("%d numbers: not a copy", len(l))
		}
	}
}

// P15.2: Below is what the next draw leaves, also of draws above 2^63; known ahead, by hand.
func TestBelowKnown(t *testing.T) {
	for _, c := range []struct{ number, bound, want int }{
		{0, 1, 0}, {0, 2, 0}, {0, math.MaxInt, 0}, {1, 1, 0}, {1, 2, 1}, {2, 2, 0}, {5, 4, 1}, {9, 4, 1}, {4, 4, 0}, {3, 4, 3}, {4, 5, 4}, {5, 5, 0}, {256, 255, 1},
		{math.MaxInt, 1, 0}, {math.MaxInt, 2, 1}, {math.MaxInt, math.MaxInt, 0}, {math.MaxInt - 1, math.MaxInt, math.MaxInt - 1}, {math.MaxInt, math.MaxInt - 1, 1}, {math.MaxInt, 1 << 62, 1<<62 - 1},
		{-1, 1, 0}, {-1, 2, 1}, {-1, 3, 0}, {-1, 10, 5}, {-1, 1000, 615}, {-1, 1 << 62, 1<<62 - 1}, {-1, math.MaxInt - 1, 3}, {-1, math.MaxInt, 1},
		{-2, 2, 0}, {-2, 10, 4}, {-2, 1000, 614}, {-2, math.MaxInt, 0}, {-3, math.MaxInt, math.MaxInt - 1},
		{math.MinInt, 1, 0}, {math.MinInt, 2, 0}, {math.MinInt, 3, 2}, {math.MinInt, 10, 8}, {math.MinInt, 1000, 808}, {math.MinInt, 1 << 62, 0}, {math.MinInt, math.MaxInt, 1}, {math.MinInt, math.MaxInt - 1, 2},
		{math.MinInt + 5, 10, 3}, {math.MinInt + 5, math.MaxInt, 6},
	} {
		d := New([]int{c.number, 5}, 7)
		if got := d.Below(c.bound); got != c.want {
			t.Errorf("%d below %d: %d, want %d", c.number, c.bound, got, c.want)
		}
		used(t, d, 1)
		nexts(t, d, 5)
	}
}

// P15.2, P15.3: Below draws one, and is what it leaves: at least 0, and below its bound.
func TestBelow(t *testing.T) {
	each(func(l []int, seed uint64) {
		for _, n := range bounds {
			d := New(l, seed)
			for k := range min(len(l), 30) + 20 {
				got := d.Below(n)
				if want := leaves(byTheWords(l, seed, k), n); got != want || got < 0 || got >= n {
					t.Fatalf("list of %d, seed %#x: draw %d below %d is %d, want %d", len(l), seed, k, n, got, want)
				}
				used(t, d, k+1)
			}
		}
	})
}

// P15.2: Below of a bound below 1 is 0, and draws nothing.
func TestBelowNothing(t *testing.T) {
	each(func(l []int, seed uint64) {
		for _, at := range []int{0, 1, len(l) - 1, len(l), len(l) + 1} {
			if at < 0 {
				continue
			}
			d := drawn(l, seed, at)
			for _, n := range noBounds {
				ahead := d.Peek(0)
				if got := d.Below(n); got != 0 || d.Peek(0) != ahead {
					t.Fatalf("list of %d, seed %#x: draw %d below %d is %d, and %#x comes, ahead of it %#x", len(l), seed, at, n, got, d.Peek(0), ahead)
				}
				used(t, d, at)
			}
			goesOn(t, d, l, seed, at, 3)
		}
	})
}

// P15.2: each way to draw, mixed, with Used at each step.
func TestMixed(t *testing.T) {
	each(func(l []int, seed uint64) {
		r := rand.New(rand.NewSource(int64(len(l)) + int64(seed)))
		d, k := New(l, seed), 0
		for range len(l) + 60 {
			w := byTheWords(l, seed, k)
			switch r.Intn(5) {
			case 0, 1:
				n := bounds[r.Intn(len(bounds))]
				if got := d.Below(n); got != leaves(w, n) {
					t.Fatalf("draw %d below %d is %d, want %d", k, n, got, leaves(w, n))
				}
				k++
			case 2:
				if got := d.Below(noBounds[r.Intn(len(noBounds))]); got != 0 {
					t.Fatalf("below nothing: %d", got)
				}
			case 3:
				ahead := r.Intn(len(l) + 5)
				if got, want := d.Peek(ahead), byTheWords(l, seed, k+ahead); got != want {
					t.Fatalf("%d ahead of draw %d: %#x, want %#x", ahead, k, got, want)
				}
			default:
				nexts(t, d, w)
				k++
			}
			used(t, d, k)
		}
	})
}

// P15.2: Peek at the places up to the list's end and just behind it is what comes when so many more have been drawn; nothing is drawn.
func TestPeek(t *testing.T) {
	each(func(l []int, seed uint64) {
		for _, at := range []int{0, 1, len(l) / 2, len(l), len(l) + 3} {
			d, twin := drawn(l, seed, at), drawn(l, seed, at)
			for k := range max(len(l)-at, 0) + 10 {
				if got, want := d.Peek(k), twin.Next(); got != want {
					t.Fatalf("list of %d, seed %#x: %d ahead of draw %d: %#x, but %#x comes", len(l), seed, k, at, got, want)
				}
				used(t, d, at)
			}
			goesOn(t, d, l, seed, at, 3)
		}
	})
}

// P15.2: Peek below 0 is Peek at 0, and above 2^20 is Peek at 2^20.
func TestPeekBounds(t *testing.T) {
	each(func(l []int, seed uint64) {
		for _, at := range []int{0, len(l), len(l) + 2} {
			d := drawn(l, seed, at)
			for _, c := range []struct{ k, ahead int }{
				{math.MinInt, 0}, {math.MinInt + 1, 0}, {-1 << 32, 0}, {-1 << 20, 0}, {-2, 0}, {-1, 0}, {0, 0}, {1, 1}, {2, 2},
				{1<<20 - 1, 1<<20 - 1}, {1 << 20, 1 << 20}, {1<<20 + 1, 1 << 20}, {1 << 21, 1 << 20}, {1 << 32, 1 << 20}, {1<<32 + 1, 1 << 20}, {1 << 62, 1 << 20}, {math.MaxInt - 1, 1 << 20}, {math.MaxInt, 1 << 20},
			} {
				if got, want := d.Peek(c.k), byTheWords(l, seed, at+c.ahead); got != want {
					t.Fatalf("list of %d, seed %#x: peek at %d from draw %d: %#x, want %#x", len(l), seed, c.k, at, got, want)
				}
				used(t, d, at)
			}
			goesOn(t, d, l, seed, at, 3)
		}
	})
}

// P15.2: 2^20 ahead, known ahead, and drawn up to.
func TestPeekFar(t *testing.T) {
	for _, k := range []int{1 << 20, 1<<20 + 1, math.MaxInt} {
		if got := New(nil, 0).Peek(k); got != 0xd554613e95a6fae4 {
			t.Errorf("peek at %d: %#x", k, got)
		}
	}
	d := New(many(255), 7)
	far := d.Peek(1 << 20)
	for range 1 << 20 {
		d.Next()
	}
	used(t, d, 1<<20)
	nexts(t, d, far)
}

// P15.2: a list that goes beyond 2^20: Peek sees so far in the list itself.
func TestPeekInALongList(t *testing.T) {
	l := make([]int, 1<<20+3)
	for i := range l {
		l[i] = -i
	}
	d := New(l, 7)
	for _, k := range []int{1 << 20, 1<<20 + 1, 1<<20 + 2, 1<<20 + 3, math.MaxInt} {
		if got, want := d.Peek(k), uint64(1<<64-1<<20); got != want {
			t.Fatalf("peek at %d: %#x, want %#x", k, got, want)
		}
	}
	nexts(t, d, 0, math.MaxUint64)
	goesOn(t, drawn(l, 7, len(l)-2), l, 7, len(l)-2, 5)
}

// P15.2, P15.3: clones of new dice, in the list, at its end and behind it, tell alike draws; drawing from one changes nothing of the other.
func TestClone(t *testing.T) {
	each(func(l []int, seed uint64) {
		for _, at := range []int{0, 1, len(l) / 2, len(l), len(l) + 1, len(l) + 7} {
			d := drawn(l, seed, at)
			c := d.Clone()
			if c == d || c == nil {
				t.Fatal("not other dice")
			}
			ahead := c.Peek(0)
			goesOn(t, d, l, seed, at, 4)
			used(t, c, at)
			if c.Peek(0) != ahead {
				t.Fatal("drawing changed a clone")
			}
			goesOn(t, c, l, seed, at, 9)
			used(t, d, at+4)
			again := c.Clone()
			again.Below(3)
			goesOn(t, d, l, seed, at+4, 3)
			goesOn(t, again, l, seed, at+10, 3)
			goesOn(t, c, l, seed, at+9, 3)
		}
	})
}

// P15.3: dice that are alike, made twice of one list and seed or cloned, tell alike whatever is asked of them.
func TestAlike(t *testing.T) {
	each(func(l []int, seed uint64) {
		r := rand.New(rand.NewSource(int64(len(l)) - int64(seed)))
		a, b := New(l, seed), New(slices.Clone(l), seed)
		for range len(l) + 40 {
			n, k := bounds[r.Intn(len(bounds))], r.Intn(300)
			c := a.Clone()
			if a.Peek(k) != b.Peek(k) || a.Peek(k) != c.Peek(k) {
				t.Fatal("peek")
			}
			if x := a.Next(); x != b.Next() || x != c.Next() {
				t.Fatal("next")
			}
			if x := a.Below(n); x != b.Below(n) || x != c.Below(n) {
				t.Fatal("below")
			}
			if a.Used() != b.Used() || a.Used() != c.Used() {
				t.Fatal("used")
			}
		}
	})
}

// P15.1: what is drawn from some dice isn't drawn from others that were made of the same list.
func TestTwoDice(t *testing.T) {
	l := []int{5, 9, -1}
	a, b := New(l, 3), New(l, 4)
	goesOn(t, a, l, 3, 0, 10)
	goesOn(t, b, l, 4, 0, 2)
	goesOn(t, a, l, 3, 10, 2)
	goesOn(t, b, l, 4, 2, 10)
}

// P15.2: asking draws nothing.
func TestAskingDrawsNothing(t *testing.T) {
	l := []int{5, 9, -1}
	for at := range 6 {
		d := drawn(l, 3, at)
		for i := range 30 {
			d.Peek(i - 3)
			d.Below(-i)
			d.Clone().Next()
			used(t, d, at)
		}
		goesOn(t, d, l, 3, at, 6)
	}
}

// P15.2: nil dice tell 0, and no dice.
func TestNil(t *testing.T) {
	var d *Dice
	for range 3 {
		if x := d.Next(); x != 0 {
			t.Errorf("next: %d", x)
		}
		for _, n := range slices.Concat(bounds, noBounds) {
			if x := d.Below(n); x != 0 {
				t.Errorf("below %d: %d", n, x)
			}
			if x := d.Peek(n); x != 0 {
				t.Errorf("peek at %d: %d", n, x)
			}
		}
		if x := d.Peek(0); x != 0 {
			t.Errorf("peek: %d", x)
		}
		if d.Clone() != nil {
			t.Error("a clone of nil dice")
		}
		used(t, d, 0)
	}
}
