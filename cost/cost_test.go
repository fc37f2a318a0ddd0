package cost

import (
	"math"
	"math/big"
	"math/rand"
	"slices"
	"testing"

	"cortado/api"
)

const most = api.MaxCost

// edgeNumbers are numbers at the limits of costs, about their halves, out of their range and at the ends of int.
func edgeNumbers() []int {
	return []int{
		math.MinInt, math.MinInt + 1, -most - 1, -most, 1 - most, -most / 2, -1000, -2, -1,
		0, 1, 2, 3, 4, 7, 10, 1000, 1<<31 - 1, 1 << 32,
		most/2 - 1, most / 2, most/2 + 1,
		most - 2, most - 1, most, most + 1, most + 2, most + most/2,
		math.MaxInt - 1, math.MaxInt,
	}
}

// edgeCosts are those of edgeNumbers that are costs.
func edgeCosts() []int {
	return slices.DeleteFunc(edgeNumbers(), func(n int) bool { return n < 0 || n > most })
}

// exactCost is the number of any length, if it and all of the parts are costs: what a call should answer.
func exactCost(n *big.Int, parts ...int) (int, bool) {
	for _, part := range parts {
		if part < 0 || part > most {
			return 0, false
		}
	}
	if n.Sign() < 0 || n.Cmp(big.NewInt(most)) > 0 {
		return 0, false
	}
	return int(n.Int64()), true
}

// exactSum is the sum of all, however great.
func exactSum(l ...int) *big.Int {
	sum := new(big.Int)
	for _, n := range l {
		sum.Add(sum, big.NewInt(int64(n)))
	}
	return sum
}

// exactLess is a less b, however small.
func exactLess(a, b int) *big.Int {
	return new(big.Int).Sub(big.NewInt(int64(a)), big.NewInt(int64(b)))
}

// randomCosts are up to 9 costs, great or small, so that some have a sum and some haven't.
func randomCosts(source *rand.Rand) []int {
	costs := make([]int, source.Intn(10))
	size := source.Intn(63)
	for i := range costs {
		costs[i] = source.Intn(1<<size + 1)
	}
	return costs
}

// check tells where an answer of two results is another than the wanted one.
func check(t *testing.T, what string, args []int, got int, ok bool, want int, wantOk bool) {
	t.Helper()
	if got != want || ok != wantOk {
		t.Errorf("%s(%v) = %d, %v, want %d, %v", what, args, got, ok, want, wantOk)
	}
}

// P2.1: the edges.
func TestRight(t *testing.T) {
	for _, c := range []struct {
		n    int
		want bool
	}{
		{0, true}, {1, true}, {1000, true}, {most - 1, true}, {most, true},
		{-1, false}, {-2, false}, {most + 1, false}, {-most, false},
		{math.MinInt, false}, {math.MinInt + 1, false}, {math.MaxInt - 1, false}, {math.MaxInt, false},
	} {
		if got := Right(c.n); got != c.want {
			t.Errorf("Right(%d) = %v, want %v", c.n, got, c.want)
		}
	}
}

// P2.1: the edges.
func TestCut(t *testing.T) {
	for _, c := range []struct{ n, want int }{
		{0, 0}, {1, 1}, {1000, 1000}, {most / 2, most / 2}, {most - 1, most - 1}, {most, most},
		{-1, 0}, {-4, 0}, {-most, 0}, {math.MinInt, 0}, {math.MinInt + 1, 0},
		{most + 1, most}, {most + most/2, most}, {math.MaxInt - 1, most}, {math.MaxInt, most},
	} {
		if got := Cut(c.n); got != c.want {
			t.Errorf("Cut(%d) = %d, want %d", c.n, got, c.want)
		}
	}
}

// P2.1: what is cut is a cost, and just a cost stays what it is.
func TestCutIsRight(t *testing.T) {
	for _, n := range edgeNumbers() {
		cut := Cut(n)
		if !Right(cut) || (cut == n) != Right(n) {
			t.Errorf("Cut(%d) = %d, Right is %v ahead of it and %v behind it", n, cut, Right(n), Right(cut))
		}
	}
}

// P2.1, example 1.
func TestAddExamples(t *testing.T) {
	for _, c := range []struct {
		a, b, want int
		ok         bool
	}{
		{1 << 62, 0, 1 << 62, true},
		{1 << 62, 1, 0, false},
		{0, most, most, true},
		{1, most, 0, false},
		{0, 0, 0, true},
		{2, 3, 5, true},
		{most - 1, 1, most, true},
		{most - 1, 2, 0, false},
		{most / 2, most / 2, most, true},
		{most / 2, most/2 + 1, 0, false},
		{most, most, 0, false}, // 2^63 is no int
		{-1, 1, 0, false},
		{1, -1, 0, false},
		{most + 1, -1, 0, false}, // the sum alone would be a cost
		{-1, most + 1, 0, false},
		{most + 1, 0, 0, false},
		{math.MinInt, math.MinInt, 0, false}, // would wrap round to 0
		{math.MaxInt, math.MinInt, 0, false},
		{math.MinInt, 0, 0, false},
		{0, math.MaxInt, 0, false},
		{math.MaxInt, math.MaxInt, 0, false},
	} {
		got, ok := Add(c.a, c.b)
		check(t, "Add", []int{c.a, c.b}, got, ok, c.want, c.ok)
	}
}

// P2.1: held against numbers of any length.
func TestAddIsTheSum(t *testing.T) {
	for _, a := range edgeNumbers() {
		for _, b := range edgeNumbers() {
			got, ok := Add(a, b)
			want, wantOk := exactCost(exactSum(a, b), a, b)
			check(t, "Add", []int{a, b}, got, ok, want, wantOk)
		}
	}
}

// P2.1: none, one, many, and a sum of just MaxCost.
func TestSumExamples(t *testing.T) {
	for _, c := range []struct {
		l    []int
		want int
		ok   bool
	}{
		{nil, 0, true},
		{[]int{}, 0, true},
		{[]int{0}, 0, true},
		{[]int{7}, 7, true},
		{[]int{most}, most, true},
		{[]int{most + 1}, 0, false},
		{[]int{-1}, 0, false},
		{[]int{1, 2, 3}, 6, true},
		{[]int{0, 0, most, 0}, most, true},
		{[]int{1 << 61, 1 << 61}, most, true},
		{[]int{1 << 61, 1 << 61, 0}, most, true},
		{[]int{1 << 61, 1 << 61, 1}, 0, false},
		{[]int{1, 1 << 61, 1 << 61}, 0, false},
		{[]int{most - 3, 1, 1, 1}, most, true},
		{[]int{most - 3, 1, 1, 1, 1}, 0, false},
		{[]int{most, most}, 0, false},
		{[]int{most, most, most, most}, 0, false}, // would wrap round to 0
		{[]int{most, most, most, most, 5}, 0, false},
		{[]int{5, 6, -1}, 0, false},
		{[]int{-1, 5, 6}, 0, false},
		{[]int{5, -5}, 0, false},
		{[]int{most, 1, -1}, 0, false},
		{[]int{most + 1, -1}, 0, false},
		{[]int{math.MinInt}, 0, false},
		{[]int{math.MaxInt}, 0, false},
		{[]int{math.MinInt, math.MinInt, 3}, 0, false},
		{[]int{3, math.MaxInt, math.MaxInt, 2}, 0, false},
	} {
		got, ok := Sum(c.l...)
		check(t, "Sum", c.l, got, ok, c.want, c.ok)
	}
}

// P2.1: held against numbers of any length.
func TestSumIsTheSum(t *testing.T) {
	for _, a := range edgeNumbers() {
		for _, b := range edgeNumbers() {
			for _, c := range edgeNumbers() {
				got, ok := Sum(a, b, c)
				want, wantOk := exactCost(exactSum(a, b, c), a, b, c)
				check(t, "Sum", []int{a, b, c}, got, ok, want, wantOk)
			}
		}
	}
	source := rand.New(rand.NewSource(2))
	for range 5000 {
		l := randomCosts(source)
		got, ok := Sum(l...)
		want, wantOk := exactCost(exactSum(l...), l...)
		check(t, "Sum", l, got, ok, want, wantOk)
	}
}

// P2.1: a long row of small costs, and just one beyond it.
func TestSumOfMany(t *testing.T) {
	parts := make([]int, 1<<12)
	for i := range parts {
		parts[i] = most >> 12
	}
	got, ok := Sum(parts...)
	if got != most || !ok {
		t.Errorf("a row up to MaxCost: %d, %v", got, ok)
	}
	got, ok = Sum(append(parts, 1)...)
	if got != 0 || ok {
		t.Errorf("a row one beyond MaxCost: %d, %v", got, ok)
	}
}

// Rule 3: what is handed in, and what lies behind its end, stays what it was.
func TestSumLeavesItsList(t *testing.T) {
	whole := []int{3, 1, 2, 9, 8}
	if got, ok := Sum(whole[:3]...); got != 6 || !ok {
		t.Errorf("Sum(3, 1, 2) = %d, %v", got, ok)
	}
	if _, ok := Sum(append(whole, -1)...); ok {
		t.Error("a row with -1 has a sum")
	}
	if !slices.Equal(whole, []int{3, 1, 2, 9, 8}) {
		t.Errorf("the list became %v", whole)
	}
}

// P2.2: the edges.
func TestRoomExamples(t *testing.T) {
	for _, c := range []struct {
		most, used, want int
		ok               bool
	}{
		{10, 4, 6, true},
		{4, 10, 0, false},
		{10, 10, 0, true},
		{10, 11, 0, false},
		{10, 0, 10, true},
		{0, 0, 0, true},
		{0, 1, 0, false},
		{most, 0, most, true},
		{most, most, 0, true},
		{most, most - 1, 1, true},
		{most - 1, most, 0, false},
		{most, most + 1, 0, false},
		{most + 1, most, 0, false},
		{most + 1, most + 1, 0, false},
		{10, -1, 0, false},
		{-1, 0, 0, false},
		{-1, -1, 0, false},
		{-1, -2, 0, false},
		{0, math.MinInt, 0, false},
		{math.MaxInt, math.MaxInt, 0, false},
		{math.MaxInt, 0, 0, false},
		{math.MinInt, math.MaxInt, 0, false}, // would wrap round to 1
		{math.MinInt, math.MinInt, 0, false},
	} {
		got, ok := Room(c.most, c.used)
		check(t, "Room", []int{c.most, c.used}, got, ok, c.want, c.ok)
	}
}

// P2.2: held against numbers of any length.
func TestRoomIsTheDifference(t *testing.T) {
	for _, limit := range edgeNumbers() {
		for _, used := range edgeNumbers() {
			got, ok := Room(limit, used)
			want, wantOk := exactCost(exactLess(limit, used), limit, used)
			check(t, "Room", []int{limit, used}, got, ok, want, wantOk)
		}
	}
}

// P2.2: the edges.
func TestMoveExamples(t *testing.T) {
	for _, c := range []struct {
		used, old, now, want int
		ok                   bool
	}{
		{10, 4, 7, 13, true},
		{10, 7, 4, 7, true},
		{3, 4, 7, 0, false},
		{4, 4, 7, 7, true},
		{4, 4, 0, 0, true},
		{10, 4, 4, 10, true},
		{0, 0, 0, 0, true},
		{0, 0, 5, 5, true},
		{0, 1, 5, 0, false},
		{0, 1, 1, 0, false}, // what comes would be used itself
		{0, 0, most, most, true},
		{most, most, most, most, true},
		{most, most, 0, 0, true},
		{most, 1, 1, most, true},
		{most, 1, 2, 0, false},
		{most, 0, 0, most, true},
		{most, 0, 1, 0, false},
		{most, 0, most, 0, false}, // 2^63 is no int
		{most - 1, 0, 1, most, true},
		{10, -1, 5, 0, false},
		{10, 5, -1, 0, false},
		{-1, 0, 5, 0, false},
		{most + 1, 1, 0, 0, false}, // what comes would be a cost
		{most + 1, most + 1, 5, 0, false},
		{most, most, most + 1, 0, false},
		{most, most + 1, 5, 0, false},
		{math.MaxInt, math.MaxInt, 1, 0, false},
		{math.MinInt, 1, 1, 0, false},
		{math.MinInt, math.MaxInt, 1, 0, false}, // would wrap round to 2
		{5, 5, math.MinInt, 0, false},
		{5, 5, math.MaxInt, 0, false},
		{5, math.MinInt, 5, 0, false},
	} {
		got, ok := Move(c.used, c.old, c.now)
		check(t, "Move", []int{c.used, c.old, c.now}, got, ok, c.want, c.ok)
	}
}

// P2.2: held against numbers of any length.
func TestMoveIsTheExchange(t *testing.T) {
	for _, used := range edgeNumbers() {
		for _, old := range edgeNumbers() {
			for _, now := range edgeNumbers() {
				got, ok := Move(used, old, now)
				exact := exactLess(used, old)
				exact.Add(exact, big.NewInt(int64(now)))
				want, wantOk := exactCost(exact, used, old, now)
				if old > used {
					want, wantOk = 0, false
				}
				check(t, "Move", []int{used, old, now}, got, ok, want, wantOk)
			}
		}
	}
}

// P2.3: in whatever order.
func TestSumInAnyOrder(t *testing.T) {
	source := rand.New(rand.NewSource(3))
	for range 2000 {
		l := randomCosts(source)
		if source.Intn(4) == 0 { // one that is no cost has no place where it may stand
			l = append(l, []int{-1, most + 1, math.MinInt, math.MaxInt}[source.Intn(4)])
		}
		want, wantOk := Sum(l...)
		mixed := slices.Clone(l)
		source.Shuffle(len(mixed), func(i, j int) { mixed[i], mixed[j] = mixed[j], mixed[i] })
		got, ok := Sum(mixed...)
		check(t, "Sum", mixed, got, ok, want, wantOk)
	}
	for _, a := range edgeNumbers() {
		for _, b := range edgeNumbers() {
			got, ok := Add(a, b)
			want, wantOk := Add(b, a)
			check(t, "Add", []int{a, b}, got, ok, want, wantOk)
		}
	}
}

// P2.3: in whatever parts; the parts have a sum, just if the whole has one.
func TestSumInAnyParts(t *testing.T) {
	source := rand.New(rand.NewSource(4))
	for range 2000 {
		l := randomCosts(source)
		want, wantOk := Sum(l...)
		for cut := range len(l) + 1 {
			left, leftOk := Sum(l[:cut]...)
			right, rightOk := Sum(l[cut:]...)
			got, ok := Add(left, right)
			if !leftOk || !rightOk {
				got, ok = 0, false
			}
			check(t, "Sum in two parts", l, got, ok, want, wantOk)
		}
		got, ok := addOneByOne(l)
		check(t, "Sum one by one", l, got, ok, want, wantOk)
	}
}

// addOneByOne is the sum by Add alone.
func addOneByOne(l []int) (int, bool) {
	sum, ok := 0, true
	for _, n := range l {
		if sum, ok = Add(sum, n); !ok {
			return 0, false
		}
	}
	return sum, true
}

// P2.3: what was moved is moved back, and what was added leaves the room that was there.
func TestMovedBackIsTheSame(t *testing.T) {
	moved := 0
	for _, used := range edgeCosts() {
		for _, old := range edgeCosts() {
			for _, now := range edgeCosts() {
				next, ok := Move(used, old, now)
				if !ok {
					continue
				}
				moved++
				back, ok := Move(next, now, old)
				check(t, "Move back", []int{next, now, old}, back, ok, used, true)
			}
			if sum, ok := Add(used, old); ok {
				room, ok := Room(sum, old)
				check(t, "Room", []int{sum, old}, room, ok, used, true)
			}
		}
	}
	if moved == 0 {
		t.Error("nothing was moved")
	}
}
