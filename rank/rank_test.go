package rank

import (
	"cmp"
	"iter"
	"math"
	"math/rand"
	"slices"
	"strings"
	"testing"

	"cortado/word"
)

// pair is a key with its thing.
type pair[K, V any] struct {
	key   K
	thing V
}

// byTheWords is a tree as the chapter's words tell it: keys with their things in a row, none of which is put in order ahead of being asked.
type byTheWords[K, V any] struct {
	order func(a, b K) int
	row   []pair[K, V]
}

func (w byTheWords[K, V]) drop(k K) byTheWords[K, V] {
	var row []pair[K, V]
	for _, p := range w.row {
		if w.order(p.key, k) != 0 {
			row = append(row, p)
		}
	}
	return byTheWords[K, V]{w.order, row}
}

func (w byTheWords[K, V]) put(k K, v V) byTheWords[K, V] {
	w = w.drop(k)
	w.row = append(w.row, pair[K, V]{k, v})
	return w
}

func (w byTheWords[K, V]) rank(k K) (int, bool) {
	below, there := 0, false
	for _, p := range w.row {
		side := w.order(p.key, k)
		if side < 0 {
			below++
		}
		there = there || side == 0
	}
	return below, there
}

func (w byTheWords[K, V]) rising() []pair[K, V] {
	row := slices.Clone(w.row)
	slices.SortFunc(row, func(a, b pair[K, V]) int { return w.order(a.key, b.key) })
	return row
}

// both is a tree, and what it must be like.
type both[K, V any] struct {
	tree  *Tree[K, V]
	words byTheWords[K, V]
}

func newBoth[K, V any](order func(a, b K) int) both[K, V] {
	return both[K, V]{New[K, V](order), byTheWords[K, V]{order: order}}
}

func (b both[K, V]) put(k K, v V) both[K, V] {
	return both[K, V]{b.tree.Put(k, v), b.words.put(k, v)}
}

func (b both[K, V]) drop(k K) both[K, V] {
	return both[K, V]{b.tree.Drop(k), b.words.drop(k)}
}

// told is what an iterator tells to its end.
func told[K, V any](t *testing.T, all iter.Seq2[K, V]) []pair[K, V] {
	t.Helper()
	if all == nil {
		t.Fatal("no iterator")
	}
	var row []pair[K, V]
	for k, v := range all {
		row = append(row, pair[K, V]{k, v})
	}
	return row
}

// wrongRanks are ranks that no key of so many has.
func wrongRanks(many int) []int {
	return []int{math.MinInt, math.MinInt + 1, -many - 1, -many, -2, -1, many, many + 1, 2*many + 1, 1 << 32, math.MaxInt - 1, math.MaxInt}
}

// alike fails if the tree isn't just like what it must be, asked in all ways.
func alike[K, V comparable](t *testing.T, b both[K, V]) {
	t.Helper()
	want := b.words.rising()
	if b.tree == nil || b.tree.Len() != len(want) {
		t.Fatalf("%d keys, want %v", b.tree.Len(), want)
	}
	if got := told(t, b.tree.All()); !slices.Equal(got, want) {
		t.Fatalf("All tells %v, want %v", got, want)
	}
	for i, p := range want {
		if k, v, ok := b.tree.At(i); k != p.key || v != p.thing || !ok {
			t.Fatalf("At(%d) tells %v, %v, %v of %v", i, k, v, ok, want)
		}
		if v, ok := b.tree.Get(p.key); v != p.thing || !ok {
			t.Fatalf("Get(%v) tells %v, %v of %v", p.key, v, ok, want)
		}
		if n, ok := b.tree.Rank(p.key); n != i || !ok {
			t.Fatalf("Rank(%v) tells %d, %v of %v", p.key, n, ok, want)
		}
		if got := told(t, b.tree.From(p.key)); !slices.Equal(got, want[i:]) {
			t.Fatalf("From(%v) tells %v of %v", p.key, got, want)
		}
	}
	var none pair[K, V]
	for _, i := range wrongRanks(len(want)) {
		if k, v, ok := b.tree.At(i); k != none.key || v != none.thing || ok {
			t.Fatalf("At(%d) tells %v, %v, %v of %v", i, k, v, ok, want)
		}
	}
	wellStood(t, b.tree)
}

// asked fails if the tree tells otherwise of this key, there or not, than it must.
func asked[K, V comparable](t *testing.T, b both[K, V], k K) {
	t.Helper()
	rank, there := b.words.rank(k)
	if n, ok := b.tree.Rank(k); n != rank || ok != there {
		t.Fatalf("Rank(%v) tells %d, %v, want %d, %v", k, n, ok, rank, there)
	}
	var thing V
	if there {
		thing = b.words.rising()[rank].thing
	}
	if v, ok := b.tree.Get(k); v != thing || ok != there {
		t.Fatalf("Get(%v) tells %v, %v, want %v, %v", k, v, ok, thing, there)
	}
	if got := told(t, b.tree.From(k)); !slices.Equal(got, b.words.rising()[rank:]) {
		t.Fatalf("From(%v) tells %v of %v", k, got, b.words.rising())
	}
}

// stands is how many keys stand above one another at most, gone through part by part. It fails if a part's sides differ by more than 1: the bound of Deep for any number of keys follows from that.
func stands[K, V any](t *testing.T, p *part[K, V]) int {
	t.Helper()
	if p == nil {
		return 0
	}
	below, above := stands(t, p.below), stands(t, p.above)
	if below > above+1 || above > below+1 {
		t.Fatalf("%d keys stand above one another below %v, and %d above it", below, p.key, above)
	}
	return 1 + max(below, above)
}

// withinBound fails if Deep is above its bound, or below what so many keys need, as each has two sides.
func withinBound[K, V any](t *testing.T, x *Tree[K, V]) {
	t.Helper()
	most := 2*word.Log(uint64(x.Len()+1)) + 1
	least := word.Log(uint64(x.Len())) + 1
	if got := x.Deep(); got > most || got < least {
		t.Fatalf("Deep of %d keys is %d, from %d to %d are right", x.Len(), got, least, most)
	}
}

// wellStood fails if Deep isn't what it must be, or the parts don't stand as they must.
func wellStood[K, V any](t *testing.T, x *Tree[K, V]) {
	t.Helper()
	withinBound(t, x)
	if got := stands(t, x.top); x.Deep() != got {
		t.Fatalf("Deep tells %d, %d keys stand above one another", x.Deep(), got)
	}
}

// mixed are the numbers below many, each once, in an order of no rule.
func mixed(seed int64, many int) []int {
	return rand.New(rand.NewSource(seed)).Perm(many)
}

// orders are the numbers below many in several orders.
func orders(many int) map[string][]int {
	rising := make([]int, many)
	for i := range rising {
		rising[i] = i
	}
	falling := slices.Clone(rising)
	slices.Reverse(falling)
	var inward, outward []int
	for i := range (many + 1) / 2 {
		inward = append(inward, i)
		if j := many - 1 - i; j > i {
			inward = append(inward, j)
		}
	}
	outward = slices.Clone(inward)
	slices.Reverse(outward)
	return map[string][]int{
		"rising": rising, "falling": falling, "inward": inward, "outward": outward,
		"mixed": mixed(1, many), "mixed again": mixed(2, many),
	}
}

// eachOrder tells each order of the numbers below many.
func eachOrder(many int) iter.Seq[[]int] {
	return func(yield func([]int) bool) {
		moreOrders(nil, many, yield)
	}
}

func moreOrders(row []int, many int, yield func([]int) bool) bool {
	if len(row) == many {
		return yield(row)
	}
	for x := range many {
		if !slices.Contains(row, x) && !moreOrders(append(slices.Clone(row), x), many, yield) {
			return false
		}
	}
	return true
}

// P8.1, P8.2, example 1.
func TestExample(t *testing.T) {
	b := newBoth[int, string](cmp.Compare[int]).put(30, "c").put(10, "a").put(20, "b")
	if k, v, ok := b.tree.At(1); k != 20 || v != "b" || !ok {
		t.Errorf("At(1) tells %d, %q, %v", k, v, ok)
	}
	if n, ok := b.tree.Rank(15); n != 1 || ok {
		t.Errorf("Rank(15) tells %d, %v", n, ok)
	}
	alike(t, b)
}

// P8.1: there is no tree of no order.
func TestNewOfNoOrder(t *testing.T) {
	if New[int, int](nil) != nil || New[string, []byte](nil) != nil {
		t.Error("a tree of no order")
	}
	ofNil(t, New[string, int](nil), "a", 1)
}

// P8.1, P8.2: each function of a nil tree.
func TestNil(t *testing.T) {
	var numbers *Tree[int, int]
	ofNil(t, numbers, 0, 5)
	ofNil(t, numbers, math.MinInt, 0)
	var texts *Tree[string, string]
	ofNil(t, texts, "", "")
	ofNil(t, texts, "a", "b")
}

func ofNil[K, V comparable](t *testing.T, x *Tree[K, V], k K, v V) {
	t.Helper()
	var none pair[K, V]
	for range 2 {
		if x.Put(k, v) != nil || x.Drop(k) != nil || x.Len() != 0 || x.Deep() != 0 {
			t.Error("a nil tree has something")
		}
		if got, ok := x.Get(k); got != none.thing || ok {
			t.Errorf("Get tells %v, %v", got, ok)
		}
		if n, ok := x.Rank(k); n != 0 || ok {
			t.Errorf("Rank tells %d, %v", n, ok)
		}
		for _, i := range append(wrongRanks(1), 0) {
			if gotK, gotV, ok := x.At(i); gotK != none.key || gotV != none.thing || ok {
				t.Errorf("At(%d) tells %v, %v, %v", i, gotK, gotV, ok)
			}
		}
		if got := told(t, x.All()); got != nil {
			t.Errorf("All tells %v", got)
		}
		if got := told(t, x.From(k)); got != nil {
			t.Errorf("From tells %v", got)
		}
	}
}

// P8.1, P8.2: a tree without keys, new, or behind drops.
func TestWithoutKeys(t *testing.T) {
	b := newBoth[int, string](cmp.Compare[int])
	for _, b := range []both[int, string]{b, b.drop(3), b.put(3, "x").drop(3), b.put(3, "x").put(5, "y").drop(3).drop(5)} {
		alike(t, b)
		if b.tree.Deep() != 0 {
			t.Errorf("Deep tells %d", b.tree.Deep())
		}
		for _, k := range []int{math.MinInt, -1, 0, 3, 5, math.MaxInt} {
			asked(t, b, k)
		}
		alike(t, b.put(0, "again"))
	}
}

// P8.1, P8.2, P8.3: trees with one key and with two, put in both orders.
func TestFewKeys(t *testing.T) {
	none := newBoth[int, string](cmp.Compare[int])
	one := none.put(7, "g")
	if one.tree.Deep() != 1 {
		t.Errorf("Deep of one tells %d", one.tree.Deep())
	}
	for _, b := range []both[int, string]{one, one.put(9, "i"), one.put(5, "e"), none.put(9, "i").put(7, "g")} {
		alike(t, b)
		for k := range 12 {
			asked(t, b, k)
		}
	}
	if deep := one.put(9, "i").tree.Deep(); deep != 2 {
		t.Errorf("Deep of two tells %d", deep)
	}
}

// P8.1: the keys at the ends of their kind, and a zero thing, which is there all the same.
func TestEndsOfKeysAndZeroThings(t *testing.T) {
	b := newBoth[int, int](cmp.Compare[int])
	for _, k := range []int{0, math.MaxInt, math.MinInt, -1, 1} {
		b = b.put(k, 0)
		alike(t, b)
	}
	for _, k := range []int{math.MinInt, math.MinInt + 1, -2, -1, 0, 1, 2, math.MaxInt - 1, math.MaxInt} {
		asked(t, b, k)
	}
}

// P8.1: a key that is put twice is there once, with the thing that was put last; the tree ahead has the one of its own.
func TestPutTwice(t *testing.T) {
	for name, keys := range orders(20) {
		b := newBoth[int, int](cmp.Compare[int])
		for _, k := range keys {
			b = b.put(k, k)
		}
		for _, k := range keys {
			again := b.put(k, 100+k)
			if again.tree.Len() != 20 || again.tree == b.tree {
				t.Fatalf("%s: %d keys", name, again.tree.Len())
			}
			alike(t, again)
			alike(t, again.put(k, 200+k))
			alike(t, b)
			if v, ok := b.tree.Get(k); v != k || !ok {
				t.Fatalf("%s: the tree ahead has %d at %d", name, v, k)
			}
		}
	}
}

// P8.1: of keys that the order takes for one another the one that was put last stands there.
func TestPutOfAKeyThatIsTakenForAnother(t *testing.T) {
	fold := func(a, b string) int { return strings.Compare(strings.ToLower(a), strings.ToLower(b)) }
	b := newBoth[string, int](fold).put("b", 1).put("A", 2).put("c", 3).put("B", 4)
	if b.tree.Len() != 3 {
		t.Fatal(b.tree.Len())
	}
	alike(t, b)
	for _, k := range []string{"a", "A", "b", "B", "", "aa", "D"} {
		asked(t, b, k)
	}
	if k, v, ok := b.tree.At(1); k != "B" || v != 4 || !ok {
		t.Errorf("At(1) tells %q, %d, %v", k, v, ok)
	}
	alike(t, b.drop("a"))
	alike(t, b.drop("b"))
}

// P8.1: a key that isn't there is dropped: all is as it was.
func TestDropOfNone(t *testing.T) {
	b := newBoth[int, string](cmp.Compare[int])
	for i := range 12 {
		for k := -1; k <= 2*i+1; k += 2 {
			d := b.drop(k)
			if d.tree.Len() != i {
				t.Fatalf("%d of %d keys behind a drop of none", d.tree.Len(), i)
			}
			alike(t, d)
			alike(t, d.put(k, "new"))
			alike(t, b)
		}
		b = b.put(2*i, "old")
	}
}

// P8.1: the only key, the least, the greatest and each one in the middle is dropped; the tree ahead has it still.
func TestDropOfEach(t *testing.T) {
	for many := 1; many <= 34; many++ {
		for name, keys := range orders(many) {
			b := newBoth[int, int](cmp.Compare[int])
			for _, k := range keys {
				b = b.put(k, 10*k)
			}
			for k := range many {
				d := b.drop(k)
				if _, ok := d.tree.Get(k); ok || d.tree.Len() != many-1 {
					t.Fatalf("%s: %d is there, of %d keys", name, k, d.tree.Len())
				}
				alike(t, d)
				alike(t, d.drop(k))
				asked(t, d, k)
			}
			alike(t, b)
		}
	}
}

// P8.1, P8.3: many keys are put in several orders, and all dropped in several orders; Deep at each step.
func TestDropOfAll(t *testing.T) {
	const many = 60
	for _, puts := range orders(many) {
		for name, drops := range orders(many) {
			b := newBoth[int, int](cmp.Compare[int])
			for _, k := range puts {
				b = b.put(k, k*k)
			}
			for i, k := range drops {
				b = b.drop(k)
				if b.tree.Len() != many-1-i {
					t.Fatalf("%s: %d keys behind %d drops", name, b.tree.Len(), i+1)
				}
				alike(t, b)
			}
		}
	}
}

// P8.1, P8.3: few keys, put and dropped in each order there is.
func TestEachOrderOfPutsAndDrops(t *testing.T) {
	for many := range 6 {
		for puts := range eachOrder(many) {
			b := newBoth[int, int](cmp.Compare[int])
			for _, k := range puts {
				b = b.put(k, -k)
			}
			for drops := range eachOrder(many) {
				d := b
				for _, k := range drops {
					d = d.drop(k)
					wellStood(t, d.tree)
					if got := told(t, d.tree.All()); !slices.Equal(got, d.words.rising()) {
						t.Fatalf("put %v, dropped %v up to %d: %v", puts, drops, k, got)
					}
				}
			}
			alike(t, b)
		}
	}
}

// P8.1: each tree that was stays as it was, whatever others are made of it.
func TestTreesThatWere(t *testing.T) {
	source := rand.New(rand.NewSource(8))
	for range 20 {
		were := []both[int, int]{newBoth[int, int](cmp.Compare[int])}
		for turn := range 150 {
			b := were[len(were)-1]
			if source.Intn(8) == 0 { // from an older one on
				b = were[source.Intn(len(were))]
			}
			k := source.Intn(40)
			if source.Intn(3) == 0 {
				b = b.drop(k)
			} else {
				b = b.put(k, turn)
			}
			were = append(were, b)
		}
		for _, b := range were {
			alike(t, b)
			for range 5 {
				asked(t, b, source.Intn(44)-2)
			}
		}
	}
}

// P8.1: several trees made of one: none sees what another one has.
func TestBranches(t *testing.T) {
	b := newBoth[int, string](cmp.Compare[int])
	for k := range 15 {
		b = b.put(2*k, "common")
	}
	var made []both[int, string]
	for k := -1; k < 31; k++ {
		made = append(made, b.put(k, "own"), b.drop(k), b.drop(k).put(k, "back"))
	}
	alike(t, b)
	for _, m := range made {
		alike(t, m)
	}
}

// P8.1: asking changes nothing, and Put and Drop make another tree even if all is alike.
func TestAnotherTree(t *testing.T) {
	b := newBoth[string, int](strings.Compare).put("a", 1)
	if b.tree.Put("a", 1) == b.tree || b.tree.Drop("b") == b.tree {
		t.Error("the tree itself")
	}
	for range 3 {
		alike(t, b)
	}
}

// P8.2: Rank, Get and From of a key that is there, between two, below the least and above the greatest.
func TestAskedOfAnyKey(t *testing.T) {
	for many := range 40 {
		b := newBoth[int, int](cmp.Compare[int])
		for _, i := range mixed(int64(many), many) {
			b = b.put(3*i, i)
		}
		for k := -2; k <= 3*many+1; k++ {
			asked(t, b, k)
		}
		asked(t, b, math.MinInt)
		asked(t, b, math.MaxInt)
	}
}

// P8.2: All and From as long as one asks, broken off at each key, and asked twice.
func TestBrokenOff(t *testing.T) {
	for many := 1; many <= 24; many++ {
		b := newBoth[int, int](cmp.Compare[int])
		for _, i := range mixed(3, many) {
			b = b.put(2*i, i)
		}
		want := b.words.rising()
		brokenOff(t, b.tree.All(), want)
		for k := -1; k < 2*many; k++ {
			rank, _ := b.words.rank(k)
			brokenOff(t, b.tree.From(k), want[rank:])
		}
	}
}

// brokenOff fails if one who breaks off at any place is told otherwise than the first ones of want, or once more.
func brokenOff(t *testing.T, all iter.Seq2[int, int], want []pair[int, int]) {
	t.Helper()
	for stop := range want {
		var got []pair[int, int]
		all(func(k, v int) bool {
			got = append(got, pair[int, int]{k, v})
			return len(got) <= stop
		})
		if !slices.Equal(got, want[:stop+1]) {
			t.Fatalf("broken off at %d: %v of %v", stop, got, want)
		}
	}
	for range 2 {
		if got := told(t, all); !slices.Equal(got, want) {
			t.Fatalf("told %v, want %v", got, want)
		}
	}
}

// P8.2: an iterator tells the tree of which it was asked, whatever is put and dropped while one asks; and one may ask within asking.
func TestAskedWhileOthersAreMade(t *testing.T) {
	b := newBoth[int, int](cmp.Compare[int])
	for k := range 9 {
		b = b.put(k, k)
	}
	x := b.tree
	var got []pair[int, int]
	within := 0
	for k, v := range b.tree.All() {
		x = x.Put(k+100, v).Drop(k).Drop(k + 1)
		got = append(got, pair[int, int]{k, v})
		for range b.tree.From(k) {
			within++
		}
	}
	if !slices.Equal(got, b.words.rising()) || within != 45 {
		t.Errorf("told %v, and %d within", got, within)
	}
	alike(t, b)
	if n, ok := x.Rank(100); n != 0 || !ok || x.Len() != 9 {
		t.Errorf("the other one has %v", told(t, x.All()))
	}
}

// P8.2: From tells what the key was when it was called; what becomes of it then is nobody's matter.
func TestFromOfAKeyThatIsChangedThen(t *testing.T) {
	x := New[[]int, string](slices.Compare[[]int])
	for i, s := range []string{"a", "b", "c", "d"} {
		x = x.Put([]int{i}, s)
	}
	k := []int{2}
	from := x.From(k)
	k[0] = 0
	s := ""
	for _, v := range from {
		s += v
	}
	if s != "cd" {
		t.Errorf("From tells %q", s)
	}
}

// P8.3: many keys put rising, falling and mixed: Deep at each step, of puts and of drops.
func TestDeep(t *testing.T) {
	const many = 3000
	for name, keys := range orders(many) {
		x := New[int, struct{}](cmp.Compare[int])
		withinBound(t, x)
		for i, k := range keys {
			x = x.Put(k, struct{}{})
			withinBound(t, x)
			if x.Len() != i+1 {
				t.Fatalf("%s: %d keys behind %d puts", name, x.Len(), i+1)
			}
			if i%500 == 0 {
				wellStood(t, x)
			}
		}
		for dropName, drops := range orders(many) {
			y := x
			for i, k := range drops {
				y = y.Drop(k)
				withinBound(t, y)
				if y.Len() != many-1-i {
					t.Fatalf("%s, dropped %s: %d keys behind %d drops", name, dropName, y.Len(), i+1)
				}
				if i%500 == 0 {
					wellStood(t, y)
				}
			}
		}
	}
}

// P8.3: puts and drops among one another, of few keys and of many.
func TestDeepOfPutsAndDrops(t *testing.T) {
	source := rand.New(rand.NewSource(83))
	for _, span := range []int{1, 2, 3, 5, 8, 16, 33, 100, 1000} {
		x := New[int, int](cmp.Compare[int])
		for turn := range 4000 {
			k := source.Intn(span)
			if source.Intn(2) == 0 {
				x = x.Put(k, turn)
			} else {
				x = x.Drop(k)
			}
			withinBound(t, x)
		}
		wellStood(t, x)
	}
}

// P8.3: a window of keys that goes on: the least is dropped for each one that is put.
func TestDeepOfAWindow(t *testing.T) {
	for _, width := range []int{1, 2, 3, 7, 20, 64} {
		b := newBoth[int, int](cmp.Compare[int])
		for k := range 300 {
			b = b.put(k, k).drop(k - width)
			withinBound(t, b.tree)
			if got := b.tree.Len(); got != min(k+1, width) {
				t.Fatalf("%d keys in a window of %d", got, width)
			}
		}
		alike(t, b)
	}
}

// P8.4: in each order in which few keys are put, they stand alike, and likewise in some orders of many.
func TestInWhateverOrder(t *testing.T) {
	for many := range 8 {
		want := newBoth[int, int](cmp.Compare[int])
		for k := range many {
			want = want.put(k, 7*k)
		}
		for keys := range eachOrder(many) {
			b := want
			b.tree = New[int, int](cmp.Compare[int])
			for _, k := range keys {
				b.tree = b.tree.Put(k, 7*k)
			}
			alike(t, b)
		}
	}
	const many = 500
	var first []pair[int, int]
	for name, keys := range orders(many) {
		x := New[int, int](cmp.Compare[int])
		for _, k := range keys {
			x = x.Put(k, 7*k)
		}
		got := told(t, x.All())
		if first == nil {
			first = got
		}
		if len(got) != many || !slices.Equal(got, first) {
			t.Fatalf("%s: %v", name, got)
		}
	}
}

// P8.4: the key of a key's rank is the key, and the rank of a rank's key is the rank.
func TestKeyOfAKeysRank(t *testing.T) {
	for name, keys := range orders(700) {
		x := New[int, int](cmp.Compare[int])
		for _, k := range keys {
			x = x.Put(5*k-1000, k)
		}
		for _, k := range keys {
			n, ok := x.Rank(5*k - 1000)
			key, v, there := x.At(n)
			if n != k || !ok || key != 5*k-1000 || v != k || !there {
				t.Fatalf("%s: Rank tells %d, %v; At tells %d, %d, %v", name, n, ok, key, v, there)
			}
		}
	}
}

// place is a key of several numbers.
type place struct {
	row, column int
	name        string
}

func comparePlaces(a, b place) int {
	return cmp.Or(cmp.Compare(a.row, b.row), cmp.Compare(a.column, b.column), cmp.Compare(a.name, b.name))
}

// P8.1, P8.2: keys and things of several kinds.
func TestSeveralKinds(t *testing.T) {
	places := newBoth[place, [2]float64](comparePlaces)
	for i, n := range mixed(5, 50) {
		places = places.put(place{n % 3, n % 7, strings.Repeat("x", n%2)}, [2]float64{float64(n), float64(i)})
		alike(t, places)
		asked(t, places, place{n % 3, -n % 7, ""})
	}
	for n := range 20 {
		places = places.drop(place{n % 3, n % 7, ""})
		alike(t, places)
	}

	texts := newBoth[string, place](strings.Compare)
	for i, s := range strings.Split(" b ab a ba B aa  é c", " ") {
		texts = texts.put(s, place{i, -i, s})
		alike(t, texts)
	}
	for _, s := range []string{"", "a", "aaa", "ab", "z", "é", "\xff"} {
		asked(t, texts, s)
		alike(t, texts.drop(s))
	}

	words := newBoth[uint64, *int](cmp.Compare[uint64])
	for _, k := range []uint64{math.MaxUint64, 0, 1 << 63, 1, 1<<63 - 1} {
		words = words.put(k, new(int)).put(k+2, nil)
		alike(t, words)
	}
}

// P8.1: a thing may be a tree, and a list; it is told as it was put.
func TestThingsOfAnyKind(t *testing.T) {
	inner := New[int, []string](cmp.Compare[int]).Put(1, []string{"a", "b"})
	outer := New[int, *Tree[int, []string]](cmp.Compare[int]).Put(9, inner).Put(8, nil)
	got, ok := outer.Get(9)
	if got != inner || !ok {
		t.Fatal("another tree")
	}
	if l, ok := got.Get(1); !slices.Equal(l, []string{"a", "b"}) || !ok {
		t.Errorf("%q, %v", l, ok)
	}
	if got, ok := outer.Get(8); got != nil || !ok {
		t.Error("a nil thing is there all the same")
	}
}

// P8.1, P8.2, P8.3: orders other than the plain one, which tell any number below or above 0.
func TestOtherOrders(t *testing.T) {
	several := map[string]func(a, b int) int{
		"falling": func(a, b int) int { return cmp.Compare(b, a) },
		"wide":    func(a, b int) int { return 1000 * (a - b) },
		"ends":    func(a, b int) int { return []int{math.MinInt, 0, math.MaxInt}[1+cmp.Compare(a, b)] },
		"by remainder": func(a, b int) int {
			return cmp.Or(cmp.Compare(a%5, b%5), cmp.Compare(a, b))
		},
		"remainder alone": func(a, b int) int { return cmp.Compare(a%5, b%5) },
		"all alike":       func(a, b int) int { return 0 },
	}
	for _, order := range several {
		b := newBoth[int, int](order)
		for i, k := range mixed(11, 40) {
			b = b.put(k, i)
			alike(t, b)
			asked(t, b, 2*k)
		}
		for _, k := range mixed(12, 40) {
			b = b.drop(k)
			alike(t, b)
			asked(t, b, k)
		}
	}
}

// Rule 1: of an order that isn't one nothing is promised, but that no call panics, and each one ends.
func TestOrdersThatAreNone(t *testing.T) {
	source := rand.New(rand.NewSource(4))
	wrong := []func(a, b int) int{
		func(a, b int) int { return 1 },
		func(a, b int) int { return -1 },
		func(a, b int) int { return (a*7 + b*5) % 3 },
		func(a, b int) int { return a ^ b - 2 },
		func(a, b int) int { return source.Intn(3) - 1 },
	}
	for _, order := range wrong {
		x := New[int, int](order)
		for turn := range 500 {
			k := source.Intn(30)
			if source.Intn(3) == 0 {
				x = x.Drop(k)
			} else {
				x = x.Put(k, turn)
			}
			x.Get(k)
			x.Rank(k)
			x.At(k)
			told(t, x.All())
			told(t, x.From(k))
			withinBound(t, x)
		}
	}
}

// P8.1: a key is put without looking at the others: so many steps as Deep tells are enough.
func TestFewComparisons(t *testing.T) {
	steps := 0
	x := New[int, int](func(a, b int) int {
		steps++
		return cmp.Compare(a, b)
	})
	for _, k := range mixed(21, 5000) {
		steps = 0
		deep := x.Deep()
		x = x.Put(k, k)
		if steps > deep {
			t.Fatalf("Put asks %d times, with %d keys above one another", steps, deep)
		}
	}
	for k := range 5000 {
		steps = 0
		x.Get(k)
		x.Rank(k)
		x.From(k)
		x.Drop(k)
		if steps > 4*x.Deep() {
			t.Fatalf("four calls ask %d times, with %d keys above one another", steps, x.Deep())
		}
	}
}
