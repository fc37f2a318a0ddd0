package pool

import (
	"math"
	"math/rand"
	"slices"
	"testing"
)

// byTheWords is a pool as the chapter's words tell it: of its buffers it only counts.
type byTheWords struct {
	room, spare, waiting, made int
}

func (w *byTheWords) take() {
	if w.waiting > 0 {
		w.waiting--
	} else {
		w.made++
	}
}

func (w *byTheWords) give(room int) bool {
	if w.waiting == w.spare || room != w.room {
		return false
	}
	w.waiting++
	return true
}

// tells fails if the pool tells other numbers than these.
func tells[T any](t *testing.T, p *Pool[T], made, spare, room int) {
	t.Helper()
	if p.Made() != made || p.Spare() != spare || p.Room() != room {
		t.Fatalf("%d made, %d wait, room for %d; want %d, %d, %d", p.Made(), p.Spare(), p.Room(), made, spare, room)
	}
}

// alike fails if the pool tells other numbers than the words do.
func alike[T any](t *testing.T, p *Pool[T], w byTheWords) {
	t.Helper()
	tells(t, p, w.made, w.waiting, w.room)
}

// empty fails if b has things, another room, or something left in it.
func empty[T comparable](t *testing.T, b []T, room int) {
	t.Helper()
	if b == nil || len(b) != 0 || cap(b) != room {
		t.Fatalf("%d things, room for %d, want 0 and %d", len(b), cap(b), room)
	}
	cleared(t, b)
}

// cleared fails if something is left in the whole room of b.
func cleared[T comparable](t *testing.T, b []T) {
	t.Helper()
	var none T
	for i, x := range b[:cap(b)] {
		if x != none {
			t.Fatalf("%v is left at %d", x, i)
		}
	}
}

// one answers whether two buffers are the same one.
func one[T any](a, b []T) bool {
	return &a[:1][0] == &b[:1][0]
}

// filled is b with x as often as it has room.
func filled[T any](b []T, x T) []T {
	for len(b) < cap(b) {
		b = append(b, x)
	}
	return b
}

// withTaken is a new pool, and so many buffers that were taken of it.
func withTaken[T any](room, spare, many int) (*Pool[T], [][]T) {
	p := New[T](room, spare)
	var taken [][]T
	for range many {
		taken = append(taken, p.Take())
	}
	return p, taken
}

// P9.1, P9.2, example 1.
func TestExample(t *testing.T) {
	p := New[int](4, 1)
	if !p.Give(p.Take()) {
		t.Fatal("it doesn't wait")
	}
	p.Take()
	if p.Made() != 1 {
		t.Errorf("Made tells %d", p.Made())
	}
}

// P9.1, P9.2: none waits in a new pool, and nothing was taken.
func TestNew(t *testing.T) {
	tells(t, New[int](3, 2), 0, 0, 3)
	tells(t, New[string](1024, 1024), 0, 0, 1024)
	if New[int](3, 2) == New[int](3, 2) {
		t.Error("one pool for both")
	}
}

// P9.1, P9.2: the room is brought between 1 and 1024, and so much room have buffers, new ones and those that waited.
func TestRooms(t *testing.T) {
	for _, c := range []struct{ room, want int }{
		{math.MinInt, 1}, {math.MinInt + 1, 1}, {-1024, 1}, {-1, 1}, {0, 1}, {1, 1}, {2, 2}, {3, 3}, {5, 5}, {7, 7}, {100, 100},
		{1023, 1023}, {1024, 1024}, {1025, 1024}, {2048, 1024}, {1 << 32, 1024}, {1<<32 + 5, 1024}, {math.MaxInt - 1, 1024}, {math.MaxInt, 1024},
	} {
		p := New[byte](c.room, 1)
		tells(t, p, 0, 0, c.want)
		b := p.Take()
		empty(t, b, c.want)
		if !p.Give(filled(b, 7)) {
			t.Fatalf("room for %d: its own buffer doesn't wait", c.room)
		}
		empty(t, p.Take(), c.want)
		tells(t, p, 1, 0, c.want)
	}
}

// P9.1, P9.2: the number that may wait is brought between 0 and 1024; so many do, and none more.
func TestSpares(t *testing.T) {
	for _, c := range []struct{ spare, want int }{
		{math.MinInt, 0}, {math.MinInt + 1, 0}, {-1024, 0}, {-1, 0}, {0, 0}, {1, 1}, {2, 2}, {3, 3}, {17, 17},
		{1023, 1023}, {1024, 1024}, {1025, 1024}, {2048, 1024}, {1 << 32, 1024}, {1<<32 + 5, 1024}, {math.MaxInt - 1, 1024}, {math.MaxInt, 1024},
	} {
		p, taken := withTaken[int](2, c.spare, c.want+3)
		tells(t, p, c.want+3, 0, 2)
		for i, b := range taken {
			if got := p.Give(b); got != (i < c.want) {
				t.Fatalf("%d may wait: Give tells %v where %d do", c.spare, got, i)
			}
			tells(t, p, c.want+3, min(i+1, c.want), 2)
		}
		for i := range c.want {
			empty(t, p.Take(), 2)
			tells(t, p, c.want+3, c.want-1-i, 2)
		}
		empty(t, p.Take(), 2)
		tells(t, p, c.want+4, 0, 2)
	}
}

// P9.1, P9.2: each Take of a pool in which none waits is a new buffer.
func TestTakeWhereNoneWaits(t *testing.T) {
	p := New[int](3, 5)
	var taken [][]int
	for i := range 20 {
		b := p.Take()
		empty(t, b, 3)
		tells(t, p, i+1, 0, 3)
		for _, a := range taken {
			if one(a, b) {
				t.Fatalf("take %d: one that was taken already", i)
			}
		}
		taken = append(taken, b)
	}
}

// P9.1, P9.2: where several wait, each Take is another one of them; then new ones come again.
func TestTakeWhereSeveralWait(t *testing.T) {
	p, taken := withTaken[int](3, 5, 4)
	for _, b := range taken {
		if !p.Give(append(b, 1)) {
			t.Fatal("it doesn't wait")
		}
	}
	tells(t, p, 4, 4, 3)
	var again [][]int
	for i := range taken {
		b := p.Take()
		empty(t, b, 3)
		tells(t, p, 4, 3-i, 3)
		if slices.ContainsFunc(again, func(a []int) bool { return one(a, b) }) {
			t.Fatal("one was taken twice")
		}
		if !slices.ContainsFunc(taken, func(a []int) bool { return one(a, b) }) {
			t.Fatal("none of those that waited")
		}
		again = append(again, b)
	}
	b := p.Take()
	empty(t, b, 3)
	tells(t, p, 5, 0, 3)
	if slices.ContainsFunc(taken, func(a []int) bool { return one(a, b) }) {
		t.Fatal("one that doesn't wait any more")
	}
}

// P9.1: a buffer is used again: no memory is needed for one that waits.
func TestUsedAgain(t *testing.T) {
	p := New[int](100, 1)
	p.Give(p.Take())
	allocs := testing.AllocsPerRun(100, func() {
		p.Give(append(p.Take(), 1, 2, 3))
	})
	if allocs != 0 {
		t.Errorf("%v allocations", allocs)
	}
	tells(t, p, 1, 1, 100)
}

// P9.1: as many things as it has room for are put into a buffer without other memory.
func TestBuffersHaveRoom(t *testing.T) {
	for _, room := range []int{1, 2, 5, 1024} {
		p := New[int](room, 1)
		for range 3 {
			b := p.Take()
			full := filled(b, 9)
			if len(full) != room || !one(b, full) {
				t.Fatalf("%d things, room for %d", len(full), room)
			}
			if !p.Give(full) {
				t.Fatal("it doesn't wait")
			}
		}
		tells(t, p, 1, 1, room)
	}
}

// P9.1: full, with some things and without: it waits, nothing is left in it, there or when it is taken.
func TestGiveOfSomeThings(t *testing.T) {
	const room = 5
	for many := range room + 1 {
		p := New[string](room, 1)
		b := p.Take()
		for range many {
			b = append(b, "x")
		}
		if !p.Give(b) {
			t.Fatalf("%d things: it doesn't wait", many)
		}
		tells(t, p, 1, 1, room)
		cleared(t, b)
		empty(t, p.Take(), room)
		tells(t, p, 1, 0, room)
	}
}

// P9.1: what lies behind the end of what is given back is left in it no more than its things.
func TestGiveOfACutBuffer(t *testing.T) {
	const room = 6
	for keep := range room + 1 {
		p := New[int](room, 1)
		b := filled(p.Take(), 7)
		if !p.Give(b[:keep]) {
			t.Fatalf("cut to %d: it doesn't wait", keep)
		}
		cleared(t, b)
		empty(t, p.Take(), room)
	}
}

// P9.1: what is written to a buffer while it waits is not left in it for who takes it then.
func TestWrittenToWhileItWaits(t *testing.T) {
	p := New[int](4, 1)
	b := filled(p.Take(), 1)
	p.Give(b)
	copy(b, []int{5, 6, 7, 8})
	empty(t, p.Take(), 4)
}

// P9.1: a list with just so much room waits, wherever it is from; nil, and one with less or more room, does not.
func TestGiveOfOtherRooms(t *testing.T) {
	const room = 4
	for have := range 3 * room {
		for many := range have + 1 {
			p := New[int](room, 2)
			b := make([]int, have)
			for i := range b {
				b[i] = 10 + i
			}
			was := slices.Clone(b)
			if got := p.Give(b[:many]); got != (have == room) {
				t.Fatalf("room for %d: Give tells %v", have, got)
			}
			if have == room {
				tells(t, p, 0, 1, room)
				cleared(t, b)
				empty(t, p.Take(), room)
				tells(t, p, 0, 0, room)
			} else {
				tells(t, p, 0, 0, room)
				if !slices.Equal(b, was) {
					t.Fatalf("changed to %v", b)
				}
			}
		}
	}
	p := New[int](1, 1)
	if p.Give(nil) || p.Give([]int{}) || p.Give(make([]int, 0, 2)) {
		t.Error("it waits")
	}
	tells(t, p, 0, 0, 1)
}

// P9.1: the room counts, not how many things there are.
func TestGiveOfOtherRoomsWithSoManyThings(t *testing.T) {
	p := New[int](4, 3)
	if p.Give(make([]int, 4, 5)) || p.Give(make([]int, 4, 1024)) {
		t.Error("it has more room")
	}
	b := p.Take()
	if p.Give(b[:0:3]) || p.Give(b[1:4]) || p.Give(b[:0:0]) || p.Give(b[4:4]) {
		t.Error("a part of a buffer has less room")
	}
	tells(t, p, 1, 0, 4)
	if !p.Give(b[:0:4]) {
		t.Error("the whole has the room")
	}
}

// P9.1: a buffer that was appended to beyond its room is another list, with more room.
func TestGiveOfWhatWasAppendedTo(t *testing.T) {
	for _, room := range []int{1, 2, 3, 4, 8, 100, 1024} {
		p := New[int](room, 2)
		b := filled(p.Take(), 3)
		more := append(b, 4)
		if p.Give(more) {
			t.Fatalf("room for %d: %d things wait", room, len(more))
		}
		tells(t, p, 1, 0, room)
		if more[0] != 3 || more[room] != 4 || b[room-1] != 3 {
			t.Fatal("changed")
		}
		if !p.Give(b) {
			t.Fatal("the buffer itself doesn't wait")
		}
		tells(t, p, 1, 1, room)
		if more[0] != 3 || more[room] != 4 {
			t.Fatal("changed")
		}
	}
}

// P9.1: where so many wait already, and where none may, nothing is done: neither to the buffer, nor to those that wait.
func TestGiveWhereSoManyWait(t *testing.T) {
	for spare := range 4 {
		p, taken := withTaken[int](3, spare, spare+1)
		for _, b := range taken[:spare] {
			p.Give(b)
		}
		b := append(taken[spare], 1, 2)
		b[:3][2] = 3
		for range 3 {
			if p.Give(b) {
				t.Fatalf("%d wait, and one more", spare)
			}
			tells(t, p, spare+1, spare, 3)
			if !slices.Equal(b[:3], []int{1, 2, 3}) {
				t.Fatalf("changed to %v", b[:3])
			}
		}
		for range spare + 1 {
			if got := p.Take(); one(got, b) {
				t.Fatal("what doesn't wait was taken")
			}
		}
		tells(t, p, spare+2, 0, 3)
	}
}

// P9.1: behind a Take there is room again for one that waits.
func TestGiveBehindTake(t *testing.T) {
	p, taken := withTaken[int](3, 1, 2)
	for turn := range 5 {
		if !p.Give(taken[0]) || p.Give(taken[1]) {
			t.Fatalf("turn %d: not just one waits", turn)
		}
		taken[0] = p.Take()
		tells(t, p, 2, 0, 3)
	}
}

// P9.1: pools know nothing of one another.
func TestSeveralPools(t *testing.T) {
	p, q := New[int](3, 1), New[int](3, 1)
	a := p.Take()
	tells(t, q, 0, 0, 3)
	if !q.Give(a) || p.Spare() != 0 {
		t.Fatal("it waits in the other pool")
	}
	if one(p.Take(), a) || !one(q.Take(), a) {
		t.Error("taken of another pool than where it waits")
	}
	tells(t, p, 2, 0, 3)
	tells(t, q, 0, 0, 3)
}

// P9.1, P9.2, P9.3: many takes and gives among one another, against the words at each step; each buffer that was taken has its own things, and keeps them.
func TestTakesAndGives(t *testing.T) {
	source := rand.New(rand.NewSource(9))
	for _, room := range []int{1, 2, 3, 8} {
		for _, spare := range []int{0, 1, 2, 5, 30} {
			p, w := New[int](room, spare), byTheWords{room: room, spare: spare}
			alike(t, p, w)
			var taken [][]int
			for turn := range 600 {
				// Long rises and falls, so that it comes to both ends.
				if len(taken) == 0 || source.Intn(10) < 3+4*(turn/40%2) {
					b := p.Take()
					w.take()
					empty(t, b, room)
					taken = append(taken, filled(b, turn))
				} else {
					taken = giveOne(t, source, p, &w, taken)
				}
				alike(t, p, w)
				apart(t, taken, room)
			}
		}
	}
}

// giveOne gives one of those that were taken back, cut anywhere, and answers those that are left: it is one of them if it doesn't wait.
func giveOne(t *testing.T, source *rand.Rand, p *Pool[int], w *byTheWords, taken [][]int) [][]int {
	t.Helper()
	i := source.Intn(len(taken))
	b := taken[i]
	got, want := p.Give(b[:source.Intn(len(b)+1)]), w.give(cap(b))
	if got != want {
		t.Fatalf("Give tells %v, want %v", got, want)
	}
	if !got {
		return taken
	}
	cleared(t, b)
	return slices.Delete(taken, i, i+1)
}

// apart fails if a buffer that was filled with one thing has another one, or two have the same.
func apart(t *testing.T, taken [][]int, room int) {
	t.Helper()
	seen := map[int]int{}
	for i, b := range taken {
		if len(b) != room {
			t.Fatalf("%d things in a buffer for %d", len(b), room)
		}
		for _, x := range b {
			if x != b[0] {
				t.Fatalf("another one's things: %v", b)
			}
		}
		if j, ok := seen[b[0]]; ok {
			t.Fatalf("%d and %d have the same things: %v", i, j, b)
		}
		seen[b[0]] = i
	}
}

// P9.3: buffers that were taken and not given back, each filled with its own things, some new and some that waited: none is in another one.
func TestOwnThings(t *testing.T) {
	for _, room := range []int{1, 3, 1024} {
		p, taken := withTaken[int](room, 10, 12)
		for _, b := range taken {
			p.Give(filled(b, -1))
		}
		taken = taken[10:] // two of them don't wait, and are full
		for i := range taken {
			taken[i] = filled(taken[i], 0)[:0]
		}
		for range 20 {
			taken = append(taken, p.Take())
		}
		for i := range taken {
			taken[i] = filled(taken[i], i)
			apart(t, taken[:i+1], room)
		}
		tells(t, p, 22, 0, room)
	}
}

// P9.3: a buffer that is given back more than once: each time one waits, as P9.1 says, but who takes them has no two of one.
func TestGivenTwice(t *testing.T) {
	const room, spare = 3, 6
	for times := 2; times <= spare; times++ {
		p, taken := withTaken[int](room, spare, 2)
		p.Give(taken[1])
		for i := range times {
			got := p.Give(append(taken[0], 1, 2))
			if got != (i+1 < spare) {
				t.Fatalf("time %d: Give tells %v", i, got)
			}
			tells(t, p, 2, min(i+2, spare), room)
		}
		var again [][]int
		for range times + 3 {
			b := p.Take()
			empty(t, b, room)
			again = append(again, b)
		}
		for i := range again {
			again[i] = filled(again[i], i)
			apart(t, again[:i+1], room)
		}
	}
}

// P9.3: a buffer that was given back, taken and given back once more is given back, by whatever name.
func TestGivenByAnOlderName(t *testing.T) {
	p := New[int](2, 2)
	older := p.Take()
	for range 5 {
		p.Give(older)
		p.Take()
	}
	if !p.Give(older) {
		t.Fatal("it doesn't wait")
	}
	tells(t, p, 1, 1, 2)
	a, b := filled(p.Take(), 1), filled(p.Take(), 2)
	apart(t, [][]int{a, b}, 2)
	tells(t, p, 2, 0, 2)
}

// P9.1, P9.2: what a nil pool tells.
func TestNil(t *testing.T) {
	var p *Pool[int]
	for range 2 {
		if b := p.Take(); b != nil {
			t.Errorf("Take tells %v", b)
		}
		b := []int{1, 2}
		if p.Give(b) || p.Give(nil) || p.Give([]int{}) || p.Give(b[:0]) || p.Give(make([]int, 0, 1024)) {
			t.Error("it waits")
		}
		if !slices.Equal(b, []int{1, 2}) {
			t.Errorf("changed to %v", b)
		}
		tells(t, p, 0, 0, 0)
	}
	var texts *Pool[string]
	if texts.Take() != nil || texts.Give([]string{""}) {
		t.Error("a nil pool has something")
	}
	tells(t, texts, 0, 0, 0)
}

// thing is one of several parts.
type thing struct {
	name  string
	count int
	next  *thing
}

// P9.1, P9.2, P9.3: things of several kinds.
func TestSeveralKinds(t *testing.T) {
	ofKind(t, 1, 2)
	ofKind[byte](t, 1, 255)
	ofKind(t, math.Inf(1), math.MaxFloat64)
	ofKind(t, "a", "b")
	ofKind(t, true, true)
	ofKind(t, thing{"a", 1, nil}, thing{"", 0, &thing{}})
	ofKind(t, &thing{"a", 1, nil}, &thing{"a", 1, nil})
	ofKind(t, [3]int{0, 0, 1}, [3]int{1, 0, 0})
	ofKind[any](t, 1, "b")
	ofKind[error](t, wrong("a"), wrong("b"))
	ofKind(t, New[int](1, 1), New[int](1, 1))
	ofKind(t, struct{}{}, struct{}{}) // which take no room at all
}

type wrong string

func (w wrong) Error() string { return string(w) }

func ofKind[T comparable](t *testing.T, x, y T) {
	t.Helper()
	const room = 3
	p, taken := withTaken[T](room, 2, 3)
	a, b, c := filled(taken[0], x), append(taken[1], y), append(taken[2], x, y)
	for _, z := range a {
		if z != x {
			t.Fatalf("%v in place of %v", z, x)
		}
	}
	if b[0] != y || c[0] != x || c[1] != y {
		t.Fatal("another one's things")
	}
	if !p.Give(a) || !p.Give(b) || p.Give(c) {
		t.Fatal("not just two wait")
	}
	tells(t, p, 3, 2, room)
	cleared(t, a)
	cleared(t, b)
	if c[0] != x || c[1] != y {
		t.Fatal("what doesn't wait was changed")
	}
	for i := range 3 {
		empty(t, p.Take(), room)
		tells(t, p, 3+max(i-1, 0), max(1-i, 0), room)
	}
}

// P9.1: things that can't be compared, lists and functions, are left no more than others.
func TestThingsThatAreLists(t *testing.T) {
	lists := New[[]int](2, 1)
	l := filled(lists.Take(), []int{1, 2})
	kept := l[0]
	lists.Give(l)
	if again := lists.Take()[:2]; again[0] != nil || again[1] != nil {
		t.Errorf("%v is left", again)
	}
	if !slices.Equal(kept, []int{1, 2}) {
		t.Errorf("a thing itself was changed to %v", kept)
	}
	funcs := New[func()](2, 1)
	funcs.Give(filled(funcs.Take(), func() {}))
	if again := funcs.Take()[:2]; again[0] != nil || again[1] != nil {
		t.Error("a function is left")
	}
}

// P9.1: one that was taken waits no more: the pool keeps nothing of it.
func TestTakenIsGone(t *testing.T) {
	p, taken := withTaken[int](2, 4, 4)
	for _, b := range taken {
		p.Give(b)
	}
	for left := 3; left >= 0; left-- {
		p.Take()
		kept := 0
		for _, b := range p.waiting[:cap(p.waiting)] {
			if b != nil {
				kept++
			}
		}
		if kept != left {
			t.Fatalf("the pool keeps %d, %d wait", kept, left)
		}
	}
}
