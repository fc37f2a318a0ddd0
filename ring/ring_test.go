package ring

import (
	"math"
	"math/rand"
	"slices"
	"strconv"
	"testing"

	"cortado/api"
)

// ringByTheWords is a ring as the chapter's words tell it: things in a row, and how many there may be.
type ringByTheWords[T any] struct {
	row  []T
	room int
}

func newByTheWords[T any](room int) *ringByTheWords[T] {
	switch {
	case room < 0:
		room = 0
	case room > 65536:
		room = 65536
	}
	return &ringByTheWords[T]{room: room}
}

func (w *ringByTheWords[T]) send(x T) bool {
	if len(w.row) >= w.room {
		return false
	}
	w.row = append(w.row, x)
	return true
}

func (w *ringByTheWords[T]) take() (T, bool) {
	var x T
	if len(w.row) == 0 {
		return x, false
	}
	x, w.row = w.row[0], w.row[1:]
	return x, true
}

// told is what All tells, with the places held against those that they must be.
func told[T any](t *testing.T, r *Ring[T]) []T {
	t.Helper()
	var things []T
	for i, x := range r.All() {
		if i != len(things) {
			t.Fatalf("All tells the place %d, with %d things ahead", i, len(things))
		}
		things = append(things, x)
	}
	return things
}

// alike fails if r isn't a ring with just these things and this room, asked in all ways that leave it as it is.
func alike[T comparable](t *testing.T, r *Ring[T], things []T, room int) {
	t.Helper()
	if r.Len() != len(things) || r.Room() != room {
		t.Fatalf("%d things with room for %d, want %d and %d", r.Len(), r.Room(), len(things), room)
	}
	if got := told(t, r); !slices.Equal(got, things) {
		t.Fatalf("All tells %v, want %v", got, things)
	}
	for i, want := range things {
		if got, ok := r.At(i); got != want || !ok {
			t.Fatalf("At(%d) tells %v, %v, want %v", i, got, ok, want)
		}
	}
	var none T
	for _, i := range []int{-1, len(things), len(things) + 1, room, room + 1, math.MinInt, math.MaxInt} {
		if i >= 0 && i < len(things) {
			continue
		}
		if got, ok := r.At(i); got != none || ok {
			t.Fatalf("At(%d) of %d tells %v, %v", i, len(things), got, ok)
		}
	}
}

// filled is a ring with these things, whose front stands at another slot than the first one if turned isn't 0.
func filled[T any](t *testing.T, room, turned int, things ...T) *Ring[T] {
	t.Helper()
	r := New[T](room)
	var filler T
	for range room {
		r.Send(filler)
	}
	for range room {
		r.Take()
	}
	for range turned {
		r.Send(filler)
		r.Take()
	}
	for _, x := range things {
		if !r.Send(x) {
			t.Fatalf("no room for %v", x)
		}
	}
	return r
}

// P7.1, example 1.
func TestExample(t *testing.T) {
	r := New[int](2)
	for i, want := range []bool{true, true, false} {
		if got := r.Send(i + 1); got != want {
			t.Errorf("Send(%d) tells %v", i+1, got)
		}
	}
	if x, ok := r.Take(); x != 1 || !ok {
		t.Errorf("Take tells %d, %v", x, ok)
	}
	alike(t, r, []int{2}, 2)
}

// P7.1: the room is brought between 0 and MaxRing, and is there in all.
func TestRoom(t *testing.T) {
	rooms := map[int]int{
		math.MinInt: 0, math.MinInt + 1: 0, -65536: 0, -2: 0, -1: 0, 0: 0, 1: 1, 2: 2, 3: 3, 7: 7, 64: 64,
		65535: 65535, 65536: 65536, 65537: 65536, 1 << 32: 65536, 1<<32 + 1: 65536, math.MaxInt - 1: 65536, math.MaxInt: 65536,
	}
	if api.MaxRing != 65536 {
		t.Fatal(api.MaxRing)
	}
	for asked, want := range rooms {
		r := New[int](asked)
		if r == nil || r.Len() != 0 || r.Room() != want {
			t.Fatalf("New(%d): %d things, room for %d, want 0 and %d", asked, r.Len(), r.Room(), want)
		}
		for i := range want {
			if !r.Send(i) || r.Len() != i+1 || r.Room() != want {
				t.Fatalf("New(%d): Send of the thing %d: %d things, room for %d", asked, i, r.Len(), r.Room())
			}
		}
		for range 3 {
			if r.Send(-1) || r.Len() != want || r.Room() != want {
				t.Fatalf("New(%d): sent beyond the room: %d things, room for %d", asked, r.Len(), r.Room())
			}
		}
		for i := range want {
			if x, ok := r.Take(); x != i || !ok || r.Len() != want-i-1 || r.Room() != want {
				t.Fatalf("New(%d): Take tells %d, %v, want %d", asked, x, ok, i)
			}
		}
		if x, ok := r.Take(); x != 0 || ok {
			t.Fatalf("New(%d): Take of none tells %d, %v", asked, x, ok)
		}
	}
}

// P7.1: much room takes no memory till it is used, so that a ring of great things can be made too.
func TestRoomOfGreatThings(t *testing.T) {
	type great [1 << 20]int
	r := New[great](math.MaxInt)
	if r.Room() != api.MaxRing {
		t.Fatal(r.Room())
	}
	var x great
	x[0], x[len(x)-1] = 3, 4
	if !r.Send(x) {
		t.Fatal("no room")
	}
	if got, ok := r.Take(); !ok || got != x {
		t.Error("another thing")
	}
}

// P7.1: without room nothing is sent, taken or told.
func TestWithoutRoom(t *testing.T) {
	for _, room := range []int{math.MinInt, -1, 0} {
		r := New[string](room)
		for range 3 {
			if r.Send("a") {
				t.Errorf("New(%d): sent", room)
			}
			if x, ok := r.Take(); x != "" || ok {
				t.Errorf("New(%d): Take tells %q, %v", room, x, ok)
			}
			alike(t, r, nil, 0)
			alike(t, r.Clone(), nil, 0)
		}
		for x := range r.Drain() {
			t.Errorf("New(%d): Drain tells %q", room, x)
		}
	}
}

// P7.1: what Send refuses changes nothing, and there is room again behind Take.
func TestFull(t *testing.T) {
	for room := 1; room < 9; room++ {
		for turned := range room {
			var things []int
			for i := range room {
				things = append(things, i+1)
			}
			r := filled(t, room, turned, things...)
			for range 2 {
				if r.Send(99) {
					t.Fatalf("room for %d: sent beyond it", room)
				}
				alike(t, r, things, room)
			}
			if x, ok := r.Take(); x != 1 || !ok {
				t.Fatalf("Take tells %d, %v", x, ok)
			}
			alike(t, r, things[1:], room)
			if !r.Send(100) || r.Send(101) {
				t.Fatalf("room for %d: room for one behind Take", room)
			}
			alike(t, r, append(slices.Clone(things[1:]), 100), room)
		}
	}
}

// P7.1: Take of an empty ring tells a zero thing, and changes nothing, whatever was in it.
func TestTakeOfNone(t *testing.T) {
	r := New[string](2)
	for turn := range 5 {
		for range 2 {
			if x, ok := r.Take(); x != "" || ok {
				t.Fatalf("Take tells %q, %v", x, ok)
			}
			alike(t, r, nil, 2)
		}
		name := strconv.Itoa(turn)
		if !r.Send(name) {
			t.Fatal("no room")
		}
		if x, ok := r.Take(); x != name || !ok {
			t.Fatalf("Take tells %q, %v, want %q", x, ok, name)
		}
	}
}

// P7.1: At tells the thing with i ahead of it, wherever the front stands.
func TestAt(t *testing.T) {
	for turned := range 4 {
		r := filled(t, 4, turned, "a", "b", "c")
		for i, want := range map[int]string{0: "a", 1: "b", 2: "c"} {
			if x, ok := r.At(i); x != want || !ok {
				t.Errorf("At(%d) tells %q, %v", i, x, ok)
			}
		}
		for _, i := range []int{math.MinInt, math.MinInt + 1, -4, -3, -1, 3, 4, 5, 7, 65536, math.MaxInt - 1, math.MaxInt} {
			if x, ok := r.At(i); x != "" || ok {
				t.Errorf("At(%d) tells %q, %v", i, x, ok)
			}
		}
		alike(t, r, []string{"a", "b", "c"}, 4)
	}
	if x, ok := New[string](4).At(0); x != "" || ok {
		t.Errorf("At(0) of none tells %q, %v", x, ok)
	}
}

// ofKind sends, tells and takes things of one kind.
func ofKind[T comparable](t *testing.T, things ...T) {
	t.Helper()
	room := len(things)
	r := New[T](room)
	for range 3 {
		for i, x := range things {
			if !r.Send(x) {
				t.Fatalf("no room for %v", x)
			}
			alike(t, r, things[:i+1], room)
		}
		var none T
		if r.Send(none) {
			t.Fatal("sent beyond the room")
		}
		alike(t, r.Clone(), things, room)
		for i, want := range things {
			if x, ok := r.Take(); x != want || !ok {
				t.Fatalf("Take tells %v, %v, want %v", x, ok, want)
			}
			alike(t, r, things[i+1:], room)
		}
		if x, ok := r.Take(); x != none || ok {
			t.Fatalf("Take of none tells %v, %v", x, ok)
		}
	}
}

// P7.1: things are of any kind; zero things, and things twice, are things like others.
func TestKinds(t *testing.T) {
	ofKind(t, 0, 1, 0, 1, -1, math.MinInt, math.MaxInt)
	ofKind[uint8](t, 255, 0, 7)
	ofKind(t, "", "a", "", "bc", "a")
	ofKind(t, true, false, false)
	ofKind(t, api.Pair{}, api.Pair{Hash: 1}, api.Pair{Conflict: 1}, api.Pair{})
	ofKind(t, struct{}{}, struct{}{})
	ofKind(t, [2]string{"a", ""}, [2]string{})
	one, other := 1, 1
	ofKind(t, &one, nil, &other, &one)
	ofKind[any](t, 1, "a", nil, api.Op{Kind: api.OpSet}, &one)
	ofKind(t, New[int](1), nil, New[int](1))
}

// P7.1: lists and functions can be things too, of which no two can be compared.
func TestKindsNotCompared(t *testing.T) {
	lists := New[[]int](2)
	list := []int{1, 2}
	lists.Send(list)
	lists.Send(nil)
	if x, ok := lists.Take(); !ok || !slices.Equal(x, list) || &x[0] != &list[0] {
		t.Errorf("Take tells %v, %v", x, ok)
	}
	if x, ok := lists.Take(); !ok || x != nil {
		t.Errorf("Take tells %v, %v", x, ok)
	}
	functions := New[func() int](1)
	functions.Send(func() int { return 7 })
	if f, ok := functions.Take(); !ok || f() != 7 {
		t.Error("another function")
	}
	if f, ok := functions.Take(); ok || f != nil {
		t.Error("a function of none")
	}
}

// P7.1 and P7.3: sends and takes, mixed for many more times than there is room, tell what a row tells.
func TestMixed(t *testing.T) {
	source := rand.New(rand.NewSource(7))
	for _, room := range []int{-1, 0, 1, 2, 3, 4, 5, 6, 7, 8, 15, 16, 17, 64} {
		for _, sends := range []int{30, 50, 70} {
			r, w := New[int](room), newByTheWords[int](room)
			for turn := range 1000 {
				if source.Intn(100) < sends {
					if got, want := r.Send(turn), w.send(turn); got != want {
						t.Fatalf("room for %d: Send tells %v, want %v", room, got, want)
					}
				} else {
					got, ok := r.Take()
					want, wantOk := w.take()
					if got != want || ok != wantOk {
						t.Fatalf("room for %d: Take tells %d, %v, want %d, %v", room, got, ok, want, wantOk)
					}
				}
				alike(t, r, w.row, w.room)
			}
		}
	}
}

// P7.3: what was sent is taken in that order, each once, by Take and by Drain, however they are mixed.
func TestOrder(t *testing.T) {
	source := rand.New(rand.NewSource(8))
	for _, room := range []int{1, 2, 3, 5, 8, 100, api.MaxRing} {
		r := New[int](room)
		next, taken := 0, 0
		check := func(x int) {
			if x != taken {
				t.Fatalf("room for %d: %d was taken behind %d things", room, x, taken)
			}
			taken++
		}
		for range 200 {
			for range source.Intn(2 * min(room, 1000)) {
				if r.Send(next) {
					next++
				}
			}
			for range source.Intn(min(room, 1000) + 1) {
				if x, ok := r.Take(); ok {
					check(x)
				}
			}
			left := source.Intn(5)
			for x := range r.Drain() {
				check(x)
				if left--; left < 0 {
					break
				}
			}
			if r.Len() != next-taken {
				t.Fatalf("room for %d: %d were sent and %d taken, %d are there", room, next, taken, r.Len())
			}
		}
		for x := range r.Drain() {
			check(x)
		}
		if taken != next {
			t.Fatalf("room for %d: %d were sent, %d were taken", room, next, taken)
		}
	}
}

// P7.1 and P7.3: a ring that was used whole goes round its room again.
func TestWholeRoom(t *testing.T) {
	r := New[int](api.MaxRing)
	next, taken := 0, 0
	for range 3 {
		for range api.MaxRing + 1 {
			if r.Send(next) {
				next++
			}
		}
		if r.Len() != api.MaxRing {
			t.Fatal(r.Len())
		}
		for range api.MaxRing/2 + 1 {
			if x, ok := r.Take(); x != taken || !ok {
				t.Fatalf("Take tells %d, %v, want %d", x, ok, taken)
			}
			taken++
		}
	}
	for i, x := range r.All() {
		if x != taken+i {
			t.Fatalf("All tells %d at %d, want %d", x, i, taken+i)
		}
	}
}

// P7.2: All tells places and things, wherever the front stands, and leaves them.
func TestAll(t *testing.T) {
	for turned := range 5 {
		r := filled(t, 5, turned, "c", "a", "b")
		for range 2 {
			if got := told(t, r); !slices.Equal(got, []string{"c", "a", "b"}) {
				t.Errorf("All tells %q", got)
			}
		}
		alike(t, r, []string{"c", "a", "b"}, 5)
	}
}

// P7.2: All of an empty ring tells nothing.
func TestAllOfNone(t *testing.T) {
	for _, r := range []*Ring[int]{nil, New[int](0), New[int](3), filled[int](t, 3, 2)} {
		all := r.All()
		if all == nil {
			t.Fatal("no iterator")
		}
		for i, x := range all {
			t.Errorf("All tells %d, %d", i, x)
		}
	}
}

// P7.2: All tells as long as one asks: at the place at which one breaks off, nothing more is told.
func TestAllBrokenOff(t *testing.T) {
	for turned := range 4 {
		r := filled(t, 4, turned, 10, 11, 12)
		for stop := range 3 {
			calls := 0
			r.All()(func(i, x int) bool {
				if i != calls || x != 10+i {
					t.Errorf("All tells %d, %d behind %d things", i, x, calls)
				}
				calls++
				return i < stop
			})
			if calls != stop+1 {
				t.Errorf("broken off at %d: told %d times", stop, calls)
			}
			alike(t, r, []int{10, 11, 12}, 4)
		}
	}
}

// P7.2: it counts when one begins to ask, not when All was called; and anew each time that one asks.
func TestAllAskedTwice(t *testing.T) {
	r := New[int](3)
	all := r.All()
	for want := range 4 {
		var got []int
		for i, x := range all {
			if i != len(got) {
				t.Errorf("the place %d behind %d things", i, len(got))
			}
			got = append(got, x)
		}
		if len(got) != want {
			t.Errorf("asked with %d things: told %v", want, got)
		}
		r.Send(want)
	}
	r.Take()
	for i, x := range all {
		if x != i+1 {
			t.Errorf("behind Take: %d at %d", x, i)
		}
		break
	}
	for i, x := range all {
		if x != i+1 {
			t.Errorf("behind a break: %d at %d", x, i)
		}
	}
}

// P7.2: sends and takes while one asks change the ring, but not what is told.
func TestAllWhileOthersSendAndTake(t *testing.T) {
	for turned := range 4 {
		doings := map[string]func(*Ring[int]){
			"take":           func(r *Ring[int]) { r.Take() },
			"send":           func(r *Ring[int]) { r.Send(99) },
			"take, send":     func(r *Ring[int]) { r.Take(); r.Send(99) },
			"send, take":     func(r *Ring[int]) { r.Send(99); r.Take() },
			"drain":          func(r *Ring[int]) { drained(r) },
			"drain and send": func(r *Ring[int]) { drained(r); r.Send(98); r.Send(99) },
			"ask":            func(r *Ring[int]) { told(t, r) },
		}
		for name, do := range doings {
			r := filled(t, 4, turned, 10, 11, 12)
			w := &ringByTheWords[int]{row: []int{10, 11, 12}, room: 4}
			count := 0
			for i, x := range r.All() {
				if i != count || x != 10+i {
					t.Errorf("%s: All tells %d, %d behind %d things", name, i, x, count)
				}
				count++
				do(r)
			}
			if count != 3 {
				t.Errorf("%s: All tells %d things", name, count)
			}
			for range 3 {
				doByTheWords(w, name)
			}
			alike(t, r, w.row, 4)
		}
	}
}

// doByTheWords does to w what is named so.
func doByTheWords(w *ringByTheWords[int], name string) {
	switch name {
	case "take":
		w.take()
	case "send":
		w.send(99)
	case "take, send":
		w.take()
		w.send(99)
	case "send, take":
		w.send(99)
		w.take()
	case "drain":
		w.row = nil
	case "drain and send":
		w.row = []int{98, 99}
	}
}

// P7.2: a ring that grows while one asks is told as it was.
func TestAllWhileItGrows(t *testing.T) {
	r := New[int](1000)
	r.Send(0)
	count := 0
	for i, x := range r.All() {
		if i != count || x != i {
			t.Errorf("All tells %d, %d", i, x)
		}
		count++
		for range 2000 {
			r.Send(r.Len())
		}
	}
	if count != 1 || r.Len() != 1000 {
		t.Errorf("All tells %d things, %d are there", count, r.Len())
	}
}

// P7.2: one may ask within asking, and each one is told all.
func TestAllWithinAll(t *testing.T) {
	r := filled(t, 3, 2, 1, 2, 3)
	sum := 0
	for _, x := range r.All() {
		for _, y := range r.All() {
			sum += 10*x + y
		}
	}
	if sum != 3*60+3*6 {
		t.Error(sum)
	}
}

// drained is what Drain tells to its end.
func drained[T any](r *Ring[T]) []T {
	var things []T
	for x := range r.Drain() {
		things = append(things, x)
	}
	return things
}

// P7.2: Drain tells each thing, in order, and leaves none.
func TestDrain(t *testing.T) {
	for turned := range 5 {
		r := filled(t, 5, turned, "c", "a", "b")
		drain := r.Drain()
		alike(t, r, []string{"c", "a", "b"}, 5)
		var got []string
		for x := range drain {
			got = append(got, x)
			if r.Len() != 3-len(got) {
				t.Errorf("%d are there behind %q", r.Len(), got)
			}
		}
		if !slices.Equal(got, []string{"c", "a", "b"}) {
			t.Errorf("Drain tells %q", got)
		}
		alike(t, r, nil, 5)
		for x := range drain {
			t.Errorf("Drain tells %q again", x)
		}
		r.Send("d")
		for x := range drain {
			if x != "d" {
				t.Errorf("Drain tells %q", x)
			}
		}
		alike(t, r, nil, 5)
	}
}

// P7.2: Drain of an empty ring tells nothing.
func TestDrainOfNone(t *testing.T) {
	for _, r := range []*Ring[int]{nil, New[int](0), New[int](3), filled[int](t, 3, 2)} {
		room := r.Room()
		drain := r.Drain()
		if drain == nil {
			t.Fatal("no iterator")
		}
		for x := range drain {
			t.Errorf("Drain tells %d", x)
		}
		alike(t, r, nil, room)
	}
}

// P7.2: what nobody was told stays, when one breaks off; and is told when one goes on.
func TestDrainBrokenOff(t *testing.T) {
	things := []int{10, 11, 12, 13}
	for turned := range 4 {
		for stop := range things {
			r := filled(t, 4, turned, things...)
			calls := 0
			r.Drain()(func(x int) bool {
				if x != things[calls] {
					t.Errorf("Drain tells %d behind %d things", x, calls)
				}
				calls++
				return calls <= stop
			})
			if calls != stop+1 {
				t.Errorf("broken off at %d: told %d times", stop, calls)
			}
			alike(t, r, things[stop+1:], 4)
			if got := drained(r); !slices.Equal(got, things[stop+1:]) {
				t.Errorf("broken off at %d: %v stays", stop, got)
			}
		}
	}
}

// P7.2: Drain takes as Take does: what is sent and taken while one asks counts.
func TestDrainWhileOthersSendAndTake(t *testing.T) {
	r := filled(t, 3, 1, 1, 2, 3)
	var got []int
	for x := range r.Drain() {
		got = append(got, x)
		if x == 1 && (!r.Send(4) || r.Send(5)) {
			t.Error("room for one behind the first")
		}
		if x == 2 {
			if y, ok := r.Take(); y != 3 || !ok {
				t.Errorf("Take tells %d, %v", y, ok)
			}
		}
	}
	if !slices.Equal(got, []int{1, 2, 4}) {
		t.Errorf("Drain tells %v", got)
	}
	alike(t, r, nil, 3)
}

// P7.2: Drain goes on till there is none, however many more are sent than there were at first.
func TestDrainWhileMoreCome(t *testing.T) {
	r := filled(t, 2, 1, 0)
	var got []int
	for x := range r.Drain() {
		got = append(got, x)
		if x < 9 && !r.Send(x+1) {
			t.Errorf("no room behind %d", x)
		}
	}
	if !slices.Equal(got, []int{0, 1, 2, 3, 4, 5, 6, 7, 8, 9}) {
		t.Errorf("Drain tells %v", got)
	}
	alike(t, r, nil, 2)
}

// P7.1: a clone is alike, and each of both goes its own way.
func TestClone(t *testing.T) {
	source := rand.New(rand.NewSource(9))
	for room := range 9 {
		for count := range room + 1 {
			for turned := range room + 1 {
				things := source.Perm(count)
				r := filled(t, room, turned, things...)
				c := r.Clone()
				if c == r {
					t.Fatal("the ring itself")
				}
				alike(t, c, things, room)
				apart(t, source, r, c, things, room)
			}
		}
	}
}

// apart fails if one of two rings with these things sees what is done to the other.
func apart(t *testing.T, source *rand.Rand, r, c *Ring[int], things []int, room int) {
	t.Helper()
	rings := []*Ring[int]{r, c}
	words := []*ringByTheWords[int]{{row: slices.Clone(things), room: room}, {row: slices.Clone(things), room: room}}
	for turn := range 30 {
		side := source.Intn(2)
		if source.Intn(2) == 0 {
			if got, want := rings[side].Send(100+turn), words[side].send(100+turn); got != want {
				t.Fatalf("Send tells %v, want %v", got, want)
			}
		} else {
			got, ok := rings[side].Take()
			want, wantOk := words[side].take()
			if got != want || ok != wantOk {
				t.Fatalf("Take tells %d, %v, want %d, %v", got, ok, want, wantOk)
			}
		}
		alike(t, r, words[0].row, room)
		alike(t, c, words[1].row, room)
	}
}

// P7.1: draining one of two leaves the other, and a clone of a clone is alike too.
func TestCloneDrained(t *testing.T) {
	r := filled(t, 3, 2, "a", "b")
	c := r.Clone()
	if got := drained(c); !slices.Equal(got, []string{"a", "b"}) {
		t.Errorf("Drain tells %q", got)
	}
	alike(t, r, []string{"a", "b"}, 3)
	again := r.Clone().Clone()
	drained(r)
	alike(t, again, []string{"a", "b"}, 3)
	alike(t, c.Clone(), nil, 3)
	if d := c.Clone(); !d.Send("x") || !d.Send("y") || !d.Send("z") || d.Send("w") {
		t.Error("another room")
	}
}

// P7.1: a ring of room that was never used is cloned with its room.
func TestCloneOfNone(t *testing.T) {
	for _, room := range []int{0, 1, 5, api.MaxRing} {
		c := New[int](room).Clone()
		alike(t, c, nil, room)
		if c.Send(1) != (room > 0) {
			t.Errorf("room for %d: Send of the clone", room)
		}
	}
}

// P7.1 and P7.2: each function of a nil ring.
func TestNil(t *testing.T) {
	var r *Ring[string]
	for range 2 {
		if r.Send("a") || r.Len() != 0 || r.Room() != 0 || r.Clone() != nil {
			t.Error("a nil ring has something")
		}
		if x, ok := r.Take(); x != "" || ok {
			t.Errorf("Take tells %q, %v", x, ok)
		}
		for _, i := range []int{math.MinInt, -1, 0, 1, math.MaxInt} {
			if x, ok := r.At(i); x != "" || ok {
				t.Errorf("At(%d) tells %q, %v", i, x, ok)
			}
		}
		if got := told(t, r); got != nil {
			t.Errorf("All tells %q", got)
		}
		if got := drained(r); got != nil {
			t.Errorf("Drain tells %q", got)
		}
	}
}

// P7.1: what was taken is gone: no slot keeps it.
func TestTakenIsGone(t *testing.T) {
	for turned := range 4 {
		things := []*int{new(int), new(int), new(int)}
		r := filled(t, 4, turned, things...)
		for i := range things {
			r.Take()
			kept := 0
			for _, x := range r.slots {
				if x != nil {
					kept++
				}
			}
			if kept != r.Len() {
				t.Errorf("behind %d takes: %d slots keep something, %d things are there", i+1, kept, r.Len())
			}
		}
	}
}
