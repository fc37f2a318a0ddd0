package prog

import (
	"encoding/binary"
	"math"
	"math/rand"
	"slices"
	"testing"

	"cortado/api"
	"cortado/tape"
)

// Numbers unlike 0 at all edges: of one byte, of two and of nine.
var edges = []int{
	1, 2, 127, 128, 198, 199, 200, 201, 254, 255, 256, 300, 455, 456, 14278, 14279, 14280, 65536, 1 << 32, 1 << 56, api.MaxCost, api.MaxCost + 1, math.MaxInt - 1, math.MaxInt,
	-1, -2, -199, -200, -255, -256, -14280, -1 << 32, -1 << 62, math.MinInt + 1, math.MinInt,
}

// Numbers that are no Kinds of calls.
var noKinds = []int{-1, -2, -7, -8, 8, 9, 10, 15, 16, 127, 128, 200, 255, 256, 257, 258, 263, 1 << 32, 1<<32 + 1, -1<<32 + 2, math.MaxInt - 1, math.MaxInt, math.MinInt, math.MinInt + 1, math.MinInt + 2}

// Bytes behind which programs are put: none, one, and many.
var many = [][]byte{nil, {}, {0}, {255}, {77}, {24, 1}, randomly(1, 30), randomly(2, 300)}

// randomly answers so many bytes, of which some begin numbers of nine bytes, and more are Kinds.
func randomly(seed int64, count int) []byte {
	r := rand.New(rand.NewSource(seed))
	b := make([]byte, count)
	for i := range b {
		switch b[i] = byte(r.Intn(256)); r.Intn(5) {
		case 0, 1:
			b[i] %= 8
		case 2:
			b[i] = 255
		}
	}
	return b
}

// isKindByTheWords: the Kinds are those of the eight names of package api.
func isKindByTheWords(kind int) bool {
	for _, k := range []int{api.OpNone, api.OpGet, api.OpSet, api.OpDel, api.OpWait, api.OpClear, api.OpClose, api.OpLimit} {
		if k == kind {
			return true
		}
	}
	return false
}

// Whether the Key, Val, Cost and TTL of a call are its own, by the chapter's words.
func ownByTheWords(kind int) [4]bool {
	if kind == api.OpGet || kind == api.OpDel {
		return [4]bool{true, false, false, false}
	}
	if kind == api.OpSet {
		return [4]bool{true, true, true, true}
	}
	return [4]bool{false, false, kind == api.OpLimit, false}
}

// numbersOf answers Key, Val, Cost and TTL.
func numbersOf(op api.Op) [4]int {
	return [4]int{op.Key, op.Val, op.Cost, op.TTL}
}

// of answers a call of a Kind with Key, Val, Cost and TTL.
func of(kind int, n [4]int) api.Op {
	return api.Op{Kind: kind, Key: n[0], Val: n[1], Cost: n[2], TTL: n[3]}
}

func rightByTheWords(op api.Op) bool {
	for i, n := range numbersOf(op) {
		if n != 0 && !ownByTheWords(op.Kind)[i] {
			return false
		}
	}
	return isKindByTheWords(op.Kind)
}

func bareByTheWords(op api.Op) api.Op {
	if !isKindByTheWords(op.Kind) {
		return api.Op{}
	}
	n := numbersOf(op)
	for i, is := range ownByTheWords(op.Kind) {
		if !is {
			n[i] = 0
		}
	}
	return of(op.Kind, n)
}

// number answers a number's bytes, by the words of chapter 16.
func number(n int) []byte {
	if n >= 0 && n <= 199 {
		return []byte{byte(n)}
	}
	if n >= 200 && n <= 14279 {
		d := n - 200
		return []byte{byte(200 + d/256), byte(d % 256)}
	}
	return binary.BigEndian.AppendUint64([]byte{255}, uint64(n))
}

// bytesOf answers a program's bytes, by the chapter's words.
func bytesOf(l []api.Op) []byte {
	b := []byte{byte(len(l))}
	for _, op := range l {
		b = append(b, byte(op.Kind))
		for i, is := range ownByTheWords(op.Kind) {
			if is {
				b = append(b, number(numbersOf(op)[i])...)
			}
		}
	}
	return b
}

// reader reads bytes by the chapters' words.
type reader struct {
	left []byte
	at   int
}

func (w *reader) byte() int {
	if len(w.left) == 0 {
		return 0
	}
	next := int(w.left[0])
	w.left = w.left[1:]
	w.at++
	return next
}

func (w *reader) int() int {
	first := w.byte()
	if first < 200 {
		return first
	}
	if first < 255 {
		return (first-200)*256 + 200 + w.byte()
	}
	var b [8]byte
	for i := range b {
		b[i] = byte(w.byte())
	}
	return int(binary.BigEndian.Uint64(b[:]))
}

func (w *reader) program() []api.Op {
	l := []api.Op{}
	for count := w.byte() % 25; count > 0; count-- {
		kind, n := w.byte(), [4]int{}
		if !isKindByTheWords(kind) {
			kind = api.OpNone
		}
		for i, is := range ownByTheWords(kind) {
			if is {
				n[i] = w.int()
			}
		}
		l = append(l, of(kind, n))
	}
	return l
}

// programByTheWords: at most 24 calls that are right.
func programByTheWords(l []api.Op) bool {
	return len(l) <= 24 && !slices.ContainsFunc(l, func(op api.Op) bool { return !rightByTheWords(op) })
}

// each answers a call of each Kind, with numbers of one byte, of two and of nine.
func each() []api.Op {
	return []api.Op{
		{},
		{Kind: api.OpGet, Key: 5},
		{Kind: api.OpSet, Key: 300, Val: -1, Cost: 7, TTL: 14280},
		{Kind: api.OpDel, Key: math.MinInt},
		{Kind: api.OpWait},
		{Kind: api.OpClear},
		{Kind: api.OpClose},
		{Kind: api.OpLimit, Cost: math.MaxInt},
	}
}

// drawn answers a program of so many calls.
func drawn(r *rand.Rand, count int) []api.Op {
	l := make([]api.Op, count)
	for i := range l {
		var n [4]int
		for j := range n {
			n[j] = int(r.Uint64()) >> r.Intn(64)
			if r.Intn(3) == 0 {
				n[j] = edges[r.Intn(len(edges))]
			}
		}
		l[i] = bareByTheWords(of(r.Intn(8), n))
	}
	return l
}

// wrong answers calls that aren't right: each Kind with each number that isn't its own, and Kinds that are none.
func wrong() []api.Op {
	var l []api.Op
	for kind := range 8 {
		for i, is := range ownByTheWords(kind) {
			for _, x := range []int{1, -1, 300, math.MaxInt, math.MinInt} {
				var n [4]int
				n[i] = x
				if !is {
					l = append(l, of(kind, n))
				}
			}
		}
	}
	for _, kind := range noKinds {
		l = append(l, api.Op{Kind: kind}, api.Op{Kind: kind, Key: 1})
	}
	return l
}

// puts fails if l isn't put behind b as just these bytes.
func puts(t *testing.T, b []byte, l []api.Op, want ...byte) {
	t.Helper()
	got, ok := Put(b, l)
	if !ok || !slices.Equal(got, slices.Concat(b, want)) {
		t.Fatalf("put %v behind %v: %v, %v, want %v behind it", l, b, got, ok, want)
	}
}

// isNone fails if l is put.
func isNone(t *testing.T, l []api.Op) {
	t.Helper()
	if Fine(l) {
		t.Fatalf("fine: %v", l)
	}
	for _, b := range many {
		if got, ok := Put(b, l); ok || len(got) != 0 {
			t.Fatalf("put %v: %v, %v", l, got, ok)
		}
	}
}

// stands fails if another number of bytes was read, or is left.
func stands(t *testing.T, x *tape.Tape, at, left int) {
	t.Helper()
	if x.At() != at || x.Left() != left {
		t.Fatalf("at %d, left %d, want %d and %d", x.At(), x.Left(), at, left)
	}
}

// isFine fails if what was read is no program.
func isFine(t *testing.T, l []api.Op) {
	t.Helper()
	if !Fine(l) || !programByTheWords(l) {
		t.Fatalf("read %v, which is no program", l)
	}
}

// reads fails if of these bytes another program is read than by the words, or the tape stands elsewhere then.
func reads(t *testing.T, b ...byte) {
	t.Helper()
	x, w := tape.New(b), &reader{left: b}
	for range 3 { // and further ones, up to the bytes' end and behind it
		got, want := Read(x), w.program()
		if !slices.Equal(got, want) {
			t.Fatalf("of %v is read %v, want %v", b, got, want)
		}
		isFine(t, got)
		stands(t, x, w.at, len(w.left))
	}
}

// isRead fails if the next program of the tape isn't l.
func isRead(t *testing.T, x *tape.Tape, l []api.Op) {
	t.Helper()
	at := x.At() + len(bytesOf(l))
	left := x.At() + x.Left() - at
	if got := Read(x); !slices.Equal(got, l) {
		t.Fatalf("read %v, want %v", got, l)
	}
	stands(t, x, at, left)
}

// P17.2, example 1: Put of one OpGet of the Key 5: 1, 1, 5.
func TestExample(t *testing.T) {
	l := []api.Op{{Kind: api.OpGet, Key: 5}}
	puts(t, nil, l, 1, 1, 5)
	isRead(t, tape.New([]byte{1, 1, 5}), l)
}

// P17.1: Right and Bare, known ahead, by hand.
func TestKnownCalls(t *testing.T) {
	for _, c := range []struct {
		op, bare api.Op
		right    bool
	}{
		{api.Op{}, api.Op{}, true},
		{api.Op{Key: 1}, api.Op{}, false},
		{api.Op{Kind: 1}, api.Op{Kind: 1}, true},
		{api.Op{Kind: 1, Key: -4}, api.Op{Kind: 1, Key: -4}, true},
		{api.Op{Kind: 1, Key: 4, Val: 5, Cost: 6, TTL: 7}, api.Op{Kind: 1, Key: 4}, false},
		{api.Op{Kind: 2, Key: 4, Val: 5, Cost: 6, TTL: 7}, api.Op{Kind: 2, Key: 4, Val: 5, Cost: 6, TTL: 7}, true},
		{api.Op{Kind: 2, Cost: -1, TTL: math.MinInt}, api.Op{Kind: 2, Cost: -1, TTL: math.MinInt}, true},
		{api.Op{Kind: 3, Key: 4}, api.Op{Kind: 3, Key: 4}, true},
		{api.Op{Kind: 3, Key: 4, Val: 5, Cost: 6, TTL: 7}, api.Op{Kind: 3, Key: 4}, false},
		{api.Op{Kind: 4, Key: 4, Val: 5, Cost: 6, TTL: 7}, api.Op{Kind: 4}, false},
		{api.Op{Kind: 5, Key: 4, Val: 5, Cost: 6, TTL: 7}, api.Op{Kind: 5}, false},
		{api.Op{Kind: 6, Key: 4, Val: 5, Cost: 6, TTL: 7}, api.Op{Kind: 6}, false},
		{api.Op{Kind: 7, Cost: 6}, api.Op{Kind: 7, Cost: 6}, true},
		{api.Op{Kind: 7, Key: 4, Val: 5, Cost: 6, TTL: 7}, api.Op{Kind: 7, Cost: 6}, false},
		{api.Op{Kind: 8}, api.Op{}, false},
		{api.Op{Kind: 8, Key: 4, Val: 5, Cost: 6, TTL: 7}, api.Op{}, false},
		{api.Op{Kind: -1, Key: 4, Cost: 6}, api.Op{}, false},
	} {
		if got := Right(c.op); got != c.right {
			t.Errorf("right %v: %v", c.op, got)
		}
		if got := Bare(c.op); got != c.bare {
			t.Errorf("bare %v: %v, want %v", c.op, got, c.bare)
		}
	}
}

// isSaid fails if Right or Bare tell of a call anything else than the words; what Bare answers is right, and the call itself, if that is right.
func isSaid(t *testing.T, op api.Op) {
	t.Helper()
	right, bare := Right(op), Bare(op)
	if right != rightByTheWords(op) {
		t.Fatalf("right %v: %v", op, right)
	}
	if want := bareByTheWords(op); bare != want {
		t.Fatalf("bare %v: %v, want %v", op, bare, want)
	}
	if !Right(bare) || Bare(bare) != bare || right != (bare == op) {
		t.Fatalf("right %v: %v, and bare it is %v", op, right, bare)
	}
}

// P17.1: Right and Bare of each Kind, and of what is none, with none of the numbers, each one alone, some, and all unlike 0.
func TestRightAndBare(t *testing.T) {
	for _, kind := range slices.Concat([]int{0, 1, 2, 3, 4, 5, 6, 7}, noKinds) {
		for _, x := range edges {
			for which := range 16 {
				var n [4]int
				for i := range n {
					if which>>i&1 == 1 {
						n[i] = x
					}
				}
				isSaid(t, of(kind, n))
			}
		}
	}
}

// P17.1: Right and Bare of numbers of all sorts, unlike one another.
func TestRightAndBareOfMany(t *testing.T) {
	r := rand.New(rand.NewSource(17))
	for range 20000 {
		var n [4]int
		for i := range n {
			if r.Intn(2) == 0 {
				n[i] = int(r.Uint64()) >> r.Intn(64)
			}
		}
		isSaid(t, of(r.Intn(14)-3, n))
	}
}

// P17.1: a program is at most 24 calls.
func TestFineByLength(t *testing.T) {
	if !Fine(nil) || !Fine([]api.Op{}) {
		t.Error("no calls are no program")
	}
	r := rand.New(rand.NewSource(18))
	for count := range 60 {
		for range 5 {
			if got := Fine(drawn(r, count)); got != (count <= 24) {
				t.Fatalf("fine of %d calls: %v", count, got)
			}
		}
		if got := Fine(make([]api.Op, count)); got != (count <= 24) {
			t.Fatalf("fine of %d calls that are none: %v", count, got)
		}
	}
	if Fine(make([]api.Op, 24+256)) || Fine(make([]api.Op, 1<<16)) {
		t.Error("very many calls are a program")
	}
}

// P17.1, P17.2: one call that isn't right, wherever it stands, and it is no program; it is not put.
func TestNoProgram(t *testing.T) {
	r := rand.New(rand.NewSource(19))
	for _, op := range wrong() {
		for _, count := range []int{1, 2, 3, 12, 23, 24, 25} {
			for _, place := range []int{0, count / 2, count - 1} {
				l := drawn(r, count)
				l[place] = op
				isNone(t, l)
			}
		}
	}
	for _, count := range []int{25, 26, 48, 255, 256, 257, 280, 1000} {
		isNone(t, drawn(r, count))
		isNone(t, make([]api.Op, count))
	}
}

// P17.1: Writes hangs on the Kind alone.
func TestWrites(t *testing.T) {
	for kind, want := range []bool{false, false, true, true, false, true, true, false} {
		for _, x := range slices.Concat([]int{0}, edges) {
			if got := Writes(of(kind, [4]int{x, x, x, x})); got != want {
				t.Errorf("kind %d writes: %v", kind, got)
			}
		}
	}
	for _, kind := range noKinds {
		if Writes(api.Op{Kind: kind}) || Writes(of(kind, [4]int{1, 2, 3, 4})) {
			t.Errorf("kind %d writes", kind)
		}
	}
}

// P17.1: the names, by the Kinds; empty of others.
func TestName(t *testing.T) {
	for kind, want := range []string{"none", "get", "set", "del", "wait", "clear", "close", "limit"} {
		if got := Name(kind); got != want {
			t.Errorf("name of %d: %q, want %q", kind, got, want)
		}
	}
	for kind, want := range map[int]string{api.OpNone: "none", api.OpGet: "get", api.OpSet: "set", api.OpDel: "del", api.OpWait: "wait", api.OpClear: "clear", api.OpClose: "close", api.OpLimit: "limit"} {
		if got := Name(kind); got != want {
			t.Errorf("name of %d: %q, want %q", kind, got, want)
		}
	}
	for _, kind := range noKinds {
		if got := Name(kind); got != "" {
			t.Errorf("name of %d: %q", kind, got)
		}
	}
}

// P17.1: a call's own places are told till one leaves, and what is written to them is written to the call.
func TestOwn(t *testing.T) {
	for kind := range 8 {
		op, told := api.Op{Kind: kind}, 0
		for place := range own(&op) {
			told++
			*place = told
		}
		var want [4]int
		count := 0
		for i, is := range ownByTheWords(kind) {
			if is {
				count++
				want[i] = count
			}
		}
		if op != of(kind, want) || told != count {
			t.Fatalf("%d places, written to: %v, want %v", told, op, want)
		}
		for leave := 1; leave <= count; leave++ {
			told := 0
			for range own(&op) {
				if told++; told == leave {
					break
				}
			}
			if told != leave {
				t.Fatalf("kind %d: %d places, left at %d", kind, told, leave)
			}
		}
	}
}

// P17.2: Put, known ahead, by hand.
func TestPutKnown(t *testing.T) {
	for _, b := range many {
		puts(t, b, nil, 0)
		puts(t, b, []api.Op{}, 0)
		puts(t, b, []api.Op{{}}, 1, 0)
		puts(t, b, []api.Op{{Kind: 2}}, 1, 2, 0, 0, 0, 0)
		puts(t, b, []api.Op{{Kind: 3, Key: 199}, {Kind: 3, Key: 200}, {Kind: 3, Key: -2}}, 3, 3, 199, 3, 200, 0, 3, 255, 255, 255, 255, 255, 255, 255, 255, 254)
		puts(t, b, []api.Op{{Kind: 2, Key: 1, Val: 2, Cost: 300, TTL: 4}, {Kind: 7, Cost: 456}}, 2, 2, 1, 2, 200, 100, 4, 7, 201, 0)
		puts(t, b, make([]api.Op, 24), append([]byte{24}, make([]byte, 24)...)...)
		puts(t, b, each(),
			8,
			0,
			1, 5,
			2, 200, 100, 255, 255, 255, 255, 255, 255, 255, 255, 255, 7, 255, 0, 0, 0, 0, 0, 0, 55, 200,
			3, 255, 128, 0, 0, 0, 0, 0, 0, 0,
			4,
			5,
			6,
			7, 255, 127, 255, 255, 255, 255, 255, 255, 255)
	}
}

// P17.2: of each count of calls, with numbers of all sorts, behind bytes of all sorts, each byte against the words.
func TestPut(t *testing.T) {
	r := rand.New(rand.NewSource(20))
	for count := range 25 {
		for range 20 {
			l := drawn(r, count)
			for _, b := range many {
				puts(t, b, l, bytesOf(l)...)
			}
		}
	}
}

// P17.2, P17.3: each Kind with each of its own numbers at each edge is put as the words say, and read again.
func TestPutEdges(t *testing.T) {
	for kind := range 8 {
		for _, x := range edges {
			for i := range 4 {
				var n [4]int
				n[i] = x
				op := of(kind, n)
				if !rightByTheWords(op) {
					continue
				}
				l := []api.Op{op, {Kind: api.OpWait}}
				puts(t, nil, l, bytesOf(l)...)
				isRead(t, tape.New(bytesOf(l)), l)
			}
		}
	}
}

// P17.2: Read, known ahead, by hand; how many bytes are read of those that are there.
func TestReadKnown(t *testing.T) {
	for _, c := range []struct {
		b    []byte
		want []api.Op
		at   int
	}{
		{nil, nil, 0},
		{[]byte{0}, nil, 1},
		{[]byte{25}, nil, 1},
		{[]byte{50, 1, 5}, nil, 1},
		{[]byte{26, 1, 5, 9}, []api.Op{{Kind: 1, Key: 5}}, 3},
		{[]byte{1}, []api.Op{{}}, 1},
		{[]byte{24}, make([]api.Op, 24), 1},
		{[]byte{255}, make([]api.Op, 5), 1},
		{[]byte{1, 1}, []api.Op{{Kind: 1}}, 2},
		{[]byte{1, 8, 1}, []api.Op{{}}, 2},
		{[]byte{3, 9, 1, 200}, []api.Op{{}, {Kind: 1, Key: 200}, {}}, 4},
		{[]byte{2, 2, 1, 200, 100, 3, 4, 7, 199, 5}, []api.Op{{Kind: 2, Key: 1, Val: 300, Cost: 3, TTL: 4}, {Kind: 7, Cost: 199}}, 9},
		{[]byte{2, 2, 1, 2}, []api.Op{{Kind: 2, Key: 1, Val: 2}, {}}, 4},
		{[]byte{1, 3, 255, 255, 255, 255, 255, 255, 255, 255, 255, 7}, []api.Op{{Kind: 3, Key: -1}}, 11},
		{[]byte{1, 7, 255, 1, 2}, []api.Op{{Kind: 7, Cost: 1<<56 + 2<<48}}, 5},
		{[]byte{4, 4, 5, 6, 0, 1}, []api.Op{{Kind: 4}, {Kind: 5}, {Kind: 6}, {}}, 5},
	} {
		x := tape.New(c.b)
		if got := Read(x); !slices.Equal(got, c.want) {
			t.Errorf("of %v is read %v, want %v", c.b, got, c.want)
		}
		stands(t, x, c.at, len(c.b)-c.at)
	}
}

// P17.2: each first byte, with nothing behind it, little, and much.
func TestReadCounts(t *testing.T) {
	for count := range 256 {
		for _, b := range [][]byte{nil, {0}, {1}, {2, 200}, slices.Repeat([]byte{4}, 300), randomly(int64(count), 20), randomly(int64(count), 400)} {
			reads(t, append([]byte{byte(count)}, b...)...)
		}
		if got, want := len(Read(tape.New([]byte{byte(count)}))), count%25; got != want {
			t.Fatalf("the byte %d: %d calls, want %d", count, got, want)
		}
	}
}

// P17.2: each byte as a Kind, alone, at a middle place, and the last; of what is no Kind no number is read.
func TestReadKinds(t *testing.T) {
	for kind := range 256 {
		reads(t, 1, byte(kind))
		reads(t, 1, byte(kind), 7, 8, 9, 10, 11)
		reads(t, 3, 1, 5, byte(kind), 200, 200, 255, 4, 2)
		reads(t, 2, 7, 199, byte(kind), 255, 1, 2, 3, 4, 5, 6, 7, 8, 9, 10)
		x := tape.New([]byte{1, byte(kind), 1, 1, 1, 1})
		l := Read(x)
		if kind >= 8 && (!slices.Equal(l, []api.Op{{}}) || x.At() != 2) {
			t.Fatalf("the kind %d: read %v, at %d", kind, l, x.At())
		}
		if kind < 8 && l[0].Kind != kind {
			t.Fatalf("the kind %d: read %v", kind, l)
		}
	}
}

// P17.2: programs whose bytes stop anywhere, in the midst of their numbers too.
func TestReadStopped(t *testing.T) {
	r := rand.New(rand.NewSource(21))
	for count := range 25 {
		b := bytesOf(drawn(r, count))
		for end := range len(b) + 1 {
			reads(t, b[:end]...)
		}
	}
	b := bytesOf(each())
	for end := range len(b) + 1 {
		reads(t, b[:end]...)
	}
}

// P17.2, P17.3: whatever the bytes are, what is read is a program, and it is that of the words.
func TestReadAnything(t *testing.T) {
	for seed := range int64(3000) {
		reads(t, randomly(seed, int(seed%250))...)
	}
	for _, x := range []byte{0, 1, 2, 3, 7, 8, 24, 25, 200, 254, 255} {
		for _, count := range []int{1, 2, 3, 10, 100, 1000} {
			reads(t, slices.Repeat([]byte{x}, count)...)
		}
	}
}

// P17.2: Read begins where the tape stands.
func TestReadBehind(t *testing.T) {
	for _, b := range many {
		x := tape.New(slices.Concat(b, bytesOf(each()), []byte{3, 4, 5}))
		for range b {
			x.Byte()
		}
		isRead(t, x, each())
		if rest := x.Rest(); !slices.Equal(rest, []byte{3, 4, 5}) {
			t.Errorf("the rest is %v", rest)
		}
	}
}

// P17.3: what was put is read, and nothing is left then; put again it is the same bytes.
func TestPutIsRead(t *testing.T) {
	r := rand.New(rand.NewSource(22))
	for count := range 25 {
		for range 40 {
			l := drawn(r, count)
			b, ok := Put(nil, l)
			if !ok {
				t.Fatalf("put %v: false", l)
			}
			x := tape.New(b)
			isRead(t, x, l)
			stands(t, x, len(b), 0)
			puts(t, nil, Read(tape.New(b)), b...)
		}
	}
}

// P17.3: whatever was read is put, and read again.
func TestReadIsPut(t *testing.T) {
	for seed := range int64(500) {
		l := Read(tape.New(randomly(seed, 200)))
		b, ok := Put([]byte{7}, l)
		if !ok {
			t.Fatalf("read, but not put: %v", l)
		}
		x := tape.New(b)
		x.Byte()
		isRead(t, x, l)
		stands(t, x, len(b), 0)
	}
}

// P17.3: several programs, put one behind the other, are read in order from one tape.
func TestSeveral(t *testing.T) {
	r := rand.New(rand.NewSource(23))
	for range 200 {
		var b []byte
		programs := make([][]api.Op, r.Intn(8))
		for i := range programs {
			programs[i] = drawn(r, r.Intn(25))
			b, _ = Put(b, programs[i])
		}
		x := tape.New(b)
		for _, l := range programs {
			isRead(t, x, l)
		}
		stands(t, x, len(b), 0)
		if l := Read(x); len(l) != 0 {
			t.Fatalf("at the end is read %v", l)
		}
	}
}

// P17.2: what is handed in to Put, and what lies in the room behind its end, is as it was; what is done to it afterwards, and to what was answered, changes not the other one.
func TestPutCopies(t *testing.T) {
	room := randomly(3, 80)
	calls := append(each(), api.Op{Kind: 1, Key: 77}, api.Op{Kind: 9})
	keptRoom, keptCalls := slices.Clone(room), slices.Clone(calls)
	for end := range 9 {
		for count := range 9 {
			b, l := room[:end], calls[:count]
			want := slices.Concat(b, bytesOf(l))
			got, ok := Put(b, l)
			if !ok || !slices.Equal(room, keptRoom) || !slices.Equal(calls, keptCalls) {
				t.Fatalf("put: %v; the bytes and their room are %v, the calls %v", ok, room, calls)
			}
			for i := range room {
				room[i]++
			}
			clear(calls)
			if !slices.Equal(got, want) {
				t.Fatalf("what was put became %v, want %v", got, want)
			}
			copy(room, keptRoom)
			copy(calls, keptCalls)
			clear(got[:cap(got)])
			if !slices.Equal(room, keptRoom) || !slices.Equal(calls, keptCalls) {
				t.Fatalf("the bytes and their room became %v, the calls %v", room, calls)
			}
		}
	}
}

// P17.2: what isn't put leaves what is handed in, and its room, as it was.
func TestNotPutCopies(t *testing.T) {
	room := randomly(4, 40)
	calls := append(each(), api.Op{Kind: 8}, api.Op{Kind: 1})
	keptRoom, keptCalls := slices.Clone(room), slices.Clone(calls)
	if b, ok := Put(room[:3], calls[:9]); ok || len(b) != 0 {
		t.Fatalf("put: %v, %v", b, ok)
	}
	if Fine(calls) || !slices.Equal(room, keptRoom) || !slices.Equal(calls, keptCalls) {
		t.Fatalf("the bytes and their room are %v, the calls %v", room, calls)
	}
}

// P17.2: what is put behind what Put answered, once and once more, doesn't come upon one another.
func TestPutTwiceBehindOne(t *testing.T) {
	base, _ := Put(nil, each())
	kept := slices.Clone(base)
	first, _ := Put(base, []api.Op{{Kind: 1, Key: 300}})
	second, _ := Put(base, []api.Op{{Kind: 5}})
	if !slices.Equal(base, kept) || !slices.Equal(first, append(slices.Clone(kept), 1, 1, 200, 100)) || !slices.Equal(second, append(slices.Clone(kept), 1, 5)) {
		t.Errorf("%v, behind it %v, and %v", base, first, second)
	}
}

// P17.2: what is done to what Read answered, and to its room, changes neither the bytes nor what is read next.
func TestReadIsNew(t *testing.T) {
	b := slices.Concat(bytesOf(each()), bytesOf(each()), bytesOf(each()))
	kept := slices.Clone(b)
	x, y := tape.New(b), tape.New(b)
	first := Read(x)
	second := Read(x)
	for _, l := range [][]api.Op{first, append(first, api.Op{Kind: 1, Key: 9})} {
		l = l[:cap(l)]
		for i := range l {
			l[i] = api.Op{Kind: 9, Key: 9}
		}
	}
	if !slices.Equal(second, each()) || !slices.Equal(b, kept) {
		t.Fatalf("the second one became %v, the bytes %v", second, b)
	}
	clear(b)
	isRead(t, x, each())
	isRead(t, y, each())
	isRead(t, y, each())
	isRead(t, y, each())
}

// P17.2: of a nil tape no call is read.
func TestNil(t *testing.T) {
	for range 2 {
		if l := Read(nil); len(l) != 0 {
			t.Errorf("read %v", l)
		}
	}
}
