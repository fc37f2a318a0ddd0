package tape

import (
	"math"
	"math/big"
	"math/rand"
	"slices"
	"testing"
)

// Numbers at all edges, of one byte, of two and of nine.
var edges = []int{
	0, 1, 2, 127, 128, 198, 199, 200, 201, 254, 255, 256, 257, 454, 455, 456, 457, 511, 512, 14022, 14023, 14024, 14278, 14279, 14280, 14281, 65535, 65536, 1<<31 - 1, 1 << 31, 1 << 32, 1<<56 - 1, 1 << 56, 1 << 62, math.MaxInt - 1, math.MaxInt,
	-1, -2, -199, -200, -255, -256, -14280, -1 << 32, -1 << 56, -1 << 62, math.MinInt + 1, math.MinInt,
}

// Bounds below which a byte is read.
var bounds = []int{1, 2, 3, 4, 7, 10, 128, 199, 200, 254, 255, 256, 257, 1 << 31, 1 << 32, math.MaxInt - 1, math.MaxInt}

// Bounds below which there is nothing.
var noBounds = []int{0, -1, -2, -255, -256, -1 << 32, math.MinInt + 1, math.MinInt}

// Bytes of which tapes are made: none, one, and many.
var many = [][]byte{
	nil, {}, {0}, {1}, {199}, {200}, {254}, {255}, {0, 0}, {200, 200}, {255, 255}, {9, 8, 7}, every(),
	randomly(1, 30), randomly(2, 300), slices.Repeat([]byte{255}, 100), slices.Repeat([]byte{200}, 33),
}

// beyondWord is 2^64.
var beyondWord = new(big.Int).Lsh(big.NewInt(1), 64)

// every answers each byte, rising.
func every() []byte {
	b := make([]byte, 256)
	for i := range b {
		b[i] = byte(i)
	}
	return b
}

// randomly answers so many bytes, of which one in three begins a number of nine, or ends one of two.
func randomly(seed int64, count int) []byte {
	r := rand.New(rand.NewSource(seed))
	b := make([]byte, count)
	for i := range b {
		b[i] = byte(r.Intn(256))
		if r.Intn(3) == 0 {
			b[i] = 255
		}
	}
	return b
}

// byTheWords is a tape as the chapter's words tell it.
type byTheWords struct {
	left []byte
	at   int
}

func said(b []byte) *byTheWords {
	return &byTheWords{left: slices.Clone(b)}
}

func (w *byTheWords) byte() int {
	if len(w.left) == 0 {
		return 0
	}
	next := int(w.left[0])
	w.left = w.left[1:]
	w.at++
	return next
}

func (w *byTheWords) int() int {
	first := w.byte()
	if first < 200 {
		return first
	}
	if first < 255 {
		less := first - 200
		times := less * 256
		return times + 200 + w.byte()
	}
	sum := new(big.Int)
	for range 8 {
		sum.Mul(sum, big.NewInt(256))
		sum.Add(sum, big.NewInt(int64(w.byte())))
	}
	if sum.BitLen() == 64 { // 2^63 or more
		sum.Sub(sum, beyondWord)
	}
	return int(sum.Int64())
}

func (w *byTheWords) below(n int) int {
	if n < 1 {
		return 0
	}
	next := w.byte()
	for next >= n {
		next -= n
	}
	return next
}

func (w *byTheWords) rest() []byte {
	rest := w.left
	w.at += len(rest)
	w.left = nil
	return rest
}

// bytesOf answers a number's bytes by the chapter's words, with numbers of any length.
func bytesOf(n int) []byte {
	if 0 <= n && n <= 199 {
		return []byte{byte(n)}
	}
	if 200 <= n && n <= 14279 {
		d, times := n-200, 0
		for d >= 256 {
			d -= 256
			times++
		}
		return []byte{byte(200 + times), byte(d)}
	}
	whole := big.NewInt(int64(n))
	if n < 0 {
		whole.Add(whole, beyondWord)
	}
	b := make([]byte, 9)
	b[0] = 255
	whole.FillBytes(b[1:])
	return b
}

// stands fails if another number of bytes was read, or is left.
func stands(t *testing.T, x *Tape, at, left int) {
	t.Helper()
	if x.At() != at || x.Left() != left {
		t.Fatalf("at %d, left %d, want %d and %d", x.At(), x.Left(), at, left)
	}
}

// same fails if the tape stands elsewhere than the words say.
func same(t *testing.T, x *Tape, w *byTheWords) {
	t.Helper()
	stands(t, x, w.at, len(w.left))
}

// empty fails if anything is left, or if at the end anything but 0 and nothing is told, or read.
func empty(t *testing.T, x *Tape, at int) {
	t.Helper()
	for range 2 {
		stands(t, x, at, 0)
		if b, n, m := x.Byte(), x.Int(), x.Below(7); b != 0 || n != 0 || m != 0 {
			t.Fatalf("at the end: byte %d, int %d, below 7 %d", b, n, m)
		}
		for _, n := range noBounds {
			if got := x.Below(n); got != 0 {
				t.Fatalf("at the end: below %d is %d", n, got)
			}
		}
		if rest := x.Rest(); len(rest) != 0 {
			t.Fatalf("at the end: the rest is %v", rest)
		}
		stands(t, x, at, 0)
	}
}

// puts fails if the bytes are others.
func puts(t *testing.T, got []byte, want ...byte) {
	t.Helper()
	if !slices.Equal(got, want) {
		t.Fatalf("put %v, want %v", got, want)
	}
}

// P16.1, P16.2, example 1: Put of 5, 300: 5, 200, 100. Int of no bytes is 0.
func TestExample(t *testing.T) {
	puts(t, Put(nil, 5, 300), 5, 200, 100)
	if n := New(nil).Int(); n != 0 {
		t.Errorf("int of no bytes: %d", n)
	}
}

// P16.1: nothing is read of a new tape; all its bytes are left.
func TestNew(t *testing.T) {
	for _, b := range many {
		x := New(b)
		stands(t, x, 0, len(b))
		stands(t, x, 0, len(b))
		if rest := x.Rest(); !slices.Equal(rest, b) {
			t.Fatalf("of %v is left %v", b, rest)
		}
	}
	for range 2 {
		empty(t, New(nil), 0)
		empty(t, New([]byte{}), 0)
	}
}

// P16.1: Byte reads each byte from 0 to 255 as it is; behind them 0, and nothing is read.
func TestByte(t *testing.T) {
	x := New(every())
	for i := range 256 {
		stands(t, x, i, 256-i)
		if got := x.Byte(); got != i {
			t.Fatalf("byte %d is %d", i, got)
		}
	}
	stands(t, x, 256, 0)
	for range 5 {
		if got := x.Byte(); got != 0 {
			t.Fatalf("behind the end: %d", got)
		}
		stands(t, x, 256, 0)
	}
	empty(t, x, 256)
}

// P16.1: Byte of each tape, up to its end, and behind it.
func TestByteOfEach(t *testing.T) {
	for _, b := range many {
		x := New(b)
		for i, want := range b {
			stands(t, x, i, len(b)-i)
			if got := x.Byte(); got != int(want) {
				t.Fatalf("byte %d of %v is %d", i, b, got)
			}
		}
		empty(t, x, len(b))
	}
}

// ints fails if Int tells another number of these bytes, or reads another number of them.
func ints(t *testing.T, want, at int, b ...byte) {
	t.Helper()
	x := New(b)
	if got := x.Int(); got != want {
		t.Fatalf("int of %v: %d, want %d", b, got, want)
	}
	stands(t, x, at, len(b)-at)
}

// P16.1: Int, known ahead, by hand: with all the bytes that the first one wants, with one too few, with none, and with others behind them.
func TestIntKnown(t *testing.T) {
	ints(t, 0, 0)
	ints(t, 0, 1, 0)
	ints(t, 0, 1, 0, 255, 1)
	ints(t, 5, 1, 5, 200, 100)
	ints(t, 199, 1, 199)
	ints(t, 199, 1, 199, 7)
	ints(t, 200, 1, 200)
	ints(t, 200, 2, 200, 0)
	ints(t, 207, 2, 200, 7, 9)
	ints(t, 300, 2, 200, 100, 1, 1, 1)
	ints(t, 455, 2, 200, 255)
	ints(t, 456, 1, 201)
	ints(t, 456, 2, 201, 0)
	ints(t, 14024, 1, 254)
	ints(t, 14024, 2, 254, 0, 255)
	ints(t, 14279, 2, 254, 255)
	ints(t, 14279, 2, 254, 255, 255)
	ints(t, 0, 1, 255)
	ints(t, 0, 2, 255, 0)
	ints(t, 1<<56, 2, 255, 1)
	ints(t, 1<<56+2<<48, 3, 255, 1, 2)
	ints(t, 0x0102030405060700, 8, 255, 1, 2, 3, 4, 5, 6, 7)
	ints(t, 0x0102030405060708, 9, 255, 1, 2, 3, 4, 5, 6, 7, 8)
	ints(t, 0x0102030405060708, 9, 255, 1, 2, 3, 4, 5, 6, 7, 8, 9)
	ints(t, 14280, 9, 255, 0, 0, 0, 0, 0, 0, 55, 200)
}

// P16.1: Int of 255 and 8 bytes: the ends, those of 2^63 and above, which are 2^64 less, and numbers that Put would tell in fewer bytes.
func TestIntOfNine(t *testing.T) {
	for _, c := range []struct {
		want int
		b    []byte
	}{
		{0, []byte{255, 0, 0, 0, 0, 0, 0, 0, 0}},
		{1, []byte{255, 0, 0, 0, 0, 0, 0, 0, 1}},
		{199, []byte{255, 0, 0, 0, 0, 0, 0, 0, 199}},
		{200, []byte{255, 0, 0, 0, 0, 0, 0, 0, 200}},
		{255, []byte{255, 0, 0, 0, 0, 0, 0, 0, 255}},
		{256, []byte{255, 0, 0, 0, 0, 0, 0, 1, 0}},
		{14279, []byte{255, 0, 0, 0, 0, 0, 0, 55, 199}},
		{14280, []byte{255, 0, 0, 0, 0, 0, 0, 55, 200}},
		{1 << 32, []byte{255, 0, 0, 0, 1, 0, 0, 0, 0}},
		{math.MaxInt - 1, []byte{255, 127, 255, 255, 255, 255, 255, 255, 254}},
		{math.MaxInt, []byte{255, 127, 255, 255, 255, 255, 255, 255, 255}},
		{math.MinInt, []byte{255, 128, 0, 0, 0, 0, 0, 0, 0}},
		{math.MinInt, []byte{255, 128}},
		{math.MinInt + 1, []byte{255, 128, 0, 0, 0, 0, 0, 0, 1}},
		{-1 << 56, []byte{255, 255}},
		{-256, []byte{255, 255, 255, 255, 255, 255, 255, 255}},
		{-256, []byte{255, 255, 255, 255, 255, 255, 255, 255, 0}},
		{-2, []byte{255, 255, 255, 255, 255, 255, 255, 255, 254}},
		{-1, []byte{255, 255, 255, 255, 255, 255, 255, 255, 255}},
	} {
		ints(t, c.want, len(c.b), c.b...)
		if len(c.b) == 9 {
			ints(t, c.want, 9, append(slices.Clone(c.b), 255, 1)...)
		}
	}
}

// P16.1: Int of each first byte, with whatever second byte, and with none.
func TestIntOfTwoBytes(t *testing.T) {
	for first := range 256 {
		alone := []byte{byte(first)}
		ints(t, said(alone).int(), 1, alone...)
		for second := range 256 {
			b := []byte{byte(first), byte(second)}
			at := 2
			if first < 200 {
				at = 1
			}
			ints(t, said(b).int(), at, b...)
		}
	}
}

// P16.1: Int of 255 and any bytes, as many as it wants, fewer, and more, against the words.
func TestIntShort(t *testing.T) {
	r := rand.New(rand.NewSource(16))
	for range 2000 {
		for count := range 12 {
			b := []byte{255}
			for range count {
				b = append(b, byte(r.Intn(256)))
			}
			ints(t, said(b).int(), 1+min(count, 8), b...)
		}
	}
}

// P16.1: Int up to each tape's end, and behind it.
func TestIntOfEach(t *testing.T) {
	for _, b := range many {
		x, w := New(b), said(b)
		for x.Left() > 0 {
			if got, want := x.Int(), w.int(); got != want {
				t.Fatalf("int of %v behind %d bytes: %d, want %d", b, w.at, got, want)
			}
			same(t, x, w)
		}
		empty(t, x, len(b))
	}
}

// P16.1: Below is what each byte leaves, divided by a bound from 1 on.
func TestBelow(t *testing.T) {
	for _, n := range bounds {
		x := New(every())
		for i := range 256 {
			if got, want := x.Below(n), said([]byte{byte(i)}).below(n); got != want || got < 0 || got >= n {
				t.Fatalf("%d below %d: %d, want %d", i, n, got, want)
			}
			stands(t, x, i+1, 255-i)
		}
		for range 3 {
			if got := x.Below(n); got != 0 {
				t.Fatalf("at the end: below %d is %d", n, got)
			}
			stands(t, x, 256, 0)
		}
	}
}

// P16.1: Below, known ahead, by hand.
func TestBelowKnown(t *testing.T) {
	for _, c := range []struct {
		b       byte
		n, want int
	}{
		{0, 1, 0}, {255, 1, 0}, {9, 4, 1}, {3, 4, 3}, {4, 4, 0}, {255, 2, 1}, {254, 2, 0}, {200, 7, 4}, {254, 255, 254}, {255, 255, 0}, {255, 256, 255}, {255, 257, 255}, {255, math.MaxInt, 255}, {0, math.MaxInt, 0},
	} {
		x := New([]byte{c.b, 6})
		if got := x.Below(c.n); got != c.want {
			t.Errorf("%d below %d: %d, want %d", c.b, c.n, got, c.want)
		}
		stands(t, x, 1, 1)
	}
}

// P16.1: Below of a bound below 1 is 0, and reads nothing, wherever the tape stands.
func TestBelowNothing(t *testing.T) {
	for _, n := range noBounds {
		x := New([]byte{200, 7, 255})
		for at, want := range []int{200, 7, 255, 0, 0} {
			for range 2 {
				if got := x.Below(n); got != 0 {
					t.Fatalf("below %d: %d", n, got)
				}
				stands(t, x, min(at, 3), max(3-at, 0))
			}
			if got := x.Byte(); got != want {
				t.Fatalf("byte %d is %d, want %d", at, got, want)
			}
		}
	}
}

// reads reads in one of the ways, and fails if anything else is told than by the words.
func reads(t *testing.T, r *rand.Rand, x *Tape, w *byTheWords) {
	t.Helper()
	var way string
	var got, want int
	switch r.Intn(7) {
	case 0, 1:
		way, got, want = "byte", x.Byte(), w.byte()
	case 2:
		n := bounds[r.Intn(len(bounds))]
		way, got, want = "below", x.Below(n), w.below(n)
	case 3:
		n := noBounds[r.Intn(len(noBounds))]
		way, got, want = "below nothing", x.Below(n), w.below(n)
	default:
		way, got, want = "int", x.Int(), w.int()
	}
	if got != want {
		t.Fatalf("%s ahead of %d bytes: %d, want %d", way, x.Left(), got, want)
	}
	same(t, x, w)
}

// P16.1: Byte, Int and Below, mixed, with At and Left at each step, and Rest of what is left then.
func TestMixed(t *testing.T) {
	for seed := range int64(400) {
		r := rand.New(rand.NewSource(seed))
		b := randomly(seed, r.Intn(120))
		x, w := New(b), said(b)
		for range r.Intn(60) {
			reads(t, r, x, w)
		}
		if got, want := x.Rest(), w.rest(); !slices.Equal(got, want) {
			t.Fatalf("the rest of %v is %v, want %v", b, got, want)
		}
		same(t, x, w)
		empty(t, x, len(b))
	}
}

// P16.1: Rest tells all that are left, when nothing, some, or all was read; then all is read.
func TestRest(t *testing.T) {
	for _, b := range many {
		for at := range len(b) + 1 {
			x := New(b)
			for range at {
				x.Byte()
			}
			stands(t, x, at, len(b)-at)
			if rest := x.Rest(); !slices.Equal(rest, b[at:]) {
				t.Fatalf("behind %d bytes of %v the rest is %v", at, b, rest)
			}
			empty(t, x, len(b))
		}
	}
}

// P16.1: Rest behind a number of nine bytes of which some are missing: nothing is left.
func TestRestBehindInt(t *testing.T) {
	x := New([]byte{7, 255, 1, 2})
	x.Byte()
	if n := x.Int(); n != 1<<56+2<<48 {
		t.Errorf("int: %d", n)
	}
	empty(t, x, 4)
	y := New([]byte{200, 100, 3, 4})
	if n := y.Int(); n != 300 {
		t.Errorf("int: %d", n)
	}
	if rest := y.Rest(); !slices.Equal(rest, []byte{3, 4}) {
		t.Errorf("the rest is %v", rest)
	}
	empty(t, y, 4)
}

// P16.2: Put, known ahead, by hand.
func TestPutKnown(t *testing.T) {
	for _, c := range []struct {
		n int
		b []byte
	}{
		{0, []byte{0}}, {1, []byte{1}}, {5, []byte{5}}, {198, []byte{198}}, {199, []byte{199}},
		{200, []byte{200, 0}}, {201, []byte{200, 1}}, {255, []byte{200, 55}}, {256, []byte{200, 56}}, {300, []byte{200, 100}}, {455, []byte{200, 255}}, {456, []byte{201, 0}}, {14023, []byte{253, 255}}, {14024, []byte{254, 0}}, {14278, []byte{254, 254}}, {14279, []byte{254, 255}},
		{14280, []byte{255, 0, 0, 0, 0, 0, 0, 55, 200}},
		{14281, []byte{255, 0, 0, 0, 0, 0, 0, 55, 201}},
		{0x0102030405060708, []byte{255, 1, 2, 3, 4, 5, 6, 7, 8}},
		{math.MaxInt, []byte{255, 127, 255, 255, 255, 255, 255, 255, 255}},
		{-1, []byte{255, 255, 255, 255, 255, 255, 255, 255, 255}},
		{-2, []byte{255, 255, 255, 255, 255, 255, 255, 255, 254}},
		{-200, []byte{255, 255, 255, 255, 255, 255, 255, 255, 56}},
		{-256, []byte{255, 255, 255, 255, 255, 255, 255, 255, 0}},
		{math.MinInt, []byte{255, 128, 0, 0, 0, 0, 0, 0, 0}},
		{math.MinInt + 1, []byte{255, 128, 0, 0, 0, 0, 0, 0, 1}},
	} {
		puts(t, Put(nil, c.n), c.b...)
		puts(t, Put([]byte{}, c.n), c.b...)
		puts(t, Put([]byte{7, 255}, c.n), append([]byte{7, 255}, c.b...)...)
	}
}

// P16.2: each number's bytes against the words; there are 1, 2 or 9 of them.
func TestPut(t *testing.T) {
	try := func(n int) {
		b := Put(nil, n)
		puts(t, b, bytesOf(n)...)
		length := 9
		if n >= 0 && n < 200 {
			length = 1
		} else if n >= 200 && n < 14280 {
			length = 2
		}
		if len(b) != length {
			t.Fatalf("%d has %d bytes, want %d", n, len(b), length)
		}
	}
	for n := -300; n < 70000; n++ {
		try(n)
	}
	r := rand.New(rand.NewSource(2))
	for range 20000 {
		try(int(r.Uint64()) >> r.Intn(64))
	}
	for _, n := range edges {
		try(n)
	}
}

// P16.2: of no number Put is the bytes that are handed in, and no more.
func TestPutNothing(t *testing.T) {
	for _, b := range many {
		puts(t, Put(b), b...)
		puts(t, Put(b, []int{}...), b...)
		puts(t, Put(b, nil...), b...)
	}
}

// P16.2: behind no bytes, empty ones and many stand those of each number, in order; and putting all at once is putting one behind the other.
func TestPutBehind(t *testing.T) {
	for _, b := range many {
		want, step := slices.Clone(b), b
		for _, n := range edges {
			want = append(want, bytesOf(n)...)
			step = Put(step, n)
		}
		puts(t, Put(b, edges...), want...)
		puts(t, step, want...)
		puts(t, Put(Put(b, edges[:9]...), edges[9:]...), want...)
	}
}

// isRead fails if of these bytes Int doesn't tell just these numbers, in order, behind so many bytes; then nothing is left.
func isRead(t *testing.T, b []byte, ahead int, l []int) {
	t.Helper()
	x, at := New(b), ahead
	for range ahead {
		x.Byte()
	}
	for i, n := range l {
		stands(t, x, at, len(b)-at)
		if got := x.Int(); got != n {
			t.Fatalf("number %d is %d, want %d", i, got, n)
		}
		at += len(bytesOf(n))
	}
	empty(t, x, len(b))
}

// P16.3: numbers that were put are read again, in order, each alone and many together, and then nothing is left.
func TestPutIsRead(t *testing.T) {
	for _, n := range edges {
		isRead(t, Put(nil, n), 0, []int{n})
	}
	for n := range 15000 {
		isRead(t, Put(nil, n, -n), 0, []int{n, -n})
	}
	r := rand.New(rand.NewSource(3))
	for range 500 {
		l := make([]int, r.Intn(60))
		for i := range l {
			l[i] = int(r.Uint64()) >> r.Intn(64)
			if r.Intn(3) == 0 {
				l[i] = edges[r.Intn(len(edges))]
			}
		}
		for _, b := range many {
			isRead(t, Put(b, l...), len(b), l)
		}
	}
}

// P16.3: reading ends, whatever the bytes are, and goes on only forwards: each Int reads at least one byte while there is one, and at most nine.
func TestReadingEnds(t *testing.T) {
	for seed := range int64(300) {
		b := randomly(seed, int(seed))
		x, at := New(b), 0
		for steps := 0; x.Left() > 0; steps++ {
			x.Int()
			read := x.At() - at
			if read < 1 || read > 9 || steps > len(b) {
				t.Fatalf("behind %d bytes %d were read", at, read)
			}
			at += read
			stands(t, x, at, len(b)-at)
		}
		empty(t, x, len(b))
	}
}

// P16.3: whatever is asked, At never falls, and with Left it is always all bytes.
func TestForwards(t *testing.T) {
	for seed := range int64(100) {
		r := rand.New(rand.NewSource(seed))
		b := randomly(seed, r.Intn(100))
		x, w, at := New(b), said(b), 0
		for range 150 {
			reads(t, r, x, w)
			if x.At() < at || x.At()+x.Left() != len(b) {
				t.Fatalf("at %d, left %d, was at %d", x.At(), x.Left(), at)
			}
			at = x.At()
		}
	}
}

// P16.1: the bytes that are handed in to New, and those in the room behind their end, are as they were; what is done to them afterwards changes no tape.
func TestNewCopies(t *testing.T) {
	room := []byte{5, 200, 100, 255, 1, 77, 78, 79}
	b, kept := room[:5], slices.Clone(room)
	x, y := New(b), New(b)
	if n, m := x.Int(), x.Int(); n != 5 || m != 300 {
		t.Fatalf("ints: %d, %d", n, m)
	}
	rest := x.Rest()
	if !slices.Equal(room, kept) {
		t.Fatalf("the bytes and their room are %v", room)
	}
	for i := range room {
		room[i] = 9
	}
	_ = append(b[:0], 3, 3, 3)
	if !slices.Equal(rest, []byte{255, 1}) {
		t.Errorf("the rest that was told is %v", rest)
	}
	if n, m, o := y.Int(), y.Int(), y.Int(); n != 5 || m != 300 || o != 1<<56 {
		t.Errorf("ints: %d, %d, %d", n, m, o)
	}
	empty(t, x, 5)
	empty(t, y, 5)
}

// P16.1: what is done to what Rest answered changes neither the bytes that were handed in nor the tape.
func TestRestIsNew(t *testing.T) {
	room := []byte{5, 6, 7, 8, 77, 78}
	b, kept := room[:4], slices.Clone(room)
	x, y := New(b), New(b)
	x.Byte()
	rest := x.Rest()
	for i := range rest {
		rest[i] = 99
	}
	_ = append(rest, 98, 97, 96)
	if !slices.Equal(room, kept) || !slices.Equal(x.bytes, kept[:4]) {
		t.Fatalf("the bytes and their room are %v, the tape's own %v", room, x.bytes)
	}
	if again := y.Rest(); !slices.Equal(again, kept[:4]) {
		t.Errorf("the other tape's rest is %v", again)
	}
	empty(t, x, 4)
}

// P16.2: the bytes that are handed in to Put, and those in the room behind their end, are as they were; so is the list of numbers.
func TestPutCopies(t *testing.T) {
	room := []byte{5, 6, 7, 77, 78, 79, 80, 81, 82, 83, 84, 85, 86, 87}
	list := []int{8, 300, -1, 14280, 55, 56}
	for end := range len(room) + 1 {
		for count := range 5 {
			b, kept := room[:end], slices.Clone(room)
			l, numbers := list[:count], slices.Clone(list)
			want := slices.Clone(b)
			for _, n := range l {
				want = append(want, bytesOf(n)...)
			}
			got := Put(b, l...)
			if !slices.Equal(room, kept) || !slices.Equal(list, numbers) {
				t.Fatalf("the bytes and their room are %v, the numbers %v", room, list)
			}
			puts(t, got, want...)
			for i := range room {
				room[i]++
			}
			puts(t, got, want...)
			copy(room, kept)
			clear(got[:cap(got)])
			if !slices.Equal(room, kept) || !slices.Equal(list, numbers) {
				t.Fatalf("the bytes and their room became %v, the numbers %v", room, list)
			}
		}
	}
}

// P16.2: what is put behind what Put answered, once and once more, doesn't come upon one another.
func TestPutTwiceBehindOne(t *testing.T) {
	for _, b := range many {
		base := Put(b, 1, 2, 3)
		kept := slices.Clone(base)
		first, second := Put(base, 7, 300), Put(base, -1)
		puts(t, base, kept...)
		puts(t, first, append(slices.Clone(kept), 7, 200, 100)...)
		puts(t, second, append(slices.Clone(kept), bytesOf(-1)...)...)
	}
}

// P16.1: a tape of what Put answered is its own: what is done to those bytes changes it not.
func TestTapeOfPut(t *testing.T) {
	b := Put(nil, 5, 300, -1)
	x := New(b)
	clear(b)
	for _, n := range []int{5, 300, -1, 0} {
		if got := x.Int(); got != n {
			t.Fatalf("int: %d, want %d", got, n)
		}
	}
	empty(t, x, 12)
}

// P16.1: two tapes of the same bytes go their own ways.
func TestTwoTapes(t *testing.T) {
	b := randomly(5, 60)
	x, y := New(b), New(b)
	for i, want := range b {
		stands(t, y, i, len(b)-i)
		x.Int()
		if got := y.Byte(); got != int(want) {
			t.Fatalf("byte %d is %d, want %d", i, got, want)
		}
	}
	z := New(b)
	x.Rest()
	if rest := z.Rest(); !slices.Equal(rest, b) {
		t.Errorf("the rest is %v", rest)
	}
}

// P16.2: a nil tape tells 0, and nil.
func TestNil(t *testing.T) {
	var x *Tape
	for range 2 {
		stands(t, x, 0, 0)
		if b, n := x.Byte(), x.Int(); b != 0 || n != 0 {
			t.Errorf("byte %d, int %d", b, n)
		}
		for _, n := range slices.Concat(bounds, noBounds) {
			if got := x.Below(n); got != 0 {
				t.Errorf("below %d: %d", n, got)
			}
		}
		if rest := x.Rest(); rest != nil {
			t.Errorf("the rest is %v", rest)
		}
		stands(t, x, 0, 0)
	}
}
