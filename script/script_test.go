package script

import (
	"encoding/binary"
	"math"
	"math/rand"
	"slices"
	"testing"

	"cortado/api"
	"cortado/prog"
)

// Numbers at all edges: of one byte, of two and of nine, below 0 and above all bounds.
var edges = []int{
	0, 1, 2, 127, 128, 198, 199, 200, 201, 254, 255, 256, 300, 455, 456, 4095, 4096, 4097, 14278, 14279, 14280, 65536, 1 << 32, 1 << 56,
	api.MaxCost - 1, api.MaxCost, api.MaxCost + 1, math.MaxInt - 1, math.MaxInt,
	-1, -2, -199, -200, -255, -256, -14280, -1 << 32, -1 << 62, math.MinInt + 1, math.MinInt,
}

// base is a config whose numbers are far from all bounds, and unlike one another.
func base() api.Config {
	return api.Config{Max: 300, Buffer: 5, Counters: 64, Batch: 3, Bits: 40}
}

// field is a number of a config with its bounds, by the chapter's words.
type field struct {
	name        string
	of          func(c *api.Config) *int
	least, most int
}

func fields() []field {
	return []field{
		{"Max", func(c *api.Config) *int { return &c.Max }, 0, 1 << 62},
		{"Buffer", func(c *api.Config) *int { return &c.Buffer }, 1, 64},
		{"Counters", func(c *api.Config) *int { return &c.Counters }, 1, 4096},
		{"Batch", func(c *api.Config) *int { return &c.Batch }, 1, 16},
		{"Bits", func(c *api.Config) *int { return &c.Bits }, 0, 64},
	}
}

// nearestByTheWords: a number that is between its bounds stays what it is.
func nearestByTheWords(n, least, most int) int {
	if n < least {
		return least
	}
	if n > most {
		return most
	}
	return n
}

func configByTheWords(c api.Config) bool {
	for _, f := range fields() {
		if n := *f.of(&c); n < f.least || n > f.most {
			return false
		}
	}
	return true
}

func nearestConfigByTheWords(c api.Config) api.Config {
	for _, f := range fields() {
		*f.of(&c) = nearestByTheWords(*f.of(&c), f.least, f.most)
	}
	return c
}

func rightByTheWords(s api.Script) bool {
	if !configByTheWords(s.Config) || len(s.Progs) > 6 || len(s.Picks) > 4096 || len(s.Draws) > 255 {
		return false
	}
	for _, l := range s.Progs {
		if !prog.Fine(l) {
			return false
		}
	}
	for _, pick := range s.Picks {
		if pick < 0 || pick > 255 {
			return false
		}
	}
	return true
}

// number answers a number's bytes, by the words of chapter 16.
func number(n int) []byte {
	if n >= 0 && n <= 199 {
		return []byte{byte(n)}
	}
	if n >= 200 && n <= 14279 {
		d := n - 200
		return []byte{byte(200 + d/256), byte(d % 256)}
	}
	return binary.BigEndian.AppendUint64([]byte{255}, uint64(n))
}

// ownByTheWords tells the places of a call's own numbers, by chapter 17, none of what is no Kind.
func ownByTheWords(op *api.Op) []*int {
	switch op.Kind {
	case api.OpGet, api.OpDel:
		return []*int{&op.Key}
	case api.OpSet:
		return []*int{&op.Key, &op.Val, &op.Cost, &op.TTL}
	case api.OpLimit:
		return []*int{&op.Cost}
	}
	return nil
}

// bytesByTheWords answers the bytes of a script that is right, by the words of chapters 16 to 18.
func bytesByTheWords(s api.Script) []byte {
	b := number(s.Config.Max)
	b = append(b, byte(s.Config.Buffer-1), byte(s.Config.Batch-1), byte(s.Config.Bits))
	b = append(b, number(s.Config.Counters)...)
	b = append(b, byte(len(s.Progs)))
	for _, l := range s.Progs {
		b = append(b, byte(len(l)))
		for _, op := range l {
			b = append(b, byte(op.Kind))
			for _, n := range ownByTheWords(&op) {
				b = append(b, number(*n)...)
			}
		}
	}
	b = append(b, byte(len(s.Draws)))
	for _, n := range s.Draws {
		b = append(b, number(n)...)
	}
	for _, pick := range s.Picks {
		b = append(b, byte(pick))
	}
	return b
}

// reader reads bytes by the words of chapters 16 to 18.
type reader struct {
	left []byte
}

func (w *reader) byte() int {
	if len(w.left) == 0 {
		return 0
	}
	next := int(w.left[0])
	w.left = w.left[1:]
	return next
}

func (w *reader) int() int {
	first := w.byte()
	if first < 200 {
		return first
	}
	if first < 255 {
		return (first-200)*256 + 200 + w.byte()
	}
	var b [8]byte
	for i := range b {
		b[i] = byte(w.byte())
	}
	return int(binary.BigEndian.Uint64(b[:]))
}

func (w *reader) program() []api.Op {
	var l []api.Op
	for count := w.byte() % 25; count > 0; count-- {
		op := api.Op{Kind: w.byte()}
		if op.Kind > 7 {
			op.Kind = 0
		}
		for _, n := range ownByTheWords(&op) {
			*n = w.int()
		}
		l = append(l, op)
	}
	return l
}

func parsedByTheWords(b []byte) api.Script {
	if len(b) > 16384 {
		b = b[:16384]
	}
	w := &reader{b}
	var s api.Script
	s.Config.Max = nearestByTheWords(w.int(), 0, 1<<62)
	s.Config.Buffer = w.byte()%64 + 1
	s.Config.Batch = w.byte()%16 + 1
	s.Config.Bits = w.byte() % 65
	s.Config.Counters = nearestByTheWords(w.int(), 1, 4096)
	for count := w.byte() % 7; count > 0; count-- {
		s.Progs = append(s.Progs, w.program())
	}
	for count := w.byte(); count > 0; count-- {
		s.Draws = append(s.Draws, w.int())
	}
	for len(w.left) > 0 && len(s.Picks) < 4096 {
		s.Picks = append(s.Picks, w.byte())
	}
	return s
}

// isOne fails unless got is just want: not by Same, which is under test itself.
func isOne(t *testing.T, got, want api.Script) {
	t.Helper()
	if got.Config != want.Config || len(got.Progs) != len(want.Progs) {
		t.Fatalf("config %v, %d programs, want %v and %d", got.Config, len(got.Progs), want.Config, len(want.Progs))
	}
	for i, l := range got.Progs {
		if !slices.Equal(l, want.Progs[i]) {
			t.Fatalf("the program %d is %v, want %v", i, l, want.Progs[i])
		}
	}
	if !slices.Equal(got.Picks, want.Picks) {
		t.Fatalf("%d picks: %v, want %d: %v", len(got.Picks), got.Picks, len(want.Picks), want.Picks)
	}
	if !slices.Equal(got.Draws, want.Draws) {
		t.Fatalf("%d draws: %v, want %d: %v", len(got.Draws), got.Draws, len(want.Draws), want.Draws)
	}
}

// drawnNumber answers a number of any size, or one at an edge.
func drawnNumber(r *rand.Rand) int {
	if r.Intn(3) == 0 {
		return edges[r.Intn(len(edges))]
	}
	return int(r.Uint64()) >> r.Intn(64)
}

// drawnProgram answers a program of so many calls.
func drawnProgram(r *rand.Rand, count int) []api.Op {
	l := make([]api.Op, count)
	for i := range l {
		l[i].Kind = r.Intn(8)
		for _, n := range ownByTheWords(&l[i]) {
			*n = drawnNumber(r)
		}
	}
	return l
}

// drawnConfig answers a config that is right.
func drawnConfig(r *rand.Rand) api.Config {
	var c api.Config
	for _, f := range fields() {
		*f.of(&c) = nearestByTheWords(drawnNumber(r), f.least, f.most)
		if r.Intn(2) == 0 {
			*f.of(&c) = f.least + r.Intn(min(f.most-f.least+1, 5000))
		}
	}
	return c
}

// drawnScript answers a right script with so many programs, picks and draws.
func drawnScript(r *rand.Rand, progs, picks, draws int) api.Script {
	s := api.Script{Config: drawnConfig(r)}
	for range progs {
		s.Progs = append(s.Progs, drawnProgram(r, r.Intn(25)))
	}
	for range picks {
		s.Picks = append(s.Picks, r.Intn(256))
	}
	for range draws {
		s.Draws = append(s.Draws, drawnNumber(r))
	}
	return s
}

// greatest answers the script with the most of all, all of its numbers that may be of nine bytes.
func greatest() api.Script {
	op := api.Op{Kind: api.OpSet, Key: math.MinInt, Val: -1, Cost: math.MaxInt, TTL: 14280}
	s := api.Script{
		Config: api.Config{Max: api.MaxCost, Buffer: 64, Counters: 4096, Batch: 16, Bits: 64},
		Picks:  slices.Repeat([]int{255, 0, 200, 7}, 1024),
		Draws:  slices.Repeat([]int{-1, math.MaxInt, math.MinInt, 14280, api.MaxCost}, 51),
	}
	for range 6 {
		s.Progs = append(s.Progs, slices.Repeat([]api.Op{op}, 24))
	}
	return s
}

// cloned answers a script that shares nothing with s.
func cloned(s api.Script) api.Script {
	s.Progs = slices.Clone(s.Progs)
	for i, l := range s.Progs {
		s.Progs[i] = slices.Clone(l)
	}
	s.Picks, s.Draws = slices.Clone(s.Picks), slices.Clone(s.Draws)
	return s
}

// small answers a right script with a little of all.
func small() api.Script {
	return api.Script{
		Config: base(),
		Progs: [][]api.Op{
			{{Kind: api.OpGet, Key: 5}, {Kind: api.OpSet, Key: 300, Val: -1, Cost: 7, TTL: 14280}, {Kind: api.OpWait}},
			{},
			{{Kind: api.OpLimit, Cost: math.MaxInt}},
		},
		Picks: []int{0, 199, 200, 255, 7},
		Draws: []int{7, -3, 200, math.MinInt},
	}
}

// smallBytes are those of small, by hand.
func smallBytes() []byte {
	return []byte{
		200, 100, 4, 2, 40, 64,
		3,
		3, 1, 5, 2, 200, 100, 255, 255, 255, 255, 255, 255, 255, 255, 255, 7, 255, 0, 0, 0, 0, 0, 0, 55, 200, 4,
		0,
		1, 7, 255, 127, 255, 255, 255, 255, 255, 255, 255,
		4, 7, 255, 255, 255, 255, 255, 255, 255, 255, 253, 200, 0, 255, 128, 0, 0, 0, 0, 0, 0, 0,
		0, 199, 200, 255, 7,
	}
}

// said fails unless Right and Bytes of s are as the words say.
func said(t *testing.T, s api.Script, what string) {
	t.Helper()
	want := rightByTheWords(s)
	if got := Right(s); got != want {
		t.Fatalf("%s: right: %v", what, got)
	}
	b, e := Bytes(s)
	if !want && (e != api.ErrArg || len(b) != 0) {
		t.Fatalf("%s: %d bytes, error %d, want ErrArg", what, len(b), e)
	}
	if want && (e != api.OK || !slices.Equal(b, bytesByTheWords(s))) {
		t.Fatalf("%s: %v, error %d, want %v", what, b, e, bytesByTheWords(s))
	}
}

// isWrong fails unless s isn't right, by the words too.
func isWrong(t *testing.T, s api.Script, what string) {
	t.Helper()
	if rightByTheWords(s) {
		t.Fatalf("%s: right by the words", what)
	}
	said(t, s, what)
}

// isRight fails unless s is right, by the words too, and its bytes are parsed to it.
func isRight(t *testing.T, s api.Script, what string) {
	t.Helper()
	if !rightByTheWords(s) {
		t.Fatalf("%s: not right by the words", what)
	}
	said(t, s, what)
	b, _ := Bytes(s)
	isOne(t, Parse(b), s)
	if !Same(Parse(b), s) || !Same(s, Parse(b)) {
		t.Fatalf("%s: what is parsed isn't the same", what)
	}
}

// parses fails unless of b that script is parsed that the words say, and it is right.
func parses(t *testing.T, b []byte) {
	t.Helper()
	got := Parse(b)
	isOne(t, got, parsedByTheWords(b))
	if !Right(got) || !rightByTheWords(got) {
		t.Fatalf("of %v is parsed %v, which isn't right", b, got)
	}
}

// randomly answers so many bytes, of which some begin numbers of nine bytes, and more are Kinds.
func randomly(seed int64, count int) []byte {
	r := rand.New(rand.NewSource(seed))
	b := make([]byte, count)
	for i := range b {
		switch b[i] = byte(r.Intn(256)); r.Intn(5) {
		case 0, 1:
			b[i] %= 8
		case 2:
			b[i] = 255
		}
	}
	return b
}

// P18.3, example 1: of no bytes: Max 0, Buffer 1, Batch 1, Bits 0, Counters 1, no programs.
func TestExample(t *testing.T) {
	for _, b := range [][]byte{nil, {}} {
		s := Parse(b)
		if s.Config != (api.Config{Max: 0, Buffer: 1, Counters: 1, Batch: 1, Bits: 0}) || len(s.Progs) != 0 || len(s.Picks) != 0 || len(s.Draws) != 0 {
			t.Errorf("of no bytes: %v", s)
		}
		if !Right(s) || Calls(s) != 0 {
			t.Errorf("of no bytes: right: %v, %d calls", Right(s), Calls(s))
		}
	}
}

// P18.1: each number of a config alone, at all edges, and each one of two.
func TestConfigAndNearest(t *testing.T) {
	all := fields()
	for _, f := range all {
		values := slices.Concat(edges, []int{f.least - 2, f.least - 1, f.least, f.least + 1, f.most - 1, f.most, f.most + 1, f.most + 2, 15, 16, 17, 63, 64, 65, 66})
		for _, x := range values {
			c := base()
			*f.of(&c) = x
			if got, want := Config(c), x >= f.least && x <= f.most; got != want {
				t.Errorf("%s %d: right: %v", f.name, x, got)
			}
			want := base()
			*f.of(&want) = nearestByTheWords(x, f.least, f.most)
			if got := Nearest(c); got != want {
				t.Errorf("%s %d: nearest %v, want %v", f.name, x, got, want)
			}
		}
	}
	r := rand.New(rand.NewSource(1))
	for range 20000 {
		var c api.Config
		for _, f := range all {
			if *f.of(&c) = drawnNumber(r); r.Intn(3) > 0 {
				*f.of(&c) = f.least + r.Intn(16)
			}
		}
		near := Nearest(c)
		if near != nearestConfigByTheWords(c) || Config(c) != configByTheWords(c) || Config(c) != (near == c) || !Config(near) || Nearest(near) != near {
			t.Fatalf("%v: right: %v, nearest %v", c, Config(c), near)
		}
	}
}

// P18.1: configs known ahead, by hand.
func TestKnownConfigs(t *testing.T) {
	low, high := api.Config{Buffer: 1, Counters: 1, Batch: 1}, api.Config{Max: 1 << 62, Buffer: 64, Counters: 4096, Batch: 16, Bits: 64}
	for _, c := range []struct {
		c, near api.Config
	}{
		{api.Config{}, low},
		{low, low},
		{high, high},
		{api.Config{Max: -1, Buffer: 0, Counters: 0, Batch: 0, Bits: -1}, low},
		{api.Config{Max: math.MinInt, Buffer: math.MinInt, Counters: math.MinInt, Batch: math.MinInt, Bits: math.MinInt}, low},
		{api.Config{Max: 1<<62 + 1, Buffer: 65, Counters: 4097, Batch: 17, Bits: 65}, high},
		{api.Config{Max: math.MaxInt, Buffer: math.MaxInt, Counters: math.MaxInt, Batch: math.MaxInt, Bits: math.MaxInt}, high},
		{api.Config{Max: -1, Buffer: 99, Bits: 70}, api.Config{Buffer: 64, Counters: 1, Batch: 1, Bits: 64}},
		{api.Config{Max: 10, Buffer: 20, Counters: 30, Batch: 5, Bits: 6}, api.Config{Max: 10, Buffer: 20, Counters: 30, Batch: 5, Bits: 6}},
	} {
		if got := Nearest(c.c); got != c.near {
			t.Errorf("nearest %v: %v, want %v", c.c, got, c.near)
		}
		if got := Config(c.c); got != (c.c == c.near) {
			t.Errorf("config %v: %v", c.c, got)
		}
	}
}

// P18.1, P18.2: a config with one wrong number, and all else right: ErrArg; at the bounds it is right.
func TestRightByConfig(t *testing.T) {
	isRight(t, small(), "small")
	for _, f := range fields() {
		for _, x := range []int{math.MinInt, -1, f.least - 1, f.most + 1, math.MaxInt} {
			s := small()
			*f.of(&s.Config) = x
			isWrong(t, s, f.name)
			isWrong(t, api.Script{Config: s.Config}, f.name)
		}
		for _, x := range []int{f.least, f.least + 1, f.most - 1, f.most} {
			s := small()
			*f.of(&s.Config) = x
			isRight(t, s, f.name)
		}
	}
	isWrong(t, api.Script{}, "the zero script")
}

// P18.1, P18.2: how many programs there are.
func TestRightByCountOfPrograms(t *testing.T) {
	r := rand.New(rand.NewSource(2))
	for count := range 7 {
		for range 20 {
			isRight(t, drawnScript(r, count, 3, 2), "programs")
		}
		s := api.Script{Config: base(), Progs: make([][]api.Op, count)}
		isRight(t, s, "empty programs")
	}
	for _, count := range []int{7, 8, 13, 14, 256, 257, 262, 1000} {
		isWrong(t, drawnScript(r, count, 3, 2), "programs")
		isWrong(t, api.Script{Config: base(), Progs: make([][]api.Op, count)}, "empty programs")
	}
}

// P18.1, P18.2: a program that isn't right, at each place.
func TestRightByPrograms(t *testing.T) {
	r := rand.New(rand.NewSource(3))
	wrong := [][]api.Op{
		{{Kind: 8}}, {{Kind: -1}}, {{Kind: api.OpGet, Key: 1, Val: 1}}, {{Kind: api.OpWait, Key: 1}}, {{Key: 1}}, {{Kind: api.OpLimit, TTL: math.MinInt}},
		{{Kind: api.OpGet, Key: 1}, {Kind: 256 + api.OpGet}}, drawnProgram(r, 25), make([]api.Op, 25), drawnProgram(r, 26), drawnProgram(r, 256), drawnProgram(r, 281),
	}
	for count := 1; count <= 6; count++ {
		for place := range count {
			s := drawnScript(r, count, 2, 2)
			for _, l := range wrong {
				s.Progs[place] = l
				isWrong(t, s, "a program")
			}
			for _, calls := range []int{0, 1, 23, 24} {
				s.Progs[place] = drawnProgram(r, calls)
				isRight(t, s, "a program")
			}
		}
	}
}

// P18.1, P18.2: how many picks there are, and what they are.
func TestRightByPicks(t *testing.T) {
	r := rand.New(rand.NewSource(4))
	for _, count := range []int{0, 1, 2, 3, 100, 255, 256, 4094, 4095, 4096} {
		s := drawnScript(r, 2, count, 2)
		isRight(t, s, "picks")
		isRight(t, api.Script{Config: base(), Picks: make([]int, count)}, "picks of 0")
		if count == 0 {
			continue
		}
		for _, place := range []int{0, count / 2, count - 1} {
			kept := s.Picks[place]
			for _, pick := range []int{0, 1, 199, 200, 254, 255} {
				s.Picks[place] = pick
				isRight(t, s, "a pick")
			}
			for _, pick := range []int{-1, 256, 257, 511, 512, -255, -256, 1 << 32, -1 << 32, math.MaxInt, math.MinInt} {
				s.Picks[place] = pick
				isWrong(t, s, "a pick")
			}
			s.Picks[place] = kept
		}
	}
	for _, count := range []int{4097, 4098, 5000, 8192, 65536} {
		isWrong(t, drawnScript(r, 2, count, 2), "picks")
		isWrong(t, api.Script{Config: base(), Picks: make([]int, count)}, "picks of 0")
	}
}

// P18.1, P18.2: how many draws there are, whatever they are.
func TestRightByDraws(t *testing.T) {
	r := rand.New(rand.NewSource(5))
	for count := range 256 {
		isRight(t, drawnScript(r, 1, 3, count), "draws")
		isRight(t, api.Script{Config: base(), Draws: make([]int, count)}, "draws of 0")
	}
	for _, count := range []int{256, 257, 258, 300, 511, 512, 1000} {
		isWrong(t, drawnScript(r, 1, 3, count), "draws")
		isWrong(t, api.Script{Config: base(), Draws: make([]int, count)}, "draws of 0")
	}
	for _, x := range edges {
		isRight(t, api.Script{Config: base(), Draws: []int{x}}, "a draw")
		isRight(t, api.Script{Config: base(), Draws: []int{1, x, 2}, Picks: []int{9}}, "a draw")
	}
}

// P18.2: bytes known ahead, by hand.
func TestBytesKnown(t *testing.T) {
	for _, c := range []struct {
		s    api.Script
		want []byte
	}{
		{api.Script{Config: api.Config{Buffer: 1, Counters: 1, Batch: 1}}, []byte{0, 0, 0, 0, 1, 0, 0}},
		{api.Script{Config: api.Config{Max: 1, Buffer: 2, Counters: 3, Batch: 4, Bits: 5}}, []byte{1, 1, 3, 5, 3, 0, 0}},
		{api.Script{Config: api.Config{Max: 199, Buffer: 64, Counters: 200, Batch: 16, Bits: 64}}, []byte{199, 63, 15, 64, 200, 0, 0, 0}},
		{api.Script{Config: api.Config{Max: 1 << 62, Buffer: 1, Counters: 4096, Batch: 1}}, []byte{255, 64, 0, 0, 0, 0, 0, 0, 0, 0, 0, 0, 215, 56, 0, 0}},
		{api.Script{Config: base(), Progs: make([][]api.Op, 6)}, []byte{200, 100, 4, 2, 40, 64, 6, 0, 0, 0, 0, 0, 0, 0}},
		{api.Script{Config: base(), Picks: []int{0, 255, 200, 1}}, []byte{200, 100, 4, 2, 40, 64, 0, 0, 0, 255, 200, 1}},
		{api.Script{Config: base(), Draws: []int{0, 300, -1}}, []byte{200, 100, 4, 2, 40, 64, 0, 3, 0, 200, 100, 255, 255, 255, 255, 255, 255, 255, 255, 255}},
		{api.Script{Config: base(), Draws: make([]int, 201)}, slices.Concat([]byte{200, 100, 4, 2, 40, 64, 0, 201}, make([]byte, 201))},
		{api.Script{Config: base(), Draws: make([]int, 255)}, slices.Concat([]byte{200, 100, 4, 2, 40, 64, 0, 255}, make([]byte, 255))},
		{small(), smallBytes()},
	} {
		b, e := Bytes(c.s)
		if e != api.OK || !slices.Equal(b, c.want) {
			t.Errorf("%v: %v, error %d, want %v", c.s, b, e, c.want)
		}
		isOne(t, Parse(c.want), c.s)
	}
}

// P18.2, P18.4: scripts of all sorts.
func TestBytesOfMany(t *testing.T) {
	r := rand.New(rand.NewSource(6))
	for range 1000 {
		isRight(t, drawnScript(r, r.Intn(7), r.Intn(30), r.Intn(30)), "a script")
	}
	for range 50 {
		isRight(t, drawnScript(r, 6, r.Intn(4097), r.Intn(256)), "a great script")
	}
}

// P18.2: the greatest script there may be; its bytes are counted by hand: none is too long.
func TestBytesOfTheGreatest(t *testing.T) {
	s := greatest()
	isRight(t, s, "the greatest")
	if b, _ := Bytes(s); len(b) != 9+3+2+1+6*(1+24*(1+4*9))+1+255*9+4096 || len(b) > 16384 {
		t.Errorf("%d bytes", len(b))
	}
	s.Progs = append(s.Progs, nil)
	isWrong(t, s, "one program more")
}

// P18.2: ErrLong, if there are more than 16384 bytes; no right script has as many, so what tells it is asked alone.
func TestLong(t *testing.T) {
	for _, count := range []int{0, 1, 11741, 16383, 16384} {
		want := randomly(int64(count), count)
		if b, e := notLong(slices.Clone(want)); e != api.OK || !slices.Equal(b, want) {
			t.Errorf("%d bytes: %d, error %d", count, len(b), e)
		}
	}
	for _, count := range []int{16385, 16386, 20000, 1 << 16} {
		if b, e := notLong(make([]byte, count)); e != api.ErrLong || len(b) != 0 {
			t.Errorf("%d bytes: %d, error %d", count, len(b), e)
		}
	}
}

// P18.2: nothing beside ErrArg, whatever isn't right, and several things at once.
func TestBytesOfWrong(t *testing.T) {
	wrong := []api.Script{{}, {Config: api.Config{Max: -1}, Picks: []int{-1}}, {Config: base(), Progs: make([][]api.Op, 9), Draws: make([]int, 999), Picks: make([]int, 99999)}}
	for _, s := range wrong {
		if b, e := Bytes(s); e != api.ErrArg || b != nil {
			t.Errorf("%d bytes, error %d", len(b), e)
		}
	}
}

// P18.3: scripts known ahead, by hand.
func TestParseKnown(t *testing.T) {
	one := api.Config{Buffer: 1, Counters: 1, Batch: 1}
	with := func(change func(c *api.Config)) api.Config {
		c := one
		change(&c)
		return c
	}
	for _, c := range []struct {
		b    []byte
		want api.Script
	}{
		{[]byte{7}, api.Script{Config: with(func(c *api.Config) { c.Max = 7 })}},
		{[]byte{200}, api.Script{Config: with(func(c *api.Config) { c.Max = 200 })}},
		{[]byte{255, 64}, api.Script{Config: with(func(c *api.Config) { c.Max = 1 << 62 })}},
		{[]byte{255, 64, 0, 0, 0, 0, 0, 0, 1}, api.Script{Config: with(func(c *api.Config) { c.Max = 1 << 62 })}},
		{[]byte{255, 127, 255}, api.Script{Config: with(func(c *api.Config) { c.Max = 1 << 62 })}},
		{[]byte{255, 128}, api.Script{Config: one}},
		{[]byte{0, 63}, api.Script{Config: with(func(c *api.Config) { c.Buffer = 64 })}},
		{[]byte{0, 64}, api.Script{Config: one}},
		{[]byte{0, 255, 255, 255}, api.Script{Config: api.Config{Buffer: 64, Counters: 1, Batch: 16, Bits: 60}}},
		{[]byte{0, 0, 15, 64}, api.Script{Config: api.Config{Buffer: 1, Counters: 1, Batch: 16, Bits: 64}}},
		{[]byte{0, 0, 16, 65}, api.Script{Config: one}},
		{[]byte{0, 0, 0, 0, 0}, api.Script{Config: one}},
		{[]byte{0, 0, 0, 0, 215, 56}, api.Script{Config: with(func(c *api.Config) { c.Counters = 4096 })}},
		{[]byte{0, 0, 0, 0, 215, 57}, api.Script{Config: with(func(c *api.Config) { c.Counters = 4096 })}},
		{[]byte{0, 0, 0, 0, 215, 55}, api.Script{Config: with(func(c *api.Config) { c.Counters = 4095 })}},
		{[]byte{0, 0, 0, 0, 255, 255}, api.Script{Config: one}},
		{[]byte{0, 0, 0, 0, 1, 6}, api.Script{Config: one, Progs: make([][]api.Op, 6)}},
		{[]byte{0, 0, 0, 0, 1, 7, 0, 5}, api.Script{Config: one, Picks: []int{5}}},
		{[]byte{0, 0, 0, 0, 1, 255, 1, 1, 9, 0, 0, 1, 3, 4}, api.Script{Config: one, Progs: [][]api.Op{{{Kind: 1, Key: 9}}, nil, nil}, Draws: []int{3}, Picks: []int{4}}},
		{[]byte{0, 0, 0, 0, 1, 0, 2, 200}, api.Script{Config: one, Draws: []int{200, 0}}},
		{[]byte{0, 0, 0, 0, 1, 0, 255}, api.Script{Config: one, Draws: make([]int, 255)}},
		{[]byte{0, 0, 0, 0, 1, 0, 0, 200, 255, 0}, api.Script{Config: one, Picks: []int{200, 255, 0}}},
		{smallBytes(), small()},
	} {
		isOne(t, Parse(c.b), c.want)
		parses(t, c.b)
	}
}

// P18.3: each of the bytes that may count too much, as each byte.
func TestParseEachByte(t *testing.T) {
	for x := range 256 {
		n := byte(x)
		for _, tail := range [][]byte{nil, {1, 2, 3}, smallBytes(), randomly(int64(x), 300), slices.Repeat([]byte{4}, 300)} {
			s := Parse(append([]byte{5, n, 3, 4, 5}, tail...))
			if s.Config.Buffer != x%64+1 || s.Config.Batch != 4 || s.Config.Bits != 4 {
				t.Fatalf("the byte %d: %v", x, s.Config)
			}
			s = Parse(append([]byte{5, 2, n, 4, 5}, tail...))
			if s.Config.Buffer != 3 || s.Config.Batch != x%16+1 || s.Config.Bits != 4 {
				t.Fatalf("the byte %d: %v", x, s.Config)
			}
			s = Parse(append([]byte{5, 2, 3, n, 5}, tail...))
			if s.Config.Buffer != 3 || s.Config.Batch != 4 || s.Config.Bits != x%65 {
				t.Fatalf("the byte %d: %v", x, s.Config)
			}
			s = Parse(append([]byte{5, 2, 3, 4, 5, n}, tail...))
			if len(s.Progs) != x%7 {
				t.Fatalf("the byte %d: %d programs", x, len(s.Progs))
			}
			s = Parse(append([]byte{5, 2, 3, 4, 5, 0, n}, tail...))
			if len(s.Draws) != x || len(s.Progs) != 0 {
				t.Fatalf("the byte %d: %d draws, %d programs", x, len(s.Draws), len(s.Progs))
			}
			for place := range 7 {
				b := append([]byte{5, 2, 3, 4, 5, 0, 2}, tail...)
				b[place] = n
				parses(t, b)
			}
		}
	}
}

// P18.3: Max and Counters of any number: the nearer one of their bounds.
func TestParseBounds(t *testing.T) {
	r := rand.New(rand.NewSource(7))
	numbers := slices.Clone(edges)
	for range 2000 {
		numbers = append(numbers, drawnNumber(r))
	}
	for _, x := range numbers {
		most := nearestByTheWords(x, 0, 1<<62)
		if got := Parse(number(x)).Config; got.Max != most {
			t.Fatalf("Max of %d: %d", x, got.Max)
		}
		s := Parse(slices.Concat([]byte{9, 2, 3, 4}, number(x), []byte{1, 1, 4, 0, 8}))
		isOne(t, s, api.Script{
			Config: api.Config{Max: 9, Buffer: 3, Counters: nearestByTheWords(x, 1, 4096), Batch: 4, Bits: 4},
			Progs:  [][]api.Op{{{Kind: api.OpWait}}},
			Picks:  []int{8},
		})
	}
}

// P18.3: bytes that stop anywhere, in the midst of a number, a program, the draws.
func TestParseStopped(t *testing.T) {
	r := rand.New(rand.NewSource(8))
	all := [][]byte{smallBytes()}
	for range 20 {
		s := drawnScript(r, r.Intn(7), r.Intn(10), r.Intn(10))
		all = append(all, bytesByTheWords(s))
	}
	for _, b := range all {
		for end := range len(b) + 1 {
			parses(t, b[:end])
		}
	}
}

// P18.3: bytes that are all alike, of many lengths, up to those of MaxScript and beyond.
func TestParseAlike(t *testing.T) {
	for _, x := range []byte{0, 1, 2, 3, 7, 8, 24, 25, 199, 200, 254, 255} {
		for count := range 64 {
			parses(t, slices.Repeat([]byte{x}, count))
		}
		for _, count := range []int{255, 1000, 4095, 4096, 4097, 4103, 4104, 12000, 16383, 16384, 16385, 20000} {
			parses(t, slices.Repeat([]byte{x}, count))
		}
	}
	isOne(t, Parse(make([]byte, 7)), api.Script{Config: api.Config{Buffer: 1, Counters: 1, Batch: 1}})
}

// P18.3: of picks those up to MaxPicks.
func TestParsePicks(t *testing.T) {
	head := []byte{5, 2, 3, 4, 5, 0, 1, 77}
	tail := randomly(9, 20000)
	for _, count := range []int{0, 1, 2, 255, 4094, 4095, 4096, 4097, 4098, 5000, 8192, 16375, 16376, 16377, 20000} {
		b := append(slices.Clone(head), tail[:count]...)
		parses(t, b)
		s := Parse(b)
		if len(s.Picks) != min(count, 4096) || !slices.Equal(s.Draws, []int{77}) {
			t.Fatalf("of %d bytes %d picks, draws %v", count, len(s.Picks), s.Draws)
		}
		for i, pick := range s.Picks {
			if pick != int(tail[i]) {
				t.Fatalf("the pick %d is %d, want %d", i, pick, tail[i])
			}
		}
	}
}

// P18.3: what stands behind the first MaxScript bytes changes nothing.
func TestParseMaxScript(t *testing.T) {
	for seed := range int64(20) {
		b := randomly(seed, 20000)
		want := Parse(b[:16384])
		isOne(t, Parse(b), want)
		isOne(t, Parse(b[:16385]), want)
		parses(t, b)
	}
	great, _ := Bytes(greatest())
	isOne(t, Parse(append(great, randomly(1, 9000)...)), greatest())
}

// P18.3, P18.4: whatever the bytes are, what is parsed is right, and that of the words; put again and parsed it is the same.
func TestParseAnything(t *testing.T) {
	for seed := range int64(3000) {
		b := randomly(seed, int(seed%400))
		parses(t, b)
		isRight(t, Parse(b), "what was parsed")
	}
	for seed := range int64(60) {
		b := randomly(seed, 14000+int(seed)*50)
		b[5] = 6
		parses(t, b)
		isRight(t, Parse(b), "what was parsed")
	}
}

// P18.4: the bytes of a script are parsed to it, whatever stands behind them as picks.
func TestBytesAreParsed(t *testing.T) {
	r := rand.New(rand.NewSource(10))
	for range 500 {
		s := drawnScript(r, r.Intn(7), r.Intn(20), r.Intn(20))
		b, _ := Bytes(s)
		more := randomly(r.Int63(), r.Intn(50))
		got := Parse(append(b, more...))
		for _, n := range more {
			s.Picks = append(s.Picks, int(n))
		}
		isOne(t, got, s)
	}
}

// different answers scripts of which each differs from small in one thing alone.
func different() map[string]api.Script {
	all := map[string]api.Script{}
	add := func(name string, change func(s *api.Script)) {
		s := small()
		change(&s)
		all[name] = s
	}
	for _, f := range fields() {
		add(f.name, func(s *api.Script) { *f.of(&s.Config)++ })
		add(f.name+" below 0", func(s *api.Script) { *f.of(&s.Config) = -1 })
	}
	add("no programs", func(s *api.Script) { s.Progs = nil })
	add("a program less", func(s *api.Script) { s.Progs = s.Progs[:2] })
	add("without the first program", func(s *api.Script) { s.Progs = s.Progs[1:] })
	add("an empty program more", func(s *api.Script) { s.Progs = append(s.Progs, nil) })
	add("programs in another order", func(s *api.Script) { s.Progs[0], s.Progs[1] = s.Progs[1], s.Progs[0] })
	add("a call less", func(s *api.Script) { s.Progs[0] = s.Progs[0][:2] })
	add("a call more", func(s *api.Script) { s.Progs[1] = []api.Op{{}} })
	add("another Kind", func(s *api.Script) { s.Progs[0][0].Kind = api.OpDel })
	add("another Key", func(s *api.Script) { s.Progs[0][0].Key = 6 })
	add("another Val", func(s *api.Script) { s.Progs[0][1].Val = 1 })
	add("another Cost", func(s *api.Script) { s.Progs[2][0].Cost-- })
	add("another TTL", func(s *api.Script) { s.Progs[0][1].TTL = 0 })
	add("a number that isn't its own", func(s *api.Script) { s.Progs[0][2].TTL = 1 })
	add("calls in another order", func(s *api.Script) { slices.Reverse(s.Progs[0]) })
	add("no picks", func(s *api.Script) { s.Picks = nil })
	add("a pick less", func(s *api.Script) { s.Picks = s.Picks[:4] })
	add("a pick more", func(s *api.Script) { s.Picks = append(s.Picks, 0) })
	add("the first pick", func(s *api.Script) { s.Picks[0] = 256 })
	add("the last pick", func(s *api.Script) { s.Picks[4] = 8 })
	add("no draws", func(s *api.Script) { s.Draws = []int{} })
	add("a draw less", func(s *api.Script) { s.Draws = s.Draws[:3] })
	add("a draw more", func(s *api.Script) { s.Draws = append(s.Draws, 0) })
	add("the first draw", func(s *api.Script) { s.Draws[0] = -7 })
	add("the last draw", func(s *api.Script) { s.Draws[3]++ })
	add("picks and draws for one another", func(s *api.Script) { s.Picks, s.Draws = s.Draws, s.Picks })
	return all
}

// P18.1: Same of scripts that differ in one thing alone, and of like ones.
func TestSame(t *testing.T) {
	if !Same(small(), small()) || !Same(api.Script{}, api.Script{}) || !Same(greatest(), greatest()) {
		t.Error("like scripts aren't the same")
	}
	for name, s := range different() {
		if Same(s, small()) || Same(small(), s) {
			t.Errorf("%s: the same", name)
		}
		if !Same(s, s) || !Same(s, cloned(s)) || !Same(cloned(s), s) {
			t.Errorf("%s: not the same as itself", name)
		}
	}
	r := rand.New(rand.NewSource(11))
	var before api.Script
	for range 300 {
		s := drawnScript(r, r.Intn(7), r.Intn(5), r.Intn(5))
		if !Same(s, cloned(s)) || Same(s, before) {
			t.Fatalf("%v: same as a clone: %v, as another one: %v", s, Same(s, cloned(s)), Same(s, before))
		}
		before = s
	}
}

// P18.1: Same takes nil for empty.
func TestSameNilAndEmpty(t *testing.T) {
	kinds := []api.Script{
		{Config: base()},
		{Config: base(), Progs: [][]api.Op{}, Picks: []int{}, Draws: []int{}},
		{Config: base(), Progs: make([][]api.Op, 0, 9), Picks: make([]int, 0, 9), Draws: make([]int, 0, 9)},
	}
	for _, a := range kinds {
		for _, b := range kinds {
			if !Same(a, b) {
				t.Errorf("%v and %v aren't the same", a, b)
			}
			c, d := a, b
			c.Progs, d.Progs = [][]api.Op{nil, {}}, [][]api.Op{{}, nil}
			if !Same(c, d) {
				t.Errorf("%v and %v aren't the same", c, d)
			}
			d.Progs = d.Progs[:1]
			if Same(c, d) || Same(d, c) {
				t.Errorf("%v and %v are the same", c, d)
			}
		}
	}
	if !slices.Equal(bytesOf(t, kinds[0]), bytesOf(t, kinds[1])) {
		t.Error("nil and empty have unlike bytes")
	}
}

// bytesOf answers the bytes of a right script.
func bytesOf(t *testing.T, s api.Script) []byte {
	t.Helper()
	b, e := Bytes(s)
	if e != api.OK {
		t.Fatalf("%v: error %d", s, e)
	}
	return b
}

// P18.1: Calls of no program, of empty ones and of several, right or not.
func TestCalls(t *testing.T) {
	calls := func(counts ...int) api.Script {
		s := api.Script{Config: base(), Picks: make([]int, 5), Draws: make([]int, 6)}
		for _, count := range counts {
			s.Progs = append(s.Progs, make([]api.Op, count))
		}
		return s
	}
	for _, c := range []struct {
		s    api.Script
		want int
	}{
		{api.Script{}, 0}, {calls(), 0}, {calls(0), 0}, {calls(0, 0, 0), 0}, {calls(1), 1}, {calls(24), 24}, {calls(0, 3, 0, 5), 8}, {calls(5, 0, 3), 8},
		{calls(24, 24, 24, 24, 24, 24), 144}, {calls(30, 1, 1, 1, 1, 1, 1, 1), 37}, {small(), 4}, {greatest(), 144},
	} {
		if got := Calls(c.s); got != c.want {
			t.Errorf("%d programs: %d calls, want %d", len(c.s.Progs), got, c.want)
		}
	}
}

// roomy answers small with room behind the end of each of its lists, and lists up to the ends of the rooms.
func roomy() (s, whole api.Script) {
	whole = small()
	whole.Progs = append(whole.Progs, []api.Op{{Kind: 9}}, []api.Op{{Kind: 1, Key: 8}})
	for i := range whole.Progs {
		whole.Progs[i] = append(whole.Progs[i], api.Op{Kind: 1, Key: 44}, api.Op{Kind: 11, Key: 55})
	}
	whole.Picks, whole.Draws = append(whole.Picks, 300, -4), append(whole.Draws, 66, 77)
	s = whole
	s.Progs, s.Picks, s.Draws = slices.Clone(whole.Progs)[:3], s.Picks[:5], s.Draws[:4]
	for i, l := range small().Progs {
		s.Progs[i] = s.Progs[i][:len(l)]
	}
	return s, whole
}

// spoil makes all that s has another one.
func spoil(s api.Script) {
	for _, l := range s.Progs {
		for i := range l {
			l[i] = api.Op{Kind: 99, Key: 98}
		}
	}
	for _, l := range [][]int{s.Picks, s.Draws} {
		for i := range l {
			l[i] = 97
		}
	}
	clear(s.Progs)
}

// P18.1, P18.2: a script that is handed in, and what lies in the room behind the ends, is as it was; what is done to it afterwards doesn't change what was answered, nor the other way.
func TestScriptIsLeft(t *testing.T) {
	s, whole := roomy()
	kept := cloned(whole)
	b := bytesOf(t, s)
	if !Right(s) || !Same(s, small()) || !Same(small(), s) || Calls(s) != 4 {
		t.Error("a script with room isn't taken as the same one")
	}
	isOne(t, s, small())
	isOne(t, whole, kept)
	clear(b[:cap(b)])
	isOne(t, whole, kept)
	b = bytesOf(t, s)
	if !slices.Equal(b, smallBytes()) {
		t.Errorf("then its bytes are %v", b)
	}
	spoil(whole)
	spoil(s)
	if !slices.Equal(b, smallBytes()) {
		t.Errorf("its bytes became %v", b)
	}
}

// P18.2: a script that isn't right is left as it was.
func TestWrongScriptIsLeft(t *testing.T) {
	_, whole := roomy()
	kept := cloned(whole)
	if b, e := Bytes(whole); e != api.ErrArg || len(b) != 0 || Right(whole) {
		t.Errorf("%v, error %d", b, e)
	}
	isOne(t, whole, kept)
}

// P18.3: bytes that are handed in, and their room, are as they were; what is done to them afterwards doesn't change what was answered, nor the other way.
func TestBytesAreLeft(t *testing.T) {
	room := append(smallBytes(), randomly(12, 300)...)
	kept := slices.Clone(room)
	b := room[:len(smallBytes())]
	first, second := Parse(b), Parse(b)
	isOne(t, first, small())
	if !slices.Equal(room, kept) {
		t.Error("the bytes or their room were changed")
	}
	spoil(first)
	spoil(api.Script{Progs: first.Progs[:cap(first.Progs)], Picks: first.Picks[:cap(first.Picks)], Draws: first.Draws[:cap(first.Draws)]})
	isOne(t, second, small())
	isOne(t, Parse(b), small())
	if !slices.Equal(room, kept) {
		t.Error("what was answered shares the bytes")
	}
	clear(room)
	isOne(t, second, small())
}

// P18.3: no two lists of one answer share anything, not even the room behind their ends.
func TestParsedShareNothing(t *testing.T) {
	s := Parse(smallBytes())
	for i, l := range s.Progs {
		_ = append(l, api.Op{Kind: 88, Key: i})
	}
	_, _ = append(s.Picks, 87, 86), append(s.Draws, 85, 84)
	isOne(t, s, small())
}
