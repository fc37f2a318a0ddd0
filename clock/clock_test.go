package clock

import (
	"math"
	"math/big"
	"math/rand"
	"testing"

	"cortado/api"
)

// Numbers at all edges at which a clock may be made, a time be told, or an end be asked for.
var edges = []int{
	math.MinInt, math.MinInt + 1, -1 << 62, -api.MaxTick - 1, -api.MaxTick, -5, -1, 0, 1, 2, 3, 4, 5, 7, 8, 9,
	api.MaxTick / 2, api.MaxTick - 5, api.MaxTick - 4, api.MaxTick - 3, api.MaxTick - 2, api.MaxTick - 1, api.MaxTick,
	api.MaxTick + 1, api.MaxTick + 2, api.MaxTick + 3, api.MaxTick + 4, api.MaxTick + 5, 1 << 62, math.MaxInt - api.MaxTick, math.MaxInt - 1, math.MaxInt,
}

// Buckets at all edges, the last one that has an end being MaxTick / Span.
var buckets = []int{
	math.MinInt, math.MinInt + 1, -1 << 62, -2, -1, 0, 1, 2, 3, api.MaxTick / 8,
	api.MaxTick/4 - 2, api.MaxTick/4 - 1, api.MaxTick / 4, api.MaxTick/4 + 1, api.MaxTick/4 + 2, api.MaxTick, api.MaxTick + 1,
	math.MaxInt/4 - 1, math.MaxInt / 4, math.MaxInt/4 + 1, math.MaxInt / 2, math.MaxInt - 1, math.MaxInt,
}

// number answers n as a number of any length.
func number(n int) *big.Int {
	return big.NewInt(int64(n))
}

// nearerByTheWords answers n, if it is from 0 to MaxTick, and else the one of them that is nearer.
func nearerByTheWords(n *big.Int) *big.Int {
	if n.Sign() < 0 {
		return number(0)
	}
	if n.Cmp(number(api.MaxTick)) > 0 {
		return number(api.MaxTick)
	}
	return n
}

// passed answers where a clock that stood at the tick at stands n ticks further.
func passed(at, n int) int {
	if n < 0 {
		n = 0
	}
	return int(nearerByTheWords(new(big.Int).Add(number(at), number(n))).Int64())
}

func endByTheWords(now, ttl int) (int, bool) {
	if ttl == 0 {
		return 0, true
	}
	if ttl < 0 {
		return 0, false
	}
	behind := new(big.Int).Add(nearerByTheWords(number(now)), number(ttl))
	if behind.Cmp(number(api.MaxTick)) > 0 {
		return api.MaxTick, true
	}
	return int(behind.Int64()), true
}

func overByTheWords(end, now int) bool {
	if end > 0 {
		return !(end > now)
	}
	return false
}

// bucketByTheWords answers how often 4 goes into an end above 0: into a small one by taking 4 off as often as it can be done.
func bucketByTheWords(end int) int {
	if !(end > 0) {
		return -1
	}
	times := 0
	if end > 1000 {
		times = 250 * ((end - 1) / 1000)
		end -= 4 * times
	}
	for end >= 4 {
		end -= 4
		times++
	}
	return times
}

// endsOf answers all ends of a bucket that are above 0, and not above MaxTick.
func endsOf(bucket int) []int {
	var ends []int
	end := new(big.Int).Mul(number(bucket), number(4))
	for range 4 {
		if end.Sign() > 0 && end.Cmp(number(api.MaxTick)) <= 0 {
			ends = append(ends, int(end.Int64()))
		}
		end.Add(end, number(1))
	}
	return ends
}

// dueByTheWords asks of a bucket's ends, one by one.
func dueByTheWords(bucket, now int) bool {
	if bucket < 0 {
		return false
	}
	for _, end := range endsOf(bucket) {
		if !overByTheWords(end, now) {
			return false
		}
	}
	return true
}

// P19.1: a clock stands at the tick at which it was made, or at the nearer one of 0 and MaxTick.
func TestNew(t *testing.T) {
	for _, x := range []struct{ at, now int }{
		{math.MinInt, 0}, {math.MinInt + 1, 0}, {-1 << 62, 0}, {-5, 0}, {-1, 0}, {0, 0}, {1, 1}, {7, 7}, {1 << 39, 1 << 39},
		{1<<40 - 1, 1<<40 - 1}, {1 << 40, 1 << 40}, {1<<40 + 1, 1 << 40}, {1 << 62, 1 << 40}, {math.MaxInt, 1 << 40},
	} {
		c := New(x.at)
		if c == nil || c.Now() != x.now || c.Now() != x.now {
			t.Error(x, c.Now())
		}
	}
	for _, at := range edges {
		if now := New(at).Now(); now != passed(0, at) {
			t.Error(at, now)
		}
	}
}

// P19.1: a clock stands a tick further, but not behind MaxTick.
func TestTick(t *testing.T) {
	c := New(0)
	for i := range 1000 {
		if now := c.Tick(); now != i+1 || c.Now() != i+1 {
			t.Fatal(i, now, c.Now())
		}
	}
	c = New(api.MaxTick - 3)
	for i, want := range []int{api.MaxTick - 2, api.MaxTick - 1, api.MaxTick, api.MaxTick, api.MaxTick, api.MaxTick} {
		if now := c.Tick(); now != want || c.Now() != want {
			t.Fatal(i, now, c.Now())
		}
	}
	for _, at := range edges {
		c := New(at)
		want := c.Now()
		for range 9 {
			want = passed(want, 1)
			if now := c.Tick(); now != want || c.Now() != want {
				t.Fatal(at, now, want)
			}
		}
	}
}

// P19.1: a clock stands n ticks further, but not behind MaxTick; no clock goes back.
func TestPass(t *testing.T) {
	for _, x := range []struct{ at, n, now int }{
		{0, math.MinInt, 0}, {0, -1, 0}, {0, 0, 0}, {0, 1, 1}, {0, api.MaxTick - 1, api.MaxTick - 1}, {0, api.MaxTick, api.MaxTick}, {0, api.MaxTick + 1, api.MaxTick}, {0, math.MaxInt, api.MaxTick},
		{100, math.MinInt, 100}, {100, -100, 100}, {100, -1, 100}, {100, 0, 100}, {100, 1, 101}, {100, api.MaxTick - 101, api.MaxTick - 1}, {100, api.MaxTick - 100, api.MaxTick}, {100, api.MaxTick - 99, api.MaxTick}, {100, math.MaxInt, api.MaxTick},
		{api.MaxTick - 1, -1, api.MaxTick - 1}, {api.MaxTick - 1, 0, api.MaxTick - 1}, {api.MaxTick - 1, 1, api.MaxTick}, {api.MaxTick - 1, 2, api.MaxTick},
		{api.MaxTick, math.MinInt, api.MaxTick}, {api.MaxTick, -1, api.MaxTick}, {api.MaxTick, 0, api.MaxTick}, {api.MaxTick, 1, api.MaxTick}, {api.MaxTick, math.MaxInt, api.MaxTick},
		{-7, 5, 5}, {math.MinInt, math.MaxInt, api.MaxTick}, {math.MaxInt, math.MinInt, api.MaxTick},
	} {
		c := New(x.at)
		if now := c.Pass(x.n); now != x.now || c.Now() != x.now {
			t.Error(x, now, c.Now())
		}
	}
	for _, at := range edges {
		from := New(at).Now()
		for _, n := range append(edges, api.MaxTick-from-1, api.MaxTick-from, api.MaxTick-from+1) {
			c := New(at)
			if now, want := c.Pass(n), passed(from, n); now != want || c.Now() != want {
				t.Error(at, n, now, want)
			}
		}
	}
}

// P19.1: Tick and Pass go on from where a clock stands, in whatever order.
func TestGoesOn(t *testing.T) {
	r := rand.New(rand.NewSource(19))
	for run := range 200 {
		at := r.Intn(50)
		if run%2 == 1 {
			at = api.MaxTick - r.Intn(300)
		}
		c := New(at)
		for range 50 {
			n := 1
			now := 0
			switch r.Intn(3) {
			case 0:
				now = c.Tick()
			case 1:
				n = r.Intn(20) - 5
				now = c.Pass(n)
			default:
				n = 0
				now = c.Now()
			}
			at = passed(at, n)
			if now != at || c.Now() != at {
				t.Fatal(run, n, now, c.Now(), at)
			}
		}
	}
}

// P19.1: of two clocks each goes its own way.
func TestSideBySide(t *testing.T) {
	a, b := New(5), New(5)
	if a.Tick() != 6 || a.Pass(4) != 10 || b.Now() != 5 || a.Now() != 10 {
		t.Fatal(a.Now(), b.Now())
	}
	if b.Pass(math.MaxInt) != api.MaxTick || a.Now() != 10 || New(5).Now() != 5 {
		t.Fatal(a.Now(), b.Now())
	}
}

// P19.1: of nil it is 0, whatever is done to it.
func TestNil(t *testing.T) {
	var c *Clock
	if c.Now() != 0 || c.Tick() != 0 || c.Tick() != 0 || c.Now() != 0 {
		t.Error("a nil clock ticks")
	}
	for _, n := range edges {
		if c.Pass(n) != 0 || c.Now() != 0 {
			t.Error(n)
		}
	}
}

// P19.2: an end is never, none, or so many ticks behind now, but MaxTick at most.
func TestEnd(t *testing.T) {
	for _, x := range []struct {
		now, ttl, end int
		ok            bool
	}{
		{5, 3, 8, true}, {5, 0, 0, true}, {5, -1, 0, false}, {0, 1, 1, true}, {0, 0, 0, true}, {0, -1, 0, false},
		{5, math.MinInt, 0, false}, {5, math.MaxInt, api.MaxTick, true}, {5, api.MaxTick, api.MaxTick, true},
		{math.MinInt, 1, 1, true}, {math.MinInt, 0, 0, true}, {math.MinInt, -1, 0, false}, {math.MinInt, math.MinInt, 0, false}, {math.MinInt, math.MaxInt, api.MaxTick, true},
		{-1, 1, 1, true}, {-9, 3, 3, true}, {-1, api.MaxTick, api.MaxTick, true},
		{0, api.MaxTick - 1, api.MaxTick - 1, true}, {0, api.MaxTick, api.MaxTick, true}, {0, api.MaxTick + 1, api.MaxTick, true},
		{1, api.MaxTick - 2, api.MaxTick - 1, true}, {1, api.MaxTick - 1, api.MaxTick, true}, {1, api.MaxTick, api.MaxTick, true},
		{api.MaxTick - 1, 1, api.MaxTick, true}, {api.MaxTick - 1, 2, api.MaxTick, true}, {api.MaxTick - 1, 0, 0, true}, {api.MaxTick - 1, -1, 0, false},
		{api.MaxTick, 1, api.MaxTick, true}, {api.MaxTick, 0, 0, true}, {api.MaxTick, -1, 0, false}, {api.MaxTick, math.MaxInt, api.MaxTick, true},
		{api.MaxTick + 1, 1, api.MaxTick, true}, {api.MaxTick + 1, 0, 0, true}, {api.MaxTick + 1, -1, 0, false},
		{math.MaxInt, 1, api.MaxTick, true}, {math.MaxInt, math.MaxInt, api.MaxTick, true}, {math.MaxInt, 0, 0, true}, {math.MaxInt, -1, 0, false}, {math.MaxInt, math.MinInt, 0, false},
	} {
		if end, ok := End(x.now, x.ttl); end != x.end || ok != x.ok {
			t.Error(x, end, ok)
		}
	}
	for _, now := range edges {
		left := api.MaxTick - New(now).Now()
		for _, ttl := range append(edges, left-1, left, left+1) {
			holdEnd(t, now, ttl)
		}
	}
}

// P19.2: the same of times as they come, near 0 and near MaxTick.
func TestEndOfMany(t *testing.T) {
	for now := -10; now < 40; now++ {
		for ttl := -10; ttl < 40; ttl++ {
			holdEnd(t, now, ttl)
			holdEnd(t, api.MaxTick-now, ttl)
			holdEnd(t, now, api.MaxTick-ttl)
		}
	}
	r := rand.New(rand.NewSource(192))
	for range 10000 {
		holdEnd(t, int(r.Uint64())>>r.Intn(60), int(r.Uint64())>>r.Intn(60))
	}
}

// holdEnd holds an end against the chapter's words.
func holdEnd(t *testing.T, now, ttl int) {
	t.Helper()
	end, ok := End(now, ttl)
	if want, fine := endByTheWords(now, ttl); end != want || ok != fine {
		t.Error(now, ttl, end, ok, want, fine)
	}
}

// P19.2: an end above 0 is over from its tick on; never is never over.
func TestOver(t *testing.T) {
	for _, x := range []struct {
		end, now int
		over     bool
	}{
		{8, 7, false}, {8, 8, true}, {8, 9, true}, {8, math.MinInt, false}, {8, math.MaxInt, true}, {8, -1, false}, {8, 0, false},
		{1, 0, false}, {1, 1, true}, {1, 2, true}, {1, math.MinInt, false}, {1, math.MaxInt, true},
		{0, -1, false}, {0, 0, false}, {0, 1, false}, {0, 9, false}, {0, math.MinInt, false}, {0, math.MaxInt, false},
		{-1, -2, false}, {-1, -1, false}, {-1, 0, false}, {-1, 5, false}, {-1, math.MinInt, false}, {-1, math.MaxInt, false},
		{math.MinInt, math.MinInt, false}, {math.MinInt, math.MinInt + 1, false}, {math.MinInt, 0, false}, {math.MinInt, math.MaxInt, false},
		{api.MaxTick, api.MaxTick - 1, false}, {api.MaxTick, api.MaxTick, true}, {api.MaxTick, api.MaxTick + 1, true}, {api.MaxTick, math.MinInt, false}, {api.MaxTick, math.MaxInt, true},
		{math.MaxInt, math.MaxInt - 1, false}, {math.MaxInt, math.MaxInt, true}, {math.MaxInt, math.MinInt, false}, {math.MaxInt, api.MaxTick, false},
	} {
		if over := Over(x.end, x.now); over != x.over {
			t.Error(x, over)
		}
	}
	for _, end := range edges {
		for _, now := range append(edges, end-1, end, end+1) { // at the least and the greatest int these run round, and are others of the edges
			if over := Over(end, now); over != overByTheWords(end, now) {
				t.Error(end, now, over)
			}
		}
	}
}

// P19.2: the bucket of an end above 0 is how often Span goes into it, of others it is -1.
func TestBucket(t *testing.T) {
	for _, x := range []struct{ end, bucket int }{
		{math.MinInt, -1}, {math.MinInt + 1, -1}, {-8, -1}, {-4, -1}, {-3, -1}, {-1, -1}, {0, -1},
		{1, 0}, {2, 0}, {3, 0}, {4, 1}, {5, 1}, {7, 1}, {8, 2}, {9, 2}, {11, 2}, {12, 3}, {13, 3}, {99, 24}, {100, 25},
		{api.MaxTick - 5, 1<<38 - 2}, {api.MaxTick - 4, 1<<38 - 1}, {api.MaxTick - 1, 1<<38 - 1}, {api.MaxTick, 1 << 38}, {api.MaxTick + 1, 1 << 38}, {api.MaxTick + 3, 1 << 38}, {api.MaxTick + 4, 1<<38 + 1},
		{1<<62 - 1, 1<<60 - 1}, {1 << 62, 1 << 60}, {math.MaxInt - 4, 1<<61 - 2}, {math.MaxInt - 3, 1<<61 - 1}, {math.MaxInt, 1<<61 - 1},
	} {
		if bucket := Bucket(x.end); bucket != x.bucket {
			t.Error(x, bucket)
		}
	}
	for _, end := range edges {
		holdBucket(t, end)
	}
	for end := -20; end < 2100; end++ {
		holdBucket(t, end)
		holdBucket(t, api.MaxTick+end-1050)
	}
}

// holdBucket holds an end's bucket against the chapter's words.
func holdBucket(t *testing.T, end int) {
	t.Helper()
	if bucket := Bucket(end); bucket != bucketByTheWords(end) {
		t.Error(end, bucket)
	}
}

// P19.2: a bucket from 0 on is due when each end of it that there can be is over.
func TestDue(t *testing.T) {
	for _, x := range []struct {
		bucket, now int
		due         bool
	}{
		{0, math.MinInt, false}, {0, -1, false}, {0, 0, false}, {0, 1, false}, {0, 2, false}, {0, 3, true}, {0, 4, true}, {0, math.MaxInt, true},
		{1, 3, false}, {1, 4, false}, {1, 6, false}, {1, 7, true}, {1, 8, true}, {1, math.MinInt, false}, {1, math.MaxInt, true},
		{2, 7, false}, {2, 8, false}, {2, 9, false}, {2, 10, false}, {2, 11, true}, {2, 12, true},
		{-1, 0, false}, {-1, 99, false}, {-1, math.MinInt, false}, {-1, api.MaxTick, false}, {-1, math.MaxInt, false},
		{math.MinInt, math.MinInt, false}, {math.MinInt, 0, false}, {math.MinInt, math.MaxInt, false},
		// The bucket ahead of the last one has four ends, the last one only MaxTick, those behind it none.
		{1<<38 - 1, api.MaxTick - 4, false}, {1<<38 - 1, api.MaxTick - 2, false}, {1<<38 - 1, api.MaxTick - 1, true}, {1<<38 - 1, api.MaxTick, true},
		{1 << 38, api.MaxTick - 1, false}, {1 << 38, api.MaxTick, true}, {1 << 38, api.MaxTick + 1, true}, {1 << 38, math.MaxInt, true}, {1 << 38, math.MinInt, false}, {1 << 38, 0, false},
		{1<<38 + 1, math.MinInt, true}, {1<<38 + 1, -1, true}, {1<<38 + 1, 0, true}, {1<<38 + 1, api.MaxTick, true}, {1<<38 + 1, math.MaxInt, true},
		{1<<38 + 2, math.MinInt, true}, {1<<38 + 2, 0, true}, {1 << 61, 0, true}, {1<<61 - 1, 0, true}, {1 << 62, 0, true},
		{math.MaxInt, math.MinInt, true}, {math.MaxInt, 0, true}, {math.MaxInt, api.MaxTick, true}, {math.MaxInt, math.MaxInt, true},
	} {
		if due := Due(x.bucket, x.now); due != x.due {
			t.Error(x, due)
		}
	}
	for _, bucket := range buckets {
		for _, now := range edges {
			holdDue(t, bucket, now)
		}
		for _, end := range endsOf(bucket) {
			holdDue(t, bucket, end-1)
			holdDue(t, bucket, end)
			holdDue(t, bucket, end+1)
		}
	}
}

// P19.2: the same of buckets as they come, near 0 and near the last one.
func TestDueOfMany(t *testing.T) {
	for bucket := -5; bucket < 20; bucket++ {
		for now := -25; now < 100; now++ {
			holdDue(t, bucket, now)
			holdDue(t, api.MaxTick/4-bucket, api.MaxTick-now)
		}
	}
	r := rand.New(rand.NewSource(193))
	for range 10000 {
		holdDue(t, int(r.Uint64())>>r.Intn(60), int(r.Uint64())>>r.Intn(60))
	}
}

// holdDue holds whether a bucket is due against the chapter's words.
func holdDue(t *testing.T, bucket, now int) {
	t.Helper()
	if due := Due(bucket, now); due != dueByTheWords(bucket, now) {
		t.Error(bucket, now, due)
	}
}

// P19.2, the chapter's example: an end at 8 is over at 8; its bucket 2 is due at 11.
func TestExample(t *testing.T) {
	end, ok := End(5, 3)
	if end != 8 || !ok || Bucket(end) != 2 {
		t.Fatal(end, ok, Bucket(end))
	}
	c := New(5)
	for c.Now() < 20 {
		now := c.Now()
		if Over(end, now) != (now >= 8) || Due(Bucket(end), now) != (now >= 11) {
			t.Error(now, Over(end, now), Due(Bucket(end), now))
		}
		c.Tick()
	}
}

// P19.3: what is over stays over while a clock goes on, and so a bucket that is due stays due.
func TestStaysOver(t *testing.T) {
	for _, from := range []int{0, 1, 5, api.MaxTick - 60, api.MaxTick - 3, api.MaxTick} {
		for _, ttl := range []int{0, 1, 2, 3, 4, 5, 11, 30, api.MaxTick} {
			c := New(from)
			end, _ := End(c.Now(), ttl)
			bucket := Bucket(end)
			over, due := false, false
			for range 100 {
				if over && !Over(end, c.Now()) || due && !Due(bucket, c.Now()) {
					t.Fatal(from, ttl, c.Now())
				}
				over, due = Over(end, c.Now()), Due(bucket, c.Now())
				c.Pass(c.Now() % 3)
				c.Tick()
			}
			if over != (end > 0 && end <= c.Now()) {
				t.Error(from, ttl, over)
			}
		}
	}
	for _, end := range edges {
		over := false
		for _, now := range edges { // they rise
			if over && !Over(end, now) {
				t.Error(end, now)
			}
			over = Over(end, now)
		}
	}
}

// P19.3: of a bucket that is due each end is over, whoever asks when.
func TestDueIsOver(t *testing.T) {
	for _, end := range append(edges, 6, 10, 11, 12, 13, 14, 15, 16) {
		bucket := Bucket(end)
		if bucket < 0 || end > api.MaxTick {
			continue
		}
		for _, now := range append(edges, end-4, end-3, end-2, end-1, end, end+1, end+2, end+3, end+4) {
			if Due(bucket, now) && !Over(end, now) {
				t.Error(end, now)
			}
		}
	}
}

// P19.3: a bucket is due Span ticks behind its first end, and sooner only if all of it is over.
func TestDueInTime(t *testing.T) {
	for _, bucket := range buckets {
		ends := endsOf(bucket)
		if bucket < 0 || len(ends) == 0 {
			continue
		}
		first, last := ends[0], ends[len(ends)-1]
		if !Due(bucket, first+4) || !Due(bucket, passed(first, 4)) {
			t.Error(bucket, first)
		}
		for now := first - 5; now < first+9; now++ {
			if Due(bucket, now) != (now >= last) {
				t.Error(bucket, now, last)
			}
		}
	}
}

// P19.3: what lives for a while is over just then, and its bucket is due at most Span ticks behind it, however long one goes on.
func TestLives(t *testing.T) {
	for from := range 40 {
		for ttl := 1; ttl < 20; ttl++ {
			c := New(from)
			end, _ := End(c.Now(), ttl)
			for range ttl - 1 {
				if Over(end, c.Tick()) {
					t.Fatal(from, ttl, c.Now())
				}
			}
			if !Over(end, c.Tick()) {
				t.Fatal(from, ttl, c.Now())
			}
			if !Due(Bucket(end), c.Pass(api.Span)) {
				t.Fatal(from, ttl, c.Now())
			}
		}
	}
}
