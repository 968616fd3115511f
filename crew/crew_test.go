package crew_test

import (
	"math"
	"math/rand"
	"runtime"
	"slices"
	"strconv"
	"strings"
	"sync"
	"sync/atomic"
	"syscall"
	"testing"
	"time"

	"mintage/crew"
)

// asked are numbers of workers: fewer than none, none, few, about sixteen, huge ones.
var asked = []int{math.MinInt, math.MinInt32, -17, -1, 0, 1, 2, 3, 4, 7, 15, 16, 17, 33, 1000, math.MaxInt32, math.MaxInt}

// patience is how long a test waits for what ought to come at once.
const patience = 20 * time.Second

func twice(n int) int         { return 2 * n }
func even(n int) bool         { return n%2 == 0 }
func itself(n int) int        { return n }
func less(a, b int) int       { return a - b }
func pair(a, b string) string { return "(" + a + " " + b + ")" }

// upTo are the numbers from 0 on, so many.
func upTo(many int) []int {
	l := make([]int, many)
	for i := range l {
		l[i] = i
	}
	return l
}

// limit is how many workers a call may have.
func limit(things, workers int) int {
	return min(max(workers, 1), 16, things)
}

// dawdle takes longer for some things than for others: those ahead are often the slow ones.
func dawdle(n int) {
	switch n % 16 {
	case 0:
		time.Sleep(50 * time.Microsecond)
	case 2, 3, 7, 12:
		for range n % 7 {
			runtime.Gosched()
		}
	}
}

// plainEach, plainFirst and plainFold do one thing behind the other.
func plainEach[T, U any](items []T, does func(T) U) []U {
	var l []U
	for _, x := range items {
		l = append(l, does(x))
	}
	return l
}

func plainFirst[T any](items []T, is func(T) bool) int {
	for i, x := range items {
		if is(x) {
			return i
		}
	}
	return -1
}

func plainFold[T, U any](items []T, does func(T) U, both func(a, b U) U) (U, bool) {
	var whole U
	for i, x := range items {
		if i == 0 {
			whole = does(x)
		} else {
			whole = both(whole, does(x))
		}
	}
	return whole, len(items) > 0
}

// P9.1 to P9.3: the chapter's examples.
func TestExamples(t *testing.T) {
	if got := crew.Each([]int{1, 2, 3}, 2, twice); !slices.Equal(got, []int{2, 4, 6}) {
		t.Errorf("Each(1 2 3, 2, twice): %v", got)
	}
	if got := crew.First([]int{5, 7, 8, 9, 10}, 3, even); got != 2 {
		t.Errorf("First(5 7 8 9 10, 3, even): %d", got)
	}
	if got := crew.First([]int{5, 7}, 3, even); got != -1 {
		t.Errorf("First(5 7, 3, even): %d", got)
	}
	if !crew.All(nil, 0, even) {
		t.Error("All(none, 0, even): false")
	}
	if got, is := crew.Fold([]int{1, 2, 3}, 4, itself, less); got != -4 || !is {
		t.Errorf("Fold(1 2 3, 4, itself, less): %d, %t", got, is)
	}
}

// P9.1, P9.4: few and many things, of which some take longer than others, by whatever number of workers: what one would make of them.
func TestEach(t *testing.T) {
	does := func(n int) string {
		dawdle(n)
		return "<" + strconv.Itoa(n*n) + ">"
	}
	for _, many := range []int{0, 1, 2, 3, 7, 15, 16, 17, 31, 32, 33, 100, 257} {
		items := upTo(many)
		want := plainEach(items, func(n int) string { return "<" + strconv.Itoa(n*n) + ">" })
		for _, workers := range asked {
			if got := crew.Each(items, workers, does); !slices.Equal(got, want) {
				t.Fatalf("%d things, %d workers: %v", many, workers, got)
			}
		}
	}
}

// P9.1: a great many things.
func TestEachOfMany(t *testing.T) {
	items := upTo(100_000)
	for _, workers := range []int{1, 2, 16, math.MaxInt} {
		got := crew.Each(items, workers, twice)
		if len(got) != len(items) {
			t.Fatalf("%d workers: %d answers", workers, len(got))
		}
		for i, n := range got {
			if n != 2*i {
				t.Fatalf("%d workers: at %d stands %d", workers, i, n)
			}
		}
	}
}

// P9.1, P9.3: things and answers of any types, big ones, empty ones, ones that point.
func TestTypes(t *testing.T) {
	type big struct {
		n    int
		rest [100]byte
	}
	bigs := crew.Each(upTo(40), 5, func(n int) big { return big{n: n, rest: [100]byte{99: byte(n)}} })
	for i, b := range bigs {
		if b.n != i || b.rest[99] != byte(i) || b.rest[98] != 0 {
			t.Errorf("at %d: %v", i, b)
		}
	}
	back := crew.Each(bigs, 3, func(b big) int { return b.n })
	if !slices.Equal(back, upTo(40)) {
		t.Errorf("back: %v", back)
	}
	if got := crew.Each(make([]struct{}, 20), 4, func(struct{}) bool { return true }); len(got) != 20 || slices.Contains(got, false) {
		t.Errorf("of empty things: %v", got)
	}
	points := crew.Each(bigs, 4, func(b big) *int { return &b.n })
	if at := crew.First(points, 4, func(p *int) bool { return *p == 31 }); at != 31 {
		t.Errorf("31 stands at %d", at)
	}
	calls := crew.Each(upTo(9), 4, func(n int) func() int { return func() int { return n } })
	sum, is := crew.Fold(calls, 4, func(f func() int) int { return f() }, func(a, b int) int { return 10*a + b })
	if sum != 12345678 || !is {
		t.Errorf("of functions: %d, %t", sum, is)
	}
}

// P9.2, P9.4: First and All of up to eight things, each of which it may be so or not, by several numbers of workers.
func TestFirstAllShapes(t *testing.T) {
	for many := range 9 {
		for shape := range 1 << many {
			var items []bool
			for i := range many {
				items = append(items, shape>>i&1 == 1)
			}
			is := func(b bool) bool { return b }
			want := plainFirst(items, is)
			for _, workers := range []int{-1, 0, 1, 2, 3, 5, 8, 9, 20} {
				if got := crew.First(items, workers, is); got != want {
					t.Fatalf("First of %v, %d workers: %d", items, workers, got)
				}
				if got := crew.All(items, workers, is); got != !slices.Contains(items, false) {
					t.Fatalf("All of %v, %d workers: %t", items, workers, got)
				}
			}
		}
	}
}

// P9.2, P9.4: First of which it is so of the first thing, of the last one, of several, of none, by whatever number of workers, of which some take long.
func TestFirst(t *testing.T) {
	for _, many := range []int{0, 1, 2, 15, 16, 17, 40, 200} {
		items := upTo(many)
		for name, so := range map[string]func(int) bool{
			"none":    func(int) bool { return false },
			"all":     func(int) bool { return true },
			"first":   func(n int) bool { return n == 0 },
			"last":    func(n int) bool { return n == many-1 },
			"several": func(n int) bool { return n%7 == 5 },
			"half":    func(n int) bool { return n >= many/2 },
			"ends":    func(n int) bool { return n == 0 || n == many-1 },
		} {
			want := plainFirst(items, so)
			is := func(n int) bool {
				dawdle(n)
				return so(n)
			}
			for _, workers := range asked {
				if got := crew.First(items, workers, is); got != want {
					t.Fatalf("%s of %d, %d workers: %d", name, many, workers, got)
				}
			}
		}
	}
}

// P9.2, P9.5: what is found first stands last: the places ahead of it, which take longer, count all the same.
func TestFirstSlowAhead(t *testing.T) {
	for _, workers := range []int{2, 3, 8, 16, 100} {
		for _, ahead := range []int{0, 1, 2} {
			var behind atomic.Int32
			is := func(n int) bool {
				if n == ahead { // answers when something behind it has been found, or may never be
					end := time.Now().Add(50 * time.Millisecond)
					for behind.Load() == 0 && time.Now().Before(end) {
						time.Sleep(100 * time.Microsecond)
					}
					time.Sleep(time.Millisecond)
					return true
				}
				if n > ahead {
					behind.Add(1)
				}
				return n > ahead
			}
			if got := crew.First(upTo(30), workers, is); got != ahead {
				t.Errorf("%d workers: %d for %d", workers, got, ahead)
			}
		}
	}
}

// P9.5: all that stands ahead of what First tells was looked at ere it answers, and that itself; where there is none, all.
func TestNothingIsLeftOut(t *testing.T) {
	r := rand.New(rand.NewSource(9))
	for range 400 {
		many := 1 + r.Intn(60)
		so := make([]bool, many)
		for range r.Intn(4) {
			so[r.Intn(many)] = true
		}
		var looked [60]atomic.Bool
		got := crew.First(upTo(many), r.Intn(20), func(n int) bool {
			dawdle(n)
			looked[n].Store(true)
			return so[n]
		})
		want := slices.Index(so, true)
		if got != want {
			t.Fatalf("%v: %d", so, got)
		}
		if want < 0 {
			want = many - 1
		}
		for n := range want + 1 {
			if !looked[n].Load() {
				t.Fatalf("%v: nobody looked at %d", so, n)
			}
		}
	}
}

// P9.2, P9.4: All of none, of all, of all but one, wherever that one stands.
func TestAll(t *testing.T) {
	for _, many := range []int{0, 1, 2, 16, 17, 60} {
		items := upTo(many)
		for _, workers := range asked {
			if !crew.All(items, workers, func(n int) bool { return n >= 0 }) {
				t.Errorf("%d things, %d workers, so of all: false", many, workers)
			}
			if got := crew.All(items, workers, func(n int) bool { return n < 0 }); got != (many == 0) {
				t.Errorf("%d things, %d workers, so of none: %t", many, workers, got)
			}
			for but := range many {
				if crew.All(items, workers, func(n int) bool { return n != but }) {
					t.Errorf("%d things, %d workers, so of all but %d: true", many, workers, but)
				}
			}
		}
	}
}

// P9.3, P9.4: Fold with a both that is neither the same both ways round nor the same however it is put together.
func TestFold(t *testing.T) {
	does := func(n int) string {
		dawdle(n)
		return strconv.Itoa(n)
	}
	for _, many := range []int{0, 1, 2, 3, 4, 5, 16, 17, 64, 101} {
		items := upTo(many)
		want, wantIs := plainFold(items, strconv.Itoa, pair)
		for _, workers := range asked {
			if got, is := crew.Fold(items, workers, does, pair); got != want || is != wantIs {
				t.Fatalf("%d things, %d workers: %s, %t", many, workers, got, is)
			}
		}
	}
	if got, is := crew.Fold([]int{1, 2, 3, 4}, 4, strconv.Itoa, pair); got != "(((1 2) 3) 4)" || !is {
		t.Errorf("of four: %s, %t", got, is)
	}
}

// P9.3: of one thing nothing is put together; of none there is nothing at all.
func TestFoldOfFew(t *testing.T) {
	never := func(a, b int) int {
		t.Error("both was asked")
		return 99
	}
	for _, workers := range asked {
		if got, is := crew.Fold([]int{21}, workers, twice, never); got != 42 || !is {
			t.Errorf("of one, %d workers: %d, %t", workers, got, is)
		}
		for _, none := range [][]int{nil, {}} {
			if got, is := crew.Fold(none, workers, twice, never); got != 0 || is {
				t.Errorf("of none, %d workers: %d, %t", workers, got, is)
			}
		}
	}
}

// P9.3: numbers that run round, lists that grow, differences: as one would put them together.
func TestFoldKinds(t *testing.T) {
	r := rand.New(rand.NewSource(3))
	for range 200 {
		items := make([]uint64, r.Intn(50))
		for i := range items {
			items[i] = r.Uint64()
		}
		does := func(n uint64) uint64 { return n ^ n>>7 }
		both := func(a, b uint64) uint64 { return 31*a - b<<1 }
		want, wantIs := plainFold(items, does, both)
		if got, is := crew.Fold(items, r.Intn(20), does, both); got != want || is != wantIs {
			t.Fatalf("%v: %d, %t", items, got, is)
		}
	}
	lists, is := crew.Fold(upTo(50), 7, func(n int) []int { return []int{n} }, func(a, b []int) []int { return append(a, b...) })
	if !slices.Equal(lists, upTo(50)) || !is {
		t.Errorf("lists: %v, %t", lists, is)
	}
}

// kinds are the four calls, of numbers from 0 on; each looks at all things.
var kinds = map[string]func(many, workers int, look func(n int)){
	"Each": func(many, workers int, look func(n int)) {
		crew.Each(upTo(many), workers, func(n int) int { look(n); return n })
	},
	"First": func(many, workers int, look func(n int)) {
		crew.First(upTo(many), workers, func(n int) bool { look(n); return false })
	},
	"All": func(many, workers int, look func(n int)) {
		crew.All(upTo(many), workers, func(n int) bool { look(n); return true })
	},
	"Fold": func(many, workers int, look func(n int)) {
		crew.Fold(upTo(many), workers, func(n int) int { look(n); return n }, less)
	},
}

// The chapter's Workers: no more are at work at one time than are asked for, at least one, and no more than 16, nor than there are things.
func TestNoMoreWorkers(t *testing.T) {
	for name, call := range kinds {
		for _, many := range []int{0, 1, 2, 5, 16, 17, 33} {
			for _, workers := range asked {
				var now, most atomic.Int32
				call(many, workers, func(int) {
					n := now.Add(1)
					for m := most.Load(); n > m && !most.CompareAndSwap(m, n); m = most.Load() {
					}
					time.Sleep(50 * time.Microsecond)
					now.Add(-1)
				})
				if got := int(most.Load()); got > limit(many, workers) {
					t.Errorf("%s of %d, %d workers: %d at one time", name, many, workers, got)
				}
			}
		}
	}
}

// The chapter's Workers: those that have nothing to do count too: no more goroutines are there than may be, and one or two more that do no thing.
func TestNoIdleWorkers(t *testing.T) {
	before := running()
	for name, call := range kinds {
		for _, many := range []int{1, 2, 5, 16, 17, 60} {
			for _, workers := range asked {
				if !goneTo(before) {
					t.Fatalf("%d goroutines, of which %d were there", running(), before)
				}
				var most atomic.Int32
				call(many, workers, func(n int) {
					if n == 0 {
						most.Store(int32(running()))
					}
				})
				if got := int(most.Load()) - before; got > limit(many, workers)+2 {
					t.Errorf("%s of %d, %d workers: %d goroutines", name, many, workers, got)
				}
			}
		}
	}
}

// spent is what time the processors have worked for this program.
func spent(t *testing.T) time.Duration {
	var use syscall.Rusage
	if e := syscall.Getrusage(syscall.RUSAGE_SELF, &use); e != nil {
		t.Skip(e)
	}
	return time.Duration(use.Utime.Nano() + use.Stime.Nano())
}

// LANGUAGE 6: who waits, for the last thing of all or for a worker that is free, does not spin.
func TestNobodySpins(t *testing.T) {
	const long = 300 * time.Millisecond
	for name, call := range kinds {
		for _, many := range []int{17, 32} {
			before := spent(t)
			call(many, 16, func(n int) {
				if n == many-1 || many == 17 {
					time.Sleep(long / 2)
				}
			})
			if got := spent(t) - before; got > long/3 {
				t.Errorf("%s of %d: %v of work while all slept", name, many, got)
			}
		}
	}
}

// The chapter's Workers: as many as may be are at work at one time: each waits till all others are.
func TestAsManyWorkers(t *testing.T) {
	for name, call := range kinds {
		for _, many := range []int{1, 2, 5, 16, 17, 40} {
			for _, workers := range asked {
				var came atomic.Int32
				var late atomic.Bool
				want, all := int32(limit(many, workers)), make(chan struct{})
				call(many, workers, func(int) {
					if came.Add(1) == want {
						close(all)
					}
					select {
					case <-all:
					case <-time.After(patience):
						late.Store(true)
					}
				})
				if late.Load() {
					t.Fatalf("%s of %d, %d workers: %d at one time never came", name, many, workers, want)
				}
			}
		}
	}
}

// running is how many goroutines there are, counted while all stand still: runtime.NumGoroutine is out by dozens where some begin and end meanwhile.
func running() int {
	n, _ := runtime.GoroutineProfile(make([]runtime.StackRecord, 200))
	return n
}

// goneTo waits till no more goroutines run than so many.
func goneTo(many int) bool {
	for end := time.Now().Add(patience); time.Now().Before(end); time.Sleep(time.Millisecond) {
		if running() <= many {
			return true
		}
	}
	return false
}

// LANGUAGE 6, the chapter's Workers: when a call answers no worker is in the midst of a thing, none looks at another one ever, and all end.
func TestAllHaveEnded(t *testing.T) {
	before := running()
	for _, workers := range asked {
		for _, first := range []int{-1, 0, 3, 20} {
			var within, looked atomic.Int32
			look := func(n int) {
				within.Add(1)
				looked.Add(1)
				if n != first && n%3 == 1 {
					time.Sleep(50 * time.Microsecond)
				}
				within.Add(-1)
			}
			ended := func(name string) {
				now, then := within.Load(), looked.Load()
				time.Sleep(time.Millisecond)
				if now != 0 || looked.Load() != then {
					t.Errorf("%s, %d workers: %d still within, %d looked at behind the answer", name, workers, now, looked.Load()-then)
				}
			}
			crew.First(upTo(40), workers, func(n int) bool { look(n); return n == first })
			ended("First")
			crew.All(upTo(40), workers, func(n int) bool { look(n); return n != first })
			ended("All")
			crew.Each(upTo(40), workers, func(n int) int { look(n); return n })
			ended("Each")
			crew.Fold(upTo(40), workers, func(n int) int { look(n); return n }, less)
			ended("Fold")
		}
	}
	if !goneTo(before) {
		t.Errorf("%d goroutines, of which %d were there", running(), before)
	}
}

// LANGUAGE 6: what a worker wrote is there for whoever has the answer; nothing stands between but the call (the race detector sees where it does not).
func TestWrittenIsThere(t *testing.T) {
	for _, workers := range []int{1, 4, 16} {
		var noted [64]int
		crew.Each(upTo(64), workers, func(n int) int { noted[n] = n + 1; return n })
		crew.All(upTo(64), workers, func(n int) bool { noted[n] += n; return true })
		crew.First(upTo(64), workers, func(n int) bool { noted[n]++; return false })
		crew.Fold(upTo(64), workers, func(n int) int { noted[n]++; return n }, less)
		for n, got := range noted {
			if got != 2*n+3 {
				t.Fatalf("%d workers: at %d stands %d", workers, n, got)
			}
		}
	}
}

// R3, LANGUAGE 7: what is handed in stays as it is; what is answered is new.
func TestHandedInStays(t *testing.T) {
	items := upTo(30)
	got := crew.Each(items, 4, itself)
	crew.First(items, 4, even)
	crew.All(items, 4, even)
	crew.Fold(items, 4, itself, less)
	for i := range got {
		got[i] = -1
	}
	if !slices.Equal(items, upTo(30)) {
		t.Errorf("items became %v", items)
	}
	wide := upTo(30)
	crew.Each(wide[:10], 4, twice)
	if !slices.Equal(wide, upTo(30)) {
		t.Errorf("behind the items became %v", wide)
	}
}

// P9.1 to P9.3: of no things nothing is looked at, by whatever number of workers.
func TestNoThings(t *testing.T) {
	for _, none := range [][]int{nil, {}} {
		for _, workers := range asked {
			if got := crew.Each(none, workers, func(int) int { t.Error("Each looked"); return 1 }); len(got) != 0 {
				t.Errorf("Each: %v", got)
			}
			if got := crew.First(none, workers, func(int) bool { t.Error("First looked"); return true }); got != -1 {
				t.Errorf("First: %d", got)
			}
			if !crew.All(none, workers, func(int) bool { t.Error("All looked"); return false }) {
				t.Error("All: false")
			}
		}
	}
}

// P9.4, R5: the same call comes to the same, time after time, whoever comes first.
func TestAgainAndAgain(t *testing.T) {
	items := strings.Split(strings.Repeat("d a c b ", 20), " ")
	want, _ := plainFold(items, strings.ToUpper, pair)
	for n := range 300 {
		workers := n % 18
		if got := crew.First(items, workers, func(s string) bool { return s == "b" }); got != 3 {
			t.Fatalf("%d workers: First: %d", workers, got)
		}
		if got, is := crew.Fold(items, workers, strings.ToUpper, pair); got != want || !is {
			t.Fatalf("%d workers: Fold: %s", workers, got)
		}
		if crew.All(items, workers, func(s string) bool { return s != "" }) {
			t.Fatalf("%d workers: All: true", workers)
		}
	}
}

// R5: calls at one time, and calls within calls, leave each other alone.
func TestCallsTogether(t *testing.T) {
	items := upTo(40)
	sum := func(upto int) int {
		n, _ := crew.Fold(items[:upto], 3, itself, func(a, b int) int { return a + b })
		return n
	}
	want := plainEach(items, func(n int) int { return n * (n - 1) / 2 })
	var all sync.WaitGroup
	for g := range 8 {
		all.Add(1)
		go func() {
			defer all.Done()
			if got := crew.Each(items, g*3, sum); !slices.Equal(got, want) {
				t.Errorf("Each by %d workers: %v", g*3, got)
			}
			if got := crew.First(items, g, func(n int) bool { return sum(n) > 100 }); got != 15 {
				t.Errorf("First by %d workers: %d", g, got)
			}
		}()
	}
	all.Wait()
}

// R1: a function that is none looks at nothing, and brings nothing down.
func TestNoFunction(t *testing.T) {
	for _, workers := range asked {
		if got := crew.Each[int, int](upTo(5), workers, nil); len(got) != 0 {
			t.Errorf("Each: %v", got)
		}
		if got := crew.First(upTo(5), workers, nil); got != -1 {
			t.Errorf("First: %d", got)
		}
		if crew.All(upTo(5), workers, nil) || !crew.All[int](nil, workers, nil) {
			t.Error("All: of things true, or of none false")
		}
		if got, is := crew.Fold[int, int](upTo(5), workers, nil, less); got != 0 || is {
			t.Errorf("Fold without does: %d, %t", got, is)
		}
		if got, is := crew.Fold(upTo(5), workers, itself, nil); got != 0 || is {
			t.Errorf("Fold without both: %d, %t", got, is)
		}
		if got, is := crew.Fold([]int{4}, workers, twice, nil); got != 8 || !is {
			t.Errorf("Fold of one without both: %d, %t", got, is)
		}
	}
}
