package wide_test

import (
	"math"
	"math/big"
	"math/rand"
	"slices"
	"testing"

	"mintage/api"
	"mintage/wide"
)

const greatest = math.MaxUint64

var greatestWide = api.Wide{Hi: greatest, Lo: greatest}

// edges are the numbers near which sums, products and parts turn.
func edges() []uint64 {
	return []uint64{0, 1, 2, 3, 7, 10, 1000, 1<<32 - 1, 1 << 32, 1<<32 + 1, 1<<63 - 1, 1 << 63, 1<<63 + 1, greatest - 1, greatest}
}

// numbers are the edges, those around every power of two, and some from a fixed row of chances.
func numbers(chances int) []uint64 {
	l := edges()
	for i := range 64 {
		l = append(l, 1<<i-1, 1<<i, 1<<i+1)
	}
	r := rand.New(rand.NewSource(2))
	for range chances {
		l = append(l, r.Uint64()>>r.Intn(64))
	}
	slices.Sort(l)
	return slices.Compact(l)
}

// wides are all pairs of edges, and some from a fixed row of chances.
func wides() []api.Wide {
	var l []api.Wide
	for _, hi := range edges() {
		for _, lo := range edges() {
			l = append(l, api.Wide{Hi: hi, Lo: lo})
		}
	}
	r := rand.New(rand.NewSource(3))
	for range 100 {
		l = append(l, api.Wide{Hi: r.Uint64() >> r.Intn(64), Lo: r.Uint64() >> r.Intn(64)})
	}
	return l
}

func bigOf(n uint64) *big.Int { return new(big.Int).SetUint64(n) }

func bigWide(a api.Wide) *big.Int {
	b := new(big.Int).Lsh(bigOf(a.Hi), 64)
	return b.Add(b, bigOf(a.Lo))
}

// wideOf tells a wide number of one that may have more bits.
func wideOf(b *big.Int) (api.Wide, api.Errno) {
	if b.BitLen() > 128 {
		return api.Wide{}, api.ErrOver
	}
	lo := new(big.Int).And(b, bigOf(greatest))
	return api.Wide{Hi: new(big.Int).Rsh(b, 64).Uint64(), Lo: lo.Uint64()}, api.OK
}

// numberOf tells a number of one that may have more bits.
func numberOf(b *big.Int) (uint64, api.Errno) {
	if !b.IsUint64() {
		return 0, api.ErrOver
	}
	return b.Uint64(), api.OK
}

func TestAddExamples(t *testing.T) { // P2.1
	for _, c := range []struct {
		a, b, want uint64
		e          api.Errno
	}{
		{0, 0, 0, api.OK},
		{1, 2, 3, api.OK},
		{greatest, 0, greatest, api.OK},
		{greatest - 1, 1, greatest, api.OK},
		{greatest, 1, 0, api.ErrOver},
		{1, greatest, 0, api.ErrOver},
		{1 << 63, 1<<63 - 1, greatest, api.OK},
		{1 << 63, 1 << 63, 0, api.ErrOver},
		{greatest, greatest, 0, api.ErrOver},
	} {
		if got, e := wide.Add(c.a, c.b); got != c.want || e != c.e {
			t.Errorf("Add(%d, %d) = %d, %d, want %d, %d", c.a, c.b, got, e, c.want, c.e)
		}
	}
}

func TestSubExamples(t *testing.T) { // P2.1
	for _, c := range []struct {
		a, b, want uint64
		e          api.Errno
	}{
		{0, 0, 0, api.OK},
		{3, 1, 2, api.OK},
		{1, 2, 0, api.ErrRange},
		{0, 1, 0, api.ErrRange},
		{0, greatest, 0, api.ErrRange},
		{greatest - 1, greatest, 0, api.ErrRange},
		{greatest, greatest, 0, api.OK},
		{greatest, greatest - 1, 1, api.OK},
		{greatest, 0, greatest, api.OK},
		{1 << 63, 1<<63 + 1, 0, api.ErrRange},
	} {
		if got, e := wide.Sub(c.a, c.b); got != c.want || e != c.e {
			t.Errorf("Sub(%d, %d) = %d, %d, want %d, %d", c.a, c.b, got, e, c.want, c.e)
		}
	}
}

func TestSumExamples(t *testing.T) { // P2.1
	for _, c := range []struct {
		l    []uint64
		want uint64
		e    api.Errno
	}{
		{nil, 0, api.OK},
		{[]uint64{}, 0, api.OK},
		{[]uint64{0}, 0, api.OK},
		{[]uint64{5}, 5, api.OK},
		{[]uint64{greatest}, greatest, api.OK},
		{[]uint64{1, 2, 3}, 6, api.OK},
		{[]uint64{greatest - 3, 1, 2}, greatest, api.OK},
		{[]uint64{greatest - 3, 1, 2, 1}, 0, api.ErrOver},
		{[]uint64{greatest, 1}, 0, api.ErrOver},
		{[]uint64{greatest, 1, 0}, 0, api.ErrOver},
		{[]uint64{greatest, 0, 0, 0}, greatest, api.OK},
		// What has run over comes round to small numbers again: it is none for all that.
		{[]uint64{greatest, 1, 5}, 0, api.ErrOver},
		{[]uint64{1 << 63, 1 << 63, 1 << 63, 1 << 63}, 0, api.ErrOver},
		{[]uint64{1 << 62, 1 << 62, 1 << 62, 1<<62 - 1}, greatest, api.OK},
	} {
		if got, e := wide.Sum(c.l...); got != c.want || e != c.e {
			t.Errorf("Sum(%d) = %d, %d, want %d, %d", c.l, got, e, c.want, c.e)
		}
	}
	if got, e := wide.Sum(); got != 0 || e != api.OK {
		t.Errorf("Sum() = %d, %d, want 0", got, e)
	}
}

func TestAddSubAgainstBig(t *testing.T) { // P2.1
	l := numbers(100)
	for _, a := range l {
		for _, b := range l {
			want, we := numberOf(new(big.Int).Add(bigOf(a), bigOf(b)))
			if got, e := wide.Add(a, b); got != want || e != we {
				t.Fatalf("Add(%d, %d) = %d, %d, want %d, %d", a, b, got, e, want, we)
			}
			if got, e := wide.Sum(a, b); got != want || e != we {
				t.Fatalf("Sum(%d, %d) = %d, %d, want %d, %d", a, b, got, e, want, we)
			}
			less := new(big.Int).Sub(bigOf(a), bigOf(b))
			want, we = 0, api.ErrRange
			if less.Sign() >= 0 {
				want, we = less.Uint64(), api.OK
			}
			if got, e := wide.Sub(a, b); got != want || e != we {
				t.Fatalf("Sub(%d, %d) = %d, %d, want %d, %d", a, b, got, e, want, we)
			}
		}
	}
}

func TestSumAgainstBig(t *testing.T) { // P2.1
	r := rand.New(rand.NewSource(4))
	over := 0
	for range 2000 {
		l := make([]uint64, r.Intn(20))
		sum := new(big.Int)
		for i := range l {
			l[i] = r.Uint64() >> r.Intn(12)
			sum.Add(sum, bigOf(l[i]))
		}
		kept := slices.Clone(l)
		want, we := numberOf(sum)
		if got, e := wide.Sum(l...); got != want || e != we {
			t.Fatalf("Sum(%d) = %d, %d, want %d, %d", l, got, e, want, we)
		}
		if !slices.Equal(l, kept) {
			t.Fatal("Sum has changed what was handed in")
		}
		if we != api.OK {
			over++
		}
	}
	if over == 0 || over == 2000 {
		t.Fatal("all rows alike:", over)
	}
}

func TestMulExamples(t *testing.T) { // P2.2
	for _, c := range []struct {
		a, b uint64
		want api.Wide
	}{
		{0, 0, api.Wide{}},
		{0, greatest, api.Wide{}},
		{1, greatest, api.Wide{Lo: greatest}},
		{6, 7, api.Wide{Lo: 42}},
		{1 << 32, 1 << 32, api.Wide{Hi: 1}},
		{2, 1 << 63, api.Wide{Hi: 1}},
		{2, greatest, api.Wide{Hi: 1, Lo: greatest - 1}},
		{greatest, greatest, api.Wide{Hi: greatest - 1, Lo: 1}},
	} {
		if got := wide.Mul(c.a, c.b); got != c.want {
			t.Errorf("Mul(%d, %d) = %d, want %d", c.a, c.b, got, c.want)
		}
	}
}

func TestMulAgainstBig(t *testing.T) { // P2.2
	l := numbers(100)
	for _, a := range l {
		for _, b := range l {
			want, _ := wideOf(new(big.Int).Mul(bigOf(a), bigOf(b)))
			if got := wide.Mul(a, b); got != want {
				t.Fatalf("Mul(%d, %d) = %d, want %d", a, b, got, want)
			}
		}
	}
}

func TestPlusExamples(t *testing.T) { // P2.2
	for _, c := range []struct {
		a, b, want api.Wide
		e          api.Errno
	}{
		{api.Wide{}, api.Wide{}, api.Wide{}, api.OK},
		{api.Wide{Lo: 1}, api.Wide{Lo: 2}, api.Wide{Lo: 3}, api.OK},
		{api.Wide{Hi: 1, Lo: 2}, api.Wide{Hi: 3, Lo: 4}, api.Wide{Hi: 4, Lo: 6}, api.OK},
		{api.Wide{Lo: greatest}, api.Wide{Lo: 1}, api.Wide{Hi: 1}, api.OK},
		{api.Wide{Lo: greatest}, api.Wide{Lo: greatest}, api.Wide{Hi: 1, Lo: greatest - 1}, api.OK},
		{greatestWide, api.Wide{}, greatestWide, api.OK},
		{greatestWide, api.Wide{Lo: 1}, api.Wide{}, api.ErrOver},
		{greatestWide, api.Wide{Hi: 1}, api.Wide{}, api.ErrOver},
		{greatestWide, greatestWide, api.Wide{}, api.ErrOver},
		{api.Wide{Hi: greatest, Lo: greatest - 1}, api.Wide{Lo: 1}, greatestWide, api.OK},
		{api.Wide{Hi: greatest}, api.Wide{Lo: greatest}, greatestWide, api.OK},
		{api.Wide{Hi: greatest, Lo: 1}, api.Wide{Lo: greatest}, api.Wide{}, api.ErrOver},
		{api.Wide{Hi: 1 << 63}, api.Wide{Hi: 1<<63 - 1, Lo: greatest}, greatestWide, api.OK},
		{api.Wide{Hi: 1 << 63}, api.Wide{Hi: 1 << 63}, api.Wide{}, api.ErrOver},
		{api.Wide{Hi: 1 << 63, Lo: 1}, api.Wide{Hi: 1<<63 - 1, Lo: greatest}, api.Wide{}, api.ErrOver},
	} {
		if got, e := wide.Plus(c.a, c.b); got != c.want || e != c.e {
			t.Errorf("Plus(%d, %d) = %d, %d, want %d, %d", c.a, c.b, got, e, c.want, c.e)
		}
	}
}

func TestPlusAgainstBig(t *testing.T) { // P2.2
	l := wides()
	for _, a := range l {
		for _, b := range l {
			want, we := wideOf(new(big.Int).Add(bigWide(a), bigWide(b)))
			if got, e := wide.Plus(a, b); got != want || e != we {
				t.Fatalf("Plus(%d, %d) = %d, %d, want %d, %d", a, b, got, e, want, we)
			}
		}
	}
}

func TestTimesExamples(t *testing.T) { // P2.2
	for _, c := range []struct {
		a    api.Wide
		b    uint64
		want api.Wide
		e    api.Errno
	}{
		{api.Wide{}, 0, api.Wide{}, api.OK},
		{api.Wide{}, greatest, api.Wide{}, api.OK},
		{greatestWide, 0, api.Wide{}, api.OK},
		{greatestWide, 1, greatestWide, api.OK},
		{greatestWide, 2, api.Wide{}, api.ErrOver},
		{greatestWide, greatest, api.Wide{}, api.ErrOver},
		{api.Wide{Hi: 1, Lo: 2}, 3, api.Wide{Hi: 3, Lo: 6}, api.OK},
		{api.Wide{Hi: 1<<63 - 1, Lo: greatest}, 2, api.Wide{Hi: greatest, Lo: greatest - 1}, api.OK},
		{api.Wide{Hi: 1 << 63}, 2, api.Wide{}, api.ErrOver},
		{api.Wide{Hi: 1}, greatest, api.Wide{Hi: greatest}, api.OK},
		{api.Wide{Hi: 1, Lo: 1}, greatest, greatestWide, api.OK},
		// Only what the lower half hands on runs over here.
		{api.Wide{Hi: 1, Lo: 2}, greatest, api.Wide{}, api.ErrOver},
		{api.Wide{Lo: greatest}, greatest, api.Wide{Hi: greatest - 1, Lo: 1}, api.OK},
		{api.Wide{Hi: greatest / 3, Lo: greatest / 3}, 3, greatestWide, api.OK},
		{api.Wide{Hi: greatest / 3, Lo: greatest/3 + 1}, 3, api.Wide{}, api.ErrOver},
	} {
		if got, e := wide.Times(c.a, c.b); got != c.want || e != c.e {
			t.Errorf("Times(%d, %d) = %d, %d, want %d, %d", c.a, c.b, got, e, c.want, c.e)
		}
	}
}

func TestTimesAgainstBig(t *testing.T) { // P2.2
	for _, a := range wides() {
		for _, b := range numbers(50) {
			want, we := wideOf(new(big.Int).Mul(bigWide(a), bigOf(b)))
			if got, e := wide.Times(a, b); got != want || e != we {
				t.Fatalf("Times(%d, %d) = %d, %d, want %d, %d", a, b, got, e, want, we)
			}
		}
	}
}

func TestDivExamples(t *testing.T) { // P2.3
	for _, c := range []struct {
		a    api.Wide
		b    uint64
		q    api.Wide
		rest uint64
		e    api.Errno
	}{
		{api.Wide{}, 0, api.Wide{}, 0, api.ErrArg},
		{api.Wide{Lo: 5}, 0, api.Wide{}, 0, api.ErrArg},
		{greatestWide, 0, api.Wide{}, 0, api.ErrArg},
		{api.Wide{}, 1, api.Wide{}, 0, api.OK},
		{api.Wide{}, greatest, api.Wide{}, 0, api.OK},
		{api.Wide{Lo: 7}, 2, api.Wide{Lo: 3}, 1, api.OK},
		{api.Wide{Lo: 2}, 7, api.Wide{}, 2, api.OK},
		{greatestWide, 1, greatestWide, 0, api.OK},
		{api.Wide{Hi: 1}, 3, api.Wide{Lo: 6148914691236517205}, 1, api.OK},
		{api.Wide{Hi: 5}, 5, api.Wide{Hi: 1}, 0, api.OK},
		{api.Wide{Hi: 7, Lo: 3}, 2, api.Wide{Hi: 3, Lo: 1<<63 + 1}, 1, api.OK},
		{greatestWide, greatest, api.Wide{Hi: 1, Lo: 1}, 0, api.OK},
		{api.Wide{Hi: greatest, Lo: greatest - 1}, greatest, api.Wide{Hi: 1}, greatest - 1, api.OK},
		{greatestWide, 1<<63 + 1, api.Wide{Hi: 1, Lo: greatest - 3}, 3, api.OK},
		{api.Wide{Hi: 1 << 63}, 1<<63 + 1, api.Wide{Lo: greatest - 1}, 2, api.OK},
		{api.Wide{Hi: 1}, 1 << 63, api.Wide{Lo: 2}, 0, api.OK},
	} {
		if q, r, e := wide.Div(c.a, c.b); q != c.q || r != c.rest || e != c.e {
			t.Errorf("Div(%d, %d) = %d, %d, %d, want %d, %d, %d", c.a, c.b, q, r, e, c.q, c.rest, c.e)
		}
	}
}

func TestDivAgainstBig(t *testing.T) { // P2.3
	for _, a := range wides() {
		for _, b := range numbers(50) {
			q, r, e := wide.Div(a, b)
			if b == 0 {
				if q != (api.Wide{}) || r != 0 || e != api.ErrArg {
					t.Fatalf("Div(%d, 0) = %d, %d, %d, want ErrArg and zeros", a, q, r, e)
				}
				continue
			}
			bq, br := new(big.Int).QuoRem(bigWide(a), bigOf(b), new(big.Int))
			if want, _ := wideOf(bq); q != want || r != br.Uint64() || e != api.OK {
				t.Fatalf("Div(%d, %d) = %d, %d, %d, want %d, %d", a, b, q, r, e, want, br)
			}
		}
	}
}

func TestPartExamples(t *testing.T) { // P2.3
	for _, c := range []struct {
		n, a, b, want uint64
		e             api.Errno
	}{
		{10, 1, 3, 3, api.OK},
		{1 << 63, 2, 1, 0, api.ErrOver},
		{5, 1, 0, 0, api.ErrArg},
		{0, 0, 0, 0, api.ErrArg},
		// Both apply, as it were: b comes first.
		{greatest, greatest, 0, 0, api.ErrArg},
		{0, 5, 7, 0, api.OK},
		{5, 0, 7, 0, api.OK},
		{1, 1, 2, 0, api.OK},
		{11, 2, 3, 7, api.OK},
		{5, 3, 2, 7, api.OK},
		{1 << 63, 2, 2, 1 << 63, api.OK},
		{1<<63 - 1, 2, 1, greatest - 1, api.OK},
		{greatest, greatest, greatest, greatest, api.OK},
		{greatest, greatest, greatest - 1, 0, api.ErrOver},
		{greatest, greatest - 1, greatest, greatest - 1, api.OK},
		{greatest, 1, 1, greatest, api.OK},
		{greatest, 3, 3, greatest, api.OK},
		{greatest, 2, 1, 0, api.ErrOver},
		{greatest, greatest, 1, 0, api.ErrOver},
		{1 << 32, 1 << 32, 1, 0, api.ErrOver},
		{1 << 32, 1<<32 - 1, 1, greatest - 1<<32 + 1, api.OK},
		// A quotient of just 2^64, and the ones beside it.
		{1 << 63, 4, 2, 0, api.ErrOver},
		{1<<63 - 1, 4, 2, greatest - 1, api.OK},
		{greatest, 1<<63 + 2, 1<<63 + 1, 0, api.ErrOver},
		{1 << 63, 1<<63 + 1, 1<<63 + 2, 1<<63 - 1, api.OK},
	} {
		if got, e := wide.Part(c.n, c.a, c.b); got != c.want || e != c.e {
			t.Errorf("Part(%d, %d, %d) = %d, %d, want %d, %d", c.n, c.a, c.b, got, e, c.want, c.e)
		}
	}
}

func TestPartAgainstBig(t *testing.T) { // P2.3
	l := append(edges(), numbers(20)...)
	for _, n := range l {
		for _, a := range l {
			product := new(big.Int).Mul(bigOf(n), bigOf(a))
			for _, b := range edges() {
				want, we := uint64(0), api.ErrArg
				if b != 0 {
					want, we = numberOf(new(big.Int).Quo(product, bigOf(b)))
				}
				if got, e := wide.Part(n, a, b); got != want || e != we {
					t.Fatalf("Part(%d, %d, %d) = %d, %d, want %d, %d", n, a, b, got, e, want, we)
				}
			}
		}
	}
}

func TestCompareExamples(t *testing.T) { // P2.4
	for _, c := range []struct {
		a, b api.Wide
		want int
	}{
		{api.Wide{}, api.Wide{}, 0},
		{api.Wide{Lo: 1}, api.Wide{}, 1},
		{api.Wide{}, api.Wide{Lo: 1}, -1},
		{greatestWide, greatestWide, 0},
		{api.Wide{Lo: greatest}, api.Wide{Hi: 1}, -1},
		{api.Wide{Hi: 1}, api.Wide{Lo: greatest}, 1},
		{api.Wide{Hi: 1, Lo: 2}, api.Wide{Hi: 2, Lo: 1}, -1},
		{api.Wide{Hi: 2, Lo: 1}, api.Wide{Hi: 1, Lo: 2}, 1},
		{api.Wide{Hi: 3, Lo: 1}, api.Wide{Hi: 3, Lo: 2}, -1},
		{api.Wide{Hi: 3, Lo: 2}, api.Wide{Hi: 3, Lo: 1}, 1},
		{api.Wide{Hi: 1 << 63}, api.Wide{Hi: 1<<63 - 1}, 1},
		{api.Wide{Hi: 1, Lo: 1<<63 - 1}, api.Wide{Hi: 1, Lo: 1 << 63}, -1},
	} {
		if got := wide.Compare(c.a, c.b); got != c.want {
			t.Errorf("Compare(%d, %d) = %d, want %d", c.a, c.b, got, c.want)
		}
	}
}

func TestCompareAgainstBig(t *testing.T) { // P2.4
	l := wides()
	for _, a := range l {
		for _, b := range l {
			if got, want := wide.Compare(a, b), bigWide(a).Cmp(bigWide(b)); got != want {
				t.Fatalf("Compare(%d, %d) = %d, want %d", a, b, got, want)
			}
		}
	}
}

func TestDivComesBack(t *testing.T) { // P2.5
	for _, a := range wides() {
		for _, b := range numbers(20) {
			if b == 0 {
				continue
			}
			q, r, e := wide.Div(a, b)
			if e != api.OK || r >= b {
				t.Fatalf("Div(%d, %d) = %d, %d, %d", a, b, q, r, e)
			}
			back, e := wide.Times(q, b)
			if e != api.OK {
				t.Fatalf("Times(%d, %d): %d", q, b, e)
			}
			if back, e = wide.Plus(back, api.Wide{Lo: r}); back != a || e != api.OK {
				t.Fatalf("Div(%d, %d) comes back as %d, %d", a, b, back, e)
			}
		}
	}
}

func TestPartsOfWhole(t *testing.T) { // P2.5
	l := numbers(10)
	for _, n := range l {
		for _, b := range edges() {
			for _, a := range edges() {
				if b == 0 || a > b {
					continue
				}
				one, e := wide.Part(n, a, b)
				other, e2 := wide.Part(n, b-a, b)
				if e != api.OK || e2 != api.OK || one > n || other > n {
					t.Fatalf("parts of %d by %d/%d: %d (%d), %d (%d)", n, a, b, one, e, other, e2)
				}
				if left := n - one - other; left > 1 {
					t.Fatalf("parts of %d by %d/%d: %d and %d", n, a, b, one, other)
				}
			}
		}
	}
}

func TestOrderDoesNotMatter(t *testing.T) { // P2.6
	l := numbers(20)
	for _, a := range l {
		for _, b := range l {
			if x, y := wide.Mul(a, b), wide.Mul(b, a); x != y {
				t.Fatalf("Mul of %d and %d: %d, %d", a, b, x, y)
			}
		}
	}
	for _, a := range wides() {
		for _, b := range wides() {
			x, e := wide.Plus(a, b)
			if y, e2 := wide.Plus(b, a); x != y || e != e2 {
				t.Fatalf("Plus of %d and %d: %d (%d), %d (%d)", a, b, x, e, y, e2)
			}
		}
	}
}

func TestSumsOfThree(t *testing.T) { // P2.6
	three := func(a, b, c api.Wide) (api.Wide, bool) {
		x, e := wide.Plus(a, b)
		if e != api.OK {
			return api.Wide{}, false
		}
		y, e := wide.Plus(x, c)
		return y, e == api.OK
	}
	r := rand.New(rand.NewSource(5))
	l, held := wides(), 0
	for range 20000 {
		a, b, c := l[r.Intn(len(l))], l[r.Intn(len(l))], l[r.Intn(len(l))]
		x, ok := three(a, b, c)
		y, ok2 := three(b, c, a)
		z, ok3 := three(a, c, b)
		// Numbers only grow by others: either all three ways run over, or none does.
		if ok != ok2 || ok != ok3 || x != y || x != z {
			t.Fatalf("sums of %d, %d, %d: %d, %d, %d", a, b, c, x, y, z)
		}
		if ok {
			held++
		}
	}
	if held == 0 {
		t.Fatal("every sum ran over")
	}
}
