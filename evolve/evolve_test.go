package evolve_test

import (
	"crypto/sha256"
	"encoding/hex"
	"math"
	"math/rand"
	"slices"
	"strings"
	"sync"
	"testing"

	"mintage/api"
	"mintage/evolve"
	"mintage/once"
	"mintage/sha"
)

const (
	deepest = 4    // the chapter's MaxDepth
	signed  = 1024 // bytes of a signature ahead of its sides
	side    = 32   // bytes of one side
)

// named is the sum of a name.
func named(s string) api.Hash { return sha256.Sum256([]byte(s)) }

func seeds() []api.Hash {
	return []api.Hash{{}, {31: 1}, {0: 0x80}, named("a"), named("seed")}
}

// turned is a hash with one bit turned, of 256 from the highest of the first byte on.
func turned(h api.Hash, at int) api.Hash {
	h[at/8] ^= 128 >> (at % 8)
	return h
}

// each goes over all depths and all of their periods.
func each(f func(depth, period int)) {
	for depth := range deepest + 1 {
		for period := range 1 << depth {
			f(depth, period)
		}
	}
}

// digits are the binary ones of a way, the highest first.
func digits(depth, period int) string {
	way := ""
	for range depth {
		way = string("01"[period%2]) + way
		period /= 2
	}
	return way
}

func leftOf(h api.Hash) api.Hash   { return sha.Of("left", string(h[:])) }
func rightOf(h api.Hash) api.Hash  { return sha.Of("right", string(h[:])) }
func sumOf(l, r api.Hash) api.Hash { return sha.Of("sum", string(l[:]), string(r[:])) }
func hex64(b []byte) string        { h := sha256.Sum256(b); return hex.EncodeToString(h[:]) }
func joined(l []api.Hash) (b []byte) {
	for _, h := range l {
		b = append(b, h[:]...)
	}
	return b
}

// publicOf is the public key of a seed of a depth.
func publicOf(seed api.Hash, depth int) api.Hash {
	if depth == 0 {
		return once.Public(seed)
	}
	return sumOf(publicOf(leftOf(seed), depth-1), publicOf(rightOf(seed), depth-1))
}

// keyOf is the key of a seed, a depth and a period by the chapter's words: each period's from the seed itself.
func keyOf(seed api.Hash, depth, period int) api.Evolving {
	k := api.Evolving{Depth: depth, Period: period, Leaf: seed}
	for row, digit := range digits(depth, period) {
		l, r := leftOf(k.Leaf), rightOf(k.Leaf)
		if digit == '0' {
			k.Leaf, k.Right, k.Side = l, append(k.Right, r), append(k.Side, publicOf(r, depth-1-row))
		} else {
			k.Leaf, k.Right, k.Side = r, append(k.Right, api.Hash{}), append(k.Side, publicOf(l, depth-1-row))
		}
	}
	return k
}

// strange is a key that may be, and is no seed's.
func strange(depth, period int) api.Evolving {
	r := rand.New(rand.NewSource(int64(100*depth + period)))
	k := api.Evolving{Depth: depth, Period: period, Right: make([]api.Hash, depth), Side: make([]api.Hash, depth)}
	r.Read(k.Leaf[:])
	for row, digit := range digits(depth, period) {
		r.Read(k.Side[row][:])
		if digit == '0' {
			r.Read(k.Right[row][:])
		}
	}
	return k
}

// comesTo goes down the way from its first row, where the program goes up: what stands at its end comes to that by the sides.
func comesTo(way string, end api.Hash, sides []api.Hash) api.Hash {
	if way == "" {
		return end
	}
	below := comesTo(way[1:], end, sides[1:])
	if way[0] == '0' {
		return sumOf(below, sides[0])
	}
	return sumOf(sides[0], below)
}

func publicOfKey(k api.Evolving) api.Hash {
	return comesTo(digits(k.Depth, k.Period), once.Public(k.Leaf), k.Side)
}

// nextOf is the key of the next period, row by row as P6.2 has it; of the last period there is none.
func nextOf(k api.Evolving) (api.Evolving, bool) {
	way := digits(k.Depth, k.Period)
	j := strings.LastIndexByte(way, '0')
	if j < 0 {
		return api.Evolving{}, false
	}
	behind := comesTo(way[j+1:], once.Public(k.Leaf), k.Side[j+1:])
	part := keyOf(k.Right[j], k.Depth-1-j, 0)
	return api.Evolving{
		Depth: k.Depth, Period: k.Period + 1, Leaf: part.Leaf,
		Right: slices.Concat(k.Right[:j], []api.Hash{{}}, part.Right),
		Side:  slices.Concat(k.Side[:j], []api.Hash{behind}, part.Side),
	}, true
}

func signatureOf(k api.Evolving, message api.Hash) string {
	return once.Sign(k.Leaf, message) + string(joined(k.Side))
}

func copied(k api.Evolving) api.Evolving {
	k.Right, k.Side = slices.Clone(k.Right), slices.Clone(k.Side)
	return k
}

// same of two keys: none and an empty list are alike.
func same(a, b api.Evolving) bool {
	return a.Depth == b.Depth && a.Period == b.Period && a.Leaf == b.Leaf && slices.Equal(a.Right, b.Right) && slices.Equal(a.Side, b.Side)
}

// isZero tells whether nothing stands beside an error.
func isZero(k api.Evolving) bool { return same(k, api.Evolving{}) }

func made(t *testing.T, seed api.Hash, depth int) api.Evolving {
	t.Helper()
	k, e := evolve.Make(seed, depth)
	if e != api.OK {
		t.Fatalf("Make of the depth %d: %d", depth, e)
	}
	return k
}

func next(t *testing.T, k api.Evolving) api.Evolving {
	t.Helper()
	n, e := evolve.Next(k)
	if e != api.OK {
		t.Fatalf("Next of the depth %d, the period %d: %d", k.Depth, k.Period, e)
	}
	return n
}

// row are all keys of a seed of a depth, each made of the one ahead.
func row(t *testing.T, seed api.Hash, depth int) []api.Evolving {
	t.Helper()
	l := []api.Evolving{made(t, seed, depth)}
	for len(l) < 1<<depth {
		l = append(l, next(t, l[len(l)-1]))
	}
	return l
}

func sign(t *testing.T, k api.Evolving, message api.Hash) string {
	t.Helper()
	sig, e := evolve.Sign(k, message)
	if e != api.OK {
		t.Fatalf("Sign by the depth %d, the period %d: %d", k.Depth, k.Period, e)
	}
	return sig
}

// checkIs holds what Check says, and must say, against each other.
func checkIs(t *testing.T, want bool, name string, public api.Hash, depth, period int, message api.Hash, sig string) {
	t.Helper()
	if evolve.Check(public, depth, period, message, sig) != want {
		t.Errorf("%s: Check of the depth %d, the period %d, %d bytes: %t", name, depth, period, len(sig), !want)
	}
}

// checkMayNot holds that a key is refused by all that ask whether it may be.
func checkMayNot(t *testing.T, name string, k api.Evolving) {
	t.Helper()
	if e := evolve.May(k); e != api.ErrArg {
		t.Errorf("%s: May = %d, want ErrArg", name, e)
	}
	if public, e := evolve.Public(k); public != (api.Hash{}) || e != api.ErrArg {
		t.Errorf("%s: Public = %x, %d, want noughts, ErrArg", name, public, e)
	}
	if n, e := evolve.Next(k); !isZero(n) || e != api.ErrArg {
		t.Errorf("%s: Next = %v, %d, want the zero key, ErrArg", name, n, e)
	}
	if sig, e := evolve.Sign(k, named("message")); sig != "" || e != api.ErrArg {
		t.Errorf("%s: Sign = %d bytes, %d, want none, ErrArg", name, len(sig), e)
	}
}

func TestExamples(t *testing.T) { // P6.1 to P6.3
	seed := named("seed")
	if k, e := evolve.Make(seed, 5); !isZero(k) || e != api.ErrArg {
		t.Errorf("Make(seed, 5) = %v, %d", k, e)
	}
	if k, e := evolve.Next(made(t, seed, 0)); !isZero(k) || e != api.ErrNone {
		t.Errorf("Next(Make(seed, 0)) = %v, %d", k, e)
	}
	left, _ := sha.Read("81080e16b5475e7a824487b2fd4ea03fc4d7d5581a6a646e784411d14d42e6a4")
	right, _ := sha.Read("ceacc95536316f190c37d52b645c0809bbd642ae140ab1559627ca469686d9b5")
	k := made(t, seed, 1)
	if k.Leaf != left || !slices.Equal(k.Right, []api.Hash{right}) {
		t.Errorf("Make(seed, 1): Leaf %x, Right %x", k.Leaf, k.Right)
	}
	if n := next(t, k); n.Leaf != right || !slices.Equal(n.Right, []api.Hash{{}}) {
		t.Errorf("Next of Make(seed, 1): Leaf %x, Right %x", n.Leaf, n.Right)
	}
	if sig := sign(t, made(t, seed, 3), named("message")); len(sig) != 1120 {
		t.Errorf("a signature of the depth 3 has %d bytes", len(sig))
	}
}

func TestPinned(t *testing.T) { // P6.1 to P6.3: told by another program; of all keys' bytes, and of all their signatures, the sums
	for _, c := range []struct {
		seed   api.Hash
		depths [deepest + 1][3]string
	}{
		{api.Hash{}, [deepest + 1][3]string{
			{"a915d13025ed3649d7a23d9eb88309b889856ee581def3f91a916e75997beccb", "66687aadf862bd776c8fc18b8e9f8e20089714856ee233b3902a591d0d5f2925", "b538311209bd37af47ad4ff504f334052735aec8bab134849b7c4b9a3b5d15a7"},
			{"1bf67c91efb616a996bb3667a52fc006b54e421891813bfcb68f7e20cf95da9d", "1a4cd2e5d5236e91b2ee718b048d351ef640834a4e191f8187b4c49b285c6292", "1264403e39eef5ddbce56ab4432e392c8331bc15a836fc491bd36d23afa87c75"},
			{"92a3239179655d2a4db4b5dddd10fec58d5a8ad93480af6bacb2e420e70f08f7", "1032d3a692f973b6ff24973b3268d126b8d55b73dc603c760ca637d0eb5f5762", "56883cfe375bc4b1903147aed165cd54440b234265315a80a2945cf1d0b93996"},
			{"bf28beea2be0c0f21fd61a896765cc9a437cc504efbb0b2f3c699814333afd5b", "477866597beb8a57164c0103e1ba4cfd56b1fc5c486edb906e912b9d7aa37bd8", "a094d9e1ce82a58b3dd967b5d4a0d612f113a40fba5992d19916f0a850373469"},
			{"3f0b0d1d6741463d5c5d51504633fa143fd2cbbf4caa38eadebac05cfa9db1bc", "89ed6886094295437e1c094695b17303c01a75c0dd36d25ac738ade9da8aedd7", "7786a3895637376d1583a15367975aead45a48e612cce2b171b48786cc5e0ed8"},
		}},
		{named("seed"), [deepest + 1][3]string{
			{"337956246c233e10ad87a3647315a79327f40cfdb81c7e4b9218495e0be19298", "a7e130694166cdb95b1e1bbce3f21e4dbd63f46df42b48c5a1f8295033d57d04", "d2d74976b36084b7c5449f959afe7c8a60dcf1e25309031146d3d68b3ee672a5"},
			{"5679f3c39b18c7c96f7a3b1ac85fbcf1e17a2fef5c3d179a92bc3fda265df241", "b083402ce6e7cf485fccbba2e9e927e2fb4e3b95762aa549e111a3f3243a6768", "3284cd3d47d897b624b6f00602335fa0e6d2fa8162ef56f3ae54f36eab555953"},
			{"4e80eb82a10fc1fd0f0cfbbc44fd6e5b2cdf3ca98800781d0844862d2da18944", "501053543c293bc0bd2e0d145616dfd1054cfbd04f8462e7180f5db6b3ec566c", "dab8c60d2727b839af814c62788883fe1cc9136cfa2e8b97885b3d8aa1b79b32"},
			{"86db649ad23006f59db3d03125e2d4ccd770b93b9bcdd283bcfd178d8704011f", "2637ff2db5cfeed4a3f7659950188a39b2186def60e746f3b34b0e76772a38ce", "14b26f87fbc98f448975019b1470535e605e384089921cea9901fe779e346e68"},
			{"5c3a22cc6a23ba87f6c574ea24d238b13caccb8c8913d5312984a5543ba903e0", "ff0f10bc92ccfd0834f1698f8b6aa23be7b39f1efd05d5b00d5740235e09c93f", "703227998d400d0d8e67586f88fbc2eb354be6df6cbd25a804988d55ee26865e"},
		}},
	} {
		for depth, want := range c.depths {
			var keys, sigs []byte
			for _, k := range row(t, c.seed, depth) {
				keys = slices.Concat(keys, k.Leaf[:], joined(k.Right), joined(k.Side))
				sigs = append(sigs, sign(t, k, named("message"))...)
				if public, e := evolve.Public(k); hex.EncodeToString(public[:]) != want[0] || e != api.OK {
					t.Errorf("Public of the depth %d, the period %d = %x, %d, want %s", depth, k.Period, public, e, want[0])
				}
			}
			if got := hex64(keys); got != want[1] {
				t.Errorf("all keys of the depth %d come to %s, want %s", depth, got, want[1])
			}
			if got := hex64(sigs); got != want[2] {
				t.Errorf("all signatures of the depth %d come to %s, want %s", depth, got, want[2])
			}
		}
	}
}

func TestMake(t *testing.T) { // P6.1
	for _, seed := range seeds() {
		for depth := range deepest + 1 {
			if k, want := made(t, seed, depth), keyOf(seed, depth, 0); !same(k, want) {
				t.Errorf("Make(%x, %d) = %v, want %v", seed, depth, k, want)
			}
		}
	}
}

func TestMakeOfNoDepth(t *testing.T) { // P6.1
	for _, depth := range []int{-1, -2, -4, 5, 6, 31, 32, 63, 64, 65, 1 << 31, 1<<32 + 3, math.MaxInt, math.MinInt, math.MinInt + 3} {
		if k, e := evolve.Make(named("seed"), depth); !isZero(k) || e != api.ErrArg {
			t.Errorf("Make of the depth %d = %v, %d, want the zero key, ErrArg", depth, k, e)
		}
	}
}

func TestMay(t *testing.T) { // P6.1: what May says OK to, Public and Sign take too
	each(func(depth, period int) {
		bare := api.Evolving{Depth: depth, Period: period, Right: make([]api.Hash, depth), Side: make([]api.Hash, depth)}
		for _, k := range []api.Evolving{keyOf(named("seed"), depth, period), strange(depth, period), bare} {
			if e := evolve.May(k); e != api.OK {
				t.Errorf("May of the depth %d, the period %d: %d", depth, period, e)
			}
			if public, e := evolve.Public(k); public != publicOfKey(k) || e != api.OK {
				t.Errorf("Public of the depth %d, the period %d = %x, %d, want %x", depth, period, public, e, publicOfKey(k))
			}
			if sig, e := evolve.Sign(k, named("message")); sig != signatureOf(k, named("message")) || e != api.OK {
				t.Errorf("Sign by the depth %d, the period %d: %d bytes, %d", depth, period, len(sig), e)
			}
		}
	})
}

func TestMayOfDepthNought(t *testing.T) { // P6.1: no lists, and empty ones
	for _, lists := range [][]api.Hash{nil, {}} {
		k := api.Evolving{Leaf: named("seed"), Right: lists, Side: lists}
		public, e := evolve.Public(k)
		if evolve.May(k) != api.OK || public != once.Public(named("seed")) || e != api.OK {
			t.Errorf("May = %d, Public = %x, %d", evolve.May(k), public, e)
		}
		if n, e := evolve.Next(k); !isZero(n) || e != api.ErrNone {
			t.Errorf("Next = %v, %d", n, e)
		}
		if sig := sign(t, k, named("message")); sig != once.Sign(named("seed"), named("message")) {
			t.Error("Sign is not that of once")
		}
	}
}

func TestMayNotOfNumbers(t *testing.T) { // P6.1: no such depth, no such period, with lists that are as they must be otherwise
	for _, depth := range []int{-1, -3, 5, 6, 64, 65, 1 << 20, math.MaxInt, math.MinInt} {
		for _, period := range []int{0, 1, -1, 31, math.MaxInt, math.MinInt} {
			size := min(max(depth, 0), 1<<20)
			checkMayNot(t, "no such depth", api.Evolving{Depth: depth, Period: period, Right: make([]api.Hash, size), Side: make([]api.Hash, size)})
			checkMayNot(t, "no such depth, no lists", api.Evolving{Depth: depth, Period: period})
		}
	}
	each(func(depth, period int) {
		all := 1 << depth
		for _, other := range []int{-1, period - all, period + all, all, 2 * all, math.MaxInt, math.MinInt, math.MinInt + period, 1<<32 + period} {
			k := keyOf(named("seed"), depth, period)
			k.Period = other
			checkMayNot(t, "no such period", k)
			clear(k.Right)
			checkMayNot(t, "no such period, all noughts", k)
		}
	})
}

func TestMayNotOfLists(t *testing.T) { // P6.1: one too few, one too many, none, far too many
	each(func(depth, period int) {
		for _, base := range []api.Evolving{keyOf(named("seed"), depth, period), strange(depth, period)} {
			for _, size := range []int{0, depth - 1, depth + 1, depth + 2, 1 << 12} {
				if size < 0 || size == depth {
					continue
				}
				k := copied(base)
				k.Right = resized(base.Right, size)
				checkMayNot(t, "another number of Right", k)
				k.Side = resized(base.Side, size)
				checkMayNot(t, "another number of both", k)
				k.Right = base.Right
				checkMayNot(t, "another number of Side", k)
			}
		}
	})
	k := keyOf(named("seed"), 3, 0)
	k.Depth = 2
	checkMayNot(t, "the lists of the depth 3", k)
	k = keyOf(named("seed"), 2, 0)
	k.Depth = 3
	checkMayNot(t, "the lists of the depth 2", k)
}

// resized is a list cut to a size, or with noughts behind it.
func resized(l []api.Hash, size int) []api.Hash {
	r := make([]api.Hash, size)
	copy(r, l)
	return r
}

func TestMayNotOfRight(t *testing.T) { // P6.1: where the way goes right noughts must stand, all of them
	each(func(depth, period int) {
		for at, digit := range digits(depth, period) {
			for _, bit := range []int{0, 7, 100, 255} {
				k := keyOf(named("seed"), depth, period)
				k.Right[at] = turned(api.Hash{}, bit)
				if digit == '1' {
					checkMayNot(t, "Right where the way goes right", k)
				} else if e := evolve.May(k); e != api.OK {
					t.Errorf("another Right where the way goes left: May = %d", e)
				}
			}
			if digit == '0' { // noughts are a seed as others are
				k := keyOf(named("seed"), depth, period)
				k.Right[at] = api.Hash{}
				if e := evolve.May(k); e != api.OK {
					t.Errorf("noughts where the way goes left: May = %d", e)
				}
			}
		}
	})
}

func TestNext(t *testing.T) { // P6.2: each period of each depth, of a seed's keys, and of keys that are no seed's
	for _, seed := range seeds() {
		each(func(depth, period int) {
			if period == 0 {
				return
			}
			if n, want := next(t, keyOf(seed, depth, period-1)), keyOf(seed, depth, period); !same(n, want) {
				t.Errorf("Next of the depth %d, the period %d = %v, want %v", depth, period-1, n, want)
			}
		})
	}
	each(func(depth, period int) {
		noughts := strange(depth, period)
		clear(noughts.Right)
		for _, k := range []api.Evolving{strange(depth, period), noughts} {
			want, there := nextOf(k)
			n, e := evolve.Next(k)
			if !same(n, want) || (e == api.OK) != there || !there && e != api.ErrNone {
				t.Errorf("Next of a key of no seed, the depth %d, the period %d = %v, %d, want %v", depth, period, n, e, want)
			}
		}
	})
}

func TestNextByHand(t *testing.T) { // P6.2: where the way goes left at the first row alone, at the last one alone, at all, at one between, at none
	for _, c := range []struct {
		way          string
		period, last int
	}{
		{"0", 0, 0}, {"01", 1, 0}, {"011", 3, 0}, {"0111", 7, 0},
		{"10", 2, 1}, {"110", 6, 2}, {"1110", 14, 3},
		{"00", 0, 1}, {"000", 0, 2}, {"0000", 0, 3},
		{"101", 5, 1}, {"1011", 11, 1}, {"1101", 13, 2}, {"0101", 5, 2},
		{"", 0, -1}, {"1", 1, -1}, {"11", 3, -1}, {"111", 7, -1}, {"1111", 15, -1},
	} {
		depth, j := len(c.way), c.last
		k := strange(depth, c.period)
		n, e := evolve.Next(k)
		if j < 0 {
			if !isZero(n) || e != api.ErrNone {
				t.Errorf("%s: Next = %v, %d, want the zero key, ErrNone", c.way, n, e)
			}
			continue
		}
		if e != api.OK || n.Depth != depth || n.Period != c.period+1 || len(n.Right) != depth || len(n.Side) != depth {
			t.Errorf("%s: Next = %v, %d", c.way, n, e)
			continue
		}
		if !slices.Equal(n.Right[:j], k.Right[:j]) || !slices.Equal(n.Side[:j], k.Side[:j]) {
			t.Errorf("%s: the rows ahead of %d are not as they were", c.way, j)
		}
		behind := once.Public(k.Leaf)
		for at := depth - 1; at > j; at-- {
			behind = sumOf(k.Side[at], behind)
		}
		if n.Right[j] != (api.Hash{}) || n.Side[j] != behind {
			t.Errorf("%s: the row %d has %x, %x, want noughts, %x", c.way, j, n.Right[j], n.Side[j], behind)
		}
		part := made(t, k.Right[j], depth-1-j)
		if n.Leaf != part.Leaf || !slices.Equal(n.Right[j+1:], part.Right) || !slices.Equal(n.Side[j+1:], part.Side) {
			t.Errorf("%s: the rows behind %d are not those that Make has of the seed there", c.way, j)
		}
	}
}

func TestNextOfTheLast(t *testing.T) { // P6.2: ErrNone, as often as one asks; a key that may not be is ErrArg there too
	for depth := range deepest + 1 {
		last := 1<<depth - 1
		for _, k := range []api.Evolving{keyOf(named("seed"), depth, last), strange(depth, last)} {
			for range 2 {
				if n, e := evolve.Next(k); !isZero(n) || e != api.ErrNone {
					t.Errorf("Next of the depth %d, the last period = %v, %d, want the zero key, ErrNone", depth, n, e)
				}
			}
			k.Side = append(slices.Clone(k.Side), api.Hash{})
			if n, e := evolve.Next(k); !isZero(n) || e != api.ErrArg {
				t.Errorf("Next of the depth %d, the last period, a Side too many = %v, %d, want the zero key, ErrArg", depth, n, e)
			}
		}
	}
}

func TestSign(t *testing.T) { // P6.3: what once signs by Leaf, and all sides from row 0 on
	messages := []api.Hash{{}, named("message"), {0: 0x80}, {1: 1}, {0: 0xff, 1: 0xff, 31: 1}}
	each(func(depth, period int) {
		for _, k := range []api.Evolving{keyOf(named("seed"), depth, period), strange(depth, period)} {
			for _, message := range messages {
				sig := sign(t, k, message)
				if len(sig) != signed+side*depth || sig != signatureOf(k, message) {
					t.Errorf("Sign by the depth %d, the period %d is another one, of %d bytes", depth, period, len(sig))
				}
				checkIs(t, true, "as it was signed", publicOfKey(k), depth, period, message, sig)
			}
		}
	})
}

func TestCheckWhatever(t *testing.T) { // P6.3: whatever bytes, what they come to by the way is checked, and nothing else is
	r := rand.New(rand.NewSource(63))
	each(func(depth, period int) {
		for _, chance := range []bool{false, true} {
			message, b := named("message"), make([]byte, signed+side*depth)
			if chance {
				r.Read(message[:])
				r.Read(b)
			}
			told, _ := once.Tells(message, string(b[:signed]))
			var sides []api.Hash
			for at := signed; at < len(b); at += side {
				sides = append(sides, api.Hash(b[at:at+side]))
			}
			want := comesTo(digits(depth, period), told, sides)
			checkIs(t, true, "whatever bytes", want, depth, period, message, string(b))
			checkIs(t, false, "whatever bytes, a bit of the key turned", turned(want, r.Intn(256)), depth, period, message, string(b))
			checkIs(t, false, "whatever bytes, noughts as the key", api.Hash{}, depth, period, message, string(b))
		}
	})
}

func TestCheckLengths(t *testing.T) { // P6.3: a byte too short, a byte too long, far off
	message := named("message")
	each(func(depth, period int) {
		k := keyOf(named("seed"), depth, period)
		public, sig := publicOfKey(k), signatureOf(k, message)
		long := strings.Repeat(sig, 3)
		for _, size := range []int{0, 1, side * depth, signed - side, signed - 1, len(sig) - side, len(sig) - 1, len(sig) + 1, len(sig) + side, 2 * len(sig), len(long)} {
			checkIs(t, false, "another length", public, depth, period, message, long[:size])
			checkIs(t, false, "another length, its end", public, depth, period, message, long[len(long)-size:])
			checkIs(t, false, "another length, noughts as the key", api.Hash{}, depth, period, message, long[:size])
		}
		checkIs(t, false, "a byte behind", public, depth, period, message, sig+"\x00")
		checkIs(t, false, "a byte ahead", public, depth, period, message, "\x00"+sig)
		checkIs(t, false, "a byte more between both parts", public, depth, period, message, sig[:signed]+"\x00"+sig[signed:])
		checkIs(t, false, "the first byte wanting", public, depth, period, message, sig[1:])
		checkIs(t, false, "the last byte wanting", public, depth, period, message, sig[:len(sig)-1])
		checkIs(t, true, "as it was signed", public, depth, period, message, sig)
	})
}

func TestCheckOfNoDepth(t *testing.T) { // P6.3: even where the bytes would be right for it
	message := named("message")
	for _, period := range []int{0, 1, 16, 31} {
		k := keyOf(named("seed"), deepest+1, period)
		checkIs(t, false, "a depth too great", publicOfKey(k), deepest+1, period, message, signatureOf(k, message))
	}
	k := keyOf(named("seed"), 0, 0)
	sig := signatureOf(k, message)
	for _, depth := range []int{-1, -2, -31, -32, -33, -64, 5, 31, 32, 33, 63, 64, 65, 1 << 31, 1 << 58, 1 << 59, 1<<59 + 1, math.MaxInt, math.MinInt} {
		for _, period := range []int{0, 1, -1, math.MaxInt, math.MinInt} {
			for _, s := range []string{"", sig, sig[:signed-side], sig + sig, sig + sig[:side*5]} {
				checkIs(t, false, "no such depth", publicOfKey(k), depth, period, message, s)
			}
		}
	}
}

func TestCheckOfNoPeriod(t *testing.T) { // P6.3: a period that has the digits of one of them is none
	message := named("message")
	each(func(depth, period int) {
		k := keyOf(named("seed"), depth, period)
		public, sig, all := publicOfKey(k), signatureOf(k, message), 1<<depth
		for _, other := range []int{period - all, period + all, period + 2*all, period - 16*all, 1<<32 + period, math.MinInt + period, math.MaxInt - all + 1 + period} {
			checkIs(t, false, "no such period", public, depth, other, message, sig)
		}
		for _, other := range []int{-1, all, math.MaxInt, math.MinInt} {
			checkIs(t, false, "no such period", public, depth, other, message, sig)
		}
	})
}

func TestCheckOfAnotherPeriod(t *testing.T) { // P6.3, P6.4
	message := named("message")
	each(func(depth, period int) {
		k := keyOf(named("seed"), depth, period)
		public, sig := publicOfKey(k), signatureOf(k, message)
		for other := range 1 << depth {
			checkIs(t, other == period, "another period", public, depth, other, message, sig)
		}
	})
}

func TestCheckOfAnotherDepth(t *testing.T) { // P6.3, P6.4: nor if it is cut, or made longer, to that one's length
	message := named("message")
	each(func(depth, period int) {
		k := keyOf(named("seed"), depth, period)
		sig := signatureOf(k, message)
		long := sig + strings.Repeat(string(joined(k.Side))+strings.Repeat("\x00", side), deepest)
		each(func(other, at int) {
			if other == depth {
				return
			}
			for _, public := range []api.Hash{publicOfKey(k), publicOf(named("seed"), other)} {
				checkIs(t, false, "another depth", public, other, at, message, sig)
				checkIs(t, false, "another depth, as long as its", public, other, at, message, long[:signed+side*other])
			}
		})
	})
}

func TestCheckOfBothSidesAlike(t *testing.T) { // P6.3: what comes to the key by both ways is taken for both periods
	k := api.Evolving{Depth: 1, Leaf: named("leaf"), Right: make([]api.Hash, 1), Side: []api.Hash{once.Public(named("leaf"))}}
	message := named("message")
	public, sig := publicOfKey(k), sign(t, k, message)
	checkIs(t, true, "both sides alike", public, 1, 0, message, sig)
	checkIs(t, true, "both sides alike", public, 1, 1, message, sig)
	checkIs(t, false, "both sides alike", public, 1, 2, message, sig)
}

func TestCheckOfAnotherMessage(t *testing.T) { // P6.3: of a message once signs the first 16 bits
	message := named("message")
	each(func(depth, period int) {
		k := keyOf(named("seed"), depth, period)
		public, sig := publicOfKey(k), signatureOf(k, message)
		for at := range 24 {
			checkIs(t, at >= 16, "a message with a bit turned", public, depth, period, turned(message, at), sig)
		}
		checkIs(t, false, "noughts as the message", public, depth, period, api.Hash{}, sig)
	})
}

func TestCheckOfAnotherKey(t *testing.T) { // P6.3: of another seed, of another depth, with a bit turned
	message := named("message")
	each(func(depth, period int) {
		k := keyOf(named("seed"), depth, period)
		sig := signatureOf(k, message)
		for _, seed := range seeds() {
			checkIs(t, seed == named("seed"), "another seed's key", publicOf(seed, depth), depth, period, message, sig)
		}
		for other := range deepest + 1 {
			checkIs(t, other == depth, "another depth's key", publicOf(named("seed"), other), depth, period, message, sig)
		}
		checkIs(t, depth == 0, "the leaf's key", once.Public(k.Leaf), depth, period, message, sig)
		checkIs(t, false, "noughts as the key", api.Hash{}, depth, period, message, sig)
		checkIs(t, false, "the seed as the key", named("seed"), depth, period, message, sig)
	})
	k := keyOf(named("seed"), 3, 5)
	public, sig := publicOfKey(k), signatureOf(k, message)
	for at := range 256 {
		checkIs(t, false, "a key with a bit turned", turned(public, at), 3, 5, message, sig)
	}
}

func TestCheckOfExchangedSides(t *testing.T) { // P6.3
	message := named("message")
	each(func(depth, period int) {
		k := keyOf(named("seed"), depth, period)
		public := publicOfKey(k)
		for a := range depth {
			for b := range a {
				two := copied(k)
				two.Side[a], two.Side[b] = k.Side[b], k.Side[a]
				checkIs(t, false, "two Sides exchanged", public, depth, period, message, signatureOf(two, message))
				two.Side[a] = k.Side[a]
				checkIs(t, false, "a Side twice", public, depth, period, message, signatureOf(two, message))
			}
		}
		if depth > 1 {
			back := copied(k)
			slices.Reverse(back.Side)
			checkIs(t, false, "all Sides backward", public, depth, period, message, signatureOf(back, message))
		}
		if depth > 0 {
			ahead := string(joined(k.Side)) + once.Sign(k.Leaf, message)
			checkIs(t, false, "the Sides ahead", public, depth, period, message, ahead)
		}
	})
}

func TestCheckOfTurnedBits(t *testing.T) { // P6.3: each byte of the signature counts
	message := named("message")
	each(func(depth, period int) {
		k := keyOf(named("seed"), depth, period)
		public, sig := publicOfKey(k), []byte(signatureOf(k, message))
		every := 13
		if depth == 3 && period == 5 {
			every = 1
		}
		for at := range sig {
			if at < signed && at%every != 0 {
				continue
			}
			sig[at] ^= 1 << (at % 8)
			checkIs(t, false, "a bit turned", public, depth, period, message, string(sig))
			sig[at] ^= 1 << (at % 8)
		}
		checkIs(t, true, "as it was signed", public, depth, period, message, string(sig))
	})
}

func TestOneKey(t *testing.T) { // P6.4: all keys of a seed, one made of the other, have its public key, and what they sign is checked
	for n, seed := range seeds() {
		for depth := range deepest + 1 {
			public := publicOf(seed, depth)
			for period, k := range row(t, seed, depth) {
				if want := keyOf(seed, depth, period); !same(k, want) {
					t.Errorf("the seed %d, the depth %d: the key %d is %v, want %v", n, depth, period, k, want)
				}
				if got, e := evolve.Public(k); got != public || e != api.OK {
					t.Errorf("the seed %d, the depth %d, the period %d: Public = %x, %d, want %x", n, depth, period, got, e, public)
				}
				message := named(digits(depth, period))
				sig := sign(t, k, message)
				checkIs(t, true, "as it was signed", public, depth, period, message, sig)
				each(func(other, at int) {
					if other != depth {
						checkIs(t, false, "another length of way", public, other, at, message, sig)
					}
				})
			}
		}
	}
}

func TestOneKeyOfNoSeed(t *testing.T) { // P6.4: the public key stays from where the key goes on, if its Rights are the seeds of what its Sides say
	for depth := 1; depth <= deepest; depth++ {
		k := strange(depth, 0)
		for at := range depth {
			k.Side[at] = publicOf(k.Right[at], depth-1-at)
		}
		public := publicOfKey(k)
		for period := 1; period < 1<<depth; period++ {
			k = next(t, k)
			if got, e := evolve.Public(k); got != public || e != api.OK {
				t.Errorf("the depth %d, the period %d: Public = %x, %d, want %x", depth, period, got, e, public)
			}
		}
	}
}

func TestNextWithoutLeaf(t *testing.T) { // P6.5: Leaf and Right do not hang on Leaf, nor on any Side
	each(func(depth, period int) {
		for _, k := range []api.Evolving{keyOf(named("seed"), depth, period), strange(depth, period)} {
			if period == 1<<depth-1 {
				continue
			}
			n := next(t, k)
			other := copied(k)
			other.Leaf = named("another leaf")
			o := next(t, other)
			if o.Leaf != n.Leaf || !slices.Equal(o.Right, n.Right) {
				t.Errorf("the depth %d, the period %d: Leaf or Right of Next hang on Leaf", depth, period)
			}
			if slices.Equal(o.Side, n.Side) {
				t.Errorf("the depth %d, the period %d: no Side of Next hangs on Leaf", depth, period)
			}
			for at := range other.Side {
				other.Side[at] = named("another side")
			}
			if o = next(t, other); o.Leaf != n.Leaf || !slices.Equal(o.Right, n.Right) {
				t.Errorf("the depth %d, the period %d: Leaf or Right of Next hang on Side", depth, period)
			}
		}
	})
}

// had are a key's seeds.
func had(k api.Evolving) []api.Hash {
	l := []api.Hash{k.Leaf}
	for _, h := range k.Right {
		if h != (api.Hash{}) {
			l = append(l, h)
		}
	}
	return l
}

// reached are all seeds that these lead to, by halves and halves of halves.
func reached(l []api.Hash) map[api.Hash]bool {
	all := map[api.Hash]bool{}
	for range deepest + 1 {
		var halves []api.Hash
		for _, h := range l {
			all[h] = true
			halves = append(halves, leftOf(h), rightOf(h))
		}
		l = halves
	}
	return all
}

// seedAt is the seed at the end of a beginning of a way.
func seedAt(seed api.Hash, way string) api.Hash {
	for _, digit := range way {
		if digit == '0' {
			seed = leftOf(seed)
		} else {
			seed = rightOf(seed)
		}
	}
	return seed
}

func TestForgets(t *testing.T) { // P6.5: no seed on the way to an earlier period is one of the key's, nor made of them
	seed := named("seed")
	for depth := range deepest + 1 {
		for period, k := range row(t, seed, depth) {
			all := reached(had(k))
			for earlier := range period + 1 {
				way := digits(depth, earlier)
				for at := range depth + 1 {
					own := earlier == period && at == depth // its own leaf
					if all[seedAt(seed, way[:at])] != own {
						t.Errorf("the depth %d, the period %d: whether the seed at %q can be made: %t", depth, period, way[:at], !own)
					}
				}
			}
			for later := period + 1; later < 1<<depth; later++ {
				if !all[seedAt(seed, digits(depth, later))] {
					t.Errorf("the depth %d, the period %d: the seed of the period %d can not be made", depth, period, later)
				}
			}
		}
	}
}

func TestNextSeeds(t *testing.T) { // P6.5: of the seeds from row j on none is one that was there, but one that becomes the leaf itself
	each(func(depth, period int) {
		for _, k := range []api.Evolving{keyOf(named("seed"), depth, period), strange(depth, period)} {
			j := strings.LastIndexByte(digits(depth, period), '0')
			if j < 0 {
				continue
			}
			n, were := next(t, k), had(k)
			whole := j == depth-1 // no half is made of what stands in Right of the last row
			for _, h := range append(slices.Clone(n.Right[j+1:]), n.Leaf) {
				if slices.Contains(were, h) != whole || whole && h != k.Right[j] {
					t.Errorf("the depth %d, the period %d: a seed of Next is one that was there", depth, period)
				}
			}
			if slices.Contains(n.Right, k.Right[j]) || slices.Contains(n.Side, k.Right[j]) || !whole && n.Leaf == k.Right[j] {
				t.Errorf("the depth %d, the period %d: what stood in Right of the row %d is kept", depth, period, j)
			}
			if slices.Contains(had(n), k.Leaf) || slices.Contains(n.Side, k.Leaf) {
				t.Errorf("the depth %d, the period %d: Leaf is kept", depth, period)
			}
		}
	})
}

// roomy is a list with room behind it, and the list with what stands there.
func roomy(l []api.Hash) (short, whole []api.Hash) {
	whole = slices.Clone(l)
	for i := range 2 * deepest {
		whole = append(whole, named(string(rune('a'+i))))
	}
	return whole[:len(l)], whole
}

func TestHandedInStays(t *testing.T) { // R3: nor is what stands in the room behind a key's lists written over
	message := named("message")
	each(func(depth, period int) {
		for _, base := range []api.Evolving{keyOf(named("seed"), depth, period), strange(depth, period)} {
			var right, side []api.Hash
			k := base
			k.Right, right = roomy(base.Right)
			k.Side, side = roomy(base.Side)
			wasRight, wasSide := slices.Clone(right), slices.Clone(side)
			want, there := nextOf(base)
			for range 2 { // the room does not count either: R5
				evolve.May(k)
				if public, _ := evolve.Public(k); public != publicOfKey(base) {
					t.Errorf("the depth %d, the period %d, room behind its lists: Public is another one", depth, period)
				}
				if n, e := evolve.Next(k); !same(n, want) || (e == api.OK) != there {
					t.Errorf("the depth %d, the period %d, room behind its lists: Next is another one", depth, period)
				}
				if sign(t, k, message) != signatureOf(base, message) {
					t.Errorf("the depth %d, the period %d, room behind its lists: Sign is another one", depth, period)
				}
			}
			if !same(k, base) || !slices.Equal(right, wasRight) || !slices.Equal(side, wasSide) {
				t.Errorf("the depth %d, the period %d: a key that is handed in is changed", depth, period)
			}
		}
	})
}

// scribble writes over all that a key's lists reach, and the room behind them.
func scribble(k api.Evolving) {
	for _, l := range [][]api.Hash{k.Right, k.Side} {
		l = l[:cap(l)]
		for i := range l {
			l[i] = named("scribble")
		}
	}
}

func TestKeysApart(t *testing.T) { // R3, and the chapter's Ways: no key's lists are part of another one's
	for depth := range deepest + 1 {
		for gone := range 1 << depth {
			l := row(t, named("seed"), depth)
			if gone+1 < len(l) {
				l = append(l, next(t, l[gone])) // made of the same key a second time
			}
			scribble(l[gone])
			for at, k := range l {
				if at != gone && !same(k, keyOf(named("seed"), depth, k.Period)) {
					t.Errorf("the depth %d: a key of the period %d is changed with the key %d", depth, k.Period, gone)
				}
			}
		}
	}
}

func TestListsApart(t *testing.T) { // the chapter's Ways: what is put behind a copy's lists shows in no other copy, nor in the other list
	for depth := range deepest + 1 {
		for period, k := range row(t, named("seed"), depth) {
			one, other := k, k
			one.Right, one.Side = append(one.Right, named("one")), append(one.Side, named("one"))
			other.Right, other.Side = append(other.Right, named("other")), append(other.Side, named("other"))
			if one.Right[depth] != named("one") || one.Side[depth] != named("one") {
				t.Errorf("the depth %d, the period %d: copies write into one another", depth, period)
			}
			right := slices.Clone(k.Right)
			for i := range k.Side {
				k.Side[i] = named("scribble")
			}
			if !slices.Equal(k.Right, right) {
				t.Errorf("the depth %d, the period %d: Right and Side are one memory", depth, period)
			}
		}
	}
}

func TestOlderKeysGoOn(t *testing.T) { // R5: a key answers what it did, whatever was made of it
	message := named("message")
	for depth := range deepest + 1 {
		keys := row(t, named("seed"), depth)
		for back := len(keys) - 1; back >= 0; back-- {
			k := keys[back]
			for period := back; period < len(keys); period++ {
				if want := keyOf(named("seed"), depth, period); !same(k, want) || sign(t, k, message) != signatureOf(want, message) {
					t.Errorf("the depth %d: from the key %d on, the key %d is another one", depth, back, period)
				}
				if period+1 < len(keys) {
					k = next(t, k)
				}
			}
		}
	}
}

func TestAtOneTime(t *testing.T) { // R5: nothing is kept from call to call
	shared := row(t, named("seed"), 3)
	var wait sync.WaitGroup
	for period := range shared {
		for range 2 {
			wait.Go(func() {
				k, message := shared[period], named(digits(3, period))
				sig, e := evolve.Sign(k, message)
				if e != api.OK || !evolve.Check(publicOf(named("seed"), 3), 3, period, message, sig) {
					t.Errorf("the period %d beside others: what is signed is not checked", period)
				}
				want, _ := nextOf(k)
				if n, _ := evolve.Next(k); !same(n, want) {
					t.Errorf("the period %d beside others: Next is another one", period)
				}
				if n, _ := evolve.Make(message, 3); !same(n, keyOf(message, 3, 0)) {
					t.Errorf("the period %d beside others: Make is another one", period)
				}
			})
		}
	}
	wait.Wait()
}
