package lot_test

import (
	"crypto/sha256"
	"encoding/binary"
	"encoding/hex"
	"math"
	"math/big"
	"math/rand"
	"sync"
	"testing"

	"mintage/api"
	"mintage/lot"
	"mintage/sha"
)

const (
	greatest = math.MaxUint64
	lots     = 1 << 32 // how many lots there are
	mostAll  = 1<<63 - 1
	mostB    = 1 << 16
)

// named is the sum of a name.
func named(s string) api.Hash { return sha256.Sum256([]byte(s)) }

// turned is a hash with one bit turned, of 256 from the highest of the first byte on.
func turned(h api.Hash, at int) api.Hash {
	h[at/8] ^= 128 >> (at % 8)
	return h
}

func hashes() []api.Hash {
	full := api.Hash{}
	for i := range full {
		full[i] = 0xff
	}
	return []api.Hash{{}, {0: 0x80}, {0: 1}, {31: 1}, full, named("nonce"), named("pool"), named("another")}
}

func slots() []uint64 {
	l := []uint64{0, greatest, 0x0102030405060708}
	for i := range 64 {
		l = append(l, 1<<i, 1<<i-1, 1<<i+1)
	}
	return l
}

// sumOf is the sum under a tag of a nonce, a slot and a pool, byte by byte as chapters 1 and 3 have it.
func sumOf(tag string, nonce api.Hash, slot uint64, pool api.Hash) api.Hash {
	b := append([]byte{byte(len(tag))}, tag...)
	b = append(append(b, 32), nonce[:]...)
	b = binary.BigEndian.AppendUint64(append(b, 8), slot)
	b = append(append(b, 32), pool[:]...)
	return sha256.Sum256(b)
}

// part is a stake of all stake, and a rate.
type part struct{ stake, all, a, b uint64 }

func bigOf(n uint64) *big.Int { return new(big.Int).SetUint64(n) }

func product(l ...uint64) *big.Int {
	p := bigOf(1)
	for _, n := range l {
		p.Mul(p, bigOf(n))
	}
	return p
}

// mayBe tells whether a part may be handed in.
func (p part) mayBe() bool {
	return p.stake <= p.all && 1 <= p.all && p.all <= mostAll && p.a <= p.b && 1 <= p.b && p.b <= mostB
}

// wins is the chapter's: lot times all times b is less than 2^32 times stake times a.
func (p part) wins(n uint64) bool {
	return product(n, p.all, p.b).Cmp(product(lots, p.stake, p.a)) < 0
}

// least divides, where the program looks for it: the first number whose product is no less.
func (p part) least() uint64 {
	q, r := new(big.Int).QuoRem(product(lots, p.stake, p.a), product(p.all, p.b), new(big.Int))
	if r.Sign() != 0 {
		q.Add(q, bigOf(1))
	}
	return q.Uint64()
}

// stakes are what all stake may be, at its edges and in between.
func stakes() []uint64 {
	l := []uint64{1, 2, 3, 5, 7, 10, 1000, 65537, 1<<31 - 1, 1 << 31, 1<<32 - 1, 1 << 32, 1<<32 + 1, 1 << 48, 1<<62 - 1, 1 << 62, 1<<62 + 1, mostAll - 1, mostAll}
	r := rand.New(rand.NewSource(7))
	for range 10 {
		l = append(l, r.Uint64()>>1>>r.Intn(60)|1)
	}
	return l
}

// within are numbers from 0 to n: both ends and what lies beside them, halves, thirds, and some in between.
func within(n uint64) []uint64 {
	l := []uint64{0, n / 3, n / 2, n/2 + n%2, n - n/3, n - n/1000, n}
	if n > 0 {
		l = append(l, 1, n-1)
	}
	r := rand.New(rand.NewSource(int64(n)))
	for range 3 {
		l = append(l, r.Uint64()%(n+1))
	}
	return l
}

// rates are some of all sizes.
func rates() [][2]uint64 {
	l := [][2]uint64{{1, 20}, {1, 3}, {2, 3}, {9, 10}, {12345, 54321}}
	for _, b := range []uint64{1, 2, 3, 1000, mostB / 2, mostB - 1, mostB} {
		for _, a := range []uint64{0, 1, b / 2, b - 1, b} {
			l = append(l, [2]uint64{a, b})
		}
	}
	return l
}

// parts are stakes and rates of all sizes.
func parts() []part {
	var l []part
	for _, all := range stakes() {
		for _, stake := range within(all) {
			for _, rate := range rates() {
				l = append(l, part{stake, all, rate[0], rate[1]})
			}
		}
	}
	return l
}

// around are the lots at both ends, in the middle, and those beside a number.
func around(n uint64) []uint32 {
	l := []uint32{0, 1, 1<<31 - 1, 1 << 31, 1<<31 + 1, 1<<32 - 2, 1<<32 - 1}
	for _, m := range []uint64{n - 2, n - 1, n, n + 1} {
		if m < lots {
			l = append(l, uint32(m))
		}
	}
	return l
}

func wins(t *testing.T, n uint32, p part) bool {
	t.Helper()
	w, e := lot.Wins(n, p.stake, p.all, p.a, p.b)
	if e != api.OK {
		t.Errorf("Wins(%d, %v): %d", n, p, e)
	}
	return w
}

func least(t *testing.T, p part) uint64 {
	t.Helper()
	n, e := lot.Least(p.stake, p.all, p.a, p.b)
	if e != api.OK {
		t.Errorf("Least(%v): %d", p, e)
	}
	return n
}

func TestExamples(t *testing.T) { // P7.2, P7.3
	for _, c := range []struct {
		n    uint32
		p    part
		want bool
		e    api.Errno
	}{
		{0, part{1, 2, 1, 1}, true, api.OK},
		{1 << 31, part{1, 2, 1, 1}, false, api.OK},
		{1<<31 - 1, part{1, 2, 1, 1}, true, api.OK},
		{0, part{0, 5, 1, 1}, false, api.OK},
		{1<<32 - 1, part{5, 5, 1, 1}, true, api.OK},
		{0, part{5, 5, 0, 1}, false, api.OK},
		{0, part{2, 1, 1, 1}, false, api.ErrArg},
		{0, part{1, 1, 2, 1}, false, api.ErrArg},
		{0, part{1, 1, 1, 0}, false, api.ErrArg},
	} {
		if got, e := lot.Wins(c.n, c.p.stake, c.p.all, c.p.a, c.p.b); got != c.want || e != c.e {
			t.Errorf("Wins(%d, %v) = %t, %d, want %t, %d", c.n, c.p, got, e, c.want, c.e)
		}
	}
	if n := least(t, part{1, 3, 1, 1}); n != 1431655766 {
		t.Errorf("Least(1, 3, 1, 1) = %d", n)
	}
	if n := least(t, part{1, 2, 1, 2}); n != 1<<30 {
		t.Errorf("Least(1, 2, 1, 2) = %d", n)
	}
}

func TestLotsAndNoncesPinned(t *testing.T) { // P7.1: told by another program
	for _, c := range []struct {
		nonce api.Hash
		slot  uint64
		pool  api.Hash
		lot   uint32
		next  string
	}{
		{api.Hash{}, 0, api.Hash{}, 1344364509, "bb60709d06d3d9b57101c5ced6d17a05ade300eee73cf3af021f12685792b2a7"},
		{api.Hash{}, 1, api.Hash{}, 4152133838, "083166be170f877b9355e20db0298705001b0b0973d4aa5d1dd5bb816ee43da3"},
		{api.Hash{}, 0xffffffffffffffff, api.Hash{}, 3197744602, "5da94a725ad6c936f9e425619fe655349992d9566ec9e2b5f6d6fe0b7b936ebc"},
		{named("nonce"), 0, named("pool"), 211006518, "1fb3075b83655022036879e86f8838fb5e34927bf4afdc83aa4703d7a910b8fe"},
		{named("nonce"), 1, named("pool"), 1667454867, "585ae48afe8c76f533fa371726eb3eab7f3c253b43bd5f2056f70603dae6c6b0"},
		{named("nonce"), 255, named("pool"), 4288053111, "79dc3f9ac591a13ea89a8d729ca9565438848a4bd3d0c621358898b765d2108f"},
		{named("nonce"), 256, named("pool"), 310367484, "40c8f19d848a75a19d97ababeeca2e6c251b7c5117c434a2208ba90c151e9a15"},
		{named("nonce"), 0x100000000, named("pool"), 844979029, "db769b7519e1d887b29d7eed93bc64245d0099ebf793d6ab096956935296d308"},
		{named("nonce"), 0x8000000000000000, named("pool"), 2255926362, "23fe76a6da7bb9ccd9adf1822741dde1bd148208d8b7fa5e63c624c917ce4702"},
		{named("nonce"), 0xffffffffffffffff, named("pool"), 181005963, "1d8e4ea750de9e5117d49c12c258696e62c7ec126d2c0165c6edd915fe1bd033"},
		{named("nonce"), 0x102030405060708, named("pool"), 2051339086, "32db5a4cf06328b035acc43aa7687a3ac4ab75c0fe698ea6e34a4fefd6dbcdd6"},
		{api.Hash{31: 1}, 0, api.Hash{0: 0x80}, 294533655, "e23ed9e09138309c286af92808dc7a6f85c717a9aafc0f937a4537dfab04ffa3"},
		{api.Hash{31: 1}, 255, api.Hash{0: 0x80}, 2761933597, "5ac305451590811cc7916ddee6834e6bba26780940be4bae4c9b496752cf6cbb"},
		{api.Hash{31: 1}, 256, api.Hash{0: 0x80}, 4091799238, "ad4ba1414dc91dffe52db46cfcf84581827402f3b5180873267bc65302ea7ebd"},
		{api.Hash{31: 1}, 0x8000000000000000, api.Hash{0: 0x80}, 2614324882, "b809367b5d7e7e0ed763bc94c63b6f97cc10cc351c2fdbf05f9a336593cf6323"},
		{api.Hash{}, 0, named("pool"), 492535831, "60e746f1d5aa6414e528c85c257ff17784ebbbb8e9a7bcfd8416cd50330e1410"},
		{named("nonce"), 0, api.Hash{}, 5311203, "683ba1b7665950112b74efe0240a7bb8cb33c90bdde53f428e117da6aa89f148"},
		{api.Hash{31: 1}, 0x100000000, named("pool"), 3186289130, "da7b1d5652891cf948277230139f27a75d42b6768bb9b2212e8b623339bd4222"},
		{named("nonce"), 1, api.Hash{0: 0x80}, 1207628792, "ec023dbb8a83d35e61860d64545fa05dca8d0528babb254326a533f381119130"},
	} {
		if got := lot.Value(c.nonce, c.slot, c.pool); got != c.lot {
			t.Errorf("Value(%x, %d, %x) = %d, want %d", c.nonce, c.slot, c.pool, got, c.lot)
		}
		if got := lot.Nonce(c.nonce, c.slot, c.pool); hex.EncodeToString(got[:]) != c.next {
			t.Errorf("Nonce(%x, %d, %x) = %x, want %s", c.nonce, c.slot, c.pool, got, c.next)
		}
	}
}

func TestLotsAndNoncesByTheWords(t *testing.T) { // P7.1
	for _, nonce := range hashes() {
		for _, pool := range hashes() {
			for _, slot := range slots() {
				h := sumOf("lot", nonce, slot, pool)
				if got, want := lot.Value(nonce, slot, pool), binary.BigEndian.Uint32(h[:4]); got != want {
					t.Fatalf("Value(%x, %d, %x) = %d, want %d", nonce, slot, pool, got, want)
				}
				if got, want := lot.Nonce(nonce, slot, pool), sumOf("nonce", nonce, slot, pool); got != want {
					t.Fatalf("Nonce(%x, %d, %x) = %x, want %x", nonce, slot, pool, got, want)
				}
			}
		}
	}
}

func TestNonceAfterNonce(t *testing.T) { // P7.1: a thousand slots, told by another program
	nonce := named("nonce")
	for slot := range uint64(1000) {
		nonce = lot.Nonce(nonce, slot, named("pool"))
	}
	if got := sha.Hex(nonce); got != "f543e6f621a8235dd34fed8b1ae1dfefb74ed88d3e98e42317e5886156435195" {
		t.Errorf("a nonce that met a thousand slots is %s", got)
	}
}

func TestEachBitCounts(t *testing.T) { // P7.1: of the nonce, the slot and the pool; and which of them is which
	nonce, slot, pool := named("nonce"), uint64(0x0102030405060708), named("pool")
	value, next := lot.Value(nonce, slot, pool), lot.Nonce(nonce, slot, pool)
	other := func(name string, nonce api.Hash, slot uint64, pool api.Hash) {
		if lot.Value(nonce, slot, pool) == value {
			t.Errorf("%s: the lot is the same", name)
		}
		if lot.Nonce(nonce, slot, pool) == next {
			t.Errorf("%s: the nonce becomes the same", name)
		}
	}
	for at := range 256 {
		other("a nonce with a bit turned", turned(nonce, at), slot, pool)
		other("a pool with a bit turned", nonce, slot, turned(pool, at))
	}
	for at := range 64 {
		other("a slot with a bit turned", nonce, slot^1<<at, pool)
	}
	other("nonce and pool exchanged", pool, slot, nonce)
	if binary.BigEndian.Uint32(next[:4]) == value {
		t.Error("lot and nonce are of one sum")
	}
}

func TestWinsByTheWords(t *testing.T) { // P7.2
	for _, p := range parts() {
		for _, n := range around(p.least()) {
			if got, want := wins(t, n, p), p.wins(uint64(n)); got != want {
				t.Fatalf("Wins(%d, %v) = %t, want %t", n, p, got, want)
			}
		}
	}
}

func TestWinsOfChances(t *testing.T) { // P7.2, P7.3
	r := rand.New(rand.NewSource(8))
	for range 50000 {
		all := r.Uint64()>>1>>r.Intn(63) | 1
		b := r.Uint64()%(mostB>>r.Intn(16)) + 1
		p := part{r.Uint64() % (all + 1), all, r.Uint64() % (b + 1), b}
		n := r.Uint32() >> r.Intn(32)
		if got, want := wins(t, n, p), p.wins(uint64(n)); got != want {
			t.Fatalf("Wins(%d, %v) = %t, want %t", n, p, got, want)
		}
		if got, want := least(t, p), p.least(); got != want {
			t.Fatalf("Least(%v) = %d, want %d", p, got, want)
		}
	}
}

func TestBothSidesEqual(t *testing.T) { // P7.2: the same is not less; products within 64 bits, past 2^64, past 2^96
	for _, c := range []struct {
		n uint32
		p part
	}{
		{0, part{0, 1, 1, 1}},
		{0, part{0, mostAll, 1, mostB}},
		{0, part{mostAll, mostAll, 0, mostB}},
		{1, part{1, 1 << 32, 1, 1}},
		{1 << 31, part{1, 2, 1, 1}},
		{1 << 31, part{1, 1, 1, 2}},
		{1 << 30, part{1, 2, 1, 2}},
		{3 << 30, part{3, 4, 1, 1}},
		{1<<32 - 1, part{1<<32 - 1, 1 << 32, 1, 1}},
		{1<<32 - 1, part{1<<62 - 1<<30, 1 << 62, 1, 1}},
		{1 << 31, part{1 << 61, 1 << 62, 1, 1}},
		{1 << 15, part{1 << 61, 1 << 62, 1, 1 << 16}},
		{1 << 31, part{1 << 61, 1 << 62, 1 << 16, 1 << 16}},
		{1 << 30, part{1 << 61, 1 << 62, 1 << 15, 1 << 16}},
		{1 << 31, part{mostAll, mostAll, 1 << 15, 1 << 16}},
		{1 << 16, part{mostAll, mostAll, 1, 1 << 16}},
		{1<<32 - 1<<16, part{mostAll, mostAll, 1<<16 - 1, 1 << 16}},
	} {
		if product(uint64(c.n), c.p.all, c.p.b).Cmp(product(lots, c.p.stake, c.p.a)) != 0 {
			t.Fatalf("of the lot %d and %v the sides differ", c.n, c.p)
		}
		if wins(t, c.n, c.p) {
			t.Errorf("Wins(%d, %v), where both sides are equal", c.n, c.p)
		}
		if n := least(t, c.p); n != uint64(c.n) {
			t.Errorf("Least(%v) = %d, want %d", c.p, n, c.n)
		}
		if c.n > 0 && !wins(t, c.n-1, c.p) {
			t.Errorf("Wins(%d, %v) = false, one below both sides equal", c.n-1, c.p)
		}
		if !wins(t, c.n, part{mostAll, mostAll, 1, 1}) {
			t.Errorf("the lot %d does not win with all stake", c.n)
		}
	}
}

func TestOneMoreOrLess(t *testing.T) { // P7.2: sides that differ by their last bits alone, far above 64 bits
	for _, c := range []struct {
		n    uint32
		p    part
		want bool
	}{
		{1 << 31, part{1<<61 + 1, 1 << 62, 1, 1}, true},
		{1 << 31, part{1<<61 - 1, 1 << 62, 1, 1}, false},
		{1 << 31, part{1 << 61, 1<<62 - 1, 1, 1}, true},
		{1 << 31, part{1 << 61, 1<<62 + 1, 1, 1}, false},
		{1 << 15, part{1<<61 + 1, 1 << 62, 1, 1 << 16}, true},
		{1 << 15, part{1<<61 - 1, 1 << 62, 1, 1 << 16}, false},
		{1 << 31, part{1 << 62, mostAll, mostB, mostB}, true},
		{1 << 31, part{1<<62 - 1, mostAll, mostB, mostB}, false},
		{1<<32 - 1, part{mostAll - 1, mostAll, mostB, mostB}, true},
		{1<<32 - 1, part{mostAll - 1<<31, mostAll, mostB, mostB}, false},
		{1<<32 - 1, part{mostAll - 1<<31 + 1, mostAll, mostB, mostB}, true},
		{1<<32 - 1, part{mostAll, mostAll, mostB - 1, mostB}, false},
		{0, part{1, mostAll, 1, mostB}, true},
		{1, part{1, mostAll, 1, mostB}, false},
		{1, part{1 << 31, mostAll, 1, 1}, true},
		{1, part{1<<31 - 1, mostAll, 1, 1}, false},
	} {
		if got := wins(t, c.n, c.p); got != c.want {
			t.Errorf("Wins(%d, %v) = %t", c.n, c.p, got)
		}
	}
}

func TestLeastPinned(t *testing.T) { // P7.3: told by another program
	for _, c := range []struct{ stake, all, a, b, want uint64 }{
		{0, 1, 1, 1, 0},
		{0, 1, 0, 1, 0},
		{1, 1, 0, 1, 0},
		{1, 1, 1, 1, 4294967296},
		{1, 1, 1, 2, 2147483648},
		{1, 2, 1, 2, 1073741824},
		{1, 3, 1, 1, 1431655766},
		{2, 3, 1, 1, 2863311531},
		{1, 3, 1, 3, 477218589},
		{2, 3, 2, 3, 1908874354},
		{1, 7, 3, 10, 184070027},
		{99, 100, 1, 20, 212600882},
		{0, 1<<63 - 1, 1, 1, 0},
		{1, 1<<63 - 1, 1, 1, 1},
		{1, 1<<63 - 1, 1, 1 << 16, 1},
		{1<<31 - 1, 1<<63 - 1, 1, 1, 1},
		{1 << 31, 1<<63 - 1, 1, 1, 2},
		{1<<31 + 1, 1<<63 - 1, 1, 1, 2},
		{1 << 62, 1<<63 - 1, 1, 1, 2147483649},
		{1<<63 - 2, 1<<63 - 1, 1, 1, 4294967296},
		{1<<63 - 1 - 1<<31, 1<<63 - 1, 1, 1, 4294967295},
		{1<<63 - 2 - 1<<31, 1<<63 - 1, 1, 1, 4294967295},
		{1<<63 - 1, 1<<63 - 1, 1, 1, 4294967296},
		{1<<63 - 1, 1<<63 - 1, 0, 1 << 16, 0},
		{1<<63 - 1, 1<<63 - 1, 1, 1 << 16, 65536},
		{1<<63 - 1, 1<<63 - 1, 1<<16 - 1, 1 << 16, 4294901760},
		{1<<63 - 1, 1<<63 - 1, 1 << 16, 1 << 16, 4294967296},
		{1<<63 - 2, 1<<63 - 1, 1<<16 - 1, 1 << 16, 4294901760},
		{1 << 61, 1 << 62, 1, 1 << 16, 32768},
		{1 << 61, 1 << 62, 1<<16 - 1, 1 << 16, 2147450880},
		{1<<61 + 1, 1 << 62, 1, 1 << 16, 32769},
		{1<<61 - 1, 1 << 62, 1, 1 << 16, 32768},
		{1 << 32, 1 << 32, 1, 3, 1431655766},
		{1<<32 - 1, 1 << 32, 1, 1, 4294967295},
		{1<<32 - 1, 1 << 32, 2, 3, 2863311530},
		{1, 1 << 32, 1, 1, 1},
		{1, 1 << 32, 1, 1 << 16, 1},
		{1, 1<<32 + 1, 1, 1, 1},
		{1, 1 << 33, 1, 1, 1},
		{3, 1 << 33, 1, 1, 2},
		{6148914691236517205, 1<<63 - 1, 2, 3, 1908874354},
		{123456789012345678, 987654321098765432, 12345, 54321, 122009377},
		{1000000007, 998244353987654321, 65521, 65536, 5},
	} {
		if got, e := lot.Least(c.stake, c.all, c.a, c.b); got != c.want || e != api.OK {
			t.Errorf("Least(%d, %d, %d, %d) = %d, %d, want %d", c.stake, c.all, c.a, c.b, got, e, c.want)
		}
	}
}

func TestLeastByTheWords(t *testing.T) { // P7.3
	for _, p := range parts() {
		if got, want := least(t, p), p.least(); got != want {
			t.Fatalf("Least(%v) = %d, want %d", p, got, want)
		}
	}
}

func TestLeastIsWhereWinsEnds(t *testing.T) { // P7.3: the lot just below wins, the least itself and those above don't
	ends := map[uint64]int{}
	for _, p := range parts() {
		n := least(t, p)
		ends[n]++
		if n > lots {
			t.Fatalf("Least(%v) = %d", p, n)
		}
		for _, m := range around(n) {
			if wins(t, m, p) != (uint64(m) < n) {
				t.Fatalf("Least(%v) = %d, and Wins of %d = %t", p, n, m, uint64(m) >= n)
			}
		}
	}
	if ends[0] == 0 || ends[lots] == 0 || ends[1] == 0 || ends[lots-1] == 0 {
		t.Error("no Least at one of the ends")
	}
}

func TestWrongInputs(t *testing.T) { // P7.2, P7.3
	for _, p := range []part{
		{1, 0, 0, 1}, {2, 1, 1, 1}, {6, 5, 1, 1}, {mostAll, mostAll - 1, 1, 1}, {greatest, mostAll, 1, 1}, {1 << 63, mostAll, 1, 1}, {greatest, 1, 0, 1},
		{0, 0, 0, 1}, {0, 0, 1, 1}, {0, 0, mostB, mostB},
		{0, 1 << 63, 0, 1}, {1, 1 << 63, 1, 1}, {1 << 63, 1 << 63, 1, 1}, {1 << 62, 1 << 63, 1, 2}, {1, 1<<63 + 1, 1, 1}, {greatest, greatest, 1, 1}, {0, greatest, 0, mostB}, {1, 1 << 63, 1, mostB},
		{1, 1, 2, 1}, {0, 1, 2, 1}, {1, 2, 3, 2}, {1, 1, mostB, mostB - 1}, {1, 1, mostB + 1, mostB}, {1, 1, greatest, 1}, {1, 1, greatest, mostB}, {1, 1, 1<<32 + 1, 1}, {1, 1, 1 << 63, 1},
		{1, 1, 0, 0}, {0, 1, 0, 0}, {1, 1, 1, 0}, {1, 1, greatest, 0}, {mostAll, mostAll, 0, 0},
		{1, 1, 0, mostB + 1}, {1, 1, 1, mostB + 1}, {0, 1, 1, mostB + 1}, {1, 1, mostB + 1, mostB + 1}, {1, 1, mostB, mostB + 1}, {1, 1, 1, 1 << 32}, {1, 1, 1, 1<<32 + 1}, {1, 1, 0, greatest}, {1, 1, greatest, greatest}, {mostAll, mostAll, mostB + 1, mostB + 1},
		// Two at once, and all.
		{2, 1, 2, 1}, {2, 1, 1, 0}, {2, 1, 1, mostB + 1}, {1, 0, 2, 1}, {1, 0, 1, 1}, {0, 0, 0, 0}, {0, 0, 2, 1}, {0, 0, 1, mostB + 1},
		{greatest, 1 << 63, 1, 1}, {1, 1 << 63, 2, 1}, {1, 1 << 63, 0, 0}, {1, 1 << 63, 1, mostB + 1}, {1, 1, 1, 0}, {1, 1, mostB + 2, mostB + 1}, {greatest, greatest, greatest, greatest}, {greatest, 0, greatest, 0}, {greatest, 1 << 63, greatest, mostB + 1},
	} {
		if p.mayBe() {
			t.Fatalf("%v may be", p)
		}
		for _, n := range []uint32{0, 1, 1 << 31, 1<<32 - 1} {
			if w, e := lot.Wins(n, p.stake, p.all, p.a, p.b); w || e != api.ErrArg {
				t.Errorf("Wins(%d, %v) = %t, %d, want false, ErrArg", n, p, w, e)
			}
		}
		if n, e := lot.Least(p.stake, p.all, p.a, p.b); n != 0 || e != api.ErrArg {
			t.Errorf("Least(%v) = %d, %d, want 0, ErrArg", p, n, e)
		}
	}
}

func TestWhatMayBe(t *testing.T) { // P7.2, P7.3: each number at its edges, and one past them, with each of the others
	numbers := []uint64{0, 1, 2, mostB - 1, mostB, mostB + 1, 1 << 32, mostAll - 1, mostAll, 1 << 63, greatest}
	good, wrong := 0, 0
	for _, stake := range numbers {
		for _, all := range numbers {
			for _, a := range numbers {
				for _, b := range numbers {
					p, want := part{stake, all, a, b}, api.ErrArg
					if p.mayBe() {
						want = api.OK
						good++
					} else {
						wrong++
					}
					w, e := lot.Wins(5, stake, all, a, b)
					if e != want || w != (e == api.OK && p.wins(5)) {
						t.Errorf("Wins(5, %v) = %t, %d", p, w, e)
					}
					n, e := lot.Least(stake, all, a, b)
					if e != want || e == api.OK && n != p.least() || e != api.OK && n != 0 {
						t.Errorf("Least(%v) = %d, %d", p, n, e)
					}
				}
			}
		}
	}
	if good == 0 || wrong == 0 {
		t.Errorf("%d may be, %d may not", good, wrong)
	}
}

func TestMoreWinsMore(t *testing.T) { // P7.4
	for _, p := range parts() {
		n := p.least()
		if n == 0 || n == lots {
			continue
		}
		last := uint32(n - 1)
		for _, stake := range []uint64{p.stake + 1, p.stake + (p.all-p.stake)/2, p.all} {
			if stake <= p.all && !wins(t, last, part{stake, p.all, p.a, p.b}) {
				t.Fatalf("the lot %d wins by %v, and not with the stake %d", last, p, stake)
			}
		}
		for _, a := range []uint64{p.a + 1, p.a + (p.b-p.a)/2, p.b} {
			if a <= p.b && !wins(t, last, part{p.stake, p.all, a, p.b}) {
				t.Fatalf("the lot %d wins by %v, and not at the rate %d/%d", last, p, a, p.b)
			}
		}
		if p.b > p.a && !wins(t, last, part{p.stake, p.all, p.a, p.b - 1}) {
			t.Fatalf("the lot %d wins by %v, and not at the rate %d/%d", last, p, p.a, p.b-1)
		}
		for _, less := range within(uint64(last)) {
			if !wins(t, uint32(less), p) {
				t.Fatalf("the lot %d wins by %v, and not %d", last, p, less)
			}
		}
		if wins(t, uint32(n), part{p.stake - 1, p.all, p.a, p.b}) || wins(t, uint32(n), part{p.stake, p.all, p.a - 1, p.b}) {
			t.Fatalf("the lot %d does not win by %v, but with a lesser stake or rate", n, p)
		}
	}
}

func TestOneRateOneLot(t *testing.T) { // P7.4: rates that are the same part win the same, whatever their numbers
	for _, all := range stakes() {
		for _, stake := range within(all) {
			for _, rate := range [][2]uint64{{0, 1}, {1, 1}, {1, 2}, {2, 3}, {9, 10}} {
				p := part{stake, all, rate[0], rate[1]}
				for _, times := range []uint64{2, 3, 1000, mostB / rate[1]} {
					more := part{stake, all, times * rate[0], times * rate[1]}
					if a, b := least(t, p), least(t, more); a != b {
						t.Fatalf("Least(%v) = %d, Least(%v) = %d", p, a, more, b)
					}
				}
			}
		}
	}
}

func TestNoneAndAll(t *testing.T) { // P7.4
	for _, all := range stakes() {
		for _, n := range []uint32{0, 1, 2, 1<<31 - 1, 1 << 31, 1<<32 - 2, 1<<32 - 1} {
			for _, rate := range rates() {
				if wins(t, n, part{0, all, rate[0], rate[1]}) {
					t.Errorf("the lot %d wins without stake, of %d, at the rate %v", n, all, rate)
				}
				if !wins(t, n, part{all, all, rate[1], rate[1]}) {
					t.Errorf("the lot %d does not win with all of %d, at the rate 1 as %d/%d", n, all, rate[1], rate[1])
				}
			}
			for _, stake := range within(all) {
				for _, b := range []uint64{1, 2, 1000, mostB} {
					if wins(t, n, part{stake, all, 0, b}) {
						t.Errorf("the lot %d wins with %d of %d, at the rate 0/%d", n, stake, all, b)
					}
				}
			}
		}
	}
	for _, all := range stakes() {
		if least(t, part{all, all, mostB, mostB}) != lots || least(t, part{0, all, mostB, mostB}) != 0 || least(t, part{all, all, 0, 1}) != 0 {
			t.Errorf("Least of all, or none, of %d", all)
		}
	}
}

func TestPartsTogether(t *testing.T) { // P7.5
	same, less := 0, 0
	for _, all := range stakes() {
		for _, both := range within(all) {
			for _, one := range within(both) {
				for _, rate := range rates() {
					a, b := rate[0], rate[1]
					sum := least(t, part{one, all, a, b}) + least(t, part{both - one, all, a, b})
					switch least(t, part{both, all, a, b}) {
					case sum:
						same++
					case sum - 1:
						less++
					default:
						t.Fatalf("of %d at %v: Least of %d and %d come to %d, that of both to %d", all, rate, one, both-one, sum, least(t, part{both, all, a, b}))
					}
				}
			}
		}
	}
	if same == 0 || less == 0 {
		t.Errorf("%d are the sum, %d one less", same, less)
	}
}

func TestHowOften(t *testing.T) { // P7.1, P7.2: of the first slots of a nonce a pool wins its part; counted by another program
	for _, c := range []struct {
		p            part
		first, slots int // of the first 1000, of the first 4000
	}{
		{part{1, 1, 1, 2}, 509, 2037},
		{part{1, 3, 1, 1}, 356, 1356},
		{part{1, 2, 1, 20}, 25, 106},
		{part{99, 100, 1, 1}, 992, 3954},
		{part{1, 1000, 1, 1}, 0, 2},
	} {
		won, below := 0, least(t, c.p)
		for slot := range uint64(4000) {
			if slot == 1000 && won != c.first {
				t.Errorf("%v wins %d of 1000 slots, want %d", c.p, won, c.first)
			}
			n := lot.Value(named("nonce"), slot, named("pool"))
			if wins(t, n, c.p) {
				won++
			}
			if wins(t, n, c.p) != (uint64(n) < below) {
				t.Errorf("%v: the lot %d, and Least %d", c.p, n, below)
			}
		}
		if won != c.slots {
			t.Errorf("%v wins %d of 4000 slots, want %d", c.p, won, c.slots)
		}
	}
}

func TestAtOneTime(t *testing.T) { // R5: nothing is kept from call to call
	var wait sync.WaitGroup
	for slot := range uint64(8) {
		wait.Go(func() {
			for range 100 {
				nonce, pool := named("nonce"), named("pool")
				h, p := sumOf("lot", nonce, slot, pool), part{slot, 8, 1, slot + 1}
				n := lot.Value(nonce, slot, pool)
				if n != binary.BigEndian.Uint32(h[:4]) || lot.Nonce(nonce, slot, pool) != sumOf("nonce", nonce, slot, pool) {
					t.Errorf("the slot %d beside others: another lot or nonce", slot)
				}
				if wins(t, n, p) != p.wins(uint64(n)) || least(t, p) != p.least() {
					t.Errorf("the slot %d beside others: Wins or Least answer otherwise", slot)
				}
			}
		})
	}
	wait.Wait()
}
