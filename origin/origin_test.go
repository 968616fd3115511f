package origin_test

import (
	"bytes"
	"crypto/sha256"
	"encoding/binary"
	"encoding/hex"
	"math"
	"math/big"
	"math/rand"
	"reflect"
	"slices"
	"strconv"
	"strings"
	"sync"
	"testing"

	"mintage/api"
	"mintage/origin"
)

const (
	over      = 1 << 63 // what is one too much for a total, a pledge, a cost
	greatest  = math.MaxUint64
	places    = 8 // of parameters
	mostCoins = 32
	mostSeats = 16
	mostTrust = 32
)

// named is the sum of a name.
func named(s string) api.Hash { return sha256.Sum256([]byte(s)) }

// from is a hash of bytes 0, of which the first ones are these.
func from(first ...byte) (h api.Hash) {
	copy(h[:], first)
	return h
}

// until is a hash of bytes 0, of which the last one is this.
func until(last byte) (h api.Hash) {
	h[31] = last
	return h
}

// filled is a hash of one byte, 32 times.
func filled(b byte) api.Hash { return api.Hash(bytes.Repeat([]byte{b}, 32)) }

// begins is the sum of a name, of which the first byte is another one: such ones rise by it.
func begins(first int, name string) api.Hash {
	h := named(name)
	h[0] = byte(first)
	return h
}

func short(n uint64) string { return string(binary.AppendUvarint(nil, n)) }
func eight(n uint64) string { return string(binary.BigEndian.AppendUint64(nil, n)) }
func told(s string) string  { return short(uint64(len(s))) + s }

// plainOf is the sum of parts under a tag.
func plainOf(tag string, parts ...string) api.Hash {
	s := told(tag)
	for _, p := range parts {
		s += told(p)
	}
	return named(s)
}

// limits are from which number on, and up to which one, each parameter may be.
func limits() [places][2]uint64 {
	return [places][2]uint64{
		{0, 1099511627775}, {0, 1048575}, {0, 1099511627775}, {0, 1099511627775},
		{0, 1000}, {0, 1000}, {1, 1000}, {1, 32768},
	}
}

func plainParam(place, n uint64) api.Errno {
	if place > 7 {
		return api.ErrRange
	}
	if l := limits()[place]; n < l[0] || n > l[1] {
		return api.ErrArg
	}
	return api.OK
}

func ahead(a, b api.Hash) bool { return bytes.Compare(a[:], b[:]) < 0 }

// plainTotal is the sum of all, however great it is.
func plainTotal(o api.Origin) *big.Int {
	n := new(big.Int)
	add := func(more uint64) { n.Add(n, new(big.Int).SetUint64(more)) }
	add(o.Reserves)
	add(o.Treasury)
	for _, c := range o.Coins {
		add(c.Amount)
	}
	return n
}

// plainMay: whether an origin may be, by the chapter's words one by one.
func plainMay(o api.Origin) bool {
	may := o.K >= 1 && o.K <= 4096 && o.Epoch >= 1 && o.Epoch <= 1048576 && o.Period >= 1 && o.Period <= 1048576
	may = may && o.RateB >= 1 && o.RateB <= 65536 && o.RateA >= 1 && o.RateA <= o.RateB
	for place, n := range o.Params {
		may = may && plainParam(uint64(place), n) == api.OK
	}
	may = may && len(o.Coins) <= mostCoins && len(o.Seats) <= mostSeats && len(o.Trusts) <= mostTrust
	for _, c := range o.Coins {
		may = may && c.Amount >= 1
	}
	pools := map[api.Hash]bool{{}: true}
	for i, s := range o.Seats {
		may = may && (i == 0 || ahead(o.Seats[i-1].Pool, s.Pool)) && s.Pledge <= math.MaxInt64 && s.Cost <= math.MaxInt64 && s.Margin <= 1000
		pools[s.Pool] = true
	}
	for i, t := range o.Trusts {
		may = may && (i == 0 || ahead(o.Trusts[i-1].Key, t.Key)) && pools[t.Pool]
	}
	return may && plainTotal(o).IsInt64()
}

// piece is a part of an origin's bytes, and the number that it tells, if it tells one; most is how great it may be, if it is how many there are of a list.
type piece struct {
	text    string
	tells   bool
	number  uint64
	isCount bool
	most    uint64
}

// pieces are what the chapter puts for an origin, be it one that may be or not, one behind the other.
func pieces(o api.Origin) (l []piece) {
	number := func(all ...uint64) {
		for _, n := range all {
			l = append(l, piece{text: short(n), tells: true, number: n})
		}
	}
	hash := func(all ...api.Hash) {
		for _, h := range all {
			l = append(l, piece{text: string(h[:])})
		}
	}
	count := func(n int, most uint64) {
		l = append(l, piece{text: short(uint64(n)), tells: true, number: uint64(n), isCount: true, most: most})
	}
	number(o.K, o.Epoch, o.Period, o.RateA, o.RateB)
	number(o.Params[0], o.Params[1], o.Params[2], o.Params[3], o.Params[4], o.Params[5], o.Params[6], o.Params[7])
	number(o.Reserves, o.Treasury)
	hash(o.Nonce)
	count(len(o.Coins), mostCoins)
	for _, c := range o.Coins {
		hash(c.To, c.Stake)
		number(c.Amount)
	}
	count(len(o.Seats), mostSeats)
	for _, s := range o.Seats {
		hash(s.Pool, s.Key)
		number(s.Pledge, s.Cost, s.Margin)
	}
	count(len(o.Trusts), mostTrust)
	for _, t := range o.Trusts {
		hash(t.Key, t.Pool)
	}
	return l
}

// joined is what pieces come to.
func joined(l []piece) string {
	var b strings.Builder
	for _, p := range l {
		b.WriteString(p.text)
	}
	return b.String()
}

func plainPut(o api.Origin) string { return joined(pieces(o)) }

func plainId(o api.Origin) api.Hash { return plainOf("origin", plainPut(o)) }

// plainCoin: i as a number of 64 bits, by what is told of it below 0 too.
func plainCoin(id api.Hash, i int) api.In {
	n := new(big.Int).Mod(big.NewInt(int64(i)), new(big.Int).Lsh(big.NewInt(1), 64))
	return api.In{Tx: plainOf("coin", string(id[:]), eight(n.Uint64()))}
}

// plainTake goes from the front, and takes nothing of which the bytes are not just those that it would put.
func plainTake(s string) (o api.Origin, is bool) {
	at, good := 0, true
	text := func(n int) string {
		if !good || len(s)-at < n {
			good = false
			return strings.Repeat("\x00", n)
		}
		at += n
		return s[at-n : at]
	}
	number := func(to *uint64) {
		n, size := binary.Uvarint([]byte(s[at:]))
		good = good && size > 0
		text(max(size, 0))
		*to = n
	}
	hash := func(to *api.Hash) { *to = api.Hash([]byte(text(32))) }
	for _, to := range []*uint64{&o.K, &o.Epoch, &o.Period, &o.RateA, &o.RateB} {
		number(to)
	}
	for i := range places {
		number(&o.Params[i])
	}
	number(&o.Reserves)
	number(&o.Treasury)
	hash(&o.Nonce)
	var n uint64
	// An origin has 32 things in a list at most: what tells of more is none's.
	for number(&n); good && n > 0; n-- {
		var c api.Out
		hash(&c.To)
		hash(&c.Stake)
		number(&c.Amount)
		o.Coins = append(o.Coins, c)
		good = good && len(o.Coins) <= 32
	}
	for number(&n); good && n > 0; n-- {
		var x api.Seat
		hash(&x.Pool)
		hash(&x.Key)
		number(&x.Pledge)
		number(&x.Cost)
		number(&x.Margin)
		o.Seats = append(o.Seats, x)
		good = good && len(o.Seats) <= 32
	}
	for number(&n); good && n > 0; n-- {
		var x api.Trust
		hash(&x.Key)
		hash(&x.Pool)
		o.Trusts = append(o.Trusts, x)
		good = good && len(o.Trusts) <= 32
	}
	if !good || !plainMay(o) || plainPut(o) != s {
		return api.Origin{}, false
	}
	return o, true
}

// alike: whether two origins are the same, field by field; none and an empty list are.
func alike(a, b api.Origin) bool {
	full := func(o api.Origin) api.Origin {
		o.Coins, o.Seats, o.Trusts = append([]api.Out{}, o.Coins...), append([]api.Seat{}, o.Seats...), append([]api.Trust{}, o.Trusts...)
		return o
	}
	return reflect.DeepEqual(full(a), full(b))
}

// copied is an origin that shares no list with the one that it is of.
func copied(o api.Origin) api.Origin {
	o.Coins, o.Seats, o.Trusts = slices.Clone(o.Coins), slices.Clone(o.Seats), slices.Clone(o.Trusts)
	return o
}

// least is an origin of which every number is the least that may be, and that has nothing else.
func least() api.Origin {
	return api.Origin{K: 1, Epoch: 1, Period: 1, RateA: 1, RateB: 1, Params: api.Params{6: 1, 7: 1}}
}

// some has a few things in each list; nobody trusts the seat in the middle.
func some() api.Origin {
	return api.Origin{
		K: 2, Epoch: 10, Period: 200, RateA: 9, RateB: 10,
		Params:   api.Params{10, 1, 2000, 500000, 100, 500, 5, 30000},
		Reserves: 1000, Treasury: 127, Nonce: named("nonce"),
		Coins: []api.Out{{To: named("to"), Stake: named("stake"), Amount: 300}, {To: named("to"), Amount: 1}, {To: named("other"), Stake: named("stake"), Amount: 1 << 40}},
		Seats: []api.Seat{
			{Pool: from(1, 2), Key: named("key"), Pledge: 128, Cost: 3, Margin: 1000},
			{Pool: from(1, 3), Key: named("key"), Pledge: 0, Cost: over - 1, Margin: 0},
			{Pool: from(200), Key: named("another key"), Pledge: over - 1, Cost: 0, Margin: 50},
		},
		Trusts: []api.Trust{{Key: until(1), Pool: from(200)}, {Key: from(1), Pool: api.Hash{}}, {Key: from(2), Pool: from(1, 2)}, {Key: filled(255), Pool: from(200)}},
	}
}

// most has as many things as may be, and each number as great as it may be: its total is 2^63 - 1.
func most() api.Origin {
	o := api.Origin{
		K: 4096, Epoch: 1048576, Period: 1048576, RateA: 65536, RateB: 65536,
		Params:   api.Params{1099511627775, 1048575, 1099511627775, 1099511627775, 1000, 1000, 1000, 32768},
		Reserves: 1 << 62, Treasury: 1 << 61, Nonce: filled(255),
	}
	for i := range mostCoins {
		o.Coins = append(o.Coins, api.Out{To: filled(byte(i)), Stake: filled(255 - byte(i)), Amount: 1 << 56})
	}
	o.Coins[31].Amount = 1<<61 - 31<<56 - 1
	for i := range mostSeats {
		o.Seats = append(o.Seats, api.Seat{Pool: filled(16 * byte(i)), Key: filled(255), Pledge: over - 1, Cost: over - 1, Margin: 1000})
	}
	for i := range mostTrust {
		o.Trusts = append(o.Trusts, api.Trust{Key: filled(8 * byte(i)), Pool: o.Seats[i%8].Pool})
	}
	return o
}

// bases are origins that may be.
func bases() map[string]api.Origin {
	return map[string]api.Origin{"least": least(), "some": some(), "most": most()}
}

// holdTake holds what is taken of bytes against the chapter's words, and tells whether they are an origin's.
func holdTake(t *testing.T, name, s string) bool {
	t.Helper()
	want, is := plainTake(s)
	got, e := origin.Take(s)
	if !is {
		if e != api.ErrBytes || !reflect.DeepEqual(got, api.Origin{}) {
			t.Errorf("%s: Take of %d bytes: %v, %d, want ErrBytes", name, len(s), got, e)
		}
		return false
	}
	if e != api.OK || !alike(got, want) || origin.May(got) != api.OK {
		t.Errorf("%s: Take of %d bytes: %v, %d, want %v", name, len(s), got, e, want)
	}
	if back, e := origin.Put(got); back != s || e != api.OK {
		t.Errorf("%s: Put of Take: %x, %d, want %x", name, back, e, s)
	}
	return true
}

// isNone says that bytes are no origin's, by hand as well.
func isNone(t *testing.T, name, s string) {
	t.Helper()
	if holdTake(t, name, s) {
		t.Errorf("%s: %d bytes are an origin's", name, len(s))
	}
}

// hold holds all that is told of an origin against the chapter's words; may is whether it may be, by hand as well.
func hold(t *testing.T, name string, o api.Origin, may bool) {
	t.Helper()
	was := copied(o)
	if plainMay(o) != may {
		t.Fatal(name, "the test is not sure whether it may be")
	}
	want, put, id, total := api.ErrArg, "", api.Hash{}, uint64(0)
	if may {
		want, put, id, total = api.OK, plainPut(o), plainId(o), plainTotal(o).Uint64()
	}
	if e := origin.May(o); e != want {
		t.Errorf("%s: May %d, want %d", name, e, want)
	}
	if s, e := origin.Put(o); s != put || e != want {
		t.Errorf("%s: Put %x, %d, want %x, %d", name, s, e, put, want)
	}
	if h, e := origin.Id(o); h != id || e != want {
		t.Errorf("%s: Id %x, %d, want %x, %d", name, h, e, id, want)
	}
	if n, e := origin.Total(o); n != total || e != want || n >= over {
		t.Errorf("%s: Total %d, %d, want %d, %d", name, n, e, total, want)
	}
	if got, e := origin.Take(plainPut(o)); may && (e != api.OK || !alike(got, o)) || !may && (e != api.ErrBytes || !reflect.DeepEqual(got, api.Origin{})) {
		t.Errorf("%s: Take of its bytes: %v, %d", name, got, e)
	}
	holdTake(t, name, plainPut(o))
	if !reflect.DeepEqual(o, was) {
		t.Error(name, "has become another one")
	}
}

// P16.1, P16.2: the chapter's examples.
func TestExamples(t *testing.T) {
	for _, c := range []struct {
		place, n uint64
		want     api.Errno
	}{{4, 1000, api.OK}, {4, 1001, api.ErrArg}, {6, 0, api.ErrArg}, {8, 0, api.ErrRange}} {
		if e := origin.Param(c.place, c.n); e != c.want {
			t.Error(c.place, c.n, e)
		}
	}
	if e := origin.May(api.Origin{}); e != api.ErrArg {
		t.Error("May of the zero origin", e)
	}
	o := api.Origin{K: 1, Epoch: 1, Period: 1, RateA: 1, RateB: 1, Reserves: 5}
	o.Params[api.ParWish], o.Params[api.ParBody] = 1, 1
	if n, e := origin.Total(o); n != 5 || e != api.OK {
		t.Error("Total", n, e)
	}
}

// around are numbers at which something may become otherwise: those that are told, one beside each, 0, 2^64 - 1, and all powers of two with one beside each.
func around(l ...uint64) (all []uint64) {
	l = append(l, 0, greatest)
	for i := range 64 {
		l = append(l, 1<<i)
	}
	for _, n := range l {
		all = append(all, n-1, n, n+1)
	}
	return all
}

// P16.1: each parameter at the least and the greatest number that it may be, and one beside each, at 0 and at 2^64 - 1.
func TestParam(t *testing.T) {
	for place, c := range [places]struct {
		least, most uint64
		zero        api.Errno
	}{
		api.ParFeeBase:     {0, 1<<40 - 1, api.OK},
		api.ParFeeByte:     {0, 1<<20 - 1, api.OK},
		api.ParKeyDeposit:  {0, 1<<40 - 1, api.OK},
		api.ParPoolDeposit: {0, 1<<40 - 1, api.OK},
		api.ParGrow:        {0, 1000, api.OK},
		api.ParCut:         {0, 1000, api.OK},
		api.ParWish:        {1, 1000, api.ErrArg},
		api.ParBody:        {1, 32768, api.ErrArg},
	} {
		at := uint64(place)
		for n, want := range map[uint64]api.Errno{0: c.zero, c.least: api.OK, c.least + 1: api.OK, c.most - 1: api.OK, c.most: api.OK, c.most + 1: api.ErrArg, over - 1: api.ErrArg, over: api.ErrArg, greatest - 1: api.ErrArg, greatest: api.ErrArg} {
			if e := origin.Param(at, n); e != want {
				t.Error(place, n, e, "want", want)
			}
		}
		// One less than 0 is 2^64 - 1.
		if e := origin.Param(at, c.least-1); e != api.ErrArg {
			t.Error(place, c.least-1, e)
		}
		for _, n := range around(c.least, c.most, 1000, 32768, 1<<20, 1<<40) {
			if e := origin.Param(at, n); e != plainParam(at, n) {
				t.Error(place, n, e)
			}
		}
	}
}

// P16.1: of places that are none ErrRange goes ahead, whatever the number is.
func TestNoParam(t *testing.T) {
	for _, place := range []uint64{8, 9, 10, 15, 16, 63, 64, 128, 255, 256, 256 + 6, 1<<16 + 4, 1<<31 + 1, 1 << 32, 1<<32 + 7, 1<<63 - 1, 1 << 63, 1<<63 + 5, greatest - 7, greatest - 1, greatest} {
		for _, n := range around(5, 1000, 32768) {
			if e := origin.Param(place, n); e != api.ErrRange {
				t.Error(place, n, e)
			}
		}
	}
}

// P16.1: an origin of which one parameter alone is another one may be just if Param takes that.
func TestParamOfOrigin(t *testing.T) {
	for base, of := range bases() {
		for place, l := range limits() {
			for _, n := range around(l[0], l[1], 1000, 32768) {
				o := of
				o.Params[place] = n
				want := origin.Param(uint64(place), n)
				if e := origin.May(o); e != want || want == api.ErrRange {
					t.Error(base, place, n, e)
				}
			}
			o := of
			o.Params[place] = l[1] + 1
			hold(t, base+" above at "+strconv.Itoa(place), o, false)
			o.Params[place] = l[0] - 1
			hold(t, base+" below at "+strconv.Itoa(place), o, false)
			for other, l := range limits() {
				if other != place {
					o.Params[other] = l[0] - 1
				}
			}
			hold(t, base+" all below", o, false)
		}
	}
}

// edge is what is made of an origin that may be, and whether it may be then.
type edge struct {
	name   string
	change func(o *api.Origin)
	may    bool
}

func numberEdges() (l []edge) {
	for _, c := range []struct {
		name string
		of   func(o *api.Origin) *uint64
		most uint64
	}{
		{"k", func(o *api.Origin) *uint64 { return &o.K }, 4096},
		{"epoch", func(o *api.Origin) *uint64 { return &o.Epoch }, 1 << 20},
		{"period", func(o *api.Origin) *uint64 { return &o.Period }, 1 << 20},
	} {
		at := func(n uint64, may bool) {
			l = append(l, edge{c.name + " " + strconv.FormatUint(n, 10), func(o *api.Origin) { *c.of(o) = n }, may})
		}
		at(0, false)
		at(1, true)
		at(2, true)
		at(c.most-1, true)
		at(c.most, true)
		at(c.most+1, false)
		at(1<<32+1, false)
		at(over-1, false)
		at(over, false)
		at(over+1, false)
		at(greatest, false)
	}
	return append(l, rateEdges()...)
}

func rateEdges() (l []edge) {
	rate := func(a, b uint64, may bool) {
		name := "rate " + strconv.FormatUint(a, 10) + "/" + strconv.FormatUint(b, 10)
		l = append(l, edge{name, func(o *api.Origin) { o.RateA, o.RateB = a, b }, may})
	}
	rate(0, 0, false)
	rate(1, 0, false)
	rate(0, 1, false)
	rate(1, 1, true)
	rate(2, 1, false)
	rate(greatest, 1, false)
	for _, b := range []uint64{2, 10, 65535, 65536} {
		rate(0, b, false)
		rate(1, b, true)
		rate(b-1, b, true)
		rate(b, b, true)
		rate(b+1, b, false)
		rate(over, b, false)
		rate(greatest, b, false)
	}
	for _, b := range []uint64{65537, 1 << 17, 1<<32 + 1, over - 1, over, greatest} {
		rate(0, b, false)
		rate(1, b, false)
		rate(65536, b, false)
		rate(b-1, b, false)
		rate(b, b, false)
		rate(b+1, b, false)
	}
	return l
}

// coinsOf are n coins that are alike.
func coinsOf(n int, amount uint64) []api.Out {
	return slices.Repeat([]api.Out{{To: named("to"), Stake: named("stake"), Amount: amount}}, n)
}

// withCoins makes the coins all that an origin has.
func withCoins(l ...api.Out) func(*api.Origin) {
	return func(o *api.Origin) { o.Reserves, o.Treasury, o.Coins = 0, 0, l }
}

func coinEdges() (l []edge) {
	for _, n := range []int{0, 1, 2, 31, 32} {
		l = append(l, edge{strconv.Itoa(n) + " coins", withCoins(coinsOf(n, 9)...), true})
	}
	for _, n := range []int{33, 34, 64, 256, 256 + 32} {
		l = append(l, edge{strconv.Itoa(n) + " coins", withCoins(coinsOf(n, 9)...), false})
	}
	for _, n := range []int{1, 2, 3, 32} {
		for _, at := range []int{0, n / 2, n - 1} {
			all := coinsOf(n, 9)
			all[at].Amount = 0
			l = append(l, edge{"an amount 0 at " + strconv.Itoa(at) + " of " + strconv.Itoa(n), withCoins(all...), false})
			one := coinsOf(n, 9)
			one[at].Amount = 1
			l = append(l, edge{"an amount 1 at " + strconv.Itoa(at) + " of " + strconv.Itoa(n), withCoins(one...), true})
		}
	}
	return append(l,
		edge{"empty coins", func(o *api.Origin) { o.Coins = []api.Out{} }, true},
		edge{"a zero coin", withCoins(api.Out{}), false},
		edge{"a coin to noughts", withCoins(api.Out{Amount: 1}), true},
		edge{"coins whose keys fall", withCoins(api.Out{To: from(2), Stake: from(2), Amount: 2}, api.Out{To: from(1), Stake: from(1), Amount: 1}), true},
		edge{"coins alike", withCoins(api.Out{To: from(2), Amount: 2}, api.Out{To: from(2), Amount: 2}), true},
	)
}

// totalEdges are those of the sum of all that there is.
func totalEdges() (l []edge) {
	of := func(name string, may bool, reserves, treasury uint64, amounts ...uint64) {
		l = append(l, edge{name, func(o *api.Origin) {
			o.Reserves, o.Treasury, o.Coins = reserves, treasury, nil
			for _, n := range amounts {
				o.Coins = append(o.Coins, api.Out{To: named("to"), Amount: n})
			}
		}, may})
	}
	const half = 1 << 62
	of("nothing", true, 0, 0)
	of("reserves 2^63 - 1", true, over-1, 0)
	of("reserves 2^63", false, over, 0)
	of("reserves 2^63 + 1", false, over+1, 0)
	of("reserves 2^64 - 1", false, greatest, 0)
	of("treasury 2^63 - 1", true, 0, over-1)
	of("treasury 2^63", false, 0, over)
	of("treasury 2^64 - 1", false, 0, greatest)
	of("an amount 2^63 - 1", true, 0, 0, over-1)
	of("an amount 2^63", false, 0, 0, over)
	of("an amount 2^64 - 1", false, 0, 0, greatest)
	of("the first amount 2^63 - 1", false, 0, 0, over-1, 1)
	of("the last amount 2^63 - 1", false, 0, 0, 1, over-1)
	of("amounts 2^63 - 1 together", true, 0, 0, half, half-1)
	of("amounts 2^63 together", false, 0, 0, half, half)
	of("reserves and treasury 2^63 - 1", true, half, half-1)
	of("reserves and treasury 2^63", false, half, half)
	of("all three 2^63 - 1", true, half, half-2, 1)
	of("all three 2^63", false, half, half-1, 1)
	of("all three 2^63 by the treasury", false, half-1, half, 1)
	of("all three 2^63 by an amount", false, half-1, half-1, 2)
	of("32 amounts 2^63 - 1 together", true, 0, 0, append(slices.Repeat([]uint64{1 << 58}, 31), 1<<58-1)...)
	of("32 amounts 2^63 together", false, 0, 0, slices.Repeat([]uint64{1 << 58}, 32)...)
	// These would be small again.
	of("reserves and treasury 2^64", false, over, over)
	of("reserves and treasury 2^64 + 1", false, greatest, 2)
	of("reserves and an amount 2^64 + 1", false, greatest, 0, 2)
	of("treasury and an amount 2^64 + 1", false, 0, greatest, 2)
	of("two amounts 2^64 + 1", false, 0, 0, greatest, 2)
	of("two amounts 2^64", false, 0, 0, over, over)
	of("the last amount makes it 2^64", false, over-2, 1, 1, over)
	of("32 amounts 2^64", false, 0, 0, slices.Repeat([]uint64{1 << 59}, 32)...)
	of("32 amounts 2^64 and reserves", false, 5, 0, slices.Repeat([]uint64{1 << 59}, 32)...)
	of("32 amounts 2^68 - 32", false, 0, 0, slices.Repeat([]uint64{over - 1}, 32)...)
	of("three amounts 2^65 + 3", false, 0, 0, greatest, greatest, 5)
	return l
}

// withSeats makes these the seats; nobody trusts them.
func withSeats(l ...api.Seat) func(*api.Origin) {
	return func(o *api.Origin) { o.Seats, o.Trusts = l, nil }
}

// pools are seats of these pools, nobody trusts them.
func pools(l ...api.Hash) func(*api.Origin) {
	var all []api.Seat
	for i, h := range l {
		all = append(all, api.Seat{Pool: h, Key: named("key"), Margin: uint64(9 * i)})
	}
	return withSeats(all...)
}

// rising are n hashes that rise.
func rising(n int) (l []api.Hash) {
	for i := range n {
		l = append(l, begins(i, "rising"+strconv.Itoa(i)))
	}
	return l
}

// order is hashes, and whether they rise, none twice.
type order struct {
	name  string
	l     []api.Hash
	rises bool
}

func orders() (l []order) {
	of := func(name string, rises bool, all ...api.Hash) { l = append(l, order{name, all, rises}) }
	a, b := named("a"), named("b") // b stands ahead of a
	middle := filled(7)
	more, fewer := middle, middle
	more[15]++
	fewer[15]--
	of("noughts", true, api.Hash{})
	of("noughts twice", false, api.Hash{}, api.Hash{})
	of("noughts ahead", true, api.Hash{}, until(1))
	of("noughts behind", false, until(1), api.Hash{})
	of("rise", true, b, a)
	of("fall", false, a, b)
	of("alike", false, a, a)
	of("alike with one between", false, b, a, b)
	of("only the last byte is otherwise, rising", true, until(1), until(2))
	of("only the last byte is otherwise, rising above 127", true, until(127), until(128))
	of("only the last byte is otherwise, falling", false, until(2), until(1))
	of("only the last byte is otherwise, falling from above 127", false, until(255), until(127))
	of("only the first byte is otherwise, rising above 127", true, from(127), from(128))
	of("only the first byte is otherwise, falling", false, from(128), from(127))
	of("only a middle byte is otherwise, rising", true, fewer, middle, more)
	of("only a middle byte is otherwise, falling", false, more, middle)
	of("the first byte rises, the last one falls", true, until(255), from(1))
	of("the first byte falls, the last one rises", false, from(1), until(255))
	of("the last two alike", false, from(1), from(2), from(3), from(3))
	of("the last two fall", false, from(1), from(2), from(4), from(3))
	of("the first two alike", false, from(1), from(1), from(2), from(3))
	of("the first two fall", false, from(2), from(1), from(3), from(4))
	of("the first and the last fall", false, from(2), from(3), from(1))
	return l
}

func seatEdges() (l []edge) {
	for _, x := range orders() {
		l = append(l, edge{"pools: " + x.name, pools(x.l...), x.rises})
	}
	for _, n := range []int{0, 1, 2, 15, 16} {
		l = append(l, edge{strconv.Itoa(n) + " seats", pools(rising(n)...), true})
	}
	for _, n := range []int{17, 18, 32, 256} {
		l = append(l, edge{strconv.Itoa(n) + " seats", pools(rising(n)...), false})
	}
	// Each number at each place of a few seats.
	for at := range 3 {
		of := func(name string, may bool, change func(s *api.Seat)) {
			all := []api.Seat{{Pool: from(1)}, {Pool: from(2)}, {Pool: from(3)}}
			change(&all[at])
			l = append(l, edge{name + " at " + strconv.Itoa(at), withSeats(all...), may})
		}
		of("pledge 2^63 - 1", true, func(s *api.Seat) { s.Pledge = over - 1 })
		of("pledge 2^63", false, func(s *api.Seat) { s.Pledge = over })
		of("pledge 2^64 - 1", false, func(s *api.Seat) { s.Pledge = greatest })
		of("cost 2^63 - 1", true, func(s *api.Seat) { s.Cost = over - 1 })
		of("cost 2^63", false, func(s *api.Seat) { s.Cost = over })
		of("cost 2^64 - 1", false, func(s *api.Seat) { s.Cost = greatest })
		of("margin 1000", true, func(s *api.Seat) { s.Margin = 1000 })
		of("margin 1001", false, func(s *api.Seat) { s.Margin = 1001 })
		of("margin 2^63", false, func(s *api.Seat) { s.Margin = over })
		of("margin 2^64 - 1", false, func(s *api.Seat) { s.Margin = greatest })
		of("all at their most", true, func(s *api.Seat) { s.Pledge, s.Cost, s.Margin = over-1, over-1, 1000 })
		of("a key of noughts", true, func(s *api.Seat) { s.Key = api.Hash{} })
		of("a key that is a pool", true, func(s *api.Seat) { s.Key = from(2) })
	}
	keys := func(a, b api.Hash) func(*api.Origin) {
		return withSeats(api.Seat{Pool: from(1), Key: a}, api.Seat{Pool: from(2), Key: b})
	}
	return append(l,
		edge{"empty seats", withSeats([]api.Seat{}...), true},
		edge{"the zero seat", withSeats(api.Seat{}), true},
		edge{"keys that fall", keys(from(2), from(1)), true},
		edge{"keys alike", keys(from(1), from(1)), true},
	)
}

// trusting makes these keys trust noughts.
func trusting(l ...api.Hash) func(*api.Origin) {
	return func(o *api.Origin) {
		o.Trusts = nil
		for _, h := range l {
			o.Trusts = append(o.Trusts, api.Trust{Key: h})
		}
	}
}

func trustEdges() (l []edge) {
	for _, x := range orders() {
		l = append(l, edge{"keys: " + x.name, trusting(x.l...), x.rises})
	}
	for _, n := range []int{0, 1, 2, 31, 32} {
		l = append(l, edge{strconv.Itoa(n) + " trusts", trusting(rising(n)...), true})
	}
	for _, n := range []int{33, 34, 64, 256} {
		l = append(l, edge{strconv.Itoa(n) + " trusts", trusting(rising(n)...), false})
	}
	// Whom somebody trusts, at each place of a few.
	seats := []api.Hash{until(5), from(1), from(2), filled(200)}
	for at := range 3 {
		of := func(name string, may bool, pool api.Hash) {
			l = append(l, edge{"trusts " + name + " at " + strconv.Itoa(at), func(o *api.Origin) {
				pools(seats...)(o)
				trusting(from(1), from(2), from(3))(o)
				o.Trusts[0].Pool, o.Trusts[1].Pool, o.Trusts[2].Pool = seats[2], seats[1], seats[2]
				o.Trusts[at].Pool = pool
			}, may})
		}
		nearly := seats[3]
		nearly[31]++
		of("noughts", true, api.Hash{})
		of("the first seat's", true, seats[0])
		of("a middle one's", true, seats[1])
		of("the last one's", true, seats[3])
		of("none's", false, named("none"))
		of("none's, nearly noughts", false, until(1))
		of("none's, nearly the last one's", false, nearly)
		of("a seat's key", false, named("key"))
		of("an account", false, from(3))
	}
	return append(l,
		edge{"empty trusts", func(o *api.Origin) { o.Trusts = []api.Trust{} }, true},
		edge{"the zero trust", trusting(api.Hash{}), true},
		edge{"trusts a pool, there is no seat", func(o *api.Origin) { o.Seats, o.Trusts = nil, []api.Trust{{Pool: from(1)}} }, false},
		edge{"trusts noughts, there is no seat", func(o *api.Origin) { o.Seats, o.Trusts = nil, []api.Trust{{Key: from(1)}} }, true},
		edge{"trusts noughts, which are a pool", func(o *api.Origin) { o.Seats, o.Trusts = []api.Seat{{}}, []api.Trust{{Key: from(1)}} }, true},
		edge{"all trust the 16th pool", func(o *api.Origin) {
			pools(rising(16)...)(o)
			trusting(rising(32)...)(o)
			for i := range o.Trusts {
				o.Trusts[i].Pool = o.Seats[15].Pool
			}
		}, true},
		edge{"a key that is a pool", func(o *api.Origin) {
			o.Seats, o.Trusts = []api.Seat{{Pool: from(1)}}, []api.Trust{{Key: from(1), Pool: from(1)}}
		}, true},
	)
}

// edges are of kinds of which none makes a difference to another one: one of seats takes away who trusts them.
func edges() [][]edge {
	return [][]edge{numberEdges(), append(coinEdges(), totalEdges()...), seatEdges(), trustEdges()}
}

// P16.1, P16.2, P16.4: the edges that the chapter names, each in an origin that has nothing beside it, in one that has some things, in one that has as much as may be.
func TestEdges(t *testing.T) {
	for base, of := range bases() {
		hold(t, base, of, true)
		for _, l := range edges() {
			for _, x := range l {
				o := copied(of)
				x.change(&o)
				hold(t, base+": "+x.name, o, x.may)
			}
		}
	}
}

// P16.1: two edges at a time: an origin may be if both may be.
func TestTwoEdges(t *testing.T) {
	all := edges()
	for i, l := range all {
		for j := range i {
			if i == 3 && j == 2 {
				continue // whom somebody trusts hangs on the seats
			}
			for k, x := range l {
				y := all[j][k%len(all[j])]
				o := most()
				y.change(&o)
				x.change(&o)
				want := api.ErrArg
				if x.may && y.may {
					want = api.OK
				}
				if e := origin.May(o); e != want {
					t.Error(x.name, y.name, e)
				}
			}
		}
	}
}

// P16.1, R1: lists of a great many things, of which each may be.
func TestLongLists(t *testing.T) {
	const many = 1 << 16
	spread := func(i int) api.Hash { return from(byte(i>>16), byte(i>>8), byte(i)) }
	for name, change := range map[string]func(o *api.Origin){
		"coins": withCoins(coinsOf(many, 1)...),
		"seats": func(o *api.Origin) {
			for i := range many {
				o.Seats = append(o.Seats, api.Seat{Pool: spread(i + 1)})
			}
		},
		"trusts": func(o *api.Origin) {
			for i := range many {
				o.Trusts = append(o.Trusts, api.Trust{Key: spread(i)})
			}
		},
	} {
		o := least()
		change(&o)
		hold(t, name, o, false)
	}
}

// P16.2: the bytes of an origin that has one thing in each list, written out.
func TestBytesWrittenOut(t *testing.T) {
	o := api.Origin{
		K: 3, Epoch: 300, Period: 1 << 20, RateA: 127, RateB: 128,
		Params:   api.Params{16384, 4, 5, 1<<40 - 1, 6, 1000, 7, 32768},
		Reserves: 1 << 62, Treasury: 129, Nonce: filled('n'),
		Coins:  []api.Out{{To: filled('t'), Stake: filled('s'), Amount: 1<<62 - 130}},
		Seats:  []api.Seat{{Pool: filled('p'), Key: filled('k'), Pledge: 1<<63 - 1, Cost: 9, Margin: 255}},
		Trusts: []api.Trust{{Key: filled('y'), Pool: filled('p')}},
	}
	of := func(s string) string { return strings.Repeat(s, 32) }
	want := "\x03" + "\xac\x02" + "\x80\x80\x40" + "\x7f" + "\x80\x01" +
		"\x80\x80\x01" + "\x04" + "\x05" + "\xff\xff\xff\xff\xff\x1f" + "\x06" + "\xe8\x07" + "\x07" + "\x80\x80\x02" +
		"\x80\x80\x80\x80\x80\x80\x80\x80\x40" + "\x81\x01" + of("n") +
		"\x01" + of("t") + of("s") + "\xfe\xfe\xff\xff\xff\xff\xff\xff\x3f" +
		"\x01" + of("p") + of("k") + "\xff\xff\xff\xff\xff\xff\xff\xff\x7f" + "\x09" + "\xff\x01" +
		"\x01" + of("y") + of("p")
	if s, e := origin.Put(o); s != want || e != api.OK {
		t.Errorf("Put %x, %d, want %x", s, e, want)
	}
	if got, e := origin.Take(want); !alike(got, o) || e != api.OK {
		t.Error("Take", got, e)
	}
	if h, e := origin.Id(o); h != named("\x06origin"+short(uint64(len(want)))+want) || e != api.OK {
		t.Errorf("Id %x, %d", h, e)
	}
	if n, e := origin.Total(o); n != 1<<63-1 || e != api.OK {
		t.Error("Total", n, e)
	}
	bare := "\x01\x01\x01\x01\x01" + "\x00\x00\x00\x00\x00\x00\x01\x01" + "\x00\x00" + of("\x00") + "\x00\x00\x00"
	if s, e := origin.Put(least()); s != bare || e != api.OK {
		t.Errorf("Put of the least one %x, %d", s, e)
	}
	if got, e := origin.Take(bare); !alike(got, least()) || e != api.OK {
		t.Error("Take of the least one", got, e)
	}
}

// numbered is an origin that hangs on i alone; another program made the same ones.
func numbered(i int) api.Origin {
	power := func(n, by uint64) uint64 {
		p := uint64(1)
		for range by {
			p *= n
		}
		return p
	}
	n, seats := uint64(i), i%17
	o := api.Origin{
		K: 1 + 37*n%4096, Epoch: 1 + 1000*n, Period: 1 + 500*n, RateA: 1 + 50*n, RateB: 1 + 100*n,
		Params:   api.Params{1000 * n, 7 * n, n << 30, 3000000000 * n, 31 * n % 1001, 300 * n % 1001, 1 + 77*n%1000, 1 + 999*n%32768},
		Reserves: power(n, 11) % (1 << 60), Treasury: 1<<60 - n, Nonce: named("nonce" + strconv.Itoa(i)),
	}
	pool := func(j int) api.Hash { return begins(j, "pool"+strconv.Itoa(j)) }
	for j := range i % 33 {
		s := strconv.Itoa(j)
		c := api.Out{To: named("to" + s), Amount: 1 + power(uint64(j), 9)*n}
		if j%2 == 1 {
			c.Stake = named("stake" + s)
		}
		o.Coins = append(o.Coins, c)
		x := api.Trust{Key: begins(3*j, "trust"+s)}
		if j%3 != 0 && seats > 0 {
			x.Pool = pool(j % seats)
		}
		o.Trusts = append(o.Trusts, x)
	}
	for j := range seats {
		k := uint64(j)
		o.Seats = append(o.Seats, api.Seat{Pool: pool(j), Key: named("key" + strconv.Itoa(j)), Pledge: power(100, k) % (1 << 63), Cost: power(10, k), Margin: 10 * k * n % 1001})
	}
	return o
}

// coinPlaces are those at which spots are told below.
func coinPlaces() []int { return []int{0, 1, 31, -1, math.MinInt64, math.MaxInt64} }

// P16.2, P16.3: told by another program: how many bytes there are, the total, the sum of the bytes, the id, the sum of spots' hashes, one behind the other.
func TestPinned(t *testing.T) {
	for _, c := range []struct {
		i, size        int
		total          uint64
		put, id, spots string
	}{
		{0, 58, 1152921504606846976, "6c41b223cf92cd1574701a9bc66b747b0e4fd9891c61fbd29d92593447dcc051", "7a6d90d750e784f3b9c9b4bd12705ebd7aaa23644b7ca6261ca73ddaf6609df0", "c9af2b3ef6d72c443975d7815f65556b83f68e58ca749d6b84d4442e264d506d"},
		{1, 267, 1152921504606846977, "8eb7be624c2ae91af54c6be402b51d77a604b7af5ea4e09233427a7ec5a945c2", "9144069032da9f455f79030cd69543fe361058bce2f2ff3af2b2b3b52be1a3be", "7b41482537158cd7571c4e21893aed8fd9b65eeffb29089181ca38a226283fad"},
		{2, 466, 1152921504606849026, "eb7d8be6b77c278a48255f654551dc118b2e8d6483e22ba9450639c253344e48", "06c8678adec1c57644902f2f5ea8e9e2c01521bd8055b39818c13a81af50fb1b", "21ce3b660aeff5c6e5599fb0a09a865bac193d85d452dd8789717bdf3e626426"},
		{5, 1074, 1152921504657086801, "bd4096ac4d1265ff1ebbdac887cf2c0806b062b4d9fb9ceddd5a40cd4ff646d1", "800d97eb6501ba804d3e93f2a4e95b08df4f07d546aef645650b7a1e26a03e98", "01102c530b982320a5c402894098d8fe18377ef1329ce7fadbb037d9050c7d12"},
		{15, 3201, 1152930759726394126, "9406cfedbd0da8cf27e842350117559d6ba95caa23d73857d8a73c00f5400ea9", "dc25f9c20fd66bdadb5a5cd7f0fac9728e2325c1e3147d752e15db259562a2dc", "6842d0f93d4aef0deec3d145bf23521430658ec32fa712a088847caf66d9ffbe"},
		{16, 3418, 1152940357607908352, "e12785071c91e9359da120bad4aa882fa2156e665b036a566fd5f9716f347253", "da0693e4c5953376114da306ef56fe7cced751751b189db91fabbdfe93b1cb83", "6aef245ed71b355431534c133c9bdb7b119c7d0c6900318883e18222aed92ccb"},
		{17, 2336, 1152958284350214641, "56a27cbd75276357db6350ea6e8db90c5050f1b1773d52db5e9d0faba713b872", "aefcf7eb08d3eba11867e25ce547564a0f9870f77c5acc7c15e091700b02bf5f", "61351de21d096f896688c92d578b388f0d298b8b7bcc44ba03f6e6583ac36a6c"},
		{31, 5283, 1180480825521502622, "4314385db5e526342c0967ce0cfaca782beb2a88237ce0d53c945c3171cbd700", "60d51c3118b2f19ce8534683be129bada2dc91f78690d90510196562d347c364", "e01b46ad0ab164dfafee2ec71e5747106108b287afed70f6482ef2f8266b2ee0"},
		{32, 5505, 1192016595618308096, "125a2914432687ea13cf96827514fd27320a5c9039a887578cdcddad95ec0a78", "95bae6e5512066c5612f9abf820d44dc73f9fc18935085e38cfe71756d1523a5", "abf27173a3225a2ed1b8b5d397b590ba20becf808e9e7bfdeb178a43779ba791"},
		{33, 1308, 1203463611120573760, "6d7dce3eda15995714ec71f933b6af31d00da0f54ac9a9c397dbcbc3f662fea0", "70f050ec321dc80d5811f2b84e32576d7188a624f3061be4459ac54e9edb8fef", "6de634d45702b8c14648879af174e9f273e303d36003597aaa573d57150a354a"},
		{40, 1427, 1572351905099373383, "69c473112673d95ff5e749eafe4d03e8efbb62bc6fff363e7299179d92cef47d", "408a81f5ab0a7a5f01a9d44663494cd50099c5139786c16bb8546d8f2c831faa", "26916107c9c00d64ba322cc00d289c99481c1fb55e896cf8032afb82c3a1d38a"},
	} {
		o := numbered(c.i)
		hold(t, strconv.Itoa(c.i), o, true)
		s, e := origin.Put(o)
		if sum := sha256.Sum256([]byte(s)); len(s) != c.size || hex.EncodeToString(sum[:]) != c.put || e != api.OK {
			t.Errorf("%d: Put %d bytes, %x, %d", c.i, len(s), sum, e)
		}
		if n, e := origin.Total(o); n != c.total || e != api.OK {
			t.Error(c.i, "Total", n, e)
		}
		id, e := origin.Id(o)
		if hex.EncodeToString(id[:]) != c.id || e != api.OK {
			t.Errorf("%d: Id %x, %d", c.i, id, e)
		}
		var spots []byte
		for _, i := range coinPlaces() {
			x := origin.Coin(id, i)
			spots = append(spots, x.Tx[:]...)
		}
		if sum := sha256.Sum256(spots); hex.EncodeToString(sum[:]) != c.spots {
			t.Errorf("%d: Coin %x", c.i, spots)
		}
	}
}

// P16.3: told by another program: the spots of noughts and of another id, at places that are none too.
func TestCoinPinned(t *testing.T) {
	for id, want := range map[api.Hash][]string{
		{}: {
			"ab78c5d4527ebd36b01671dd9db7c0331e8f245d9ddec36bf3ee7771a8fb2d1a", "e9cba105bea17c488235d3f50f1c2a78bfa998262d130b0e84a63791cb84a1d7", "74f8a4ae7a6f3ac6183ccbeb80e47c5e7eb5b3847c6428499bf7ffcb07e0d99c",
			"4f96eeeb6f49dab06deb258e2932bb8abcbfd68ac72a789f44f613a4728f651a", "ff341a915e7f62d2398c5009def25f9f8f3123a1fde773a7ea71ba4c462e4136", "14944caf3ea6f4b2d1fb341822e280b45a847af6bb07a6266982d611f9b141d9",
		},
		named("id"): {
			"1ee5c899d262bc9f24e57df49bd5a2dd0efca70383d1bf519553a1c46e637478", "f853a798c3e22953442628eb1d01a508d7f15e4029c5a6b67620ff1f03d20bd1", "5f0c9eb3038763f144a519e8918636354f358b072acf442d6cf33a8f833571d3",
			"dd36db1947155da77e2dfaa89b4d62a71407e1e8a4959013674d4a55b7c15d2f", "7261a76470727cb9386155bab16588fdd8028bf2f66a197bf965f9d70c36a10c", "f30442f707cc52a521ff58479cec7cde067ae05e56c0731495c79e796f8ec358",
		},
	} {
		for at, i := range coinPlaces() {
			if x := origin.Coin(id, i); hex.EncodeToString(x.Tx[:]) != want[at] || x.Index != 0 {
				t.Errorf("%x at %d: %x, %d", id, i, x.Tx, x.Index)
			}
		}
	}
}

// P16.3: no two spots are alike, of one id at unlike places, or of ids of which a bit is otherwise.
func TestCoin(t *testing.T) {
	id, e := origin.Id(some())
	if e != api.OK {
		t.Fatal(e)
	}
	at := coinPlaces()
	for i := range 300 {
		at = append(at, i, -i)
	}
	for i := range 62 {
		at = append(at, 1<<i, 1<<i+1, -1<<i, 1<<i-1)
	}
	ids := []api.Hash{{}, id, filled(255)}
	for bit := range 256 {
		other := id
		other[bit/8] ^= 1 << (bit % 8)
		ids = append(ids, other)
	}
	slices.Sort(at)
	at = slices.Compact(at)
	seen := map[api.In]bool{}
	for k, id := range ids {
		l := at
		if k > 2 {
			l = coinPlaces()
		}
		for _, i := range l {
			x := origin.Coin(id, i)
			if x != plainCoin(id, i) || x.Index != 0 || seen[x] {
				t.Errorf("%x at %d: %v", id, i, x)
			}
			seen[x] = true
		}
	}
}

// P16.2, P16.4: each beginning of an origin's bytes is none's, nor are they with one more byte behind them, whichever it is, or with another one's; ends of them may be another one's.
func TestTakeBeginnings(t *testing.T) {
	isNone(t, "no bytes", "")
	for name, o := range bases() {
		s := plainPut(o)
		for n := range len(s) {
			isNone(t, name+" up to "+strconv.Itoa(n), s[:n])
			holdTake(t, name+" from "+strconv.Itoa(n), s[n:])
		}
		for b := range 256 {
			isNone(t, name+" and a byte", s+string([]byte{byte(b)}))
		}
		for other, more := range bases() {
			isNone(t, name+" and "+other, s+plainPut(more))
		}
	}
}

// long is a number's short form with n bytes more that say nothing.
func long(number uint64, n int) string {
	b := []byte(short(number))
	b[len(b)-1] |= 128
	return string(b) + strings.Repeat("\x80", n-1) + "\x00"
}

// P16.2, P16.4: an origin's bytes with each number, one at a time, in a longer form than the short one, or as bytes that are no number at all.
func TestTakeLongNumbers(t *testing.T) {
	for name, o := range bases() {
		l := pieces(o)
		for i, p := range l {
			if !p.tells {
				continue
			}
			with := func(text string) string {
				other := slices.Clone(l)
				other[i].text = text
				return joined(other)
			}
			at := name + " " + strconv.Itoa(i)
			for n := 1; len(p.text)+n <= 11; n++ {
				isNone(t, at+" longer by "+strconv.Itoa(n), with(long(p.number, n)))
			}
			for _, none := range []string{strings.Repeat("\xff", 9) + "\x02", strings.Repeat("\x80", 10), strings.Repeat("\xff", 40)} {
				isNone(t, at+" no number", with(none))
			}
			// What stands behind these may be taken for a part of them.
			holdTake(t, at+" left out", with(""))
			holdTake(t, at+" goes on", with("\x80"))
		}
	}
}

// P16.2: an origin's bytes with each number, one at a time, another one that may be there or not: those of ten bytes never.
func TestTakeOtherNumbers(t *testing.T) {
	for name, o := range bases() {
		l := pieces(o)
		for i, p := range l {
			if !p.tells || p.isCount || i > 60 && i%7 != 0 {
				continue
			}
			taken := 0
			for _, n := range around(p.number, 1000, 4096, 32768, 65536) {
				other := slices.Clone(l)
				other[i].text = short(n)
				is := holdTake(t, name+" "+strconv.Itoa(i), joined(other))
				if is {
					taken++
				}
				if is && n >= over {
					t.Error(name, i, n, "is taken")
				}
			}
			if taken == 0 {
				t.Error(name, i, "nothing is taken")
			}
		}
	}
}

// P16.2, R1: an origin's bytes with each count, one at a time, another one: one less, one more, the most that may be and one above it, huge ones; with nothing behind, with much.
func TestTakeCounts(t *testing.T) {
	for name, o := range bases() {
		l := pieces(o)
		for i, p := range l {
			if !p.isCount {
				continue
			}
			for _, n := range []uint64{0, p.number - 1, p.number + 1, p.most - 1, p.most, p.most + 1, 2 * p.most, 17, 33, 127, 128, 256, 1 << 31, 1 << 32, 1<<32 + 1, over - 1, over, over + 1, greatest - 1, greatest} {
				with := slices.Clone(l)
				with[i].text = short(n)
				s := joined(with)
				if is := holdTake(t, name, joined(with[:i+1])); is && n != 0 {
					t.Error(name, i, n, "is taken with nothing behind it")
				}
				for _, more := range []string{"", strings.Repeat("\x00", 2000), strings.Repeat("\x01", 20000), s} {
					if is := holdTake(t, name, s+more); is && n != p.number && n > p.most {
						t.Error(name, i, n, "is taken")
					}
				}
			}
		}
	}
}

// P16.2: one thing more than may be, all of which are there, with and without bytes behind them.
func TestTakeMoreThings(t *testing.T) {
	for name, of := range bases() {
		for how, change := range map[string]func(o *api.Origin){
			"coins":  withCoins(coinsOf(33, 1)...),
			"seats":  pools(rising(17)...),
			"trusts": trusting(rising(33)...),
		} {
			o := copied(of)
			change(&o)
			for _, more := range []string{"", "\x00", "\x00\x00\x00", strings.Repeat("\x00", 4000)} {
				isNone(t, name+" "+how, plainPut(o)+more)
			}
			// Just one fewer may be.
			o.Coins, o.Seats, o.Trusts = o.Coins[:min(len(o.Coins), 32)], o.Seats[:min(len(o.Seats), 16)], o.Trusts[:min(len(o.Trusts), 32)]
			hold(t, name+" "+how+", one fewer", o, true)
		}
	}
}

// P16.2, P16.4: an origin's bytes of which one is another, at each place, and of which one is gone, or stands twice.
func TestTakeSpoilt(t *testing.T) {
	for name, o := range bases() {
		s := plainPut(o)
		was, id, taken := copied(o), plainId(o), 0
		for at := range len(s) {
			// Of the longest one, whose lists are all alike within, the beginning and some places.
			if at > 800 && at%23 != 0 {
				continue
			}
			for _, by := range []byte{1, 2, 8, 64, 128, 255, s[at], s[at] ^ 1, s[at] ^ 127} {
				b := []byte(s)
				b[at] ^= by
				if !holdTake(t, name, string(b)) || string(b) == s {
					continue
				}
				taken++
				now, _ := origin.Take(string(b))
				if other, e := origin.Id(now); alike(now, was) || other == id || e != api.OK {
					t.Error(name, at, "is no other one", e)
				}
			}
			holdTake(t, name, s[:at]+s[at+1:])
			holdTake(t, name, s[:at]+s[at:at+1]+s[at:])
		}
		if taken == 0 {
			t.Error(name, "no other origin is one byte away")
		}
	}
}

// P16.2, P16.4: none and an empty list have the same bytes, and no list is told where there is none.
func TestNone(t *testing.T) {
	none, empty := least(), least()
	empty.Coins, empty.Seats, empty.Trusts = []api.Out{}, []api.Seat{}, []api.Trust{}
	hold(t, "empty", empty, true)
	s, e := origin.Put(none)
	s2, e2 := origin.Put(empty)
	id, e3 := origin.Id(none)
	id2, e4 := origin.Id(empty)
	if s != s2 || id != id2 || e != api.OK || e2 != api.OK || e3 != api.OK || e4 != api.OK {
		t.Error(e, e2, e3, e4)
	}
	got, e := origin.Take(s)
	if e != api.OK || len(got.Coins) != 0 || len(got.Seats) != 0 || len(got.Trusts) != 0 {
		t.Error(got, e)
	}
}

// lesser are the origins that what may be has with a bit less, by their names, and how much less their totals are.
func lesser(o api.Origin) map[string]struct {
	origin api.Origin
	less   uint64
} {
	type one = struct {
		origin api.Origin
		less   uint64
	}
	l := map[string]one{}
	for i, c := range o.Coins {
		x := copied(o)
		x.Coins = slices.Delete(x.Coins, i, i+1)
		l["coin "+strconv.Itoa(i)] = one{x, c.Amount}
	}
	for i := range o.Trusts {
		x := copied(o)
		x.Trusts = slices.Delete(x.Trusts, i, i+1)
		l["trust "+strconv.Itoa(i)] = one{x, 0}
	}
	for i, s := range o.Seats {
		if slices.ContainsFunc(o.Trusts, func(t api.Trust) bool { return t.Pool == s.Pool && s.Pool != api.Hash{} }) {
			continue
		}
		x := copied(o)
		x.Seats = slices.Delete(x.Seats, i, i+1)
		l["seat "+strconv.Itoa(i)] = one{x, 0}
	}
	for _, n := range []uint64{1, o.Reserves / 3, o.Reserves - 1, o.Reserves} {
		if n > 0 && n <= o.Reserves {
			x := copied(o)
			x.Reserves -= n
			l["reserves "+strconv.FormatUint(n, 10)] = one{x, n}
		}
	}
	return l
}

// P16.5: what may be has a total below 2^63; with one Coin less, at each place, one Trust less, one Seat less that nobody trusts, or less Reserves, it may be as well, and has just so much less in its total.
func TestLess(t *testing.T) {
	froms := bases()
	for i := range 35 {
		froms["numbered "+strconv.Itoa(i)] = numbered(i)
	}
	for _, l := range edges() {
		for _, x := range l {
			if o := some(); x.may {
				x.change(&o)
				froms[x.name] = o
			}
		}
	}
	for name, o := range froms {
		total, e := origin.Total(o)
		if e != api.OK || total >= over {
			t.Fatal(name, total, e)
		}
		for how, x := range lesser(o) {
			n, e := origin.Total(x.origin)
			if origin.May(x.origin) != api.OK || e != api.OK || n != total-x.less {
				t.Error(name, "less", how, n, e)
			}
			if s, e := origin.Put(x.origin); s != plainPut(x.origin) || e != api.OK {
				t.Error(name, "less", how, e)
			}
		}
	}
}

// P16.5: all can be taken away, one by one, in whatever order, till nothing is left.
func TestLessAndLess(t *testing.T) {
	r := rand.New(rand.NewSource(5))
	for range 10 {
		o := most()
		total, _ := origin.Total(o)
		for steps := 0; ; steps++ {
			l := lesser(o)
			names := make([]string, 0, len(l))
			for name := range l {
				names = append(names, name)
			}
			if len(names) == 0 {
				if total != o.Treasury || steps < mostCoins+mostSeats+mostTrust || len(o.Coins)+len(o.Seats)+len(o.Trusts) != 0 {
					t.Error("left", total, steps, o)
				}
				break
			}
			slices.Sort(names)
			x := l[names[r.Intn(len(names))]]
			n, e := origin.Total(x.origin)
			if e != api.OK || n != total-x.less {
				t.Fatal(steps, n, e)
			}
			o, total = x.origin, n
		}
	}
}

// P16.1, P16.5: a seat that somebody trusts can't be taken away alone.
func TestTrustedSeat(t *testing.T) {
	for name, o := range bases() {
		for i, s := range o.Seats {
			x := copied(o)
			x.Seats = slices.Delete(x.Seats, i, i+1)
			is := slices.ContainsFunc(o.Trusts, func(t api.Trust) bool { return t.Pool == s.Pool && s.Pool != api.Hash{} })
			hold(t, name+" without seat "+strconv.Itoa(i), x, !is)
			x.Trusts = slices.DeleteFunc(x.Trusts, func(t api.Trust) bool { return t.Pool == s.Pool })
			hold(t, name+" without seat "+strconv.Itoa(i)+" and who trusts it", x, true)
		}
	}
}

// P16.2: each field makes another id; nothing else of an origin does.
func TestIds(t *testing.T) {
	seen := map[api.Hash]string{}
	of := func(name string, change func(o *api.Origin)) {
		t.Helper()
		o := some()
		change(&o)
		id, e := origin.Id(o)
		if was, is := seen[id]; is || e != api.OK {
			t.Error(name, "has the id of", was, e)
		}
		seen[id] = name
	}
	of("as it is", func(o *api.Origin) {})
	of("k", func(o *api.Origin) { o.K++ })
	of("epoch", func(o *api.Origin) { o.Epoch++ })
	of("period", func(o *api.Origin) { o.Period++ })
	of("rate's upper number", func(o *api.Origin) { o.RateA-- })
	of("rate's lower number", func(o *api.Origin) { o.RateB++ })
	for i := range places {
		of("parameter "+strconv.Itoa(i), func(o *api.Origin) { o.Params[i]++ })
	}
	of("reserves", func(o *api.Origin) { o.Reserves++ })
	of("treasury", func(o *api.Origin) { o.Treasury++ })
	of("epoch and period", func(o *api.Origin) { o.Epoch, o.Period = o.Period, o.Epoch })
	of("reserves and treasury", func(o *api.Origin) { o.Reserves, o.Treasury = o.Treasury, o.Reserves })
	for _, at := range []int{0, 15, 31} {
		n := strconv.Itoa(at)
		of("nonce "+n, func(o *api.Origin) { o.Nonce[at] ^= 1 })
		of("to "+n, func(o *api.Origin) { o.Coins[1].To[at] ^= 1 })
		of("stake "+n, func(o *api.Origin) { o.Coins[1].Stake[at] ^= 1 })
		of("seat's key "+n, func(o *api.Origin) { o.Seats[1].Key[at] ^= 1 })
		of("seat's pool "+n, func(o *api.Origin) { o.Seats[1].Pool[at] ^= 2 })
		of("trust's key "+n, func(o *api.Origin) { o.Trusts[3].Key[at] ^= 2 })
	}
	of("amount", func(o *api.Origin) { o.Coins[1].Amount++ })
	of("pledge", func(o *api.Origin) { o.Seats[1].Pledge++ })
	of("cost", func(o *api.Origin) { o.Seats[1].Cost-- })
	of("margin", func(o *api.Origin) { o.Seats[1].Margin++ })
	of("trust's pool", func(o *api.Origin) { o.Trusts[1].Pool = o.Seats[1].Pool })
	of("to and stake", func(o *api.Origin) { o.Coins[0].To, o.Coins[0].Stake = o.Coins[0].Stake, o.Coins[0].To })
	of("coins turned", func(o *api.Origin) { slices.Reverse(o.Coins) })
	of("a coin less", func(o *api.Origin) { o.Coins = o.Coins[1:] })
	of("a trust less", func(o *api.Origin) { o.Trusts = o.Trusts[1:] })
}

// P16.4, R3, R5: what is taken shares nothing with what is taken another time, nor do its lists share anything.
func TestTakenIsNew(t *testing.T) {
	s := plainPut(most())
	one, _ := origin.Take(s)
	other, _ := origin.Take(s)
	for i := range one.Coins {
		one.Coins[i], one.Trusts[i] = api.Out{}, api.Trust{}
	}
	clear(one.Seats)
	one.Coins = append(one.Coins[:4], api.Out{Amount: 5})
	if !alike(other, most()) {
		t.Error("another one has become another")
	}
	if again, e := origin.Take(s); e != api.OK || !alike(again, most()) {
		t.Error(again, e)
	}
}

// R3: lists that go on behind their ends are left as they are there too.
func TestBehindTheEnds(t *testing.T) {
	o := most()
	was := copied(o)
	cut := o
	cut.Coins, cut.Seats, cut.Trusts = o.Coins[:1], o.Seats[:2], o.Trusts[:1]
	hold(t, "cut", cut, true)
	cut.Coins, cut.Seats, cut.Trusts = o.Coins[:0], o.Seats[:0], o.Trusts[:0]
	hold(t, "cut to nothing", cut, true)
	if !alike(o, was) {
		t.Error("has become another one")
	}
}

// R5: the same is answered whatever was asked ahead of it, by several at one time too.
func TestAtOneTime(t *testing.T) {
	all, s := bases(), plainPut(some())
	var askers sync.WaitGroup
	for range 8 {
		askers.Go(func() {
			for range 20 {
				for name, o := range all {
					if put, e := origin.Put(o); put != plainPut(o) || e != api.OK {
						t.Error(name, "Put", e)
					}
					if id, e := origin.Id(o); id != plainId(o) || e != api.OK {
						t.Error(name, "Id", e)
					}
				}
				if got, e := origin.Take(s); !alike(got, some()) || e != api.OK {
					t.Error("Take", e)
				}
				if e := origin.Param(6, 0); e != api.ErrArg {
					t.Error("Param", e)
				}
				if e := origin.Param(6, 1); e != api.OK {
					t.Error("Param", e)
				}
			}
		})
	}
	askers.Wait()
}

// someHash is one of few hashes, or one of many.
func someHash(r *rand.Rand) (h api.Hash) {
	switch r.Intn(4) {
	case 0:
		return until(byte(r.Intn(4)))
	case 1:
		return from(byte(r.Intn(3)), 0, byte(r.Intn(2)))
	}
	r.Read(h[:])
	return h
}

// someNumber is one of the numbers at which something becomes otherwise, or one of any size.
func someNumber(r *rand.Rand) uint64 {
	l := []uint64{0, 1, 2, 127, 128, 1000, 1001, 4096, 4097, 32768, 32769, 1 << 16, 1<<16 + 1, 1 << 20, 1<<20 + 1, 1 << 40, over - 1, over, greatest}
	if r.Intn(2) == 0 {
		return l[r.Intn(len(l))]
	}
	return r.Uint64() >> r.Intn(64)
}

// someHashes are up to n that rise, none twice.
func someHashes(r *rand.Rand, n int) (l []api.Hash) {
	for range r.Intn(n + 1) {
		l = append(l, someHash(r))
	}
	slices.SortFunc(l, func(a, b api.Hash) int { return bytes.Compare(a[:], b[:]) })
	return slices.Compact(l)
}

// someOrigin is one that may be.
func someOrigin(r *rand.Rand) api.Origin {
	o := api.Origin{
		K: 1 + someNumber(r)%4096, Epoch: 1 + someNumber(r)%(1<<20), Period: 1 + someNumber(r)%(1<<20), RateB: 1 + someNumber(r)%(1<<16),
		Reserves: someNumber(r) % (1 << 62), Treasury: someNumber(r) % (1 << 61), Nonce: someHash(r),
	}
	o.RateA = 1 + someNumber(r)%o.RateB
	for i, l := range limits() {
		o.Params[i] = l[0] + someNumber(r)%(l[1]-l[0]+1)
	}
	for range r.Intn(33) {
		o.Coins = append(o.Coins, api.Out{To: someHash(r), Stake: someHash(r), Amount: 1 + someNumber(r)%(1<<55)})
	}
	seats := someHashes(r, 16)
	for _, h := range seats {
		o.Seats = append(o.Seats, api.Seat{Pool: h, Key: someHash(r), Pledge: someNumber(r) % over, Cost: someNumber(r) % over, Margin: someNumber(r) % 1001})
	}
	for _, h := range someHashes(r, 32) {
		x := api.Trust{Key: h}
		if len(seats) > 0 && r.Intn(4) > 0 {
			x.Pool = seats[r.Intn(len(seats))]
		}
		o.Trusts = append(o.Trusts, x)
	}
	return o
}

// spoil makes something of an origin another thing, so that it may often not be.
func spoil(r *rand.Rand, o *api.Origin) {
	numbers := []*uint64{&o.K, &o.Epoch, &o.Period, &o.RateA, &o.RateB, &o.Reserves, &o.Treasury}
	switch r.Intn(7) {
	case 0:
		*numbers[r.Intn(len(numbers))] = someNumber(r)
	case 1:
		o.Params[r.Intn(places)] = someNumber(r)
	case 2:
		o.Coins = append(o.Coins, api.Out{To: someHash(r), Amount: someNumber(r)})
	case 3:
		o.Seats = append(o.Seats, api.Seat{Pool: someHash(r), Pledge: someNumber(r), Cost: someNumber(r), Margin: someNumber(r)})
	case 4:
		o.Trusts = append(o.Trusts, api.Trust{Key: someHash(r), Pool: someHash(r)})
	case 5:
		if len(o.Seats) > 0 {
			o.Seats[r.Intn(len(o.Seats))].Pool = someHash(r)
		}
	case 6:
		if len(o.Trusts) > 0 {
			o.Trusts[r.Intn(len(o.Trusts))].Key = someHash(r)
		}
	}
}

// P16.1, P16.2, P16.4: origins of all kinds, of which some may be and some not.
func TestManyOrigins(t *testing.T) {
	r := rand.New(rand.NewSource(16))
	may := 0
	for i := range 2000 {
		o := someOrigin(r)
		if !plainMay(o) {
			t.Fatal(i, "may not be")
		}
		for range r.Intn(3) {
			spoil(r, &o)
		}
		if plainMay(o) {
			may++
		}
		hold(t, strconv.Itoa(i), o, plainMay(o))
	}
	if may < 700 || may > 1600 {
		t.Error(may, "may be")
	}
}

// P16.2, P16.4, R1: bytes by chance, origins' bytes put together anew, and rows of one byte.
func TestTakeAnything(t *testing.T) {
	r := rand.New(rand.NewSource(61))
	for b := range 256 {
		for _, n := range []int{1, 2, 15, 47, 50, 51, 52, 300, 5000} {
			holdTake(t, "one byte", strings.Repeat(string([]byte{byte(b)}), n))
		}
	}
	first := "\x01\x01\x01\x01\x01" + "\x00\x00\x00\x00\x00\x00\x01\x01" + "\x00\x00"
	for range 2000 {
		b := make([]byte, r.Intn(200))
		r.Read(b)
		holdTake(t, "chance", string(b))
		holdTake(t, "chance behind numbers", first+string(b))
		for i := range b {
			b[i] &= 3
		}
		holdTake(t, "small bytes", string(b))
		holdTake(t, "small bytes behind numbers", first+string(b))
	}
	taken := 0
	for range 1000 {
		one, other := pieces(someOrigin(r)), pieces(someOrigin(r))
		a, b := joined(one), joined(other)
		holdTake(t, "halves", a[:r.Intn(len(a)+1)]+b[r.Intn(len(b)+1):])
		// The 15 numbers and the nonce of one, the lists of another.
		if holdTake(t, "numbers and lists", joined(one[:16])+joined(other[16:])) {
			taken++
		}
	}
	if taken < 300 {
		t.Error(taken)
	}
	for _, s := range []string{"", first, plainPut(least()), plainPut(most())} {
		isNone(t, "long", s+strings.Repeat("\x00", 1<<22))
		isNone(t, "long", s+strings.Repeat("\xff", 1<<22))
	}
}
