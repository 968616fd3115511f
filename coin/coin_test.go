package coin_test

import (
	"bytes"
	"crypto/sha256"
	"math"
	"math/big"
	"math/rand"
	"reflect"
	"slices"
	"sort"
	"strconv"
	"strings"
	"sync"
	"testing"

	"mintage/api"
	"mintage/coin"
)

const (
	over     = 1 << 63 // what is one too much for a total
	greatest = math.MaxUint64
)

// named is the sum of a name.
func named(s string) api.Hash { return sha256.Sum256([]byte(s)) }

// from is a hash of bytes 0, of which the first ones are these.
func from(first ...byte) (h api.Hash) {
	copy(h[:], first)
	return h
}

// until is a hash of bytes 0, of which the last one is this.
func until(last byte) (h api.Hash) {
	h[31] = last
	return h
}

// at is a coin at a spot; whose it is, and whose stake, hangs on the spot and the amount.
func at(tx api.Hash, index, amount uint64) api.Coin {
	who := strconv.FormatUint(index, 10) + "/" + strconv.FormatUint(amount, 10)
	return api.Coin{In: api.In{Tx: tx, Index: index}, Out: api.Out{To: named(string(tx[:]) + who), Stake: from(byte(index%3), byte(amount%2)), Amount: amount}}
}

// plain are coins as a list that rises by their spots. It is never written over.
type plain []api.Coin

func ahead(a, b api.In) bool {
	if order := bytes.Compare(a.Tx[:], b.Tx[:]); order != 0 {
		return order < 0
	}
	return a.Index < b.Index
}

func (p plain) get(x api.In) (api.Out, bool) {
	n := sort.Search(len(p), func(i int) bool { return !ahead(p[i].In, x) })
	if n == len(p) || p[n].In != x {
		return api.Out{}, false
	}
	return p[n].Out, true
}

// sum is what all come to, however much it is.
func (p plain) sum() *big.Int {
	n := new(big.Int)
	for _, x := range p {
		n.Add(n, new(big.Int).SetUint64(x.Out.Amount))
	}
	return n
}

// plainOf tells whether a list are coins, by the chapter's words one by one, and these.
func plainOf(l []api.Coin) (plain, bool) {
	p := plain(slices.Clone(l))
	sort.SliceStable(p, func(i, j int) bool { return ahead(p[i].In, p[j].In) })
	for i, x := range p {
		if x.Out.Amount == 0 || i > 0 && p[i-1].In == x.In {
			return nil, false
		}
	}
	if !p.sum().IsInt64() {
		return nil, false
	}
	return p, true
}

func (p plain) spend(l []api.In) (plain, []api.Out, api.Errno) {
	gone, outs := map[api.In]bool{}, []api.Out{}
	for _, x := range l {
		out, is := p.get(x)
		if !is || gone[x] {
			return nil, nil, api.ErrNone
		}
		gone[x] = true
		outs = append(outs, out)
	}
	return slices.DeleteFunc(slices.Clone(p), func(x api.Coin) bool { return gone[x.In] }), outs, api.OK
}

func (p plain) add(id api.Hash, l []api.Out) (plain, api.Errno) {
	all := slices.Clone(p)
	for i, out := range l {
		x := api.In{Tx: id, Index: uint64(i)}
		if _, is := p.get(x); is {
			return nil, api.ErrState
		}
		all = append(all, api.Coin{In: x, Out: out})
	}
	for _, out := range l {
		if out.Amount == 0 {
			return nil, api.ErrArg
		}
	}
	if !all.sum().IsInt64() {
		return nil, api.ErrOver
	}
	sort.Slice(all, func(i, j int) bool { return ahead(all[i].In, all[j].In) })
	return all, api.OK
}

// stakes goes over all coins once for each Stake.
func (p plain) stakes() []api.Pay {
	var keys []api.Hash
	for _, x := range p {
		if x.Out.Stake != (api.Hash{}) && !slices.Contains(keys, x.Out.Stake) {
			keys = append(keys, x.Out.Stake)
		}
	}
	sort.Slice(keys, func(i, j int) bool { return bytes.Compare(keys[i][:], keys[j][:]) < 0 })
	var l []api.Pay
	for _, key := range keys {
		of := slices.DeleteFunc(slices.Clone(p), func(x api.Coin) bool { return x.Out.Stake != key })
		l = append(l, api.Pay{Key: key, Amount: of.sum().Uint64()})
	}
	return l
}

// around are the spots of coins, and those beside them: of another index, of a Tx that differs in its first or its last byte.
func around(p plain) []api.In {
	l := []api.In{{}, {Index: 1}, {Index: greatest}, {Tx: named("of nothing")}}
	for _, x := range p {
		first, last := x.In, x.In
		first.Tx[0] ^= 1
		last.Tx[31] ^= 128
		l = append(l, x.In, api.In{Tx: x.In.Tx, Index: x.In.Index + 1}, api.In{Tx: x.In.Tx, Index: x.In.Index - 1}, api.In{Tx: x.In.Tx, Index: x.In.Index ^ over}, first, last)
	}
	return l
}

// hold holds all that coins tell against the chapter's words.
func hold(t *testing.T, name string, c coin.Coins, p plain) {
	t.Helper()
	if n := c.Len(); n != len(p) {
		t.Errorf("%s: Len %d, want %d", name, n, len(p))
	}
	if n := c.Total(); n != p.sum().Uint64() || n >= over {
		t.Errorf("%s: Total %d, want %d", name, n, p.sum())
	}
	if l := c.List(); !slices.Equal(l, p) {
		t.Errorf("%s: List %v, want %v", name, l, p)
	}
	if l := c.Stakes(); !slices.Equal(l, p.stakes()) {
		t.Errorf("%s: Stakes %v, want %v", name, l, p.stakes())
	}
	for _, x := range around(p) {
		out, is := c.Get(x)
		if want, has := p.get(x); out != want || is != has {
			t.Errorf("%s: Get(%v) %v, %t, want %v, %t", name, x, out, is, want, has)
		}
	}
}

// none says that coins are just the zero ones.
func none(t *testing.T, name string, c coin.Coins) {
	t.Helper()
	hold(t, name, c, nil)
	if !reflect.DeepEqual(c, coin.Coins{}) {
		t.Error(name, "there are coins beside an error")
	}
}

// holdOf holds Of of a list against the chapter's words; are is whether they are coins, by hand as well.
func holdOf(t *testing.T, name string, l []api.Coin, are bool) coin.Coins {
	t.Helper()
	was := slices.Clone(l)
	p, is := plainOf(l)
	if is != are {
		t.Fatal(name, "the test is not sure whether they are coins")
	}
	c, e := coin.Of(l)
	if !slices.Equal(l, was) {
		t.Error(name, "the list has become another one")
	}
	if !are {
		if e != api.ErrArg {
			t.Errorf("%s: Of %d, want ErrArg", name, e)
		}
		none(t, name, c)
		return c
	}
	if e != api.OK {
		t.Errorf("%s: Of %d", name, e)
	}
	hold(t, name, c, p)
	return c
}

// holdSpend holds Spend against the chapter's words; want is its error, by hand as well.
func holdSpend(t *testing.T, name string, c coin.Coins, p plain, l []api.In, want api.Errno) (coin.Coins, plain) {
	t.Helper()
	was := slices.Clone(l)
	next, outs, e := p.spend(l)
	if e != want {
		t.Fatal(name, "the test is not sure of Spend's error")
	}
	got, gotOuts, e := c.Spend(l)
	if e != want || !slices.Equal(gotOuts, outs) {
		t.Errorf("%s: Spend %v, %d, want %v, %d", name, gotOuts, e, outs, want)
	}
	if !slices.Equal(l, was) {
		t.Error(name, "the list has become another one")
	}
	hold(t, name+", behind", got, next)
	hold(t, name+", as it was", c, p)
	if want != api.OK {
		none(t, name, got)
	}
	return got, next
}

// holdAdd holds Add against the chapter's words; want is its error, by hand as well.
func holdAdd(t *testing.T, name string, c coin.Coins, p plain, id api.Hash, l []api.Out, want api.Errno) (coin.Coins, plain) {
	t.Helper()
	was := slices.Clone(l)
	next, e := p.add(id, l)
	if e != want {
		t.Fatal(name, "the test is not sure of Add's error")
	}
	got, e := c.Add(id, l)
	if e != want {
		t.Errorf("%s: Add %d, want %d", name, e, want)
	}
	if !slices.Equal(l, was) {
		t.Error(name, "the list has become another one")
	}
	hold(t, name+", behind", got, next)
	hold(t, name+", as it was", c, p)
	if want != api.OK {
		none(t, name, got)
	}
	return got, next
}

// made are the coins of a list that are some.
func made(t *testing.T, l []api.Coin) (coin.Coins, plain) {
	t.Helper()
	p, is := plainOf(l)
	c, e := coin.Of(l)
	if !is || e != api.OK {
		t.Fatal("Of", e, is)
	}
	return c, p
}

// amounts are outputs of these Amounts, each another one's.
func amounts(l ...uint64) (outs []api.Out) {
	for i, n := range l {
		outs = append(outs, api.Out{To: from(byte(i), 1), Stake: from(byte(i%3), 2), Amount: n})
	}
	return outs
}

// coins are outputs of these Amounts, at spots of their own, that do not rise.
func coins(l ...uint64) (all []api.Coin) {
	for i, out := range amounts(l...) {
		all = append(all, api.Coin{In: api.In{Tx: named(strconv.Itoa(i)), Index: uint64(i % 2)}, Out: out})
	}
	return all
}

// spots are those of coins.
func spots(l []api.Coin) (all []api.In) {
	for _, x := range l {
		all = append(all, x.In)
	}
	return all
}

// ways are a list in many orders.
func ways[T any](l []T) map[string][]T {
	all := map[string][]T{"as they are": slices.Clone(l), "turned": slices.Clone(l)}
	slices.Reverse(all["turned"])
	for i := range 6 {
		mixed := slices.Clone(l)
		rand.New(rand.NewSource(int64(i))).Shuffle(len(mixed), func(i, j int) { mixed[i], mixed[j] = mixed[j], mixed[i] })
		all["mixed "+strconv.Itoa(i)] = mixed
	}
	return all
}

// rising are coins by their spots, written down in that order: bytes ahead of others count more, a Tx counts more than an Index.
func rising() []api.Coin {
	var l []api.Coin
	indexes := []uint64{0, 1, 255, 256, 257, 1<<32 - 1, 1 << 32, over - 1, over, greatest}
	for _, tx := range []api.Hash{{}, until(1), until(127), until(128), until(255), from(0, 1), from(1), from(127), from(128), from(255)} {
		for i, index := range indexes {
			l = append(l, at(tx, index, uint64(len(indexes)-i)))
		}
	}
	return l
}

// P17.1 to P17.5: the chapter's examples.
func TestExamples(t *testing.T) {
	k := named("k")
	empty, e := coin.Of(nil)
	if e != api.OK {
		t.Error("Of(none)", e)
	}
	c, e := empty.Add(api.Hash{}, []api.Out{{To: k, Amount: 5}})
	if e != api.OK || c.Total() != 5 {
		t.Error("Add", c.Total(), e)
	}
	spent, outs, e := c.Spend([]api.In{{}})
	if e != api.OK || !slices.Equal(outs, []api.Out{{To: k, Amount: 5}}) || spent.Total() != 0 {
		t.Error("Spend", spent.Total(), outs, e)
	}
	if gone, outs, e := c.Spend([]api.In{{Index: 1}}); e != api.ErrNone || outs != nil || gone.Total() != 0 {
		t.Error("Spend of what is not there", gone.Total(), outs, e)
	}
	one := at(k, 1, 5)
	holdOf(t, "one coin twice", []api.Coin{one, one}, false)
	one.Out.Amount = 0
	holdOf(t, "an Amount 0", []api.Coin{one}, false)
}

// P17.1: the zero coins are none, and Of of none are.
func TestNoCoins(t *testing.T) {
	var zero coin.Coins
	hold(t, "zero", zero, nil)
	for name, l := range map[string][]api.Coin{"nil": nil, "empty": {}, "cut to nothing": rising()[:0]} {
		hold(t, name, holdOf(t, name, l, true), nil)
	}
	spent, p := made(t, coins(5, 6))
	spent, p = holdSpend(t, "all", spent, p, spots(p), api.OK)
	for name, c := range map[string]coin.Coins{"zero": zero, "of none": holdOf(t, "none", nil, true), "spent": spent} {
		holdSpend(t, name+" no spots", c, p, nil, api.OK)
		holdSpend(t, name+" no spots, empty", c, p, []api.In{}, api.OK)
		holdSpend(t, name+" a spot", c, p, []api.In{{}}, api.ErrNone)
		holdAdd(t, name+" no outputs", c, p, named("id"), nil, api.OK)
		holdAdd(t, name+" an Amount 0", c, p, named("id"), amounts(0), api.ErrArg)
		holdAdd(t, name+" too much", c, p, named("id"), amounts(over), api.ErrOver)
		holdAdd(t, name+" most", c, p, named("id"), amounts(over-1), api.OK)
		next, q := holdAdd(t, name+" outputs", c, p, named("id"), amounts(3, 1, 2), api.OK)
		holdSpend(t, name+" and spent again", next, q, spots(q), api.OK)
	}
}

// P17.1: coins come in whatever order, and are told rising.
func TestOrders(t *testing.T) {
	all := rising()
	if !sort.SliceIsSorted(all, func(i, j int) bool { return ahead(all[i].In, all[j].In) }) {
		t.Fatal("the coins of the test do not rise")
	}
	for name, l := range ways(all) {
		c := holdOf(t, name, l, true)
		if !slices.Equal(c.List(), all) {
			t.Error(name, "List does not rise")
		}
		for i := 1; i < len(l); i += 7 {
			holdOf(t, name+" a beginning", l[:i], true)
		}
	}
	for _, one := range all {
		holdOf(t, "one", []api.Coin{one}, true)
	}
}

// P17.1: two coins are told by their spots, whichever comes first.
func TestPairs(t *testing.T) {
	all := rising()
	for i, a := range all {
		for _, b := range all[i+1:] {
			want := []api.Coin{a, b}
			for _, l := range [][]api.Coin{{a, b}, {b, a}} {
				if c, e := coin.Of(l); e != api.OK || !slices.Equal(c.List(), want) {
					t.Errorf("Of(%v): %v, %d, want %v", l, c.List(), e, want)
				}
			}
		}
	}
}

// P17.1: no two stand at one spot, wherever they are in the list, and whatever they are.
func TestTwiceAtASpot(t *testing.T) {
	all := rising()
	for name, l := range ways(all) {
		for _, first := range []int{0, 1, 50, 98, 99} {
			for _, place := range []int{0, 1, first, first + 1, 50, 99, 100} {
				twin, other := l[first], l[first]
				other.Out = api.Out{To: named("another"), Amount: other.Out.Amount + 1}
				holdOf(t, name+" twice", slices.Insert(slices.Clone(l), place, twin), false)
				holdOf(t, name+" twice, not alike", slices.Insert(slices.Clone(l), place, other), false)
			}
		}
	}
	for _, out := range []api.Out{all[0].Out, {Amount: 1}} {
		for _, one := range all {
			other := api.Coin{In: one.In, Out: out}
			holdOf(t, "two", []api.Coin{one, other}, false)
		}
	}
}

// P17.1: an output may be at many spots.
func TestAlikeOutputs(t *testing.T) {
	l := rising()
	for i := range l {
		l[i].Out = api.Out{To: named("to"), Stake: named("stake"), Amount: 7}
	}
	c := holdOf(t, "alike", l, true)
	if !slices.Equal(c.Stakes(), []api.Pay{{Key: named("stake"), Amount: 700}}) {
		t.Error("Stakes", c.Stakes())
	}
}

// row is Amounts, and what Add says of them where there are no coins.
type row struct {
	name string
	l    []uint64
	e    api.Errno
}

func rows() []row {
	return []row{
		{"one", []uint64{1}, api.OK},
		{"some", []uint64{5, 1, 300}, api.OK},
		{"0 alone", []uint64{0}, api.ErrArg},
		{"0 first", []uint64{0, 1, 2}, api.ErrArg},
		{"0 in the middle", []uint64{1, 0, 2}, api.ErrArg},
		{"0 last", []uint64{1, 2, 0}, api.ErrArg},
		{"all 0", []uint64{0, 0, 0}, api.ErrArg},
		{"most, by one", []uint64{over - 1}, api.OK},
		{"most, by two", []uint64{over - 2, 1}, api.OK},
		{"most, by two halves", []uint64{1 << 62, 1<<62 - 1}, api.OK},
		{"most, by three", []uint64{1 << 62, 1 << 61, 1<<61 - 1}, api.OK},
		{"too much, by one", []uint64{over}, api.ErrOver},
		{"too much, by one that is more", []uint64{over + 1}, api.ErrOver},
		{"too much, by the greatest", []uint64{greatest}, api.ErrOver},
		{"too much, by two", []uint64{over - 1, 1}, api.ErrOver},
		{"too much, by two the other way round", []uint64{1, over - 1}, api.ErrOver},
		{"too much, by two halves", []uint64{1 << 62, 1 << 62}, api.ErrOver},
		{"too much, by three", []uint64{over - 2, 1, 1}, api.ErrOver},
		{"it runs over, and comes to 0", []uint64{over, over}, api.ErrOver},
		{"it runs over, and comes to 1", []uint64{greatest, 2}, api.ErrOver},
		{"it runs over, and comes to 2", []uint64{over + 1, over + 1}, api.ErrOver},
		{"it runs over, and comes to 5", []uint64{2, greatest - 1, 5}, api.ErrOver},
		{"it runs over by five, and comes to 1", []uint64{1 << 62, 1 << 62, 1 << 62, 1 << 62, 1}, api.ErrOver},
		{"0, and too much", []uint64{0, over}, api.ErrArg},
		{"too much, and 0", []uint64{over, 0}, api.ErrArg},
		{"0, and it runs over", []uint64{greatest, 0, 2}, api.ErrArg},
	}
}

// P17.1: Amounts, and what they come to.
func TestAmountsOf(t *testing.T) {
	for _, r := range rows() {
		for way, l := range ways(coins(r.l...)) {
			holdOf(t, r.name+" "+way, l, r.e == api.OK)
		}
	}
	for _, place := range []int{0, 1, 50, 98, 99} {
		l := rising()
		l[place].Out.Amount = 0
		holdOf(t, "0 among many", l, false)
		l[place].Out.Amount = over
		holdOf(t, "too much among many", l, false)
	}
}

// P17.3: Amounts of what is added, to no coins and to some.
func TestAmountsAdded(t *testing.T) {
	c, p := made(t, coins(3, 1, 2))
	for _, r := range rows() {
		holdAdd(t, r.name+" to none", coin.Coins{}, nil, named("id"), amounts(r.l...), r.e)
		want := r.e
		if strings.HasPrefix(r.name, "most") {
			want = api.ErrOver
		}
		holdAdd(t, r.name+" to some", c, p, named("id"), amounts(r.l...), want)
	}
}

// P17.3: what is there already counts too.
func TestTotalsAdded(t *testing.T) {
	for _, r := range []struct {
		there, more []uint64
		want        api.Errno
	}{
		{[]uint64{over - 2}, []uint64{1}, api.OK},
		{[]uint64{over - 2}, []uint64{2}, api.ErrOver},
		{[]uint64{over - 2}, []uint64{1, 1}, api.ErrOver},
		{[]uint64{over - 1}, nil, api.OK},
		{[]uint64{over - 1}, []uint64{1}, api.ErrOver},
		{[]uint64{1}, []uint64{over - 2}, api.OK},
		{[]uint64{1}, []uint64{over - 1}, api.ErrOver},
		{[]uint64{1}, []uint64{greatest}, api.ErrOver},
		{[]uint64{2}, []uint64{greatest}, api.ErrOver},
		{[]uint64{over - 1}, []uint64{over + 1}, api.ErrOver},
		{[]uint64{over - 1}, []uint64{over + 2}, api.ErrOver},
		{[]uint64{1 << 62}, []uint64{1<<62 - 1}, api.OK},
		{[]uint64{1 << 62}, []uint64{1 << 62}, api.ErrOver},
		{[]uint64{1 << 62, 5}, []uint64{1 << 62, over, 1 << 62}, api.ErrOver},
		{[]uint64{1, 2, 3}, []uint64{over, over - 6}, api.ErrOver},
		{[]uint64{1, 2, 3}, []uint64{over, over - 5}, api.ErrOver},
		{[]uint64{1, 2, 3}, []uint64{over - 8, 1}, api.OK},
		{[]uint64{1, 2, 3}, []uint64{over - 7, 1}, api.ErrOver},
	} {
		c, p := made(t, coins(r.there...))
		holdAdd(t, "totals", c, p, named("id"), amounts(r.more...), r.want)
	}
}

// P17.1, P17.2: what is spent is not there.
func TestGetSpent(t *testing.T) {
	c, p := made(t, rising())
	for i, one := range rising() {
		next, _, e := c.Spend([]api.In{one.In})
		if out, is := next.Get(one.In); e != api.OK || is || out != (api.Out{}) {
			t.Error("Get of what was spent", i, out, is, e)
		}
		if out, is := c.Get(one.In); !is || out != one.Out {
			t.Error("Get ahead of that", i, out, is)
		}
	}
	hold(t, "as it was", c, p)
}

// P17.2: outputs come in the order of the list, whatever that is.
func TestSpendOrders(t *testing.T) {
	c, p := made(t, rising())
	for name, l := range ways(p) {
		all := spots(l)
		holdSpend(t, name+" none", c, p, nil, api.OK)
		for _, n := range []int{1, 2, 3, 50, 99, 100} {
			next, rest := holdSpend(t, name, c, p, all[:n], api.OK)
			if len(rest) != 100-n {
				t.Fatal(name, "the test is wrong")
			}
			holdSpend(t, name+" and the rest", next, rest, all[n:], api.OK)
			holdSpend(t, name+" and once more", next, rest, all[:1], api.ErrNone)
		}
		_, outs, e := c.Spend(all)
		if e != api.OK || len(outs) != len(l) {
			t.Fatal(name, "Spend of all", e, len(outs))
		}
		for i, x := range l {
			if outs[i] != x.Out {
				t.Error(name, "the output", i, "is", outs[i], "and not", x.Out)
			}
		}
	}
}

// P17.2: what is not there, and what stands twice, at whatever place.
func TestSpendNone(t *testing.T) {
	c, p := made(t, rising())
	for name, mixed := range ways(spots(p)) {
		for _, l := range [][]api.In{mixed, mixed[:1], mixed[:3], nil} {
			for _, place := range []int{0, 1, len(l) / 2, len(l) - 1, len(l)} {
				if place < 0 || place > len(l) {
					continue
				}
				for _, x := range []api.In{{Tx: named("no coin")}, {Tx: from(1), Index: 2}, {Tx: from(1), Index: greatest - 1}, {Tx: from(2)}, {Tx: until(2)}} {
					holdSpend(t, name+" not there", c, p, slices.Insert(slices.Clone(l), place, x), api.ErrNone)
				}
				if len(l) > 0 {
					twice := slices.Insert(slices.Clone(l), place, l[0])
					holdSpend(t, name+" the first one twice", c, p, twice, api.ErrNone)
					holdSpend(t, name+" the last one twice", c, p, slices.Insert(slices.Clone(l), place, l[len(l)-1]), api.ErrNone)
					holdSpend(t, name+" twice, and not there", c, p, append(twice, api.In{Index: 3}), api.ErrNone)
					holdSpend(t, name+" not there, and twice", c, p, slices.Insert(twice, 0, api.In{Index: 3}), api.ErrNone)
				}
			}
		}
	}
	holdSpend(t, "what is not there, twice", c, p, []api.In{{Index: 3}, {Index: 3}}, api.ErrNone)
}

// P17.3: outputs are added at the indexes from 0 on, whatever is there of other ids.
func TestAddMany(t *testing.T) {
	c, p := made(t, rising())
	for _, id := range []api.Hash{named("id"), until(2), from(2), from(254)} {
		for n := range 9 {
			var l []uint64
			for i := range n {
				l = append(l, uint64(300-i))
			}
			next, q := holdAdd(t, "many", c, p, id, amounts(l...), api.OK)
			for i, out := range amounts(l...) {
				if got, is := next.Get(api.In{Tx: id, Index: uint64(i)}); !is || got != out {
					t.Error("Get of what was added", n, i, got, is)
				}
			}
			if next.Len() != 100+n || len(q) != 100+n {
				t.Error("Len behind", n, next.Len())
			}
		}
	}
}

// there are coins of an id at these indexes, and some of others beside it.
func there(t *testing.T, id api.Hash, indexes ...uint64) (coin.Coins, plain) {
	t.Helper()
	less, more := id, id
	less[31]--
	more[31]++
	var l []api.Coin
	for index := range uint64(8) {
		l = append(l, at(less, index, 1), at(more, index, 1))
	}
	for _, index := range indexes {
		l = append(l, at(id, index, 9))
	}
	return made(t, l)
}

// P17.3: whether something stands at one of the spots, and there alone.
func TestAddState(t *testing.T) {
	id := named("id")
	id[31] = 100
	l := amounts(4, 3, 2, 1)
	for index, want := range map[uint64]api.Errno{
		0: api.ErrState, 1: api.ErrState, 2: api.ErrState, 3: api.ErrState,
		4: api.OK, 5: api.OK, 256: api.OK, 1 << 32: api.OK, over: api.OK, over + 1: api.OK, greatest: api.OK,
	} {
		c, p := there(t, id, index)
		holdAdd(t, "there is "+strconv.FormatUint(index, 10), c, p, id, l, want)
		holdAdd(t, "no outputs", c, p, id, nil, api.OK)
	}
	c, p := there(t, id)
	next, q := holdAdd(t, "nothing is there", c, p, id, l, api.OK)
	holdAdd(t, "once more", next, q, id, l, api.ErrState)
	holdAdd(t, "once more, one alone", next, q, id, l[:1], api.ErrState)
	holdAdd(t, "once more, no outputs", next, q, id, []api.Out{}, api.OK)
	next, q = holdSpend(t, "but the last one", next, q, []api.In{{Tx: id}, {Tx: id, Index: 1}, {Tx: id, Index: 2}}, api.OK)
	holdAdd(t, "up to the last one", next, q, id, l[:3], api.OK)
	holdAdd(t, "and the last one", next, q, id, l, api.ErrState)
}

// P17.3: of several errors the first one that is named.
func TestAddErrors(t *testing.T) {
	id := named("id")
	id[31] = 100
	zeros := [][]uint64{{0, 1, 1}, {1, 0, 1}, {1, 1, 0}, {0, 0, 0}}
	tooMuch := [][]uint64{{over - 1, 1, 1}, {1, over - 1, 1}, {1, 1, over}, {greatest, 1, 1}, {over, over, 1}}
	both := [][]uint64{{0, over, 1}, {over, 0, 1}, {greatest, 3, 0}, {over, over, 0}, {0, greatest, 1}}
	for _, index := range []uint64{0, 1, 2} {
		c, p := there(t, id, index)
		free, q := there(t, id, 3)
		for _, l := range append(slices.Clone(zeros), both...) {
			holdAdd(t, "ErrState ahead of ErrArg", c, p, id, amounts(l...), api.ErrState)
			holdAdd(t, "ErrArg ahead of ErrOver", free, q, id, amounts(l...), api.ErrArg)
		}
		for _, l := range tooMuch {
			holdAdd(t, "ErrState ahead of ErrOver", c, p, id, amounts(l...), api.ErrState)
			holdAdd(t, "ErrOver", free, q, id, amounts(l...), api.ErrOver)
		}
	}
}

// P17.4, P17.6: whose stakes there are.
func TestStakes(t *testing.T) {
	pay := func(key api.Hash, amount uint64) api.Pay { return api.Pay{Key: key, Amount: amount} }
	a, b := named("a"), named("b")
	for name, r := range map[string]struct {
		stakes []api.Hash
		want   []api.Pay
	}{
		"none":               {nil, nil},
		"nobody's":           {[]api.Hash{{}, {}, {}}, nil},
		"one":                {[]api.Hash{a}, []api.Pay{pay(a, 1)}},
		"one of three":       {[]api.Hash{{}, a, {}}, []api.Pay{pay(a, 2)}},
		"one, in many":       {[]api.Hash{a, a, a, a}, []api.Pay{pay(a, 15)}},
		"two":                {[]api.Hash{b, a, {}, b, a}, []api.Pay{pay(b, 9), pay(a, 18)}},
		"first bytes":        {[]api.Hash{from(255), from(1), from(128), from(127), from(2), from(1)}, []api.Pay{pay(from(1), 34), pay(from(2), 16), pay(from(127), 8), pay(from(128), 4), pay(from(255), 1)}},
		"last bytes":         {[]api.Hash{until(255), until(1), until(128), until(127), until(1)}, []api.Pay{pay(until(1), 18), pay(until(127), 8), pay(until(128), 4), pay(until(255), 1)}},
		"first, then last":   {[]api.Hash{from(1), until(2), from(0, 1), until(1), {}}, []api.Pay{pay(until(1), 8), pay(until(2), 2), pay(from(0, 1), 4), pay(from(1), 1)}},
		"noughts beside one": {[]api.Hash{{}, until(1), {}, from(1)}, []api.Pay{pay(until(1), 2), pay(from(1), 8)}},
	} {
		if name == "two" && bytes.Compare(a[:], b[:]) < 0 {
			r.want[0], r.want[1] = r.want[1], r.want[0]
		}
		var l []api.Coin
		for i, stake := range r.stakes {
			l = append(l, api.Coin{In: api.In{Tx: named(strconv.Itoa(i)), Index: uint64(i)}, Out: api.Out{To: named("to"), Stake: stake, Amount: 1 << i}})
		}
		for way, mixed := range ways(l) {
			c := holdOf(t, name+" "+way, mixed, true)
			if got := c.Stakes(); !slices.Equal(got, r.want) {
				t.Errorf("%s %s: Stakes %v, want %v", name, way, got, r.want)
			}
			holdSumOfStakes(t, name, c)
		}
	}
}

// P17.4: sums of great Amounts, up to the most that there is.
func TestGreatStakes(t *testing.T) {
	for _, l := range [][]uint64{{over - 1}, {1 << 62, 1<<62 - 1}, {1, over - 3, 1}} {
		all := coins(l...)
		for i := range all {
			all[i].Out.Stake = named("stake")
		}
		if c := holdOf(t, "great", all, true); !slices.Equal(c.Stakes(), []api.Pay{{Key: named("stake"), Amount: over - 1}}) {
			t.Error("Stakes", c.Stakes())
		}
	}
}

// holdSumOfStakes holds P17.6: no more than the total, and just that where each output has a Stake.
func holdSumOfStakes(t *testing.T, name string, c coin.Coins) {
	t.Helper()
	sum, nobodys := new(big.Int), plain{}
	for _, x := range c.Stakes() {
		sum.Add(sum, new(big.Int).SetUint64(x.Amount))
	}
	for _, x := range c.List() {
		if x.Out.Stake == (api.Hash{}) {
			nobodys = append(nobodys, x)
		}
	}
	total := new(big.Int).SetUint64(c.Total())
	if sum.Cmp(total) > 0 || len(nobodys) == 0 && sum.Cmp(total) != 0 {
		t.Errorf("%s: the stakes come to %d, the total is %d", name, sum, total)
	}
	if sum.Add(sum, nobodys.sum()).Cmp(total) != 0 {
		t.Errorf("%s: the stakes and what is nobody's come to %d, the total is %d", name, sum, total)
	}
}

// mover makes moves of all sorts, those that may not be too.
type mover struct{ *rand.Rand }

func (r mover) id() api.Hash {
	switch r.Intn(3) {
	case 0:
		return from(byte(r.Intn(4)))
	case 1:
		return until(byte(r.Intn(4)))
	}
	return named(strconv.Itoa(r.Intn(1000)))
}

func (r mover) amount() uint64 {
	switch r.Intn(40) {
	case 0:
		return 0
	case 1:
		return r.Uint64()
	case 2:
		return over - uint64(r.Intn(3))
	case 3, 4:
		return 1<<62 - uint64(r.Intn(100))
	}
	return 1 + uint64(r.Intn(300))
}

func (r mover) outs() (l []api.Out) {
	for range r.Intn(6) {
		l = append(l, api.Out{To: r.id(), Stake: from(byte(r.Intn(3)), byte(r.Intn(2))), Amount: r.amount()})
	}
	return l
}

func (r mover) ins(p plain) (l []api.In) {
	for range min(len(p), r.Intn(6)) {
		x := p[r.Intn(len(p))].In
		// Mostly each once: else hardly anything could be spent.
		if !slices.Contains(l, x) || r.Intn(8) == 0 {
			l = append(l, x)
		}
	}
	if r.Intn(10) == 0 {
		l = slices.Insert(l, r.Intn(len(l)+1), api.In{Tx: r.id(), Index: uint64(r.Intn(9))})
	}
	return l
}

// state is what there was at some time.
type state struct {
	c coin.Coins
	p plain
}

// move is one move, held against the chapter's words; where it may not be all stays as it was.
func (r mover) move(t *testing.T, s state) (state, api.Errno) {
	t.Helper()
	if r.Intn(2) == 0 {
		l := r.ins(s.p)
		_, outs, e := s.p.spend(l)
		c, p := holdSpend(t, "a move", s.c, s.p, l, e)
		if e != api.OK {
			return s, e
		}
		holdTotals(t, s.c, c, outs, nil)
		return state{c, p}, e
	}
	id, l := r.id(), r.outs()
	_, e := s.p.add(id, l)
	c, p := holdAdd(t, "a move", s.c, s.p, id, l, e)
	if e != api.OK {
		return s, e
	}
	holdTotals(t, s.c, c, nil, l)
	return state{c, p}, e
}

// holdTotals holds that the total is so much less as was spent, and so much more as was added.
func holdTotals(t *testing.T, was, is coin.Coins, spent, added []api.Out) {
	t.Helper()
	n := was.Total()
	for _, out := range spent {
		n -= out.Amount
	}
	for _, out := range added {
		n += out.Amount
	}
	if is.Total() != n {
		t.Errorf("Total %d, want %d", is.Total(), n)
	}
}

// P17.2 to P17.6: long rows of moves; all that ever was stays what it was.
func TestMoves(t *testing.T) {
	seen := map[api.Errno]int{}
	for seed := range int64(12) {
		r := mover{rand.New(rand.NewSource(seed))}
		c, p := made(t, nil)
		if seed%2 == 1 {
			c, p = made(t, rising()[:50])
		}
		all := []state{{c, p}}
		for range 150 {
			// Sometimes it goes on from what was long ago.
			last := all[len(all)-1]
			if r.Intn(20) == 0 {
				last = all[r.Intn(len(all))]
			}
			next, e := r.move(t, last)
			seen[e]++
			holdSumOfStakes(t, "a move", next.c)
			all = append(all, next)
		}
		for _, s := range all {
			hold(t, "long ago", s.c, s.p)
		}
		if t.Failed() {
			return
		}
	}
	for _, e := range []api.Errno{api.OK, api.ErrNone, api.ErrState, api.ErrArg, api.ErrOver} {
		if seen[e] < 10 {
			t.Errorf("the error %d came %d times", e, seen[e])
		}
	}
}

// P17.5: what was added and spent again leaves the coins as they were, and what was spent and comes again too.
func TestThereAndBack(t *testing.T) {
	id := named("id")
	for n := range 9 {
		for _, l := range [][]api.Coin{nil, coins(5), rising()} {
			c, p := made(t, l)
			outs := amounts(slices.Repeat([]uint64{7}, n)...)
			next, q := holdAdd(t, "added", c, p, id, outs, api.OK)
			var ins []api.In
			for i := range outs {
				ins = append(ins, api.In{Tx: id, Index: uint64(i)})
			}
			for way, mixed := range ways(ins) {
				back, _ := holdSpend(t, way, next, q, mixed, api.OK)
				hold(t, way+" and spent again", back, p)
			}
			back, b := holdSpend(t, "spent", next, q, ins, api.OK)
			again, _ := holdAdd(t, "and added again", back, b, id, outs, api.OK)
			hold(t, "as behind the first time", again, q)
		}
	}
}

// P17.5: many that are made of the same coins do not touch one another.
func TestManyOfOne(t *testing.T) {
	c, p := made(t, rising())
	var all []state
	for i, x := range p {
		spent, q := holdSpend(t, "one less", c, p, []api.In{x.In}, api.OK)
		more, r := holdAdd(t, "some more", spent, q, named(strconv.Itoa(i)), amounts(1, 2), api.OK)
		all = append(all, state{spent, q}, state{more, r})
	}
	for _, s := range all {
		hold(t, "one of many", s.c, s.p)
	}
	hold(t, "as they were", c, p)
}

// R3: what is handed in and what is answered are lists of their own.
func TestOwnLists(t *testing.T) {
	in := rising()
	c, p := made(t, in)
	clear(in)
	hold(t, "behind Of", c, p)
	outs := amounts(1, 2, 3)
	next, q := holdAdd(t, "more", c, p, named("id"), outs, api.OK)
	clear(outs)
	hold(t, "behind Add", next, q)
	ins := spots(p)
	rest, r := holdSpend(t, "less", next, q, ins, api.OK)
	clear(ins)
	_, spent, e := next.Spend(spots(p))
	if e != api.OK {
		t.Error("Spend", e)
	}
	clear(spent)
	hold(t, "behind Spend", rest, r)
	clear(next.List())
	clear(next.Stakes())
	hold(t, "behind all", next, q)
}

// R3: lists that go on behind their ends are left as they are there too.
func TestBehindTheEnds(t *testing.T) {
	l := rising()
	c := holdOf(t, "cut", l[:10], true)
	_, p := made(t, l[:10])
	ins, outs := spots(l), amounts(1, 2, 3, 4)
	holdSpend(t, "cut", c, p, ins[:3], api.OK)
	holdAdd(t, "cut", c, p, named("id"), outs[:2], api.OK)
	if !slices.Equal(l, rising()) || !slices.Equal(ins, spots(rising())) || !slices.Equal(outs, amounts(1, 2, 3, 4)) {
		t.Error("behind an end something has become another one")
	}
}

// R1: long lists.
func TestLongLists(t *testing.T) {
	const many = 50000
	var l []api.Coin
	var outs []api.Out
	for i := range many {
		x := at(from(byte(i), byte(i>>8)), uint64(i), 1+uint64(i%3))
		l, outs = append(l, x), append(outs, x.Out)
	}
	rand.New(rand.NewSource(1)).Shuffle(many, func(i, j int) { l[i], l[j] = l[j], l[i] })
	p, _ := plainOf(l)
	c, e := coin.Of(l)
	if e != api.OK || c.Len() != many || !slices.Equal(c.List(), p) || c.Total() != p.sum().Uint64() || !slices.Equal(c.Stakes(), p.stakes()) {
		t.Error("Of many", e, c.Len(), c.Total())
	}
	if got, e := coin.Of(append(l, l[0])); e != api.ErrArg || got.Len() != 0 {
		t.Error("Of many, one twice", e)
	}
	next, e := c.Add(named("id"), outs)
	if e != api.OK || next.Len() != 2*many || next.Total() != 2*c.Total() {
		t.Error("Add of many", e, next.Len(), next.Total())
	}
	if _, e := next.Add(named("id"), outs[:1]); e != api.ErrState {
		t.Error("Add once more", e)
	}
	for _, index := range []uint64{0, 255, 256, many - 1} {
		if out, is := next.Get(api.In{Tx: named("id"), Index: index}); !is || out != outs[index] {
			t.Error("Get", index, out, is)
		}
	}
	rest, spent, e := next.Spend(spots(l))
	if e != api.OK || rest.Len() != many || rest.Total() != c.Total() || len(spent) != many || spent[many-1] != l[many-1].Out {
		t.Error("Spend of many", e, rest.Len(), rest.Total(), len(spent))
	}
	if _, spent, e := c.Spend(append(spots(l), l[0].In)); e != api.ErrNone || spent != nil {
		t.Error("Spend of many, one twice", e, len(spent))
	}
}

// R4: several ask, spend from and add to the same coins at one time.
func TestAtOneTime(t *testing.T) {
	c, p := made(t, rising())
	var zero coin.Coins
	var askers sync.WaitGroup
	for i := range 8 {
		askers.Go(func() {
			r := mover{rand.New(rand.NewSource(int64(i)))}
			own := state{c, p}
			for range 20 {
				hold(t, "the same", c, p)
				hold(t, "the zero ones", zero, nil)
				r.move(t, state{c, p})
				own, _ = r.move(t, own)
			}
			hold(t, "one's own", own.c, own.p)
		})
	}
	askers.Wait()
	hold(t, "behind all", c, p)
}

// R5: what is answered hangs on the coins alone, not on how they came.
func TestOneMeaning(t *testing.T) {
	c, p := made(t, rising())
	for name, l := range ways(rising()) {
		var one coin.Coins
		for _, x := range l {
			next, e := coin.Of(append(one.List(), x))
			if e != api.OK {
				t.Fatal(name, e)
			}
			one = next
		}
		hold(t, name, one, p)
		if !slices.Equal(one.Stakes(), c.Stakes()) || !slices.Equal(one.List(), c.List()) {
			t.Error(name, "they are not told alike")
		}
	}
}
