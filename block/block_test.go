package block_test

import (
	"bytes"
	"crypto/sha256"
	"encoding/binary"
	"encoding/hex"
	"math"
	"math/bits"
	"math/rand"
	"reflect"
	"slices"
	"strconv"
	"strings"
	"sync"
	"testing"

	"mintage/api"
	"mintage/block"
	"mintage/deed"
	"mintage/head"
	"mintage/tree"
)

const (
	headBytes = 2320 // of each head
	sigBytes  = 1024 // of a signature of a deed, or of a right
	headSig   = 1120 // of a head's signature
	mostDeeds = 16
	mostBytes = 32768
	greatest  = math.MaxUint64
)

// named is the sum of a name.
func named(s string) api.Hash { return sha256.Sum256([]byte(s)) }

// from is a hash of bytes 0, of which the first ones are these.
func from(first ...byte) (h api.Hash) {
	copy(h[:], first)
	return h
}

// filled is a hash of one byte, 32 times.
func filled(b byte) api.Hash { return api.Hash(bytes.Repeat([]byte{b}, 32)) }

// sig is a text of that size; what it has hangs on salt.
func sig(size int, salt string) string {
	h := named(salt)
	return string(bytes.Repeat(h[:], size/32+1))[:size]
}

func eight(n uint64) string   { return string(binary.BigEndian.AppendUint64(nil, n)) }
func short(n uint64) string   { return string(binary.AppendUvarint(nil, n)) }
func told(s string) string    { return short(uint64(len(s))) + s }
func hex64(h api.Hash) string { return hex.EncodeToString(h[:]) }

// longer is a number in a form that is a byte longer than the short one.
func longer(n uint64) string {
	b := []byte(short(n))
	b[len(b)-1] |= 128
	return string(b) + "\x00"
}

// plainOf is the sum of parts under a tag.
func plainOf(tag string, parts ...string) api.Hash {
	s := told(tag)
	for _, p := range parts {
		s += told(p)
	}
	return named(s)
}

// left is how many of n hashes, two at least, stand on the left of the top's pair: the greatest power of two below n.
func left(n int) int { return 1 << (bits.Len(uint(n-1)) - 1) }

// plainTop goes down from the top.
func plainTop(l []api.Hash) api.Hash {
	switch len(l) {
	case 0:
		return plainOf("none")
	case 1:
		return plainOf("leaf", string(l[0][:]))
	}
	a, b := plainTop(l[:left(len(l))]), plainTop(l[left(len(l)):])
	return plainOf("pair", string(a[:]), string(b[:]))
}

func plainRoot(l []api.Hash) api.Hash {
	top := plainTop(l)
	return plainOf("root", eight(uint64(len(l))), string(top[:]))
}

// plainProof is the proof for the place i by going down.
func plainProof(l []api.Hash, i int) []api.Hash {
	if len(l) == 1 {
		return nil
	}
	k := left(len(l))
	if i < k {
		return append(plainProof(l[:k], i), plainTop(l[k:]))
	}
	return append(plainProof(l[k:], i-k), plainTop(l[:k]))
}

// plainDeed is the bytes of a deed, be it one that may be or not.
func plainDeed(d api.Deed) string {
	var b strings.Builder
	hash := func(h api.Hash) { b.Write(h[:]) }
	number := func(l ...uint64) {
		for _, n := range l {
			b.WriteString(short(n))
		}
	}
	number(uint64(len(d.Ins)))
	for _, x := range d.Ins {
		hash(x.Tx)
		number(x.Index)
	}
	number(uint64(len(d.Outs)))
	for _, x := range d.Outs {
		hash(x.To)
		hash(x.Stake)
		number(x.Amount)
	}
	number(d.Fee, d.From, d.Until, uint64(len(d.Certs)))
	for _, c := range d.Certs {
		b.WriteByte(c.Kind)
		hash(c.Key)
		hash(c.Pool)
		number(c.A, c.B, c.C)
	}
	number(uint64(len(d.Pays)))
	for _, p := range d.Pays {
		hash(p.Key)
		number(p.Amount)
	}
	number(uint64(len(d.Wits)))
	for _, w := range d.Wits {
		hash(w.Key)
		b.WriteString(w.Sig)
	}
	return b.String()
}

func plainFull(d api.Deed) api.Hash { return plainOf("full", plainDeed(d)) }

func plainFulls(l []api.Deed) (all []api.Hash) {
	for _, d := range l {
		all = append(all, plainFull(d))
	}
	return all
}

func plainSize(l []api.Deed) (n int) {
	for _, d := range l {
		n += len(plainDeed(d))
	}
	return n
}

func plainHead(h api.Head) string {
	r := h.Right
	return eight(h.Slot) + eight(h.Number) + string(h.Prev[:]) + string(h.Pool[:]) + string(h.Body[:]) + eight(h.Size) + eight(h.Many) +
		string(r.Hot[:]) + eight(r.Counter) + eight(r.Start) + r.Sig + h.Sig
}

// laid is a head's bytes, what tells how many deeds there are, and told texts, whatever they tell.
func laid(h api.Head, many string, texts ...string) string {
	return plainHead(h) + many + strings.Join(texts, "")
}

func plainPut(b api.Block) string {
	var texts []string
	for _, d := range b.Deeds {
		texts = append(texts, told(plainDeed(d)))
	}
	return laid(b.Head, short(uint64(len(b.Deeds))), texts...)
}

// plainBody is what the chapter says of Body, error by error.
func plainBody(l []api.Deed) (root api.Hash, size, many uint64, e api.Errno) {
	for _, d := range l {
		if deed.May(d) != api.OK {
			return api.Hash{}, 0, 0, api.ErrArg
		}
	}
	if len(l) > mostDeeds || plainSize(l) > mostBytes {
		return api.Hash{}, 0, 0, api.ErrLong
	}
	return plainRoot(plainFulls(l)), uint64(plainSize(l)), uint64(len(l)), api.OK
}

func plainMay(b api.Block) bool {
	_, _, _, e := plainBody(b.Deeds)
	return len(b.Head.Right.Sig) == sigBytes && len(b.Head.Sig) == headSig && e == api.OK
}

// plainTake takes nothing of which the bytes are not just those that the chapter puts for it.
func plainTake(s string) (b api.Block, is bool) {
	if len(s) < headBytes {
		return api.Block{}, false
	}
	b.Head, _ = head.Take(s[:headBytes])
	rest := []byte(s[headBytes:])
	n, size := binary.Uvarint(rest)
	for rest = rest[max(size, 0):]; size > 0 && n > 0; n-- {
		long, size := binary.Uvarint(rest)
		if size <= 0 || long > uint64(len(rest)-size) {
			return api.Block{}, false
		}
		d, e := deed.Take(string(rest[size : size+int(long)]))
		rest = rest[size+int(long):]
		b.Deeds = append(b.Deeds, d)
		if e != api.OK || len(b.Deeds) > mostDeeds {
			return api.Block{}, false
		}
	}
	if !plainMay(b) || plainPut(b) != s {
		return api.Block{}, false
	}
	return b, true
}

// copied is a block that shares no list with the one that it is of.
func copied(b api.Block) api.Block {
	b.Deeds = slices.Clone(b.Deeds)
	for i := range b.Deeds {
		b.Deeds[i] = copiedDeed(b.Deeds[i])
	}
	return b
}

func copiedDeed(d api.Deed) api.Deed {
	d.Ins, d.Outs, d.Certs = slices.Clone(d.Ins), slices.Clone(d.Outs), slices.Clone(d.Certs)
	d.Pays, d.Wits = slices.Clone(d.Pays), slices.Clone(d.Wits)
	return d
}

// alike: whether two blocks are the same; none and an empty list are.
func alike(a, b api.Block) bool {
	full := func(b api.Block) api.Block {
		b.Deeds = append([]api.Deed{}, b.Deeds...)
		for i, d := range b.Deeds {
			d.Ins, d.Outs, d.Certs = append([]api.In{}, d.Ins...), append([]api.Out{}, d.Outs...), append([]api.Cert{}, d.Certs...)
			d.Pays, d.Wits = append([]api.Pay{}, d.Pays...), append([]api.Wit{}, d.Wits...)
			b.Deeds[i] = d
		}
		return b
	}
	return reflect.DeepEqual(full(a), full(b))
}

// bare is the least of deeds, 41 bytes: one In, all else zero.
func bare(salt string) api.Deed { return api.Deed{Ins: []api.In{{Tx: named(salt)}}} }

// some has two things in each list.
func some() api.Deed {
	return api.Deed{
		Ins:   []api.In{{Tx: named("in"), Index: 2}, {Tx: named("in"), Index: 7}},
		Outs:  []api.Out{{To: named("to"), Stake: named("stake"), Amount: 300}, {To: named("to"), Amount: 1}},
		Fee:   127,
		From:  128,
		Until: 1 << 40,
		Certs: []api.Cert{{Kind: 4, Key: named("key"), Pool: named("pool"), A: 5, B: 1<<63 - 1, C: 1000}, {Kind: 6, Pool: named("pool"), A: 3, B: greatest}},
		Pays:  []api.Pay{{Key: from(1), Amount: 1<<63 - 1}, {Key: from(2), Amount: 1}},
		Wits:  []api.Wit{{Key: from(3), Sig: sig(sigBytes, "a")}, {Key: from(4), Sig: sig(sigBytes, "b")}},
	}
}

// most has as many bytes as a deed may have.
func most() api.Deed {
	d := api.Deed{Fee: 1<<63 - 1, From: greatest, Until: greatest}
	for i := range 8 {
		b := byte(i)
		d.Ins = append(d.Ins, api.In{Tx: from(b), Index: uint64(i)})
		d.Outs = append(d.Outs, api.Out{To: filled(b), Stake: filled(255 - b), Amount: 1<<63 - 1})
		d.Wits = append(d.Wits, api.Wit{Key: from(b), Sig: sig(sigBytes, strconv.Itoa(i))})
	}
	for i := range 4 {
		d.Certs = append(d.Certs, api.Cert{Kind: 6, Pool: filled(byte(i)), A: greatest, B: greatest})
		d.Pays = append(d.Pays, api.Pay{Key: from(byte(i)), Amount: 1<<63 - 1})
	}
	return d
}

// numbered is a deed that hangs on i alone; another program made the same ones.
func numbered(i int) api.Deed {
	n, s := uint64(i), strconv.Itoa(i)
	d := api.Deed{Ins: []api.In{{Tx: named("tx" + s), Index: n % 8}}, Fee: 10 * n, From: n, Until: 1000 + n}
	for j := range n % 3 {
		o := api.Out{To: named("to"), Amount: 100*n + j + 1}
		if j > 0 {
			o.Stake = named("stake")
		}
		d.Outs = append(d.Outs, o)
	}
	if i%2 == 1 {
		d.Wits = []api.Wit{{Key: named("key" + s), Sig: sig(sigBytes, "sig"+s)}}
	}
	return d
}

func numberedUpTo(n int) (l []api.Deed) {
	for i := range n {
		l = append(l, numbered(i))
	}
	return l
}

// ofSize is a deed of just so many bytes: things as long as they find room, and numbers for what is left.
func ofSize(t *testing.T, size int, salt string) api.Deed {
	t.Helper()
	d := bare(salt)
	rest := size - len(plainDeed(d))
	room := func(of, left, now, most int) bool {
		if rest < of+left || now == most {
			return false
		}
		rest -= of
		return true
	}
	// Behind a Wit there is to be room for an Out, whose Amount takes some of what is left.
	for room(1056, 65, len(d.Wits), 8) {
		d.Wits = append(d.Wits, api.Wit{Key: from(byte(len(d.Wits))), Sig: sig(sigBytes, salt)})
	}
	for room(65, 0, len(d.Outs), 8) {
		d.Outs = append(d.Outs, api.Out{Amount: 1})
	}
	for room(68, 0, len(d.Certs), 4) {
		d.Certs = append(d.Certs, api.Cert{Kind: 1})
	}
	for room(33, 0, len(d.Pays), 4) {
		d.Pays = append(d.Pays, api.Pay{Key: from(byte(len(d.Pays))), Amount: 1})
	}
	for room(33, 0, len(d.Ins), 8) {
		d.Ins = append(d.Ins, api.In{Tx: named(salt), Index: uint64(len(d.Ins))})
	}
	numbers := []*uint64{&d.Fee, &d.Until, &d.From}
	for i := range d.Outs {
		numbers = append(numbers, &d.Outs[i].Amount)
	}
	for _, n := range numbers {
		more := min(rest, 8)
		if more > 0 {
			*n = 1 << (7 * more)
		}
		rest -= more
	}
	if len(plainDeed(d)) != size || deed.May(d) != api.OK {
		t.Fatal("no deed of", size, "bytes, but of", len(plainDeed(d)))
	}
	return d
}

// ofSizes are n deeds, of which none is another, that have so many bytes together.
func ofSizes(t *testing.T, n, size int) (l []api.Deed) {
	t.Helper()
	for i := range n {
		here := size / (n - i)
		l = append(l, ofSize(t, here, strconv.Itoa(i)))
		size -= here
	}
	return l
}

// anyHead says nothing of deeds that there are.
func anyHead() api.Head {
	return api.Head{
		Slot: 1000, Number: 300, Prev: named("prev"), Pool: named("pool"), Body: named("body"), Size: 5, Many: 99,
		Right: api.Right{Hot: named("hot"), Counter: 2, Start: 70, Sig: sig(sigBytes, "right")},
		Sig:   sig(headSig, "sig"),
	}
}

// fitting is a block of the deeds whose head says what they are, be they ones that may be together or not.
func fitting(l []api.Deed) api.Block {
	h := anyHead()
	h.Body, h.Size, h.Many = plainRoot(plainFulls(l)), uint64(plainSize(l)), uint64(len(l))
	return api.Block{Head: h, Deeds: l}
}

// bases are blocks that fit.
func bases(t *testing.T) map[string]api.Block {
	t.Helper()
	return map[string]api.Block{
		"none":      fitting(nil),
		"one":       fitting([]api.Deed{bare("a")}),
		"two alike": fitting([]api.Deed{some(), some()}),
		"three":     fitting([]api.Deed{some(), bare("b"), most()}),
		"seven":     fitting(numberedUpTo(7)),
		"sixteen":   fitting(numberedUpTo(16)),
		"full":      fitting(ofSizes(t, 16, mostBytes)),
		"few full":  fitting(ofSizes(t, 4, mostBytes)),
	}
}

// edge is a deed that may not be.
type edge struct {
	name string
	deed api.Deed
}

func noDeeds() []edge {
	of := func(name string, change func(d *api.Deed)) edge {
		d := some()
		change(&d)
		return edge{name, d}
	}
	return []edge{
		{"the zero deed", api.Deed{}},
		of("no ins", func(d *api.Deed) { d.Ins = nil }),
		of("ins alike", func(d *api.Deed) { d.Ins[1] = d.Ins[0] }),
		of("an index", func(d *api.Deed) { d.Ins[1].Index = 8 }),
		of("nine outs", func(d *api.Deed) { d.Outs = slices.Repeat(d.Outs[:1], 9) }),
		of("an amount", func(d *api.Deed) { d.Outs[1].Amount = 0 }),
		of("a fee", func(d *api.Deed) { d.Fee = 1 << 63 }),
		of("from above until", func(d *api.Deed) { d.From = d.Until + 1 }),
		of("a kind", func(d *api.Deed) { d.Certs[0].Kind = 7 }),
		of("a key", func(d *api.Deed) { d.Certs[1].Key = from(1) }),
		of("pays that fall", func(d *api.Deed) { slices.Reverse(d.Pays) }),
		of("wits that fall", func(d *api.Deed) { slices.Reverse(d.Wits) }),
		of("a long sig", func(d *api.Deed) { d.Wits[1].Sig += "s" }),
		of("a short sig", func(d *api.Deed) { d.Wits[1].Sig = d.Wits[1].Sig[1:] }),
	}
}

// headsThatMayNotBe are made of one that may be.
func headsThatMayNotBe(of api.Head) map[string]api.Head {
	l := map[string]api.Head{"the zero head": {}}
	for _, n := range []int{0, 1, 1023, 1025, 1119, 1120, 1121, 2048} {
		h := of
		h.Right.Sig = sig(n, "n")
		l["right "+strconv.Itoa(n)] = h
	}
	for _, n := range []int{0, 1, 1023, 1024, 1025, 1119, 1121, 2240} {
		h := of
		h.Sig = sig(n, "n")
		l["sig "+strconv.Itoa(n)] = h
	}
	h := of
	// Both have together as many bytes as they must.
	h.Right.Sig, h.Sig = sig(headSig, "right"), sig(sigBytes, "sig")
	l["exchanged"] = h
	return l
}

// hold holds all that is told of a block against the chapter's words.
func hold(t *testing.T, name string, b api.Block) {
	t.Helper()
	ahead, may := copied(b), plainMay(b)
	want, put, id := api.ErrArg, "", api.Hash{}
	if may {
		want, put, id = api.OK, plainPut(b), plainOf("head", plainHead(b.Head))
	}
	if e := block.May(b); e != want {
		t.Errorf("%s: May %d, want %d", name, e, want)
	}
	if s, e := block.Put(b); s != put || e != want {
		t.Errorf("%s: Put %d bytes, %d, want %d bytes, %d", name, len(s), e, len(put), want)
	}
	if h, e := block.Id(b); h != id || e != want {
		t.Errorf("%s: Id %x, %d, want %x, %d", name, h, e, id, want)
	}
	root, size, many, e := plainBody(b.Deeds)
	if r, s, m, got := block.Body(b.Deeds); r != root || s != size || m != many || got != e {
		t.Errorf("%s: Body %x, %d, %d, %d, want %x, %d, %d, %d", name, r, s, m, got, root, size, many, e)
	}
	h := b.Head
	if fits := may && h.Body == root && h.Size == size && h.Many == many; block.Fits(b) != fits {
		t.Errorf("%s: Fits is not %t", name, fits)
	}
	if !block.Same(b, ahead) || !block.Same(ahead, b) || !reflect.DeepEqual(b, ahead) {
		t.Error(name, "has become another one")
	}
	holdProve(t, name, b, may)
	holdTake(t, name, plainPut(b))
}

// places are those around n deeds, and the ends of what a place may be.
func places(n int) []int {
	l := []int{math.MinInt, math.MinInt32, -n, -2, n + 1, mostDeeds, 1 << 20, math.MaxInt32, 1 << 32, 1<<32 + 1, math.MaxInt}
	for i := -1; i <= n; i++ {
		l = append(l, i)
	}
	return l
}

// holdProve holds Prove at all places of the block, and at ones that are none.
func holdProve(t *testing.T, name string, b api.Block, may bool) {
	t.Helper()
	fulls := plainFulls(b.Deeds)
	for _, i := range places(len(b.Deeds)) {
		full, proof, e := block.Prove(b, i)
		if !may || i < 0 || i >= len(fulls) {
			want := api.ErrRange
			if !may {
				want = api.ErrArg
			}
			if e != want || full != (api.Hash{}) || len(proof) != 0 {
				t.Errorf("%s: Prove at %d of %d: %x, %x, %d, want %d", name, i, len(fulls), full, proof, e, want)
			}
			continue
		}
		if e != api.OK || full != fulls[i] || !slices.Equal(proof, plainProof(fulls, i)) {
			t.Errorf("%s: Prove at %d of %d: %x, %x, %d", name, i, len(fulls), full, proof, e)
		}
	}
}

// holdTake holds what is taken of bytes against the chapter's words, and tells whether they are a block's.
func holdTake(t *testing.T, name, s string) bool {
	t.Helper()
	want, is := plainTake(s)
	got, e := block.Take(s)
	if !is {
		if e != api.ErrBytes || !reflect.DeepEqual(got, api.Block{}) {
			t.Errorf("%s: Take of %d bytes: %d deeds, %d, want ErrBytes", name, len(s), len(got.Deeds), e)
		}
		return false
	}
	if e != api.OK || !alike(got, want) || !block.Same(got, want) || block.May(got) != api.OK {
		t.Errorf("%s: Take of %d bytes: %d deeds, %d, want %d deeds", name, len(s), len(got.Deeds), e, len(want.Deeds))
	}
	if back, e := block.Put(got); back != s || e != api.OK {
		t.Errorf("%s: Put of Take of %d bytes: %d bytes, %d", name, len(s), len(back), e)
	}
	return true
}

// isNone says that bytes are no block's, by hand as well.
func isNone(t *testing.T, name, s string) {
	t.Helper()
	if holdTake(t, name, s) {
		t.Errorf("%s: %d bytes are a block's", name, len(s))
	}
}

func isOne(t *testing.T, name, s string) {
	t.Helper()
	if !holdTake(t, name, s) {
		t.Errorf("%s: %d bytes are no block's", name, len(s))
	}
}

// P15.1 to P15.3: the chapter's examples.
func TestExamples(t *testing.T) {
	for name, l := range map[string][]api.Deed{"nil": nil, "empty": {}} {
		root, size, many, e := block.Body(l)
		if root != tree.Root(nil) || size != 0 || many != 0 || e != api.OK {
			t.Error(name, root, size, many, e)
		}
	}
	if e := block.May(api.Block{}); e != api.ErrArg {
		t.Error("May of the zero block", e)
	}
	if b, e := block.Take(""); e != api.ErrBytes || !reflect.DeepEqual(b, api.Block{}) {
		t.Error("Take of no bytes", b, e)
	}
	full, proof, e := block.Prove(api.Block{Head: anyHead()}, 0)
	if full != (api.Hash{}) || len(proof) != 0 || e != api.ErrRange {
		t.Error("Prove of a block without deeds", full, proof, e)
	}
}

// P15.1 to P15.3: told by another program: how many bytes the deeds have, and the block; the root, the sum of the block's bytes, its id, the sums of what all deeds come to in full, and of all proofs, one behind the other.
func TestPinned(t *testing.T) {
	for _, c := range []struct {
		many, size, whole             int
		root, put, id, fulls, provers string
	}{
		{0, 0, 2321, "5dad5ea8506df386e9aa4c2a06f2fb7b96593bea7b399d724278a41815482561", "ae384f09d426c24b7b6ed1cc85cf5d31698160ea9e39206b24a42040302b5b9f", "7598328916a48dc36f432233705a21a95a05a9460d39af91c9388b74fc16486e", "e3b0c44298fc1c149afbf4c8996fb92427ae41e4649b934ca495991b7852b855", "e3b0c44298fc1c149afbf4c8996fb92427ae41e4649b934ca495991b7852b855"},
		{1, 42, 2364, "9b842ec010664891a7ff4d34c4dff035b41123b4227d6610bbebb9fe3d5a639c", "355b9ebc70ff3a2d47dde911a94028b9385cb3bdf8f01b75885bd813e828db4a", "f75ff2297c57098697e5c616f0b740c42a5169b7554af4cfb854dfe137094dba", "edc2f2fac95cd268a9fbf17ab9427d9ba161e383c6e7bae6f3a4c990466e27fd", "e3b0c44298fc1c149afbf4c8996fb92427ae41e4649b934ca495991b7852b855"},
		{2, 1205, 3529, "9e1083b623f655de7b9d46300ded3781a16601ef0c1939b413ac5dfcad9ed3c3", "f8ac4cbe3d8fe28033b4ae3de393d001377cbdeb10dce880cef5cee5fc483c75", "0a9cd55fabe03293d4c480f164aeffa5f84fbe1102c8a6d8e3e3b041cca605d5", "aa6a923b38b637ef0c4542be7fea687eacec1691e8342ba58972395577cff583", "1912f5a55309fe77ce2c3903d7c673f0bd2715f8d5093e3ec5355a98a5439622"},
		{3, 1379, 3705, "171ecc1ebf76f01f3d3958ec97de3783771658ea645bf78b246bf63bb84fb56a", "163357f8f714ac35be1af51f1ed4216add38391bb5412eb21d47a265177e3822", "ec3fa1602b808ebeb5e1c2bbe8536a76c0baf58adfc74b216e59089cdb594ef9", "5b135c7d84236ff1434c7af82dfc8099ba5572571a82b9daee27e585425c1c3a", "17bae50ff0b8c1c0899b173ba94e23376113d44897b0e0ec9b7a0bc617e9bf5c"},
		{7, 3857, 6189, "daffbe933b467bacf9cd72f13e880fb7debc052b3c3cacf667a01bee6518f7a6", "eee623452773ddb3f85ff0f014600343d42801b315fd31a471d2bbc0bd74cb9f", "bb9acafa3efe354bf3d7b10783f17aadfd20555f76850b72d34314be9457fc95", "3808f5dbdd20b28c7e7821703d3f9ba61e386436a2a4920d4697f7d050a4ce5d", "3e926b982ce4af89a82fc38844e8326c8a1d719aad6832f0c610e498e55ac83e"},
		{8, 5021, 7355, "3054a9149e8adc7ebb72f51461ee7612bd2597b05df304785a646baac7020c7d", "942ffd9e254c06fcc75121c07e1baefb23307d913e291350281190baecf69a13", "c04d356e00971a870ccae0b390b9ead6142f40939be41443024032a7d8e6fe49", "00ef30a022d0e782559fb0d20bdbd92a694f2d41f2725f195e9be8dd47387e2c", "62f19603f595e1495ae5e1faed5df476954e17e2bf497bae27d79ae9d81e0b6a"},
		{16, 10112, 12460, "967b55309bdaeaf296ad42ca900cd6b7faa6b7c0e93684fc41d132bba554fb5e", "46471402d4717b3dbb6cbc36ac4c1aba04b0242aa9887c07689739dfe2d5e0e7", "277440ddbb53d8dc504fcb3fd149f28e9bcc3109923dc315aa55f0dc60fdd1ba", "71dd69eddd6a87adef3cfac68cd1f2b08c542b3a3b8f0124a648a163c9228184", "380ff82cbc1bffd42a4f617febc2b6fc6eee55b851c972b84680701e1c849ba2"},
	} {
		b := api.Block{Head: anyHead(), Deeds: numberedUpTo(c.many)}
		root, size, many, e := block.Body(b.Deeds)
		if hex64(root) != c.root || size != uint64(c.size) || many != uint64(c.many) || e != api.OK {
			t.Errorf("%d: Body %x, %d, %d, %d", c.many, root, size, many, e)
		}
		b.Head.Body, b.Head.Size, b.Head.Many = root, size, many
		s, e := block.Put(b)
		id, e2 := block.Id(b)
		if len(s) != c.whole || hex64(named(s)) != c.put || hex64(id) != c.id || e != api.OK || e2 != api.OK {
			t.Errorf("%d: Put %d bytes, %d; Id %x, %d", c.many, len(s), e, id, e2)
		}
		if back, e := block.Take(s); e != api.OK || !alike(back, b) || !block.Fits(back) {
			t.Error(c.many, "Take", e)
		}
		var fulls, provers []byte
		for i := range c.many {
			full, proof, e := block.Prove(b, i)
			if e != api.OK {
				t.Error(c.many, i, e)
			}
			fulls = append(fulls, full[:]...)
			for _, h := range proof {
				provers = append(provers, h[:]...)
			}
		}
		if hex64(sha256.Sum256(fulls)) != c.fulls || hex64(sha256.Sum256(provers)) != c.provers {
			t.Error(c.many, "Prove")
		}
	}
}

// P15.1: each part stands in the bytes where the chapter says; deeds whose bytes' number needs one byte, and two. (One of three bytes is above what a deed may have.)
func TestBytesWrittenOut(t *testing.T) {
	h := api.Head{
		Slot: 0x0102030405060708, Number: 258, Prev: filled(0xa1), Pool: filled(0xa2), Body: filled(0xa3), Size: 1 << 40, Many: 17,
		Right: api.Right{Hot: filled(0xa4), Counter: 9, Start: 255, Sig: strings.Repeat("r", sigBytes)},
		Sig:   strings.Repeat("s", headSig),
	}
	first := "\x01\x02\x03\x04\x05\x06\x07\x08" + "\x00\x00\x00\x00\x00\x00\x01\x02" +
		strings.Repeat("\xa1", 32) + strings.Repeat("\xa2", 32) + strings.Repeat("\xa3", 32) +
		"\x00\x00\x01\x00\x00\x00\x00\x00" + "\x00\x00\x00\x00\x00\x00\x00\x11" +
		strings.Repeat("\xa4", 32) + "\x00\x00\x00\x00\x00\x00\x00\x09" + "\x00\x00\x00\x00\x00\x00\x00\xff" +
		strings.Repeat("r", 1024) + strings.Repeat("s", 1120)
	least := api.Deed{Ins: []api.In{{Tx: filled('t'), Index: 7}}, Fee: 5, From: 6, Until: 9}
	one := "\x01" + strings.Repeat("t", 32) + "\x07" + "\x00" + "\x05\x06\x09" + "\x00" + "\x00" + "\x00"
	signed := copiedDeed(least)
	signed.Wits = []api.Wit{{Key: filled('w'), Sig: strings.Repeat("!", sigBytes)}}
	two := one[:len(one)-1] + "\x01" + strings.Repeat("w", 32) + strings.Repeat("!", 1024)
	for name, c := range map[string]struct {
		deeds []api.Deed
		want  string
	}{
		"none":      {nil, first + "\x00"},
		"one":       {[]api.Deed{least}, first + "\x01" + "\x29" + one},
		"two":       {[]api.Deed{signed}, first + "\x01" + "\xc9\x08" + two},
		"one, two":  {[]api.Deed{least, signed}, first + "\x02" + "\x29" + one + "\xc9\x08" + two},
		"two, one":  {[]api.Deed{signed, least}, first + "\x02" + "\xc9\x08" + two + "\x29" + one},
		"one, one":  {[]api.Deed{least, least}, first + "\x02" + "\x29" + one + "\x29" + one},
		"sixteen":   {slices.Repeat([]api.Deed{least}, 16), first + "\x10" + strings.Repeat("\x29"+one, 16)},
		"127 bytes": {[]api.Deed{ofSize(t, 127, "a")}, first + "\x01" + "\x7f" + plainDeed(ofSize(t, 127, "a"))},
		"128 bytes": {[]api.Deed{ofSize(t, 128, "a")}, first + "\x01" + "\x80\x01" + plainDeed(ofSize(t, 128, "a"))},
	} {
		b := api.Block{Head: h, Deeds: c.deeds}
		if s, e := block.Put(b); s != c.want || e != api.OK {
			t.Errorf("%s: %x, %d", name, s, e)
		}
		if got, e := block.Take(c.want); !alike(got, b) || e != api.OK {
			t.Errorf("%s: %v, %d", name, got, e)
		}
		hold(t, name, b)
	}
	if n := len(plainDeed(most())); deed.May(most()) != api.OK || len(short(uint64(n))) != 2 || n+16 > 16383 {
		t.Error("the longest deed has", n, "bytes")
	}
}

// P15.1 to P15.3: as many deeds as may be, and more; each by itself, and a great many.
func TestManyDeeds(t *testing.T) {
	for n := range 20 {
		b := fitting(numberedUpTo(n))
		hold(t, strconv.Itoa(n), b)
		hold(t, strconv.Itoa(n)+" alike", fitting(slices.Repeat([]api.Deed{bare("a")}, n)))
		want := api.OK
		if n > mostDeeds {
			want = api.ErrArg
		}
		if e := block.May(b); e != want || block.Fits(b) != (n <= mostDeeds) {
			t.Error(n, e)
		}
		if _, _, _, e := block.Body(b.Deeds); (e == api.OK) != (n <= mostDeeds) || n > mostDeeds && e != api.ErrLong {
			t.Error(n, e)
		}
	}
	for _, n := range []int{32, 33, 128, 255, 256, 257, 272, 1 << 10} {
		hold(t, strconv.Itoa(n), fitting(slices.Repeat([]api.Deed{bare("a")}, n)))
	}
}

// P15.1 to P15.3: deeds that have just 2^15 bytes together, one byte fewer, one more, and many more: with as few deeds as can have them, and as many as may be.
func TestManyBytes(t *testing.T) {
	for _, n := range []int{4, 5, 8, 15, 16, 17} {
		for _, size := range []int{mostBytes - 1, mostBytes, mostBytes + 1, mostBytes + 41, mostBytes + 2*n} {
			name := strconv.Itoa(n) + " of " + strconv.Itoa(size)
			b := fitting(ofSizes(t, n, size))
			hold(t, name, b)
			may := n <= mostDeeds && size <= mostBytes
			if (block.May(b) == api.OK) != may || block.Fits(b) != may {
				t.Error(name, "may be:", !may)
			}
			root, bytes, many, e := block.Body(b.Deeds)
			if may && (root != b.Head.Body || bytes != uint64(size) || many != uint64(n) || e != api.OK) {
				t.Error(name, root, bytes, many, e)
			}
			if !may && (root != (api.Hash{}) || bytes != 0 || many != 0 || e != api.ErrLong) {
				t.Error(name, root, bytes, many, e)
			}
			if holdTake(t, name, plainPut(b)) != may {
				t.Error(name, "is taken:", !may)
			}
		}
	}
	// The last one alone is too much: what stands ahead of it has just as much as may be.
	b := fitting(append(ofSizes(t, 4, mostBytes), bare("more")))
	hold(t, "one more", b)
	isNone(t, "one more", plainPut(b))
	for n := range 17 {
		hold(t, "the longest", fitting(slices.Repeat([]api.Deed{most()}, n)))
	}
}

// P15.1 to P15.3: a deed that may not be, alone, at the first, a middle and the last place, beside as many as may be, beside more, and beside too many bytes: ErrArg goes ahead of ErrLong.
func TestDeedsThatMayNotBe(t *testing.T) {
	for _, no := range noDeeds() {
		if deed.May(no.deed) == api.OK {
			t.Fatal(no.name, "may be")
		}
		for name, of := range map[string][]api.Deed{
			"alone":           {bare("a")},
			"two":             numberedUpTo(2),
			"three":           numberedUpTo(3),
			"sixteen":         numberedUpTo(16),
			"seventeen":       numberedUpTo(17),
			"eighteen":        numberedUpTo(18),
			"many":            slices.Repeat(numberedUpTo(10), 10),
			"too many bytes":  ofSizes(t, 8, mostBytes+2000),
			"both":            ofSizes(t, 20, mostBytes+4000),
			"just full":       ofSizes(t, 16, mostBytes),
			"the longest, 16": slices.Repeat([]api.Deed{most()}, 16),
		} {
			for _, i := range []int{0, len(of) / 2, len(of) - 1, min(15, len(of)-1), min(16, len(of)-1)} {
				l := slices.Clone(of)
				l[i] = no.deed
				if root, size, many, e := block.Body(l); e != api.ErrArg || root != (api.Hash{}) || size != 0 || many != 0 {
					t.Errorf("%s, %s, %d: Body %x, %d, %d, %d", no.name, name, i, root, size, many, e)
				}
				if len(l) <= 20 {
					hold(t, no.name+", "+name+", "+strconv.Itoa(i), fitting(l))
				}
			}
			l := append(slices.Clone(of), no.deed)
			if _, _, _, e := block.Body(l); e != api.ErrArg {
				t.Error(no.name, name, "behind all", e)
			}
			if s := plainPut(fitting(l)); len(l) <= 20 {
				isNone(t, no.name+", "+name, s)
			}
		}
	}
}

// P15.1 to P15.3: a head that may not be, by Right.Sig and by Sig; Body does not ask it.
func TestHeadsThatMayNotBe(t *testing.T) {
	for name, b := range bases(t) {
		for how, h := range headsThatMayNotBe(b.Head) {
			if head.May(h) == api.OK {
				t.Fatal(how, "may be")
			}
			no := api.Block{Head: h, Deeds: b.Deeds}
			hold(t, name+", "+how, no)
			if block.May(no) != api.ErrArg || block.Fits(no) {
				t.Error(name, how)
			}
		}
	}
	for _, no := range noDeeds() {
		hold(t, "both", api.Block{Deeds: []api.Deed{no.deed}})
	}
}

// P15.1: no bytes, fewer than a head has, a head alone, and what stands behind a head.
func TestTakeOfFew(t *testing.T) {
	top := plainHead(anyHead())
	for n := range headBytes + 1 {
		isNone(t, "a head's", top[:n])
		isNone(t, "noughts", strings.Repeat("\x00", n))
	}
	isOne(t, "a head, and no deeds", top+"\x00")
	isOne(t, "noughts", strings.Repeat("\x00", headBytes+1))
	for b := 1; b < 256; b++ {
		isNone(t, "a head and a byte", top+string([]byte{byte(b)}))
	}
	for _, n := range []int{headBytes + 2, 2 * headBytes, 1 << 16, 1 << 22} {
		isNone(t, "noughts", strings.Repeat("\x00", n))
		isNone(t, "ones", strings.Repeat("\xff", n))
		isNone(t, "a head and noughts", top+strings.Repeat("\x00", n-headBytes))
	}
}

// P15.1: each beginning of a block's bytes, what stands behind them, and what stands ahead.
func TestTakeBeginnings(t *testing.T) {
	for name, b := range bases(t) {
		s := plainPut(b)
		isOne(t, name, s)
		step := 1
		if len(s) > 8000 {
			step = 31
		}
		for n := 0; n < len(s); n += step {
			isNone(t, name+" "+strconv.Itoa(n), s[:n])
		}
		isNone(t, name, s[:len(s)-1])
		for _, more := range []string{"\x00", "\x01", "\xff", told(plainDeed(bare("a"))), s} {
			isNone(t, name+" with more", s+more)
		}
		isNone(t, name+" behind a byte", "\x00"+s)
		isNone(t, name+" without its first byte", s[1:])
	}
}

// P15.1: the number of deeds, and a text's length, in a longer form than the short one.
func TestTakeLongerForms(t *testing.T) {
	h := anyHead()
	one, two := plainDeed(bare("a")), plainDeed(some())
	isOne(t, "short", laid(h, "\x02", told(one), told(two)))
	isNone(t, "many", laid(h, longer(2), told(one), told(two)))
	isNone(t, "none", laid(h, longer(0)))
	isNone(t, "none, twice as long", laid(h, "\x80\x80\x00"))
	isNone(t, "sixteen", laid(h, longer(16), strings.Repeat(told(one), 16)))
	for _, s := range []string{one, two, plainDeed(most())} {
		n := uint64(len(s))
		isOne(t, "a text", laid(h, "\x01", short(n)+s))
		isNone(t, "a text", laid(h, "\x01", longer(n)+s))
		isNone(t, "the first text", laid(h, "\x02", longer(n)+s, told(one)))
		isNone(t, "the last text", laid(h, "\x02", told(one), longer(n)+s))
		isNone(t, "all", laid(h, longer(2), longer(n)+s, longer(n)+s))
	}
}

// tooGreat are numbers that are greater than may be, also of those that are less where bits of them are lost.
func tooGreat() []uint64 {
	return []uint64{17, 18, 127, 128, 255, 256, 272, mostBytes, mostBytes + 1, 1 << 16, 1<<32 - 1, 1 << 32, 1<<32 + 1, 1<<63 - 1, 1 << 63, 1<<63 + 1, 1<<64 - 41, greatest - 1, greatest}
}

// P15.1: counts that are greater than may be, and ones of more or fewer deeds than there are.
func TestTakeCounts(t *testing.T) {
	h, one := anyHead(), told(plainDeed(bare("a")))
	for _, n := range tooGreat() {
		for there := range 19 {
			isNone(t, "a great count", laid(h, short(n), strings.Repeat(one, there)))
		}
		isNone(t, "a great count", laid(h, short(n), strings.Repeat("\x00", 1<<16)))
	}
	// As many as are told, but more than may be.
	for _, n := range []int{17, 18, 127, 128, 256, 272, 400} {
		isNone(t, "so many", laid(h, short(uint64(n)), strings.Repeat(one, n)))
	}
	for n := range 20 {
		for there := range 20 {
			s := laid(h, short(uint64(n)), strings.Repeat(one, there))
			if holdTake(t, "counts", s) != (n == there && n <= mostDeeds) {
				t.Error(n, there)
			}
		}
	}
	isNone(t, "no count", plainHead(h)+"\x80")
	isNone(t, "no number", plainHead(h)+strings.Repeat("\xff", 9)+"\x02")
	isNone(t, "no number", plainHead(h)+strings.Repeat("\xff", 20))
}

// P15.1: lengths of a text that are greater than may be, or other ones than the deed's bytes have.
func TestTakeLengths(t *testing.T) {
	h := anyHead()
	for _, d := range []api.Deed{bare("a"), some(), most()} {
		s := plainDeed(d)
		n := uint64(len(s))
		beside := told(plainDeed(bare("b")))
		for _, length := range append(tooGreat(), 0, 1, n-1, n+1, n-2, n+2, n+41, n+uint64(len(beside)), 2*n, n+128, n+1<<32, n+1<<63, mostBytes-n) {
			for _, behind := range []string{"", "\x00", "\x00\x00", beside, strings.Repeat("\x00", mostBytes+2)} {
				isNone(t, "a length", laid(h, "\x01", short(length)+s+behind))
				isNone(t, "the first one's", laid(h, "\x02", short(length)+s+behind, beside))
				isNone(t, "the last one's", laid(h, "\x02", beside, short(length)+s+behind))
			}
		}
		for _, more := range []string{"\x00", "\x01", "\xff", s, beside} {
			// The length says what is there, but that is more than a deed.
			isNone(t, "too many bytes", laid(h, "\x01", told(s+more)))
			isNone(t, "too many bytes ahead", laid(h, "\x01", told(more+s)))
			isNone(t, "too many bytes of the first", laid(h, "\x02", told(s+more), beside))
			isNone(t, "too many bytes of the last", laid(h, "\x02", beside, told(s+more)))
		}
		for _, cut := range []int{1, 2, 40, len(s) / 2} {
			isNone(t, "too few bytes", laid(h, "\x01", told(s[:len(s)-cut])))
			isNone(t, "too few bytes ahead", laid(h, "\x01", told(s[cut:])))
			isNone(t, "too few bytes of the first", laid(h, "\x02", told(s[:len(s)-cut]), beside))
			isNone(t, "too few bytes of the last", laid(h, "\x02", beside, told(s[:len(s)-cut])))
			// What one has too few the next one has too many.
			isNone(t, "another cut", laid(h, "\x02", told(s[:len(s)-cut]), told(s[len(s)-cut:]+s)))
		}
		isNone(t, "no bytes", laid(h, "\x01", told("")))
		isNone(t, "no bytes ahead", laid(h, "\x02", told(""), told(s)))
		isNone(t, "no bytes behind", laid(h, "\x02", told(s), told("")))
		isNone(t, "no length", laid(h, "\x01", s))
	}
	// As long as is told, and of all lengths of one, two and three bytes: no deed's.
	for _, n := range []int{0, 1, 40, 41, 127, 128, 16383, 16384, mostBytes - 1, mostBytes, mostBytes + 1} {
		for _, filling := range []string{"\x00", "\x01", "\xff"} {
			isNone(t, "no deed's", laid(h, "\x01", told(strings.Repeat(filling, n))))
		}
	}
}

// P15.1: deeds that have more than 2^15 bytes together, as few as one can make of them, and in every order.
func TestTakeManyBytes(t *testing.T) {
	for _, n := range []int{4, 9, 16} {
		l := ofSizes(t, n, mostBytes+1)
		for range n {
			l = append(l[1:n:n], l[0])
			isNone(t, "too many", plainPut(fitting(l)))
			fewer := slices.Clone(l)
			// One byte fewer than the greatest one has.
			fewer[0] = ofSize(t, len(plainDeed(l[0]))-1, "fewer")
			isOne(t, "just as many as may be", plainPut(fitting(fewer)))
		}
	}
}

// P15.1, P15.4: each byte of a block's turned once: the head's make another block, those of the numbers none; of the deeds, as it is.
func TestTakeTurned(t *testing.T) {
	for name, b := range map[string]api.Block{"one": fitting([]api.Deed{some()}), "some": fitting([]api.Deed{bare("a"), bare("b"), some()})} {
		s := plainPut(b)
		was, e := block.Take(s)
		if e != api.OK {
			t.Fatal(name, e)
		}
		for at := range s {
			other := []byte(s)
			other[at] ^= 1 << (at % 8)
			is := holdTake(t, name+" "+strconv.Itoa(at), string(other))
			if at < headBytes && !is {
				t.Error(name, at, "is none's")
			}
			// Body, Size and Many stand from 80 to 127: all else of a head says nothing of deeds.
			fits := at < 80 || at >= 128 && at < headBytes
			if now, e := block.Take(string(other)); e == api.OK && (block.Same(was, now) || block.Fits(now) != fits) {
				t.Error(name, at, "makes no other block, or one that fits:", !fits)
			}
		}
		for at := range s {
			isNone(t, name+" without "+strconv.Itoa(at), s[:at]+s[at+1:])
		}
	}
}

// P15.2: Body of no deeds, of one, of two that are alike, of 16; in another order they come to another root.
func TestBody(t *testing.T) {
	of := func(l ...api.Deed) api.Hash {
		t.Helper()
		root, size, many, e := block.Body(l)
		if root != plainRoot(plainFulls(l)) || size != uint64(plainSize(l)) || many != uint64(len(l)) || e != api.OK {
			t.Errorf("%d deeds: %x, %d, %d, %d", len(l), root, size, many, e)
		}
		return root
	}
	a, b := bare("a"), some()
	sixteen := numberedUpTo(16)
	turned := slices.Clone(sixteen)
	slices.Reverse(turned)
	roots := map[api.Hash]bool{}
	for _, h := range []api.Hash{of(), of(a), of(b), of(a, a), of(b, b), of(a, b), of(b, a), of(a, a, a), of(a, b, a), of(sixteen...), of(turned...), of(sixteen[:15]...), of(sixteen[1:]...)} {
		roots[h] = true
	}
	if len(roots) != 13 {
		t.Error(len(roots), "roots")
	}
	if _, size, many, _ := block.Body([]api.Deed{a, a}); size != 82 || many != 2 {
		t.Error("two alike:", size, many)
	}
}

// P15.2: what a deed's signatures are makes another root, though its id stays.
func TestBodyHasWits(t *testing.T) {
	was, other := some(), some()
	other.Wits[1].Sig = sig(sigBytes, "another")
	none := some()
	none.Wits = nil
	ids, roots, proofs := map[api.Hash]bool{}, map[api.Hash]bool{}, map[api.Hash]bool{}
	for _, d := range []api.Deed{was, other, none} {
		id, _ := deed.Id(d)
		root, _, _, _ := block.Body([]api.Deed{bare("a"), d})
		full, _, _ := block.Prove(fitting([]api.Deed{bare("a"), d}), 1)
		ids[id], roots[root], proofs[full] = true, true, true
	}
	if len(ids) != 1 || len(roots) != 3 || len(proofs) != 3 {
		t.Error(len(ids), len(roots), len(proofs))
	}
}

func idsOf(t *testing.T, l []api.Deed) (all []api.Hash) {
	t.Helper()
	for _, d := range l {
		id, e := deed.Id(d)
		if e != api.OK {
			t.Fatal(e)
		}
		all = append(all, id)
	}
	return all
}

// P15.2: Fits where just one of Body, Size and Many is otherwise, or two are; all else of the head may be anything.
func TestFits(t *testing.T) {
	for name, b := range bases(t) {
		if !block.Fits(b) {
			t.Error(name, "does not fit")
		}
		no := func(how string, change func(h *api.Head)) {
			t.Helper()
			other := copied(b)
			change(&other.Head)
			if block.Fits(other) || block.May(other) != api.OK {
				t.Error(name, how, "fits")
			}
		}
		for at := range 256 {
			no("body", func(h *api.Head) { h.Body[at/8] ^= 1 << (at % 8) })
		}
		for bit := range 64 {
			no("size", func(h *api.Head) { h.Size ^= 1 << bit })
			no("many", func(h *api.Head) { h.Many ^= 1 << bit })
		}
		no("noughts", func(h *api.Head) { h.Body = api.Hash{} })
		no("one byte more", func(h *api.Head) { h.Size++ })
		no("one byte fewer", func(h *api.Head) { h.Size-- })
		no("one deed more", func(h *api.Head) { h.Many++ })
		no("one deed fewer", func(h *api.Head) { h.Many-- })
		no("the greatest size", func(h *api.Head) { h.Size = greatest })
		no("the greatest number", func(h *api.Head) { h.Many = greatest })
		no("with the numbers' bytes", func(h *api.Head) { h.Size = uint64(len(plainPut(b)) - headBytes) })
		no("all of its bytes", func(h *api.Head) { h.Size = uint64(len(plainPut(b))) })
		if len(b.Deeds) > 0 {
			no("exchanged", func(h *api.Head) { h.Size, h.Many = h.Many, h.Size })
			no("none", func(h *api.Head) { h.Body, h.Size, h.Many = plainRoot(nil), 0, 0 })
			no("by ids", func(h *api.Head) { h.Body = plainRoot(idsOf(t, b.Deeds)) })
			other := copied(b)
			other.Deeds = other.Deeds[1:]
			if block.Fits(other) {
				t.Error(name, "fits without its first deed")
			}
			other = copied(b)
			other.Deeds = other.Deeds[:len(b.Deeds)-1]
			if block.Fits(other) {
				t.Error(name, "fits without its last deed")
			}
		}
		other := copied(b)
		h := &other.Head
		h.Slot, h.Number, h.Prev, h.Pool = greatest, 0, api.Hash{}, filled(255)
		h.Right = api.Right{Hot: filled(1), Counter: greatest, Start: 5, Sig: sig(sigBytes, "another")}
		h.Sig = sig(headSig, "another")
		if !block.Fits(other) {
			t.Error(name, "does not fit with another head")
		}
	}
}

// P15.2: a block that may not be does not fit, though its head says what its deeds are.
func TestFitsMayBe(t *testing.T) {
	for name, b := range bases(t) {
		for how, h := range headsThatMayNotBe(b.Head) {
			h.Body, h.Size, h.Many = b.Head.Body, b.Head.Size, b.Head.Many
			if block.Fits(api.Block{Head: h, Deeds: b.Deeds}) {
				t.Error(name, how, "fits")
			}
		}
	}
	for _, l := range [][]api.Deed{numberedUpTo(17), ofSizes(t, 16, mostBytes+1), ofSizes(t, 4, mostBytes+1)} {
		if block.Fits(fitting(l)) {
			t.Error(len(l), "fit")
		}
	}
	for _, no := range noDeeds() {
		b := fitting([]api.Deed{bare("a"), no.deed})
		if block.Fits(b) {
			t.Error(no.name, "fits")
		}
		// As a head would say it that has zeros of what errors are beside.
		b.Head.Body, b.Head.Size, b.Head.Many = api.Hash{}, 0, 0
		if block.Fits(b) {
			t.Error(no.name, "fits by zeros")
		}
	}
}

// P15.2: Id asks the deeds, and hangs on the head alone.
func TestId(t *testing.T) {
	for name, b := range bases(t) {
		want := plainOf("head", plainHead(b.Head))
		if id, e := block.Id(b); id != want || e != api.OK {
			t.Errorf("%s: %x, %d", name, id, e)
		}
		if id, e := block.Id(api.Block{Head: b.Head}); id != want || e != api.OK {
			t.Errorf("%s, no deeds: %x, %d", name, id, e)
		}
		if id, e := block.Id(api.Block{Head: b.Head, Deeds: numberedUpTo(5)}); id != want || e != api.OK {
			t.Errorf("%s, other deeds: %x, %d", name, id, e)
		}
		for _, l := range [][]api.Deed{{{}}, {bare("a"), {}}, numberedUpTo(17), ofSizes(t, 5, mostBytes+1)} {
			no := api.Block{Head: b.Head, Deeds: l}
			if id, e := block.Id(no); id != (api.Hash{}) || e != api.ErrArg {
				t.Errorf("%s, deeds that may not be: %x, %d", name, id, e)
			}
		}
	}
}

// P15.3: Prove at each place, and at ones that are none; a block that may not be at such ones: ErrArg goes ahead of ErrRange.
func TestProve(t *testing.T) {
	for _, n := range []int{0, 1, 2, 3, 7, 8, 16} {
		b := fitting(numberedUpTo(n))
		holdProve(t, strconv.Itoa(n), b, true)
		// What the head says of the deeds makes no difference.
		b.Head.Body, b.Head.Size, b.Head.Many = named("another"), 0, greatest
		holdProve(t, strconv.Itoa(n)+", another head", b, true)
		for _, i := range []int{-1, n, math.MinInt, math.MaxInt} {
			if full, proof, e := block.Prove(b, i); e != api.ErrRange || full != (api.Hash{}) || len(proof) != 0 {
				t.Error(n, i, full, proof, e)
			}
		}
		no := copied(b)
		no.Head.Sig = no.Head.Sig[1:]
		holdProve(t, strconv.Itoa(n)+", no head", no, false)
		no = copied(b)
		no.Deeds = append(no.Deeds, api.Deed{})
		holdProve(t, strconv.Itoa(n)+", no deed", no, false)
		for _, i := range []int{-1, n, n + 1, math.MinInt, math.MaxInt} {
			if full, proof, e := block.Prove(no, i); e != api.ErrArg || full != (api.Hash{}) || len(proof) != 0 {
				t.Error(n, i, full, proof, e)
			}
		}
	}
	holdProve(t, "seventeen", fitting(numberedUpTo(17)), false)
	holdProve(t, "too many bytes", fitting(ofSizes(t, 16, mostBytes+1)), false)
}

// P15.5: of a block that fits what Prove tells is checked by the head's Body and Many alone, at each place and at no other one.
func TestProved(t *testing.T) {
	for n := range 17 {
		s, e := block.Put(fitting(numberedUpTo(n)))
		b, e2 := block.Take(s)
		if e != api.OK || e2 != api.OK || !block.Fits(b) {
			t.Fatal(n, e, e2)
		}
		h, e := head.Take(s[:headBytes])
		if e != api.OK {
			t.Fatal(n, e)
		}
		many := int(h.Many)
		for i := range n {
			full, proof, e := block.Prove(b, i)
			if want, e2 := deed.Full(b.Deeds[i]); full != want || e != api.OK || e2 != api.OK {
				t.Error(n, i, e, e2)
			}
			for _, at := range places(n) {
				if tree.Check(h.Body, many, at, full, proof) != (at == i) {
					t.Error(n, i, "at", at)
				}
			}
			for j, d := range b.Deeds {
				if tree.Check(h.Body, many, i, plainFull(d), proof) != (i == j) {
					t.Error(n, i, "the deed", j)
				}
			}
			for _, other := range []int{many - 1, many + 1, 2 * many, 0} {
				if tree.Check(h.Body, other, i, full, proof) {
					t.Error(n, i, "of", other)
				}
			}
			if tree.Check(h.Body, many, i, full, append(slices.Clone(proof), api.Hash{})) || len(proof) > 0 && tree.Check(h.Body, many, i, full, proof[1:]) {
				t.Error(n, i, "by another proof")
			}
		}
	}
	for name, b := range bases(t) {
		for i := range b.Deeds {
			full, proof, e := block.Prove(b, i)
			if e != api.OK || !tree.Check(b.Head.Body, int(b.Head.Many), i, full, proof) {
				t.Error(name, i, e)
			}
		}
	}
}

// headChanges make another head of one, a field each.
func headChanges() map[string]func(h *api.Head) {
	turned := func(s string, at int) string {
		b := []byte(s)
		b[at] ^= 1
		return string(b)
	}
	l := map[string]func(h *api.Head){
		"slot":                func(h *api.Head) { h.Slot++ },
		"number":              func(h *api.Head) { h.Number++ },
		"size":                func(h *api.Head) { h.Size++ },
		"many":                func(h *api.Head) { h.Many++ },
		"counter":             func(h *api.Head) { h.Right.Counter++ },
		"start":               func(h *api.Head) { h.Right.Start++ },
		"no right":            func(h *api.Head) { h.Right.Sig = "" },
		"right shorter":       func(h *api.Head) { h.Right.Sig = h.Right.Sig[1:] },
		"right longer":        func(h *api.Head) { h.Right.Sig += "s" },
		"right's first byte":  func(h *api.Head) { h.Right.Sig = turned(h.Right.Sig, 0) },
		"right's last byte":   func(h *api.Head) { h.Right.Sig = turned(h.Right.Sig, len(h.Right.Sig)-1) },
		"no sig":              func(h *api.Head) { h.Sig = "" },
		"sig shorter":         func(h *api.Head) { h.Sig = h.Sig[:len(h.Sig)-1] },
		"sig longer":          func(h *api.Head) { h.Sig += "s" },
		"sig's first byte":    func(h *api.Head) { h.Sig = turned(h.Sig, 0) },
		"sig's last byte":     func(h *api.Head) { h.Sig = turned(h.Sig, len(h.Sig)-1) },
		"slot and number":     func(h *api.Head) { h.Slot, h.Number = h.Number, h.Slot },
		"prev and pool":       func(h *api.Head) { h.Prev, h.Pool = h.Pool, h.Prev },
		"size's highest bit":  func(h *api.Head) { h.Size ^= 1 << 63 },
		"many's highest bit":  func(h *api.Head) { h.Many ^= 1 << 63 },
		"start's highest bit": func(h *api.Head) { h.Right.Start ^= 1 << 63 },
	}
	for name, of := range map[string]func(h *api.Head) *api.Hash{
		"prev": func(h *api.Head) *api.Hash { return &h.Prev },
		"pool": func(h *api.Head) *api.Hash { return &h.Pool },
		"body": func(h *api.Head) *api.Hash { return &h.Body },
		"hot":  func(h *api.Head) *api.Hash { return &h.Right.Hot },
	} {
		for _, at := range []int{0, 15, 31} {
			l[name+"'s byte "+strconv.Itoa(at)] = func(h *api.Head) { of(h)[at] ^= 1 }
		}
	}
	return l
}

// deedChanges make another deed of one that has two things in each list: a field each, and a field of each thing.
func deedChanges() map[string]func(d *api.Deed) {
	l := map[string]func(d *api.Deed){
		"fee":           func(d *api.Deed) { d.Fee++ },
		"from":          func(d *api.Deed) { d.From++ },
		"until":         func(d *api.Deed) { d.Until++ },
		"no ins":        func(d *api.Deed) { d.Ins = nil },
		"no outs":       func(d *api.Deed) { d.Outs = nil },
		"no certs":      func(d *api.Deed) { d.Certs = nil },
		"no pays":       func(d *api.Deed) { d.Pays = nil },
		"no wits":       func(d *api.Deed) { d.Wits = nil },
		"ins shorter":   func(d *api.Deed) { d.Ins = d.Ins[:1] },
		"outs shorter":  func(d *api.Deed) { d.Outs = d.Outs[:1] },
		"certs shorter": func(d *api.Deed) { d.Certs = d.Certs[:1] },
		"pays shorter":  func(d *api.Deed) { d.Pays = d.Pays[:1] },
		"wits shorter":  func(d *api.Deed) { d.Wits = d.Wits[:1] },
		"ins longer":    func(d *api.Deed) { d.Ins = append(d.Ins, api.In{}) },
		"outs longer":   func(d *api.Deed) { d.Outs = append(d.Outs, api.Out{}) },
		"certs longer":  func(d *api.Deed) { d.Certs = append(d.Certs, api.Cert{}) },
		"pays longer":   func(d *api.Deed) { d.Pays = append(d.Pays, api.Pay{}) },
		"wits longer":   func(d *api.Deed) { d.Wits = append(d.Wits, api.Wit{}) },
		"ins turned":    func(d *api.Deed) { slices.Reverse(d.Ins) },
		"outs turned":   func(d *api.Deed) { slices.Reverse(d.Outs) },
		"certs turned":  func(d *api.Deed) { slices.Reverse(d.Certs) },
		"pays turned":   func(d *api.Deed) { slices.Reverse(d.Pays) },
		"wits turned":   func(d *api.Deed) { slices.Reverse(d.Wits) },
	}
	for i := range 2 {
		n := " " + strconv.Itoa(i)
		l["in's tx"+n] = func(d *api.Deed) { d.Ins[i].Tx[31] ^= 1 }
		l["in's index"+n] = func(d *api.Deed) { d.Ins[i].Index ^= 1 }
		l["out's to"+n] = func(d *api.Deed) { d.Outs[i].To[31] ^= 1 }
		l["out's stake"+n] = func(d *api.Deed) { d.Outs[i].Stake[0] ^= 1 }
		l["out's amount"+n] = func(d *api.Deed) { d.Outs[i].Amount ^= 2 }
		l["cert's kind"+n] = func(d *api.Deed) { d.Certs[i].Kind ^= 1 }
		l["cert's key"+n] = func(d *api.Deed) { d.Certs[i].Key[31] ^= 1 }
		l["cert's pool"+n] = func(d *api.Deed) { d.Certs[i].Pool[0] ^= 1 }
		l["cert's a"+n] = func(d *api.Deed) { d.Certs[i].A ^= 1 }
		l["cert's b"+n] = func(d *api.Deed) { d.Certs[i].B ^= 1 }
		l["cert's c"+n] = func(d *api.Deed) { d.Certs[i].C ^= 1 }
		l["pay's key"+n] = func(d *api.Deed) { d.Pays[i].Key[31] ^= 1 }
		l["pay's amount"+n] = func(d *api.Deed) { d.Pays[i].Amount ^= 2 }
		l["wit's key"+n] = func(d *api.Deed) { d.Wits[i].Key[31] ^= 1 }
		l["wit's sig"+n] = func(d *api.Deed) { d.Wits[i].Sig = "!" + d.Wits[i].Sig[1:] }
		l["wit's sig's end"+n] = func(d *api.Deed) { d.Wits[i].Sig = d.Wits[i].Sig[:sigBytes-1] + "!" }
		l["wit's sig, shorter"+n] = func(d *api.Deed) { d.Wits[i].Sig = d.Wits[i].Sig[1:] }
		l["wit's sig, longer"+n] = func(d *api.Deed) { d.Wits[i].Sig += "!" }
	}
	return l
}

// unlike says that two blocks are not the same, whichever is asked first, and that each is so with itself.
func unlike(t *testing.T, name string, a, b api.Block) {
	t.Helper()
	if block.Same(a, b) || block.Same(b, a) {
		t.Error(name, "is the same")
	}
	if !block.Same(a, copied(a)) || !block.Same(b, copied(b)) {
		t.Error(name, "is not the same as itself")
	}
}

// P15.3: Same in each field of the head, and in each field and thing of each deed.
func TestSame(t *testing.T) {
	b := fitting([]api.Deed{some(), some(), some(), some()})
	for how, change := range headChanges() {
		other := copied(b)
		change(&other.Head)
		unlike(t, how, b, other)
		unlike(t, how+", no deeds", api.Block{Head: b.Head}, api.Block{Head: other.Head})
	}
	for how, change := range deedChanges() {
		for i := range b.Deeds {
			other := copied(b)
			change(&other.Deeds[i])
			unlike(t, how+" of "+strconv.Itoa(i), b, other)
			one := api.Block{Head: b.Head, Deeds: other.Deeds[i : i+1]}
			unlike(t, how+" alone", api.Block{Head: b.Head, Deeds: b.Deeds[:1]}, one)
			// All but the first one, or but the last, are the same then.
			if i > 0 {
				unlike(t, how+" ahead of it", api.Block{Head: b.Head, Deeds: b.Deeds[:i+1]}, api.Block{Head: b.Head, Deeds: other.Deeds[:i+1]})
			}
		}
	}
	for name, one := range bases(t) {
		for how, other := range bases(t) {
			if block.Same(one, other) != (name == how) {
				t.Error(name, how)
			}
		}
	}
}

// P15.3: lists of unlike lengths, of which one is the other's beginning, or its end; deeds in another order; none and an empty list are alike.
func TestSameLists(t *testing.T) {
	h := anyHead()
	all := numberedUpTo(18)
	of := func(l ...api.Deed) api.Block { return api.Block{Head: h, Deeds: l} }
	for n := range 19 {
		for m := range 19 {
			if block.Same(of(all[:n]...), of(all[:m]...)) != (n == m) {
				t.Error("the first", n, m)
			}
			if block.Same(of(all[n:]...), of(all[m:]...)) != (n == m) {
				t.Error("the last", n, m)
			}
			zeros, more := make([]api.Deed, n), make([]api.Deed, m)
			if block.Same(of(zeros...), of(more...)) != (n == m) {
				t.Error("zero deeds", n, m)
			}
		}
	}
	for i := range 18 {
		for j := range i {
			turned := slices.Clone(all)
			turned[i], turned[j] = turned[j], turned[i]
			unlike(t, "another order", of(all...), of(turned...))
		}
	}
	none, empty := api.Block{Head: h}, api.Block{Head: h, Deeds: []api.Deed{}}
	if !block.Same(none, empty) || !block.Same(empty, none) || !block.Same(none, none) || !block.Same(empty, empty) || !block.Same(api.Block{}, api.Block{Deeds: []api.Deed{}}) {
		t.Error("none and empty are unlike")
	}
	unlike(t, "none and a zero deed", none, of(api.Deed{}))
	d := api.Deed{Ins: []api.In{}, Outs: []api.Out{}, Certs: []api.Cert{}, Pays: []api.Pay{}, Wits: []api.Wit{}}
	if !block.Same(of(d, bare("a")), of(api.Deed{}, bare("a"))) || !block.Same(of(bare("a"), api.Deed{}), of(bare("a"), d)) {
		t.Error("a deed's none and empty lists are unlike")
	}
	if !block.Same(api.Block{}, api.Block{}) {
		t.Error("the zero block is not the same as itself")
	}
	unlike(t, "the zero block", api.Block{}, none)
}

// P15.1, R2: none and an empty list have the same bytes, and no list is told beside none.
func TestNone(t *testing.T) {
	none, empty := fitting(nil), fitting([]api.Deed{})
	s, e := block.Put(none)
	s2, e2 := block.Put(empty)
	if s != s2 || e != api.OK || e2 != api.OK || !block.Fits(none) || !block.Fits(empty) {
		t.Error(e, e2)
	}
	hold(t, "empty", empty)
	b, e := block.Take(s)
	if e != api.OK || len(b.Deeds) != 0 || !block.Same(b, empty) {
		t.Error(b, e)
	}
	d := api.Deed{Ins: []api.In{{}}, Outs: []api.Out{}, Certs: []api.Cert{}, Pays: []api.Pay{}, Wits: []api.Wit{}}
	hold(t, "empty lists", fitting([]api.Deed{d, {Ins: []api.In{{}}}}))
}

func someHash(r *rand.Rand) (h api.Hash) {
	if r.Intn(3) > 0 {
		r.Read(h[:])
	}
	return h
}

func someNumber(r *rand.Rand) uint64 { return r.Uint64() >> r.Intn(64) }

// someDeed is often one that may be.
func someDeed(r *rand.Rand) api.Deed {
	d := bare(strconv.Itoa(r.Intn(100)))
	d.Fee, d.Until = someNumber(r)>>1, someNumber(r)
	d.From = d.Until - d.Until/uint64(1+r.Intn(9))
	for i := range r.Intn(4) {
		d.Ins = append(d.Ins, api.In{Tx: filled(255), Index: uint64(i)})
		d.Outs = append(d.Outs, api.Out{To: someHash(r), Stake: someHash(r), Amount: someNumber(r)>>1 | 1})
		d.Pays = append(d.Pays, api.Pay{Key: from(byte(i), byte(r.Intn(256))), Amount: someNumber(r)>>1 | 1})
	}
	for i := range r.Intn(4) * r.Intn(3) {
		d.Wits = append(d.Wits, api.Wit{Key: from(byte(i)), Sig: sig(sigBytes, strconv.Itoa(r.Intn(9)))})
	}
	if r.Intn(100) == 0 {
		d.Until = d.From - 1
	}
	return d
}

func someBlock(r *rand.Rand) api.Block {
	var l []api.Deed
	for range r.Intn(18) {
		l = append(l, someDeed(r))
	}
	b := fitting(l)
	b.Head.Slot, b.Head.Number, b.Head.Prev = someNumber(r), someNumber(r), someHash(r)
	switch r.Intn(8) {
	case 0:
		b.Head.Size = someNumber(r)
	case 1:
		b.Head.Many = uint64(r.Intn(18))
	case 2:
		b.Head.Sig = b.Head.Sig[r.Intn(2):]
	}
	return b
}

// P15.1 to P15.4: blocks of all kinds, of which some may be and some not, and bytes that are put together anew.
func TestManyBlocks(t *testing.T) {
	r := rand.New(rand.NewSource(15))
	may, taken := 0, 0
	var was string
	for i := range 500 {
		b := someBlock(r)
		hold(t, strconv.Itoa(i), b)
		s := plainPut(b)
		if plainMay(b) {
			may++
			if back, e := block.Take(s); e != api.OK || !block.Same(back, b) || !alike(back, b) {
				t.Error(i, "is not taken as it was", e)
			}
		}
		if len(was) > headBytes && len(s) > headBytes && holdTake(t, "another head", was[:headBytes]+s[headBytes:]) {
			taken++
		}
		at := r.Intn(len(s))
		holdTake(t, "halves", s[:at]+was[min(at, len(was)):])
		other := []byte(s)
		other[at] = byte(r.Intn(256))
		holdTake(t, "another byte", string(other))
		was = s
	}
	if may < 100 || may > 450 || taken < 100 {
		t.Error(may, taken)
	}
}

// snapshot is a block all of whose lists have room behind them, and what tells whether that, or the block, was written over.
func snapshot(of api.Block) (b api.Block, stays func() bool) {
	mark := bare("mark")
	mark.Outs = []api.Out{{To: filled(9), Amount: 9}}
	b = of
	b.Deeds = append(slices.Clone(of.Deeds), mark)
	for i, d := range b.Deeds {
		d.Ins = append(slices.Clone(d.Ins), api.In{Tx: filled(9)})
		d.Wits = append(slices.Clone(d.Wits), api.Wit{Key: filled(9)})
		d.Outs = append(slices.Clone(d.Outs), api.Out{To: filled(9)})
		b.Deeds[i] = d
	}
	room := b.Deeds
	for i := range b.Deeds {
		d := &b.Deeds[i]
		d.Ins, d.Wits, d.Outs = d.Ins[:len(d.Ins)-1], d.Wits[:len(d.Wits)-1], d.Outs[:len(d.Outs)-1]
	}
	b.Deeds = b.Deeds[:len(of.Deeds)]
	return b, func() bool {
		for _, d := range room {
			if d.Ins[:len(d.Ins)+1][len(d.Ins)] != (api.In{Tx: filled(9)}) || d.Wits[:len(d.Wits)+1][len(d.Wits)] != (api.Wit{Key: filled(9)}) || d.Outs[:len(d.Outs)+1][len(d.Outs)] != (api.Out{To: filled(9)}) {
				return false
			}
		}
		return alike(b, of) && deed.Same(room[len(of.Deeds)], mark)
	}
}

// R3: what is handed in stays as it is, and so does what stands in the room behind its lists.
func TestHandedInStays(t *testing.T) {
	all := bases(t)
	all["no deed"] = fitting([]api.Deed{some(), {}, some()})
	all["seventeen"] = fitting(numberedUpTo(17))
	all["too many bytes"] = fitting(ofSizes(t, 8, mostBytes+1))
	for name, of := range all {
		b, stays := snapshot(of)
		block.May(b)
		block.Put(b)
		block.Body(b.Deeds)
		block.Fits(b)
		block.Id(b)
		block.Prove(b, len(b.Deeds)-1)
		block.Prove(b, len(b.Deeds))
		block.Same(b, of)
		block.Same(of, b)
		if !stays() {
			t.Error(name, "has become another one")
		}
	}
}

// R3: what is answered is new: to write into it changes neither another answer nor what was handed in.
func TestAnsweredIsNew(t *testing.T) {
	want := fitting([]api.Deed{some(), some(), some()})
	s := plainPut(want)
	got, _ := block.Take(s)
	other, _ := block.Take(s)
	spoil := func(d *api.Deed) {
		d.Ins[0].Index, d.Outs[0].Amount, d.Certs[0].A, d.Pays[0].Amount, d.Wits[0].Sig = 5, 5, 6, 5, ""
		_ = append(d.Ins, api.In{Index: 1})
		_ = append(d.Outs, api.Out{Amount: 1})
		_ = append(d.Wits, api.Wit{Sig: "!"})
	}
	spoil(&got.Deeds[1])
	if !alike(other, want) || !deed.Same(got.Deeds[0], some()) || !deed.Same(got.Deeds[2], some()) || deed.Same(got.Deeds[1], some()) {
		t.Error("answers share something")
	}
	if again, e := block.Take(s); e != api.OK || !alike(again, want) {
		t.Error("Take is not what it was", e)
	}
	for i := range want.Deeds {
		_, proof, _ := block.Prove(want, i)
		kept := slices.Clone(proof)
		_, second, _ := block.Prove(want, i)
		clear(proof)
		_ = append(proof, filled(1))
		if _, again, e := block.Prove(want, i); e != api.OK || !slices.Equal(again, kept) || !slices.Equal(second, kept) {
			t.Error(i, "proofs share something", e)
		}
	}
	// What was put stays so, whatever becomes of the block's lists.
	b := copied(want)
	put, _ := block.Put(b)
	for i := range b.Deeds {
		spoil(&b.Deeds[i])
	}
	if put != s {
		t.Error("what was put hangs on the lists")
	}
}

// R1: of whatever is handed in, each call ends: a great many deeds, deeds with long lists, long texts.
func TestWhatever(t *testing.T) {
	long := strings.Repeat("\xff", 1<<22)
	for name, b := range map[string]api.Block{
		"the zero block":      {},
		"long signatures":     {Head: api.Head{Right: api.Right{Sig: long}, Sig: long}},
		"zero deeds":          {Deeds: make([]api.Deed, 1<<10)},
		"zero deeds, a head":  {Head: anyHead(), Deeds: make([]api.Deed, 1<<10)},
		"long ins":            {Head: anyHead(), Deeds: []api.Deed{{Ins: make([]api.In, 1<<16)}}},
		"long outs":           {Head: anyHead(), Deeds: []api.Deed{{Ins: make([]api.In, 1), Outs: make([]api.Out, 1<<16)}}},
		"long certs":          {Head: anyHead(), Deeds: []api.Deed{{Ins: make([]api.In, 1), Certs: make([]api.Cert, 1<<16)}}},
		"long pays":           {Head: anyHead(), Deeds: []api.Deed{{Ins: make([]api.In, 1), Pays: make([]api.Pay, 1<<16)}}},
		"long wits":           {Head: anyHead(), Deeds: []api.Deed{{Ins: make([]api.In, 1), Wits: make([]api.Wit, 1<<16)}}},
		"a long signature":    {Head: anyHead(), Deeds: []api.Deed{{Ins: make([]api.In, 1), Wits: []api.Wit{{Sig: long}}}}},
		"the greatest of all": {Head: api.Head{Slot: greatest, Number: greatest, Size: greatest, Many: greatest, Right: api.Right{Counter: greatest, Start: greatest}}},
	} {
		hold(t, name, b)
	}
	for _, d := range []api.Deed{bare("a"), most()} {
		many := slices.Repeat([]api.Deed{d}, 1<<17)
		if root, size, n, e := block.Body(many); root != (api.Hash{}) || size != 0 || n != 0 || e != api.ErrLong {
			t.Error("a great many", root, size, n, e)
		}
		b := api.Block{Head: anyHead(), Deeds: many}
		s, e := block.Put(b)
		id, e2 := block.Id(b)
		full, proof, e3 := block.Prove(b, 1<<17)
		if s != "" || id != (api.Hash{}) || full != (api.Hash{}) || len(proof) != 0 || e != api.ErrArg || e2 != api.ErrArg || e3 != api.ErrArg {
			t.Error("a great many", len(s), id, full, proof, e, e2, e3)
		}
		if block.May(b) != api.ErrArg || block.Fits(b) || !block.Same(b, b) || block.Same(b, api.Block{Head: b.Head, Deeds: many[1:]}) {
			t.Error("a great many may be, or are not the same")
		}
		many[1<<17-1] = api.Deed{}
		if _, _, _, e := block.Body(many); e != api.ErrArg {
			t.Error("a great many, the last of which may not be", e)
		}
	}
}

// R5: nothing is kept from call to call.
func TestAtOneTime(t *testing.T) {
	b := fitting([]api.Deed{some(), bare("a"), most(), bare("b"), some()})
	s, id := plainPut(b), plainOf("head", plainHead(b.Head))
	var all sync.WaitGroup
	for i := range 8 {
		all.Go(func() {
			for range 10 {
				put, e := block.Put(b)
				back, e2 := block.Take(s)
				got, e3 := block.Id(back)
				full, proof, e4 := block.Prove(b, i%5)
				if put != s || got != id || e != api.OK || e2 != api.OK || e3 != api.OK || e4 != api.OK {
					t.Error(i, e, e2, e3, e4)
				}
				if !block.Same(back, b) || !block.Fits(back) || !tree.Check(b.Head.Body, 5, i%5, full, proof) {
					t.Error(i, "not as it was")
				}
			}
		})
	}
	all.Wait()
}
