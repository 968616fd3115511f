package deed_test

import (
	"bytes"
	"crypto/sha256"
	"encoding/binary"
	"math"
	"math/rand"
	"reflect"
	"slices"
	"sort"
	"strconv"
	"strings"
	"sync"
	"testing"

	"mintage/api"
	"mintage/deed"
)

const (
	sigBytes = 1024    // bytes of a signature
	over     = 1 << 63 // what is one too much for an amount
	greatest = math.MaxUint64
)

// named is the sum of a name.
func named(s string) api.Hash { return sha256.Sum256([]byte(s)) }

// from is a hash of bytes 0, of which the first ones are these.
func from(first ...byte) (h api.Hash) {
	copy(h[:], first)
	return h
}

// until is a hash of bytes 0, of which the last one is this.
func until(last byte) (h api.Hash) {
	h[31] = last
	return h
}

// filled is a hash of one byte, 32 times.
func filled(b byte) (h api.Hash) {
	for i := range h {
		h[i] = b
	}
	return h
}

// sig is a signature, as many bytes long as is told; what it has hangs on salt.
func sig(size int, salt string) string {
	h := named(salt)
	return string(bytes.Repeat(h[:], size/32+1))[:size]
}

// short is a number's short form.
func short(n uint64) string { return string(binary.AppendUvarint(nil, n)) }

// piece is a part of a deed's bytes, and the number that it tells, if it tells one; most is how great it may be, if it is how many there are of a list.
type piece struct {
	text    string
	tells   bool
	number  uint64
	isCount bool
	most    uint64
}

// pieces are what the chapter puts for a deed, be it one that may be or not, one behind the other: first those of the body, then those of the Wits.
func pieces(t api.Deed) (body, wits []piece) {
	hash := func(h api.Hash) piece { return piece{text: string(h[:])} }
	number := func(n uint64) piece { return piece{text: short(n), tells: true, number: n} }
	count := func(n int, most uint64) piece {
		return piece{text: short(uint64(n)), tells: true, number: uint64(n), isCount: true, most: most}
	}
	body = append(body, count(len(t.Ins), 8))
	for _, x := range t.Ins {
		body = append(body, hash(x.Tx), number(x.Index))
	}
	body = append(body, count(len(t.Outs), 8))
	for _, x := range t.Outs {
		body = append(body, hash(x.To), hash(x.Stake), number(x.Amount))
	}
	body = append(body, number(t.Fee), number(t.From), number(t.Until), count(len(t.Certs), 4))
	for _, x := range t.Certs {
		body = append(body, piece{text: string([]byte{x.Kind})}, hash(x.Key), hash(x.Pool), number(x.A), number(x.B), number(x.C))
	}
	body = append(body, count(len(t.Pays), 4))
	for _, x := range t.Pays {
		body = append(body, hash(x.Key), number(x.Amount))
	}
	wits = append(wits, count(len(t.Wits), 8))
	for _, x := range t.Wits {
		wits = append(wits, hash(x.Key), piece{text: x.Sig})
	}
	return body, wits
}

// joined is what pieces come to.
func joined(l []piece) string {
	var b strings.Builder
	for _, p := range l {
		b.WriteString(p.text)
	}
	return b.String()
}

func plainBody(t api.Deed) string {
	body, _ := pieces(t)
	return joined(body)
}

func plainPut(t api.Deed) string {
	body, wits := pieces(t)
	return joined(body) + joined(wits)
}

// plainSum is the sum of one part under a tag.
func plainSum(tag, part string) api.Hash {
	return named(short(uint64(len(tag))) + tag + short(uint64(len(part))) + part)
}

// inAhead, keyAhead: whether one stands ahead of the other, and is not alike.
func inAhead(a, b api.In) bool {
	if c := bytes.Compare(a.Tx[:], b.Tx[:]); c != 0 {
		return c < 0
	}
	return a.Index < b.Index
}

func keyAhead(a, b api.Hash) bool { return bytes.Compare(a[:], b[:]) < 0 }

// mayAmount: from 1 to 2^63 - 1.
func mayAmount(n uint64) bool { return n != 0 && n <= math.MaxInt64 }

// plainMay: whether a deed may be, by the chapter's words one by one.
func plainMay(t api.Deed) bool {
	may := len(t.Ins) >= 1 && len(t.Ins) <= 8 && len(t.Outs) <= 8 && len(t.Certs) <= 4 && len(t.Pays) <= 4 && len(t.Wits) <= 8
	for i, x := range t.Ins {
		may = may && x.Index <= 7 && (i == 0 || inAhead(t.Ins[i-1], x))
	}
	for _, x := range t.Outs {
		may = may && mayAmount(x.Amount)
	}
	may = may && t.Fee <= math.MaxInt64 && !(t.From > t.Until)
	for _, c := range t.Certs {
		may = may && plainMayCert(c)
	}
	for i, x := range t.Pays {
		may = may && mayAmount(x.Amount) && (i == 0 || keyAhead(t.Pays[i-1].Key, x.Key))
	}
	for i, x := range t.Wits {
		may = may && len(x.Sig) == sigBytes && (i == 0 || keyAhead(t.Wits[i-1].Key, x.Key))
	}
	return may
}

// uses is which fields a kind of certificates uses, by their letters: key, pool, a, b, c.
func uses(kind uint8) (string, bool) {
	is := map[uint8]string{1: "k", 2: "k", 3: "kp", 4: "kpabc", 5: "pa", 6: "pab"}
	s, there := is[kind]
	return s, there
}

func plainMayCert(c api.Cert) bool {
	used, there := uses(c.Kind)
	if !there {
		return false
	}
	zero := map[string]bool{"k": c.Key == api.Hash{}, "p": c.Pool == api.Hash{}, "a": c.A == 0, "b": c.B == 0, "c": c.C == 0}
	for letter, isZero := range zero {
		if !isZero && !strings.Contains(used, letter) {
			return false
		}
	}
	return c.Kind != 4 || c.A <= math.MaxInt64 && c.B <= math.MaxInt64 && c.C <= 1000
}

// plainTake tries the chapter's words from the front, and takes nothing of which the bytes are not just those that it would put.
func plainTake(s string) (t api.Deed, is bool) {
	at, good := 0, true
	text := func(n int) string {
		if !good || len(s)-at < n {
			good = false
			return strings.Repeat("\x00", n)
		}
		at += n
		return s[at-n : at]
	}
	number := func() uint64 {
		n, size := binary.Uvarint([]byte(s[at:]))
		good = good && size > 0
		text(max(size, 0))
		return n
	}
	hash := func() api.Hash { return api.Hash([]byte(text(32))) }
	// A deed has eight things in a list at most: what tells of more is none's.
	for n := number(); good && n > 0; n-- {
		t.Ins = append(t.Ins, api.In{Tx: hash(), Index: number()})
		good = good && len(t.Ins) <= 8
	}
	for n := number(); good && n > 0; n-- {
		t.Outs = append(t.Outs, api.Out{To: hash(), Stake: hash(), Amount: number()})
		good = good && len(t.Outs) <= 8
	}
	t.Fee, t.From, t.Until = number(), number(), number()
	for n := number(); good && n > 0; n-- {
		t.Certs = append(t.Certs, api.Cert{Kind: text(1)[0], Key: hash(), Pool: hash(), A: number(), B: number(), C: number()})
		good = good && len(t.Certs) <= 8
	}
	for n := number(); good && n > 0; n-- {
		t.Pays = append(t.Pays, api.Pay{Key: hash(), Amount: number()})
		good = good && len(t.Pays) <= 8
	}
	for n := number(); good && n > 0; n-- {
		t.Wits = append(t.Wits, api.Wit{Key: hash(), Sig: text(sigBytes)})
		good = good && len(t.Wits) <= 8
	}
	if !good || !plainMay(t) || plainPut(t) != s {
		return api.Deed{}, false
	}
	return t, true
}

// alike: whether two deeds are the same, field by field; lists: as many things, each the same.
func alike(a, b api.Deed) bool {
	full := func(t api.Deed) api.Deed {
		t.Ins, t.Outs, t.Certs = append([]api.In{}, t.Ins...), append([]api.Out{}, t.Outs...), append([]api.Cert{}, t.Certs...)
		t.Pays, t.Wits = append([]api.Pay{}, t.Pays...), append([]api.Wit{}, t.Wits...)
		return t
	}
	return reflect.DeepEqual(full(a), full(b))
}

// copied is a deed that shares no list with the one that it is of.
func copied(t api.Deed) api.Deed {
	t.Ins, t.Outs, t.Certs = slices.Clone(t.Ins), slices.Clone(t.Outs), slices.Clone(t.Certs)
	t.Pays, t.Wits = slices.Clone(t.Pays), slices.Clone(t.Wits)
	return t
}

// bare is the least of deeds: one In, all else zero.
func bare() api.Deed { return api.Deed{Ins: []api.In{{}}} }

// some is a deed with two or three things in each list.
func some() api.Deed {
	return api.Deed{
		Ins:   []api.In{{Tx: named("in"), Index: 2}, {Tx: named("in"), Index: 7}, {Tx: filled(0xff), Index: 0}},
		Outs:  []api.Out{{To: named("to"), Stake: named("stake"), Amount: 300}, {To: named("to"), Amount: 1}},
		Fee:   127,
		From:  128,
		Until: 1 << 40,
		Certs: []api.Cert{
			{Kind: 4, Key: named("key"), Pool: named("pool"), A: 5, B: over - 1, C: 1000},
			{Kind: 3, Key: named("key"), Pool: named("pool")},
			{Kind: 6, Pool: named("pool"), A: 3, B: greatest},
		},
		Pays: []api.Pay{{Key: until(1), Amount: over - 1}, {Key: from(1), Amount: 1}},
		Wits: []api.Wit{{Key: until(2), Sig: sig(sigBytes, "a")}, {Key: from(2), Sig: sig(sigBytes, "b")}},
	}
}

// most is a deed whose lists are as long as they may be.
func most() api.Deed {
	t := api.Deed{Fee: over - 1, From: greatest, Until: greatest}
	for i := range 8 {
		b := byte(i)
		t.Ins = append(t.Ins, api.In{Tx: from(b / 2), Index: uint64(i)})
		t.Outs = append(t.Outs, api.Out{To: filled(b), Stake: filled(255 - b), Amount: over - 1})
		t.Wits = append(t.Wits, api.Wit{Key: from(b, 255-b), Sig: sig(sigBytes, strconv.Itoa(i))})
	}
	for i := range 4 {
		t.Certs = append(t.Certs, api.Cert{Kind: 4, Key: filled(byte(i)), Pool: filled(0xff), A: over - 1, B: over - 1, C: 1000})
		t.Pays = append(t.Pays, api.Pay{Key: until(byte(i)), Amount: over - 1})
	}
	return t
}

func bases() map[string]api.Deed {
	return map[string]api.Deed{"bare": bare(), "some": some(), "most": most()}
}

// hold holds all that is told of a deed against the chapter's words.
func hold(t *testing.T, name string, d api.Deed, may bool) {
	t.Helper()
	if may != plainMay(d) {
		t.Fatal(name, "the tests are unlike one another")
	}
	want, body, put, id, full := api.OK, plainBody(d), plainPut(d), plainSum("deed", plainBody(d)), plainSum("full", plainPut(d))
	if !may {
		want, body, put, id, full = api.ErrArg, "", "", api.Hash{}, api.Hash{}
	}
	ahead := copied(d)
	if e := deed.May(d); e != want {
		t.Error(name, "May", e, want)
	}
	if s, e := deed.Body(d); s != body || e != want {
		t.Errorf("%s Body %x %v, want %x %v", name, s, e, body, want)
	}
	if s, e := deed.Put(d); s != put || e != want {
		t.Errorf("%s Put %x %v, want %x %v", name, s, e, put, want)
	}
	if h, e := deed.Id(d); h != id || e != want {
		t.Errorf("%s Id %x %v, want %x %v", name, h, e, id, want)
	}
	if h, e := deed.Full(d); h != full || e != want {
		t.Errorf("%s Full %x %v, want %x %v", name, h, e, full, want)
	}
	if !deed.Same(d, ahead) || !reflect.DeepEqual(d, ahead) {
		t.Error(name, "has become another one")
	}
	holdTake(t, name, plainPut(d))
}

// holdTake holds what is taken of bytes against the chapter's words, and tells whether they are a deed's.
func holdTake(t *testing.T, name, s string) bool {
	t.Helper()
	want, is := plainTake(s)
	got, e := deed.Take(s)
	if !is {
		if e != api.ErrBytes || !reflect.DeepEqual(got, api.Deed{}) {
			t.Errorf("%s Take(%.60x ..) of %d bytes: %v %v, want ErrBytes", name, s, len(s), got, e)
		}
		return false
	}
	if e != api.OK || !alike(got, want) {
		t.Errorf("%s Take(%.60x ..) of %d bytes: %v %v, want %v", name, s, len(s), got, e, want)
	}
	if back, e := deed.Put(got); back != s || e != api.OK {
		t.Errorf("%s Put of Take(%.60x ..) of %d bytes: %.60x %v", name, s, len(s), back, e)
	}
	return true
}

// P13.1 to P13.3: the chapter's examples.
func TestExamples(t *testing.T) {
	if s, e := deed.Put(bare()); len(s) != 41 || e != api.OK {
		t.Errorf("%x %v", s, e)
	}
	two := api.In{Tx: named("in"), Index: 1}
	for i, d := range []api.Deed{
		{},
		{Outs: []api.Out{{Amount: 1}}, Until: 1},
		{Ins: []api.In{two, two}},
		{Ins: []api.In{{}}, From: 2, Until: 1},
		{Ins: []api.In{{}}, Outs: []api.Out{{Amount: 0}}},
		{Ins: []api.In{{}}, Pays: []api.Pay{{Amount: 0}}},
	} {
		if e := deed.May(d); e != api.ErrArg {
			t.Error(i, e)
		}
	}
	if d, e := deed.Take(""); e != api.ErrBytes || !alike(d, api.Deed{}) {
		t.Error(d, e)
	}
	if s := deed.Spot(api.In{Index: 258}); s != strings.Repeat("\x00", 38)+"\x01\x02" {
		t.Errorf("%x", s)
	}
}

// P13.1: the bytes of a deed that has one thing in each list, written out.
func TestBytesWrittenOut(t *testing.T) {
	d := api.Deed{
		Ins:   []api.In{{Tx: filled('t'), Index: 7}},
		Outs:  []api.Out{{To: filled('o'), Stake: filled('s'), Amount: 300}},
		Fee:   128,
		From:  1,
		Until: 16384,
		Certs: []api.Cert{{Kind: 4, Key: filled('k'), Pool: filled('p'), A: 2, B: 3, C: 1000}},
		Pays:  []api.Pay{{Key: filled('y'), Amount: 5}},
		Wits:  []api.Wit{{Key: filled('w'), Sig: strings.Repeat("!", sigBytes)}},
	}
	of := func(s string) string { return strings.Repeat(s, 32) }
	body := "\x01" + of("t") + "\x07" +
		"\x01" + of("o") + of("s") + "\xac\x02" +
		"\x80\x01" + "\x01" + "\x80\x80\x01" +
		"\x01" + "\x04" + of("k") + of("p") + "\x02" + "\x03" + "\xe8\x07" +
		"\x01" + of("y") + "\x05"
	all := body + "\x01" + of("w") + strings.Repeat("!", sigBytes)
	if s, e := deed.Body(d); s != body || e != api.OK {
		t.Errorf("%x %v, want %x", s, e, body)
	}
	if s, e := deed.Put(d); s != all || e != api.OK {
		t.Errorf("%x %v, want %x", s, e, all)
	}
	if got, e := deed.Take(all); !alike(got, d) || e != api.OK {
		t.Error(got, e)
	}
	if h, e := deed.Id(d); h != named("\x04deed"+short(uint64(len(body)))+body) || e != api.OK {
		t.Errorf("%x %v", h, e)
	}
	if h, e := deed.Full(d); h != named("\x04full"+short(uint64(len(all)))+all) || e != api.OK {
		t.Errorf("%x %v", h, e)
	}
}

// edge is what is made of a deed that may be, and whether it may be then.
type edge struct {
	name   string
	change func(d *api.Deed)
	may    bool
}

func inEdges() []edge {
	a, b := named("a"), named("b") // b stands ahead of a
	ins := func(l ...api.In) func(*api.Deed) { return func(d *api.Deed) { d.Ins = l } }
	indexes := func(tx api.Hash, l ...uint64) func(*api.Deed) {
		return func(d *api.Deed) {
			d.Ins = nil
			for _, i := range l {
				d.Ins = append(d.Ins, api.In{Tx: tx, Index: i})
			}
		}
	}
	return []edge{
		{"nil ins", ins(), false},
		{"no ins", ins([]api.In{}...), false},
		{"one in", ins(api.In{Tx: a}), true},
		{"one zero in", ins(api.In{}), true},
		{"8 ins", indexes(a, 0, 1, 2, 3, 4, 5, 6, 7), true},
		{"9 ins, the last one of an index that is too great", indexes(a, 0, 1, 2, 3, 4, 5, 6, 7, 8), false},
		{"9 ins", func(d *api.Deed) {
			indexes(b, 0, 1, 2, 3, 4, 5, 6, 7)(d)
			d.Ins = append(d.Ins, api.In{Tx: a})
		}, false},
		{"two ins alike", indexes(a, 3, 3), false},
		{"two zero ins", ins(api.In{}, api.In{}), false},
		{"the last two ins alike", indexes(a, 0, 1, 2, 2), false},
		{"alike ins with one between", ins(api.In{Tx: b}, api.In{Tx: a}, api.In{Tx: b}), false},
		{"one tx in order", indexes(a, 0, 1), true},
		{"one tx in order, far apart", indexes(a, 0, 7), true},
		{"one tx out of order", indexes(a, 1, 0), false},
		{"one tx out of order behind others", indexes(a, 1, 4, 6, 5), false},
		{"two txs, the index falls", ins(api.In{Tx: b, Index: 7}, api.In{Tx: a, Index: 0}), true},
		{"two txs, the index stays", ins(api.In{Tx: b, Index: 3}, api.In{Tx: a, Index: 3}), true},
		{"two txs out of order, the index rises", ins(api.In{Tx: a, Index: 0}, api.In{Tx: b, Index: 7}), false},
		{"two txs out of order, the index stays", ins(api.In{Tx: a}, api.In{Tx: b}), false},
		{"first bytes rise", ins(api.In{Tx: from(1)}, api.In{Tx: from(2)}), true},
		{"first bytes rise to more than 127", ins(api.In{Tx: from(127)}, api.In{Tx: from(128)}), true},
		{"first bytes fall", ins(api.In{Tx: from(2)}, api.In{Tx: from(1)}), false},
		{"first bytes fall from more than 127", ins(api.In{Tx: from(128)}, api.In{Tx: from(127)}), false},
		{"last bytes rise", ins(api.In{Tx: until(1)}, api.In{Tx: until(2)}), true},
		{"last bytes rise to 255, the index falls", ins(api.In{Tx: until(1), Index: 5}, api.In{Tx: until(255), Index: 4}), true},
		{"last bytes fall", ins(api.In{Tx: until(2)}, api.In{Tx: until(1)}), false},
		{"the first byte rises, the last one falls", ins(api.In{Tx: until(1)}, api.In{Tx: from(1)}), true},
		{"the first byte falls, the last one rises", ins(api.In{Tx: from(1)}, api.In{Tx: until(1)}), false},
		{"index 7", ins(api.In{Tx: a, Index: 7}), true},
		{"index 8", ins(api.In{Tx: a, Index: 8}), false},
		{"index 8 ahead of another tx", ins(api.In{Tx: b, Index: 8}, api.In{Tx: a}), false},
		{"index 8 behind others", indexes(a, 6, 7, 8), false},
		{"index 256", ins(api.In{Tx: a, Index: 256}), false},
		{"index 2^63", ins(api.In{Tx: a, Index: over}), false},
		{"index 2^64 - 1", ins(api.In{Tx: a, Index: greatest}), false},
	}
}

func outEdges() []edge {
	outs := func(l ...api.Out) func(*api.Deed) { return func(d *api.Deed) { d.Outs = l } }
	times := func(n int) func(*api.Deed) {
		return func(d *api.Deed) { d.Outs = slices.Repeat([]api.Out{{To: named("to"), Amount: 9}}, n) }
	}
	amount := func(n uint64) func(*api.Deed) { return outs(api.Out{To: named("to"), Stake: named("s"), Amount: n}) }
	last := func(n uint64) func(*api.Deed) {
		return func(d *api.Deed) {
			times(8)(d)
			d.Outs[7].Amount = n
		}
	}
	return []edge{
		{"no outs", outs(), true},
		{"empty outs", func(d *api.Deed) { d.Outs = []api.Out{} }, true},
		{"out to noughts", outs(api.Out{Amount: 1}), true},
		{"two outs alike", times(2), true},
		{"8 outs", times(8), true},
		{"9 outs", times(9), false},
		{"amount 0", amount(0), false},
		{"amount 1", amount(1), true},
		{"amount 2^63 - 1", amount(over - 1), true},
		{"amount 2^63", amount(over), false},
		{"amount 2^64 - 1", amount(greatest), false},
		{"the last amount 0", last(0), false},
		{"the last amount 2^63 - 1", last(over - 1), true},
		{"the last amount 2^63", last(over), false},
		{"amounts 2^63 - 1, whose sum is no number", func(d *api.Deed) {
			times(8)(d)
			for i := range d.Outs {
				d.Outs[i].Amount = over - 1
			}
		}, true},
		{"the first amount 0", func(d *api.Deed) {
			times(8)(d)
			d.Outs[0].Amount = 0
		}, false},
	}
}

func numberEdges() []edge {
	fee := func(n uint64) func(*api.Deed) { return func(d *api.Deed) { d.Fee = n } }
	slots := func(from, until uint64) func(*api.Deed) { return func(d *api.Deed) { d.From, d.Until = from, until } }
	return []edge{
		{"fee 0", fee(0), true},
		{"fee 1", fee(1), true},
		{"fee 2^63 - 1", fee(over - 1), true},
		{"fee 2^63", fee(over), false},
		{"fee 2^64 - 1", fee(greatest), false},
		{"from 0 until 0", slots(0, 0), true},
		{"from 0 until 1", slots(0, 1), true},
		{"from 1 until 0", slots(1, 0), false},
		{"from equal to until", slots(77, 77), true},
		{"from one more than until", slots(78, 77), false},
		{"from one less than until", slots(76, 77), true},
		{"from 0 until 2^64 - 1", slots(0, greatest), true},
		{"from 2^64 - 1 until 2^64 - 1", slots(greatest, greatest), true},
		{"from 2^64 - 1 until 2^64 - 2", slots(greatest, greatest-1), false},
		{"from 2^64 - 1 until 0", slots(greatest, 0), false},
		{"from 2^63 - 1 until 2^63", slots(over-1, over), true},
		{"from 2^63 until 2^63 - 1", slots(over, over-1), false},
	}
}

func certEdges() []edge {
	key, pool := named("key"), named("pool")
	certs := func(l ...api.Cert) func(*api.Deed) { return func(d *api.Deed) { d.Certs = l } }
	times := func(n int, c api.Cert) func(*api.Deed) { return certs(slices.Repeat([]api.Cert{c}, n)...) }
	open := api.Cert{Kind: api.CertOpen, Key: key}
	l := []edge{
		{"no certs", certs(), true},
		{"empty certs", func(d *api.Deed) { d.Certs = []api.Cert{} }, true},
		{"4 certs alike", times(4, open), true},
		{"5 certs", times(5, open), false},
		{"the last cert of no kind", certs(open, open, open, api.Cert{Kind: 7, Key: key}), false},
		{"the first cert of no kind", certs(api.Cert{}, open, open, open), false},
		{"certs in falling order of kinds", certs(api.Cert{Kind: 6}, api.Cert{Kind: 5}, api.Cert{Kind: 4}, api.Cert{Kind: 1}), true},
		{"the zero cert", certs(api.Cert{}), false},
		{"kind 255", certs(api.Cert{Kind: 255}), false},
		{"trust nobody", certs(api.Cert{Kind: api.CertTrust, Key: key}), true},
		{"close with 2^64 - 1", certs(api.Cert{Kind: api.CertClose, Pool: pool, A: greatest}), true},
		{"vote 2^64 - 1 to be 2^64 - 1", certs(api.Cert{Kind: api.CertVote, Pool: pool, A: greatest, B: greatest}), true},
	}
	// Each kind, those that are not there too, with the fields that it uses, and with each field that it does not use besides.
	for kind := range uint8(10) {
		used, there := uses(kind)
		name := "kind " + strconv.Itoa(int(kind))
		put := func(c *api.Cert, letter string) {
			switch letter {
			case "k":
				c.Key = key
			case "p":
				c.Pool = pool
			case "a":
				c.A = 1
			case "b":
				c.B = 1
			case "c":
				c.C = 1
			}
		}
		whole := api.Cert{Kind: kind}
		for letter := range strings.SplitSeq(used, "") {
			put(&whole, letter)
		}
		l = append(l, edge{name, certs(whole), there}, edge{name + " with nothing", certs(api.Cert{Kind: kind}), there})
		for letter := range strings.SplitSeq("kpabc", "") {
			more, alone := whole, api.Cert{Kind: kind}
			put(&more, letter)
			put(&alone, letter)
			may := there && strings.Contains(used, letter)
			l = append(l, edge{name + " and " + letter, certs(more), may}, edge{name + " with " + letter + " alone", certs(alone), may})
		}
	}
	return append(append(l, unusedEdges()...), poolEdges()...)
}

// unusedEdges are certificates of which a byte at the end of a field that they do not use is other than zero, or a number that is great.
func unusedEdges() []edge {
	certs := func(c api.Cert) func(*api.Deed) { return func(d *api.Deed) { d.Certs = []api.Cert{c} } }
	return []edge{
		{"open with the last byte of pool", certs(api.Cert{Kind: api.CertOpen, Pool: until(1)}), false},
		{"shut with the first byte of pool", certs(api.Cert{Kind: api.CertShut, Pool: from(1)}), false},
		{"close with the last byte of key", certs(api.Cert{Kind: api.CertClose, Key: until(255)}), false},
		{"vote with the first byte of key", certs(api.Cert{Kind: api.CertVote, Key: from(255)}), false},
		{"trust with a of 2^63", certs(api.Cert{Kind: api.CertTrust, A: over}), false},
		{"close with b of 2^64 - 1", certs(api.Cert{Kind: api.CertClose, B: greatest}), false},
		{"vote with c of 256", certs(api.Cert{Kind: api.CertVote, C: 256}), false},
	}
}

func poolEdges() []edge {
	pool := func(a, b, c uint64) func(*api.Deed) {
		return func(d *api.Deed) {
			d.Certs = []api.Cert{{Kind: api.CertPool, Key: named("key"), Pool: named("pool"), A: a, B: b, C: c}}
		}
	}
	return []edge{
		{"pool 0, 0, 0", pool(0, 0, 0), true},
		{"pool a 2^63 - 1", pool(over-1, 0, 0), true},
		{"pool a 2^63", pool(over, 0, 0), false},
		{"pool a 2^64 - 1", pool(greatest, 0, 0), false},
		{"pool b 2^63 - 1", pool(0, over-1, 0), true},
		{"pool b 2^63", pool(0, over, 0), false},
		{"pool b 2^64 - 1", pool(0, greatest, 0), false},
		{"pool c 1000", pool(0, 0, 1000), true},
		{"pool c 1001", pool(0, 0, 1001), false},
		{"pool c 2^64 - 1", pool(0, 0, greatest), false},
		{"pool all at their most", pool(over-1, over-1, 1000), true},
	}
}

func payEdges() []edge {
	pays := func(l ...api.Pay) func(*api.Deed) { return func(d *api.Deed) { d.Pays = l } }
	keys := func(l ...api.Hash) func(*api.Deed) {
		return func(d *api.Deed) {
			d.Pays = nil
			for i, k := range l {
				d.Pays = append(d.Pays, api.Pay{Key: k, Amount: uint64(9 - i)})
			}
		}
	}
	amount := func(n uint64) func(*api.Deed) { return pays(api.Pay{Key: named("key"), Amount: n}) }
	return []edge{
		{"no pays", pays(), true},
		{"empty pays", func(d *api.Deed) { d.Pays = []api.Pay{} }, true},
		{"a pay of noughts", pays(api.Pay{Amount: 1}), true},
		{"4 pays", keys(until(1), until(2), until(3), until(4)), true},
		{"5 pays", keys(until(1), until(2), until(3), until(4), until(5)), false},
		{"pays in order by the last byte", keys(until(127), until(128)), true},
		{"pays in order by the first byte", keys(until(255), from(1)), true},
		{"pays alike", keys(named("key"), named("key")), false},
		{"pays of one key with unlike amounts", pays(api.Pay{Key: from(1), Amount: 1}, api.Pay{Key: from(1), Amount: 2}), false},
		{"the last two pays alike", keys(until(1), until(2), until(3), until(3)), false},
		{"pays out of order by the last byte", keys(until(2), until(1)), false},
		{"pays out of order by the first byte", keys(from(128), from(127)), false},
		{"the last two pays out of order", keys(until(1), until(2), until(4), until(3)), false},
		{"pay 0", amount(0), false},
		{"pay 1", amount(1), true},
		{"pay 2^63 - 1", amount(over - 1), true},
		{"pay 2^63", amount(over), false},
		{"pay 2^64 - 1", amount(greatest), false},
		{"the last pay 0", pays(api.Pay{Key: until(1), Amount: 1}, api.Pay{Key: until(2)}), false},
		{"the last pay 2^63", pays(api.Pay{Key: until(1), Amount: 1}, api.Pay{Key: until(2), Amount: over}), false},
	}
}

func witEdges() []edge {
	wits := func(l ...api.Wit) func(*api.Deed) { return func(d *api.Deed) { d.Wits = l } }
	keys := func(l ...api.Hash) func(*api.Deed) {
		return func(d *api.Deed) {
			d.Wits = nil
			for i, k := range l {
				d.Wits = append(d.Wits, api.Wit{Key: k, Sig: sig(sigBytes, strconv.Itoa(i))})
			}
		}
	}
	sized := func(size int) func(*api.Deed) { return wits(api.Wit{Key: named("key"), Sig: sig(size, "s")}) }
	return []edge{
		{"no wits", wits(), true},
		{"empty wits", func(d *api.Deed) { d.Wits = []api.Wit{} }, true},
		{"one wit", keys(named("key")), true},
		{"8 wits", keys(api.Hash{}, until(1), until(2), until(128), from(1), from(2), from(128), filled(255)), true},
		{"9 wits", keys(until(1), until(2), until(3), until(4), until(5), until(6), until(7), until(8), until(9)), false},
		{"wits of one key with unlike signatures", keys(named("key"), named("key")), false},
		{"wits alike", wits(api.Wit{Sig: sig(sigBytes, "s")}, api.Wit{Sig: sig(sigBytes, "s")}), false},
		{"wits out of order by the last byte", keys(until(2), until(1)), false},
		{"wits out of order by the first byte", keys(from(128), from(127)), false},
		{"the last two wits out of order", keys(until(1), until(2), until(4), until(3)), false},
		{"a sig of no bytes", sized(0), false},
		{"a sig of 1023 bytes", sized(1023), false},
		{"a sig of 1024 bytes", sized(1024), true},
		{"a sig of 1025 bytes", sized(1025), false},
		{"a sig of 1120 bytes", sized(1120), false},
		{"the last sig of 1023 bytes", wits(api.Wit{Sig: sig(1024, "s")}, api.Wit{Key: from(1), Sig: sig(1023, "s")}), false},
		{"sigs of 1023 and 1025 bytes", wits(api.Wit{Sig: sig(1023, "s")}, api.Wit{Key: from(1), Sig: sig(1025, "s")}), false},
		{"sigs of 1025 and 1023 bytes", wits(api.Wit{Sig: sig(1025, "s")}, api.Wit{Key: from(1), Sig: sig(1023, "s")}), false},
		{"a sig of bytes 0", wits(api.Wit{Sig: strings.Repeat("\x00", 1024)}), true},
		{"a sig of bytes 255", wits(api.Wit{Sig: strings.Repeat("\xff", 1024)}), true},
		{"a sig of 1024 runes", wits(api.Wit{Sig: strings.Repeat("\u00e9", 1024)}), false},
		{"a sig of 512 runes of two bytes", wits(api.Wit{Sig: strings.Repeat("\u00e9", 512)}), true},
	}
}

func edges() []edge {
	return slices.Concat(inEdges(), outEdges(), numberEdges(), certEdges(), payEdges(), witEdges())
}

// P13.1 to P13.4: the edges that the chapter names, each in a deed that is bare beside it, in one that has some things, in one whose lists are full.
func TestEdges(t *testing.T) {
	for base, of := range bases() {
		hold(t, base, of, true)
		for _, x := range edges() {
			d := copied(of)
			x.change(&d)
			hold(t, base+": "+x.name, d, x.may)
			// Two Sigs, of which one has a byte too few and one a byte too many, have another deed's bytes.
			if got, e := deed.Take(plainPut(d)); (e == api.OK && alike(got, d)) != x.may {
				t.Error(base, x.name, "Take", e)
			}
		}
	}
}

// P13.1: two edges at a time: a deed may be if both may be, unless both are of one list.
func TestTwoEdges(t *testing.T) {
	kinds := [][]edge{inEdges(), outEdges(), numberEdges(), certEdges(), payEdges(), witEdges()}
	for i, l := range kinds {
		for j := range i {
			for k, x := range l {
				y := kinds[j][k%len(kinds[j])]
				d := bare()
				x.change(&d)
				y.change(&d)
				want := api.ErrArg
				if x.may && y.may {
					want = api.OK
				}
				if e := deed.May(d); e != want {
					t.Error(x.name, y.name, e)
				}
			}
		}
	}
}

// P13.1: certificates of each kind with fields of all sizes, each on its own and together.
func TestCerts(t *testing.T) {
	hashes := []api.Hash{{}, until(1), from(1)}
	numbers := []uint64{0, 1, 999, 1000, 1001, over - 1, over, greatest}
	for kind := range uint8(9) {
		for _, key := range hashes {
			for _, pool := range hashes {
				for _, a := range numbers {
					for _, b := range numbers {
						for _, c := range numbers {
							one := api.Cert{Kind: kind, Key: key, Pool: pool, A: a, B: b, C: c}
							d := bare()
							d.Certs = []api.Cert{one}
							want := api.ErrArg
							if plainMayCert(one) {
								want = api.OK
							}
							if e := deed.May(d); e != want {
								t.Error(one, e)
							}
						}
					}
				}
			}
		}
	}
}

// P13.1, R1: lists of a great many things, which are none that may be, though each thing is.
func TestLongLists(t *testing.T) {
	const many = 1 << 16
	for name, change := range map[string]func(d *api.Deed){
		"ins": func(d *api.Deed) {
			d.Ins = nil
			for i := range many {
				d.Ins = append(d.Ins, api.In{Tx: from(byte(i>>16), byte(i>>8), byte(i))})
			}
		},
		"outs":  func(d *api.Deed) { d.Outs = slices.Repeat([]api.Out{{Amount: 1}}, many) },
		"certs": func(d *api.Deed) { d.Certs = slices.Repeat([]api.Cert{{Kind: 1}}, many) },
		"pays": func(d *api.Deed) {
			for i := range many {
				d.Pays = append(d.Pays, api.Pay{Key: from(byte(i>>16), byte(i>>8), byte(i)), Amount: 1})
			}
		},
		"wits": func(d *api.Deed) {
			one := sig(sigBytes, "s")
			for i := range many / 64 {
				d.Wits = append(d.Wits, api.Wit{Key: from(byte(i>>8), byte(i)), Sig: one})
			}
		},
	} {
		d := bare()
		change(&d)
		hold(t, name, d, false)
		if !deed.Same(d, copied(d)) {
			t.Error(name, "not the same")
		}
	}
	d := bare()
	d.Wits = []api.Wit{{Sig: strings.Repeat("s", 1<<24)}}
	hold(t, "a long sig", d, false)
}

// P13.2, P13.4: each beginning of a deed's bytes is none's, nor are they with one more byte behind them, whichever it is, or with another deed's; ends of them may be another one's.
func TestTakeBeginnings(t *testing.T) {
	for name, d := range bases() {
		s := plainPut(d)
		for n := range len(s) {
			if got, e := deed.Take(s[:n]); e != api.ErrBytes || !reflect.DeepEqual(got, api.Deed{}) {
				t.Fatal(name, n, got, e)
			}
		}
		for b := range 256 {
			if got, e := deed.Take(s + string([]byte{byte(b)})); e != api.ErrBytes || !reflect.DeepEqual(got, api.Deed{}) {
				t.Error(name, b, got, e)
			}
		}
		for other, more := range bases() {
			if got, e := deed.Take(s + plainPut(more)); e != api.ErrBytes || !reflect.DeepEqual(got, api.Deed{}) {
				t.Error(name, other, got, e)
			}
		}
		for n := range min(len(s), 300) {
			holdTake(t, name, s[n+1:])
		}
	}
}

// long is a number's short form with n bytes more that say nothing.
func long(number uint64, n int) string {
	b := []byte(short(number))
	b[len(b)-1] |= 128
	return string(b) + strings.Repeat("\x80", n-1) + "\x00"
}

// P13.2, P13.4: a deed's bytes with each number, one at a time, in a longer form than the short one.
func TestTakeLongNumbers(t *testing.T) {
	for name, d := range bases() {
		body, wits := pieces(d)
		l := append(body, wits...)
		for i, p := range l {
			if !p.tells {
				continue
			}
			for n := 1; len(p.text)+n <= 11; n++ {
				with := slices.Clone(l)
				with[i].text = long(p.number, n)
				if got, e := deed.Take(joined(with)); e != api.ErrBytes || !reflect.DeepEqual(got, api.Deed{}) {
					t.Error(name, i, n, got, e)
				}
			}
			// And bytes that are no number at all.
			for _, none := range []string{strings.Repeat("\xff", 9) + "\x02", strings.Repeat("\x80", 10), strings.Repeat("\xff", 40)} {
				with := slices.Clone(l)
				with[i].text = none
				if got, e := deed.Take(joined(with)); e != api.ErrBytes || !reflect.DeepEqual(got, api.Deed{}) {
					t.Errorf("%s %d %x: %v %v", name, i, none, got, e)
				}
			}
		}
	}
}

// P13.2, R1: a deed's bytes with each count, one at a time, another one: one less, one more, the most that may be and one above it, huge ones; with nothing behind, with much.
func TestTakeCounts(t *testing.T) {
	for name, d := range bases() {
		body, wits := pieces(d)
		l := append(body, wits...)
		for i, p := range l {
			if !p.isCount {
				continue
			}
			for _, n := range []uint64{0, p.number - 1, p.number + 1, p.most, p.most + 1, 127, 128, 1 << 31, 1 << 32, over - 1, over, greatest} {
				with := slices.Clone(l)
				with[i].text = short(n)
				s := joined(with)
				for _, more := range []string{"", strings.Repeat("\x00", 2000), strings.Repeat("\x01", 20000), s} {
					if is := holdTake(t, name, s+more); is && n != p.number && n > p.most {
						t.Error(name, i, n, "is taken")
					}
				}
			}
		}
	}
}

// P13.2: more things than may be, which are all there.
func TestTakeMoreThings(t *testing.T) {
	for name, d := range bases() {
		for _, x := range edges() {
			if !strings.HasPrefix(x.name, "9 ") && !strings.HasPrefix(x.name, "5 ") {
				continue
			}
			with := copied(d)
			x.change(&with)
			if got, e := deed.Take(plainPut(with)); e != api.ErrBytes || !reflect.DeepEqual(got, api.Deed{}) {
				t.Error(name, x.name, got, e)
			}
		}
	}
}

// P13.2, P13.4: a deed's bytes of which one is another, at each place ahead of its signatures' middles, and of which one is gone, or stands twice.
func TestTakeSpoilt(t *testing.T) {
	for name, d := range bases() {
		s := plainPut(d)
		taken := 0
		for at := range len(s) {
			if at > len(plainBody(d))+100 && at < len(s)-40 && at%97 != 0 {
				continue
			}
			for _, by := range []byte{1, 2, 3, 4, 8, 16, 64, 128, 129, 255, s[at], s[at] ^ 7, s[at] ^ 127} {
				b := []byte(s)
				b[at] ^= by
				if holdTake(t, name, string(b)) && string(b) != s {
					taken++
				}
			}
			holdTake(t, name, s[:at]+s[at+1:])
			holdTake(t, name, s[:at]+s[at:at+1]+s[at:])
		}
		if taken == 0 {
			t.Error(name, "no other deed is one byte away")
		}
	}
}

// someHash is one of few hashes, or one of many.
func someHash(r *rand.Rand) (h api.Hash) {
	switch r.Intn(5) {
	case 0:
		return until(byte(r.Intn(4)))
	case 1:
		return from(byte(r.Intn(3)), 0, byte(r.Intn(2)))
	case 2:
		return filled(byte(r.Intn(2) * 255))
	}
	r.Read(h[:])
	return h
}

// someNumber is one of the numbers at which something becomes otherwise, or one of any size.
func someNumber(r *rand.Rand) uint64 {
	l := []uint64{0, 1, 7, 8, 127, 128, 1000, 1001, 16383, 16384, over - 1, over, greatest}
	if r.Intn(2) == 0 {
		return l[r.Intn(len(l))]
	}
	return r.Uint64() >> r.Intn(64)
}

// someAmount is one that may be.
func someAmount(r *rand.Rand) uint64 { return someNumber(r)%(over-1) + 1 }

// someCert is one that may be.
func someCert(r *rand.Rand) api.Cert {
	c := api.Cert{Kind: uint8(1 + r.Intn(6))}
	used, _ := uses(c.Kind)
	if strings.Contains(used, "k") {
		c.Key = someHash(r)
	}
	if strings.Contains(used, "p") {
		c.Pool = someHash(r)
	}
	if strings.Contains(used, "a") {
		c.A = someNumber(r)
	}
	if strings.Contains(used, "b") {
		c.B = someNumber(r)
	}
	if c.Kind == 4 {
		c.A, c.B, c.C = c.A%over, c.B%over, uint64(r.Intn(1001))
	}
	return c
}

// someDeed is one that may be, or would be but for what is alike in it.
func someDeed(r *rand.Rand) api.Deed {
	d := api.Deed{Fee: someNumber(r) % over, From: someNumber(r)}
	d.Until = d.From + someNumber(r)%(greatest-d.From+min(d.From, 1))
	for range 1 + r.Intn(8) {
		d.Ins = append(d.Ins, api.In{Tx: someHash(r), Index: uint64(r.Intn(8))})
	}
	sort.Slice(d.Ins, func(i, j int) bool { return inAhead(d.Ins[i], d.Ins[j]) })
	for range r.Intn(9) {
		d.Outs = append(d.Outs, api.Out{To: someHash(r), Stake: someHash(r), Amount: someAmount(r)})
	}
	for range r.Intn(5) {
		d.Certs = append(d.Certs, someCert(r))
	}
	for range r.Intn(5) {
		d.Pays = append(d.Pays, api.Pay{Key: someHash(r), Amount: someAmount(r)})
	}
	sort.Slice(d.Pays, func(i, j int) bool { return keyAhead(d.Pays[i].Key, d.Pays[j].Key) })
	for range r.Intn(4) {
		d.Wits = append(d.Wits, api.Wit{Key: someHash(r), Sig: sig(sigBytes, strconv.Itoa(r.Intn(9)))})
	}
	sort.Slice(d.Wits, func(i, j int) bool { return keyAhead(d.Wits[i].Key, d.Wits[j].Key) })
	return d
}

// spoil makes something of a deed another thing, so that it may often not be.
func spoil(r *rand.Rand, d *api.Deed) {
	switch r.Intn(8) {
	case 0:
		d.Ins[r.Intn(len(d.Ins))] = api.In{Tx: someHash(r), Index: someNumber(r)}
	case 1:
		d.Ins[r.Intn(len(d.Ins))].Index = uint64(r.Intn(9))
	case 2:
		d.Outs = append(d.Outs, api.Out{To: someHash(r), Amount: someNumber(r)})
	case 3:
		d.Fee = someNumber(r)
	case 4:
		d.Until = someNumber(r)
	case 5:
		d.Certs = append(d.Certs, api.Cert{Kind: uint8(r.Intn(8)), Key: someHash(r), B: someNumber(r)})
	case 6:
		d.Pays = append(d.Pays, api.Pay{Key: someHash(r), Amount: someNumber(r)})
	case 7:
		d.Wits = append(d.Wits, api.Wit{Key: someHash(r), Sig: sig(sigBytes-1+r.Intn(3), "w")})
	}
}

// P13.1 to P13.4: deeds of all kinds, of which some may be and some not.
func TestManyDeeds(t *testing.T) {
	r := rand.New(rand.NewSource(13))
	may := 0
	for i := range 3000 {
		d := someDeed(r)
		for range r.Intn(3) {
			spoil(r, &d)
		}
		if plainMay(d) {
			may++
		}
		hold(t, strconv.Itoa(i), d, plainMay(d))
	}
	if may < 500 || may > 2500 {
		t.Error(may, "may be")
	}
}

// P13.2, P13.4, R1: bytes by chance, deeds' bytes put together anew, and rows of one byte.
func TestTakeAnything(t *testing.T) {
	r := rand.New(rand.NewSource(31))
	for b := range 256 {
		for _, n := range []int{1, 2, 41, 42, 300, 5000} {
			holdTake(t, "one byte", strings.Repeat(string([]byte{byte(b)}), n))
		}
	}
	for range 2000 {
		b := make([]byte, r.Intn(200))
		r.Read(b)
		holdTake(t, "chance", string(b))
		for i := range b {
			b[i] &= 3
		}
		holdTake(t, "small bytes", string(b))
	}
	taken := 0
	for range 2000 {
		one, other := plainPut(someDeed(r)), plainPut(someDeed(r))
		if holdTake(t, "halves", one[:r.Intn(len(one)+1)]+other[r.Intn(len(other)+1):]) {
			taken++
		}
		body, _ := pieces(someDeed(r))
		_, wits := pieces(someDeed(r))
		if holdTake(t, "a body and wits", joined(body)+joined(wits)) {
			taken++
		}
	}
	if taken < 200 {
		t.Error(taken)
	}
	holdTake(t, "long", strings.Repeat("\x00", 1<<22))
	holdTake(t, "long", "\x01"+strings.Repeat("\x00", 1<<22))
	holdTake(t, "long", plainPut(most())+strings.Repeat("\x00", 1<<22))
}

// P13.4, R3, R5: what is taken shares nothing with what is taken another time, nor do its lists share anything.
func TestTakenIsNew(t *testing.T) {
	s := plainPut(most())
	one, _ := deed.Take(s)
	other, _ := deed.Take(s)
	for i := range one.Ins {
		one.Ins[i], one.Outs[i], one.Wits[i] = api.In{}, api.Out{}, api.Wit{}
	}
	for i := range one.Certs {
		one.Certs[i], one.Pays[i] = api.Cert{}, api.Pay{}
	}
	one.Ins = append(one.Ins[:4], api.In{Index: 5})
	if !alike(other, most()) {
		t.Error("another one has become another")
	}
	if again, e := deed.Take(s); e != api.OK || !alike(again, most()) {
		t.Error(again, e)
	}
}

// R3: lists that go on behind their ends are left as they are there too.
func TestBehindTheEnds(t *testing.T) {
	d := most()
	behind := copied(d)
	cut := d
	cut.Ins, cut.Outs, cut.Certs, cut.Pays, cut.Wits = d.Ins[:1], d.Outs[:1], d.Certs[:1], d.Pays[:1], d.Wits[:1]
	hold(t, "cut", cut, true)
	if !alike(d, behind) {
		t.Error("has become another one")
	}
}

// P13.3, P13.4: Wits make no difference to Body and Id, and do to Put and Full.
func TestWits(t *testing.T) {
	l := [][]api.Wit{
		nil,
		{{Sig: sig(sigBytes, "s")}},
		{{Sig: sig(sigBytes, "t")}},
		{{Key: until(1), Sig: sig(sigBytes, "s")}},
		{{Key: from(1), Sig: sig(sigBytes, "s")}},
		{{Key: until(1), Sig: sig(sigBytes, "s")}, {Key: from(1), Sig: sig(sigBytes, "s")}},
		{{Key: until(1), Sig: sig(sigBytes, "s")}, {Key: from(1), Sig: sig(sigBytes, "t")}},
		{{Key: until(1), Sig: sig(sigBytes, "t")}, {Key: from(1), Sig: sig(sigBytes, "s")}},
		most().Wits,
	}
	for name, d := range bases() {
		body, id := plainBody(d), plainSum("deed", plainBody(d))
		puts, fulls := map[string]int{}, map[api.Hash]int{}
		for i, wits := range l {
			d.Wits = wits
			if s, e := deed.Body(d); s != body || e != api.OK {
				t.Errorf("%s %d: %x %v", name, i, s, e)
			}
			if h, e := deed.Id(d); h != id || e != api.OK {
				t.Errorf("%s %d: %x %v", name, i, h, e)
			}
			s, e := deed.Put(d)
			if !strings.HasPrefix(s, body) || e != api.OK {
				t.Errorf("%s %d: %x %v", name, i, s, e)
			}
			h, _ := deed.Full(d)
			if h == id {
				t.Error(name, i, "in full it is its id")
			}
			puts[s]++
			fulls[h]++
		}
		if len(puts) != len(l) || len(fulls) != len(l) {
			t.Error(name, len(puts), len(fulls), len(l))
		}
	}
}

// P13.1, P13.3: Wits that may not be leave no body and no id either.
func TestWitsThatMayNotBe(t *testing.T) {
	d := bare()
	d.Wits = []api.Wit{{Sig: sig(sigBytes-1, "s")}}
	if s, e := deed.Body(d); s != "" || e != api.ErrArg {
		t.Errorf("%x %v", s, e)
	}
	if h, e := deed.Id(d); h != (api.Hash{}) || e != api.ErrArg {
		t.Errorf("%x %v", h, e)
	}
}

// otherwise is a deed in each way in which a field of it, or of a thing in one of its lists, can be another one; the lists that things stand in become shorter, longer and turned round, too.
func otherwise(of api.Deed) map[string]api.Deed {
	l := map[string]api.Deed{}
	with := func(name string, change func(d *api.Deed)) {
		d := copied(of)
		change(&d)
		l[name] = d
	}
	with("fee", func(d *api.Deed) { d.Fee++ })
	with("from", func(d *api.Deed) { d.From++ })
	with("until", func(d *api.Deed) { d.Until-- })
	for i := range of.Ins {
		n := " " + strconv.Itoa(i)
		with("in tx first"+n, func(d *api.Deed) { d.Ins[i].Tx[0] ^= 1 })
		with("in tx last"+n, func(d *api.Deed) { d.Ins[i].Tx[31] ^= 128 })
		with("in index"+n, func(d *api.Deed) { d.Ins[i].Index ^= 1 })
	}
	for i := range of.Outs {
		n := " " + strconv.Itoa(i)
		with("out to first"+n, func(d *api.Deed) { d.Outs[i].To[0] ^= 1 })
		with("out to last"+n, func(d *api.Deed) { d.Outs[i].To[31] ^= 128 })
		with("out stake first"+n, func(d *api.Deed) { d.Outs[i].Stake[0] ^= 1 })
		with("out stake last"+n, func(d *api.Deed) { d.Outs[i].Stake[31] ^= 128 })
		with("out amount"+n, func(d *api.Deed) { d.Outs[i].Amount ^= 2 })
		with("out to and stake"+n, func(d *api.Deed) { d.Outs[i].To, d.Outs[i].Stake = d.Outs[i].Stake, d.Outs[i].To })
	}
	for i := range of.Certs {
		n := " " + strconv.Itoa(i)
		with("cert kind"+n, func(d *api.Deed) { d.Certs[i].Kind ^= 1 })
		with("cert key first"+n, func(d *api.Deed) { d.Certs[i].Key[0] ^= 1 })
		with("cert key last"+n, func(d *api.Deed) { d.Certs[i].Key[31] ^= 128 })
		with("cert pool first"+n, func(d *api.Deed) { d.Certs[i].Pool[0] ^= 1 })
		with("cert pool last"+n, func(d *api.Deed) { d.Certs[i].Pool[31] ^= 128 })
		with("cert a"+n, func(d *api.Deed) { d.Certs[i].A ^= 1 })
		with("cert b"+n, func(d *api.Deed) { d.Certs[i].B ^= 1 })
		with("cert c"+n, func(d *api.Deed) { d.Certs[i].C ^= 1 })
	}
	for i := range of.Pays {
		n := " " + strconv.Itoa(i)
		with("pay key first"+n, func(d *api.Deed) { d.Pays[i].Key[0] ^= 1 })
		with("pay key last"+n, func(d *api.Deed) { d.Pays[i].Key[31] ^= 128 })
		with("pay amount"+n, func(d *api.Deed) { d.Pays[i].Amount ^= 2 })
	}
	for i := range of.Wits {
		n := " " + strconv.Itoa(i)
		with("wit key first"+n, func(d *api.Deed) { d.Wits[i].Key[0] ^= 1 })
		with("wit key last"+n, func(d *api.Deed) { d.Wits[i].Key[31] ^= 128 })
		with("wit sig first"+n, func(d *api.Deed) { d.Wits[i].Sig = "!" + d.Wits[i].Sig[1:] })
		with("wit sig last"+n, func(d *api.Deed) { d.Wits[i].Sig = d.Wits[i].Sig[:len(d.Wits[i].Sig)-1] + "!" })
		with("wit sig shorter"+n, func(d *api.Deed) { d.Wits[i].Sig = d.Wits[i].Sig[1:] })
		with("wit sig longer"+n, func(d *api.Deed) { d.Wits[i].Sig += "!" })
	}
	with("ins shorter", func(d *api.Deed) { d.Ins = d.Ins[:len(d.Ins)-1] })
	with("outs shorter", func(d *api.Deed) { d.Outs = d.Outs[:len(d.Outs)-1] })
	with("certs shorter", func(d *api.Deed) { d.Certs = d.Certs[:len(d.Certs)-1] })
	with("pays shorter", func(d *api.Deed) { d.Pays = d.Pays[:len(d.Pays)-1] })
	with("wits shorter", func(d *api.Deed) { d.Wits = d.Wits[:len(d.Wits)-1] })
	with("no ins", func(d *api.Deed) { d.Ins = nil })
	with("no outs", func(d *api.Deed) { d.Outs = nil })
	with("no certs", func(d *api.Deed) { d.Certs = nil })
	with("no pays", func(d *api.Deed) { d.Pays = nil })
	with("no wits", func(d *api.Deed) { d.Wits = nil })
	with("ins longer", func(d *api.Deed) { d.Ins = append(d.Ins, api.In{}) })
	with("outs longer", func(d *api.Deed) { d.Outs = append(d.Outs, api.Out{}) })
	with("certs longer", func(d *api.Deed) { d.Certs = append(d.Certs, api.Cert{}) })
	with("pays longer", func(d *api.Deed) { d.Pays = append(d.Pays, api.Pay{}) })
	with("wits longer", func(d *api.Deed) { d.Wits = append(d.Wits, api.Wit{}) })
	with("ins turned round", func(d *api.Deed) { slices.Reverse(d.Ins) })
	with("outs turned round", func(d *api.Deed) { slices.Reverse(d.Outs) })
	with("certs turned round", func(d *api.Deed) { slices.Reverse(d.Certs) })
	with("pays turned round", func(d *api.Deed) { slices.Reverse(d.Pays) })
	with("wits turned round", func(d *api.Deed) { slices.Reverse(d.Wits) })
	return l
}

// P13.3: Same in each field, and in each thing of each list; of deeds that may not be, too.
func TestSame(t *testing.T) {
	for name, d := range map[string]api.Deed{"some": some(), "most": most()} {
		if !deed.Same(d, d) || !deed.Same(d, copied(d)) {
			t.Error(name, "is not the same as itself")
		}
		for how, other := range otherwise(d) {
			if deed.Same(d, other) || deed.Same(other, d) {
				t.Error(name, how, "is the same")
			}
			if !deed.Same(other, copied(other)) {
				t.Error(name, how, "is not the same as itself")
			}
		}
		for how, other := range bases() {
			if deed.Same(d, other) != (name == how) {
				t.Error(name, how)
			}
		}
	}
	r := rand.New(rand.NewSource(3))
	for range 500 {
		a, b := someDeed(r), someDeed(r)
		spoil(r, &a)
		if deed.Same(a, b) != alike(a, b) || !deed.Same(a, copied(a)) {
			t.Error(a, b)
		}
	}
}

// P13.3: none and an empty list are alike, list by list, and neither is a list with a zero thing.
func TestSameOfNone(t *testing.T) {
	empty := api.Deed{Ins: []api.In{}, Outs: []api.Out{}, Certs: []api.Cert{}, Pays: []api.Pay{}, Wits: []api.Wit{}}
	if !deed.Same(api.Deed{}, empty) || !deed.Same(empty, api.Deed{}) || !deed.Same(empty, empty) || !deed.Same(api.Deed{}, api.Deed{}) {
		t.Error("none and empty are unlike")
	}
	for i, one := range []api.Deed{
		{Ins: []api.In{}}, {Outs: []api.Out{}}, {Certs: []api.Cert{}}, {Pays: []api.Pay{}}, {Wits: []api.Wit{}},
	} {
		if !deed.Same(one, api.Deed{}) || !deed.Same(api.Deed{}, one) || !deed.Same(one, empty) {
			t.Error(i, "none and empty are unlike")
		}
	}
	for i, one := range []api.Deed{
		{Ins: []api.In{{}}}, {Outs: []api.Out{{}}}, {Certs: []api.Cert{{}}}, {Pays: []api.Pay{{}}}, {Wits: []api.Wit{{}}},
	} {
		for _, none := range []api.Deed{{}, empty} {
			if deed.Same(one, none) || deed.Same(none, one) {
				t.Error(i, "one and none are alike")
			}
		}
	}
	d := bare()
	with := bare()
	with.Outs, with.Certs, with.Pays, with.Wits = []api.Out{}, []api.Cert{}, []api.Pay{}, []api.Wit{}
	s, _ := deed.Put(d)
	of, _ := deed.Put(with)
	if s != of || !deed.Same(d, with) {
		t.Errorf("%x %x", s, of)
	}
}

// P13.5: of deeds that may be, which are one another but for one thing, or of whatever kinds, those with one body are the same but for their Wits.
func TestOneBody(t *testing.T) {
	var l []api.Deed
	for _, d := range bases() {
		l = append(l, d)
	}
	for _, of := range []api.Deed{some(), most()} {
		for _, d := range otherwise(of) {
			l = append(l, d)
		}
	}
	for _, of := range bases() {
		for _, x := range edges() {
			d := copied(of)
			x.change(&d)
			l = append(l, d)
		}
	}
	r := rand.New(rand.NewSource(5))
	for range 1000 {
		d := someDeed(r)
		l = append(l, d)
		d.Wits = someDeed(r).Wits
		l = append(l, d)
	}
	first, ids, again := map[string]api.Deed{}, map[string]api.Hash{}, 0
	for _, d := range l {
		body, e := deed.Body(d)
		if e != api.OK {
			continue
		}
		id, _ := deed.Id(d)
		d.Wits = nil
		other, there := first[body]
		if !there {
			first[body], ids[body] = d, id
			continue
		}
		again++
		if !alike(d, other) || id != ids[body] {
			t.Errorf("%v and %v have the body %x", d, other, body)
		}
	}
	bodies := map[api.Hash]int{}
	for _, id := range ids {
		bodies[id]++
	}
	if again < 300 || len(first) < 700 || len(bodies) != len(first) {
		t.Error(again, len(first), len(bodies))
	}
}

// P13.3: spots are Tx's bytes and Index's eight bytes, and rise as Ins do, with whatever indexes.
func TestSpot(t *testing.T) {
	var l []api.In
	for _, tx := range []api.Hash{{}, until(1), until(127), until(128), until(255), from(1), from(127), from(128), filled(255), named("a"), named("b")} {
		for _, i := range []uint64{0, 1, 7, 8, 127, 128, 255, 256, 258, 65535, 65536, 1 << 32, over - 1, over, greatest - 1, greatest} {
			l = append(l, api.In{Tx: tx, Index: i})
		}
	}
	for _, a := range l {
		s := deed.Spot(a)
		if want := string(a.Tx[:]) + string(binary.BigEndian.AppendUint64(nil, a.Index)); s != want {
			t.Errorf("%v: %x, want %x", a, s, want)
		}
		for _, b := range l {
			if (s < deed.Spot(b)) != inAhead(a, b) {
				t.Error(a, b)
			}
		}
	}
}

// R5: many ask at one time, and are answered as one is.
func TestAtOneTime(t *testing.T) {
	d := most()
	s, id := plainPut(d), plainSum("deed", plainBody(d))
	var all sync.WaitGroup
	for range 8 {
		all.Go(func() {
			for range 20 {
				put, _ := deed.Put(d)
				h, _ := deed.Id(d)
				got, e := deed.Take(s)
				if put != s || h != id || e != api.OK || !deed.Same(got, d) {
					t.Error(put, h, got, e)
				}
			}
		})
	}
	all.Wait()
}
