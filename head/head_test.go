package head_test

import (
	"bytes"
	"crypto/sha256"
	"encoding/binary"
	"encoding/hex"
	"math"
	"math/rand"
	"slices"
	"strconv"
	"strings"
	"sync"
	"testing"

	"mintage/api"
	"mintage/evolve"
	"mintage/head"
	"mintage/once"
)

const (
	whole    = 2320 // bytes of a head
	rightSig = 1024 // bytes of a right's signature
	headSig  = 1120 // bytes of a head's
	depth    = 3    // of the keys by which heads are signed
	last     = 7    // the last period of such a key
	greatest = math.MaxUint64
)

// named is the sum of a name.
func named(s string) api.Hash { return sha256.Sum256([]byte(s)) }

// from is a hash of bytes 0, of which the first ones are these.
func from(first ...byte) (h api.Hash) {
	copy(h[:], first)
	return h
}

// until is a hash of bytes 0, of which the last one is this.
func until(last byte) (h api.Hash) {
	h[31] = last
	return h
}

// filled is a hash of one byte, 32 times.
func filled(b byte) api.Hash { return api.Hash(bytes.Repeat([]byte{b}, 32)) }

// sig is a text of that size; what it has hangs on salt.
func sig(size int, salt string) string {
	h := named(salt)
	return string(bytes.Repeat(h[:], size/32+1))[:size]
}

func eight(n uint64) string { return string(binary.BigEndian.AppendUint64(nil, n)) }

// plainOf is the sum of parts under a tag.
func plainOf(tag string, parts ...string) api.Hash {
	var b []byte
	for _, s := range append([]string{tag}, parts...) {
		b = append(binary.AppendUvarint(b, uint64(len(s))), s...)
	}
	return sha256.Sum256(b)
}

// plainSigned are the parts of what is signed of a head, as the chapter has them one behind the other.
func plainSigned(h api.Head) []string {
	return []string{
		eight(h.Slot), eight(h.Number), string(h.Prev[:]), string(h.Pool[:]), string(h.Body[:]), eight(h.Size), eight(h.Many),
		string(h.Right.Hot[:]), eight(h.Right.Counter), eight(h.Right.Start), h.Right.Sig,
	}
}

func plainPut(h api.Head) string    { return strings.Join(plainSigned(h), "") + h.Sig }
func plainText(h api.Head) api.Hash { return plainOf("sign", plainSigned(h)...) }
func plainRight(r api.Right) api.Hash {
	return plainOf("right", string(r.Hot[:]), eight(r.Counter), eight(r.Start))
}
func plainMay(h api.Head) bool { return len(h.Right.Sig) == rightSig && len(h.Sig) == headSig }
func isZero(h api.Head) bool   { return h == api.Head{} }

func copied(k api.Evolving) api.Evolving {
	k.Right, k.Side = slices.Clone(k.Right), slices.Clone(k.Side)
	return k
}

// plainSealed is what the chapter says of Sealed: the period is one of the key's, which has eight of them from Start on, and what is signed is checked for it.
func plainSealed(h api.Head, period uint64) bool {
	if !plainMay(h) {
		return false
	}
	for p := range uint64(8) {
		if h.Right.Start <= greatest-p && h.Right.Start+p == period {
			return evolve.Check(h.Right.Hot, depth, int(p), plainText(h), h.Sig)
		}
	}
	return false
}

// number, hash are fields of a head, and where they stand in its bytes.
type number struct {
	name string
	at   int
	of   func(h *api.Head) *uint64
}

type hash struct {
	name string
	at   int
	of   func(h *api.Head) *api.Hash
}

func numbers() []number {
	return []number{
		{"Slot", 0, func(h *api.Head) *uint64 { return &h.Slot }},
		{"Number", 8, func(h *api.Head) *uint64 { return &h.Number }},
		{"Size", 112, func(h *api.Head) *uint64 { return &h.Size }},
		{"Many", 120, func(h *api.Head) *uint64 { return &h.Many }},
		{"Counter", 160, func(h *api.Head) *uint64 { return &h.Right.Counter }},
		{"Start", 168, func(h *api.Head) *uint64 { return &h.Right.Start }},
	}
}

func hashes() []hash {
	return []hash{
		{"Prev", 16, func(h *api.Head) *api.Hash { return &h.Prev }},
		{"Pool", 48, func(h *api.Head) *api.Hash { return &h.Pool }},
		{"Body", 80, func(h *api.Head) *api.Hash { return &h.Body }},
		{"Hot", 128, func(h *api.Head) *api.Hash { return &h.Right.Hot }},
	}
}

const (
	rightSigAt = 176
	sigAt      = 1200
)

// ends are the numbers that each field is to have once.
func ends() []uint64 {
	return []uint64{0, 1, 255, 256, 1<<32 - 1, 1 << 32, 1<<63 - 1, 1 << 63, 1<<64 - 8, greatest}
}

// bare has noughts alone, most the greatest of all, some something else in each field.
func bare() api.Head {
	return api.Head{Right: api.Right{Sig: strings.Repeat("\x00", rightSig)}, Sig: strings.Repeat("\x00", headSig)}
}

func most() api.Head {
	f := filled(255)
	return api.Head{
		Slot: greatest, Number: greatest, Prev: f, Pool: f, Body: f, Size: greatest, Many: greatest,
		Right: api.Right{Hot: f, Counter: greatest, Start: greatest, Sig: strings.Repeat("\xff", rightSig)},
		Sig:   strings.Repeat("\xff", headSig),
	}
}

func some() api.Head {
	return api.Head{
		Slot: 1000, Number: 300, Prev: named("prev"), Pool: named("pool"), Body: named("body"), Size: 5000, Many: 3,
		Right: api.Right{Hot: named("hot"), Counter: 2, Start: 70, Sig: sig(rightSig, "right")},
		Sig:   sig(headSig, "sig"),
	}
}

func bases() map[string]api.Head {
	return map[string]api.Head{"bare": bare(), "some": some(), "most": most()}
}

// keyAt is the key of a seed at a period.
func keyAt(t *testing.T, seed api.Hash, period int) api.Evolving {
	t.Helper()
	k, e := evolve.Make(seed, depth)
	for range period {
		if e == api.OK {
			k, e = evolve.Next(k)
		}
	}
	if e != api.OK {
		t.Fatal(period, e)
	}
	return k
}

func publicOf(t *testing.T, k api.Evolving) api.Hash {
	t.Helper()
	public, e := evolve.Public(k)
	if e != api.OK {
		t.Fatal(e)
	}
	return public
}

func signedBy(t *testing.T, k api.Evolving, message api.Hash) string {
	t.Helper()
	s, e := evolve.Sign(k, message)
	if e != api.OK {
		t.Fatal(e)
	}
	return s
}

func sealed(t *testing.T, h api.Head, k api.Evolving) api.Head {
	t.Helper()
	h, e := head.Seal(h, k)
	if e != api.OK {
		t.Fatal(e)
	}
	return h
}

// granted is some head with a right of the key's that begins at start, not sealed yet.
func granted(t *testing.T, k api.Evolving, start uint64) api.Head {
	t.Helper()
	h := some()
	h.Pool = once.Public(named("cold"))
	h.Right = head.Grant(named("cold"), publicOf(t, k), 2, start)
	h.Sig = ""
	return h
}

// hold holds what is answered of a head by May, Put, Take and Id against the chapter's words.
func hold(t *testing.T, name string, h api.Head) {
	t.Helper()
	want := api.ErrArg
	if plainMay(h) {
		want = api.OK
	}
	if e := head.May(h); e != want {
		t.Errorf("%s: May %d", name, e)
	}
	s, e := head.Put(h)
	id, e2 := head.Id(h)
	if e != want || e2 != want {
		t.Errorf("%s: Put %d, Id %d", name, e, e2)
	}
	if want != api.OK {
		if s != "" || id != (api.Hash{}) {
			t.Errorf("%s: beside an error %d bytes, %x", name, len(s), id)
		}
		return
	}
	if s != plainPut(h) {
		t.Errorf("%s: Put %x", name, s)
	}
	if id != plainOf("head", plainPut(h)) {
		t.Errorf("%s: Id %x", name, id)
	}
	if back, e := head.Take(s); e != api.OK || back != h {
		t.Errorf("%s: Take of Put %x, %d", name, back, e)
	}
}

// holdTake holds what Take answers: of so many bytes a head, whatever they are.
func holdTake(t *testing.T, name, s string) {
	t.Helper()
	h, e := head.Take(s)
	if len(s) != whole {
		if e != api.ErrBytes || !isZero(h) {
			t.Errorf("%s: %d bytes: %x, %d", name, len(s), h, e)
		}
		return
	}
	if e != api.OK || head.May(h) != api.OK || plainPut(h) != s {
		t.Errorf("%s: Take %x, %d", name, h, e)
	}
	if back, e := head.Put(h); e != api.OK || back != s {
		t.Errorf("%s: Put of Take %x, %d", name, back, e)
	}
}

// holdSeal holds what Seal answers by a key that may be, of that depth.
func holdSeal(t *testing.T, name string, h api.Head, k api.Evolving) {
	t.Helper()
	want := h
	want.Sig = signedBy(t, k, plainText(h))
	if got, e := head.Seal(h, k); e != api.OK || got != want {
		t.Errorf("%s: Seal %x, %d", name, got, e)
	}
}

// holdSealed holds what Sealed says against the chapter's words, and against what is meant.
func holdSealed(t *testing.T, name string, h api.Head, period uint64, want bool) {
	t.Helper()
	if got := head.Sealed(h, period); got != want || got != plainSealed(h, period) {
		t.Errorf("%s: Sealed at %d, from %d on: %t", name, period, h.Right.Start, got)
	}
}

func TestExamples(t *testing.T) { // P14.1, P14.4
	if s, e := head.Put(some()); len(s) != 2320 || e != api.OK {
		t.Error("Put", len(s), e)
	}
	if e := head.May(api.Head{}); e != api.ErrArg {
		t.Error("May of the zero head", e)
	}
	if h, e := head.Take(strings.Repeat("a", 2319)); e != api.ErrBytes || !isZero(h) {
		t.Errorf("Take of 2319 bytes: %x, %d", h, e)
	}
	if head.Sealed(api.Head{}, 0) {
		t.Error("the zero head is sealed")
	}
}

func hex64(s string) string {
	h := named(s)
	return hex.EncodeToString(h[:])
}

// P14.1 to P14.4: told by another program: of the right's signature, of the head's, of all its bytes the sum; and the id.
func TestPinned(t *testing.T) {
	warm := named("warm")
	cold := named("cold")
	some := func(period int) (h api.Head, k api.Evolving) {
		k = keyAt(t, warm, period)
		h = api.Head{Slot: 1, Number: 1, Prev: named("prev"), Pool: once.Public(cold), Body: named("body"), Size: 300, Many: 2}
		h.Right = head.Grant(cold, publicOf(t, k), 1, 5)
		return h, k
	}
	filledBy := func(b byte, n uint64, period int) (h api.Head, k api.Evolving) {
		f := filled(b) // no key's, as Hot
		h = api.Head{Slot: n, Number: n, Prev: f, Pool: f, Body: f, Size: n, Many: n, Right: head.Grant(f, f, n, n)}
		return h, keyAt(t, f, period)
	}
	check := func(name string, h api.Head, k api.Evolving, want [4]string) {
		t.Helper()
		h = sealed(t, h, k)
		s, e := head.Put(h)
		id, e2 := head.Id(h)
		got := [4]string{hex64(h.Right.Sig), hex64(h.Sig), hex64(s), hex.EncodeToString(id[:])}
		if got != want || e != api.OK || e2 != api.OK {
			t.Errorf("%s: %v, %d, %d", name, got, e, e2)
		}
	}
	const right = "824f8c58ba7ffea2afcc2fab491e3beae8f047bd8485c4be8e29faeec64ad239"
	for period, want := range [8][3]string{
		{"1a37ae1502c161dadebef5387139ef98ef7e39ea73120346508502570f9a7484", "42d6acbb6f757b0f4199ccf801876a84b7dffb560014f3535040b9d24ea8d580", "4feb27732c5013228448c59de0a0a03e41c4ca4c191286d97c5abf1fd8a79a35"},
		{"57f5b4b5aa6e610de451263c6199678c82d780974bb45ebbf4912b58045dd637", "b2611785c010635c0fa240b3c5d10a3821d43e4dd8d5fc6d72b8c4a451b124c1", "87d6fa918e326b11154c6be7cabb42ec3abf872bfcdec996bea6dc4a70dd4360"},
		{"157a730ca47867de1a6b708f2659de831f67905285d9b3f1f2e4c6df6a34d187", "d8bf491cfa104d0d8a6ee745e69f0b1f3dec6bcb83863874ed49c5e1e0fbc08a", "7ee1ebb963dea18057ad995c64a90fb4b61377718909336a19745f75dad94b08"},
		{"7f210f60cda3df6aba0de5c35c8319f4a2e5ce711801bdbd824aa68dd8779676", "e9e1043fa1181d1e6d8784472c2d4d41a6afbb112c190d0325fb021ca2006415", "70e2a9d4fa4866106187476c79fa0bac137fe0c39c28b4205f69d5a0e47f7c26"},
		{"1f778c8130f29c993361aa8a010a15d3928cdf6f6a7271e9411dc66ff3929f6e", "6de34cb1252718920c4955e1ef7e5924721d0fc8a9ebfda66499e520ea59da16", "cf30078992b60fe979eabfeb033269e20313e6a8281c54734796a0fcbc2c8886"},
		{"5b05b5503ba22908752c65f5afa1109a175094d074fc853e1c99b0b0b38a9586", "e01991d10780397098aa6da2a807fadfd73966d89021a8fceafb2df3641abfaa", "103e59255a7a4feefab1abbd45a1cef89f53df2cfae5c66ea03967c19a4fe8d5"},
		{"306a9e341e687d3737a8e673bad1631c49a5f2a611aff7e4ce35ba73ef38d253", "fb2a292687984f8d78baa58f9af89a2982866b566e963cae5bc54f8d9c4e11d8", "2917d224558d6a85504e551667ae7194b6929f54d972735dd0029b462b55744f"},
		{"cae74328bdbda55912c94153c9ab83df8a8c1faae3c0ecca10b828bf3b3bd0fa", "61b2e6e59eddf5dce9be494eeb691eaad4291095692efe389e151822a648d267", "728041ff1dfb2393231c4d0df2cc7bc1315fcd3518fa6cfd2f7d26ef74669285"},
	} {
		h, k := some(period)
		check("period "+strconv.Itoa(period), h, k, [4]string{right, want[0], want[1], want[2]})
	}
	h, k := filledBy(0, 0, 0)
	check("noughts", h, k, [4]string{"dc73f8bbf85ad40365b8552098d76cea999558804237358a33e92d1ac602b0f4", "7ad20e35b12c64fd414baca4e15f18f883d1853ed52a926ed66238e433fffebb", "b2f4aead9d88e184eea7009cec1548d44449bae5dfe35a15bb33c20ac1a2deb4", "9ee8fdc13df8587cb7325beaa70e37f74324d1aba1d0b64f48d9b845f006587d"})
	h, k = filledBy(255, greatest, last)
	check("most", h, k, [4]string{"29a06303fa609cdfbda8b2387b21ae348f8e14f29ff7763d28dd66a3b9a6eae7", "41b9ba3bcdcef34dea1a6e6fa5595d3e622aee29fa4c6fc10bb880e316a02115", "a3a6af8f903bad1a0949eb27ba405c343e16ab297917d15060c95d934128679a", "e37de1d5e74715ee60c0bf021b5f62237b3fee9334c713fb0563a1da022666f2"})
}

// P14.1: the bytes ahead of the signatures, written out.
func TestBytesWrittenOut(t *testing.T) {
	h := api.Head{
		Slot: 0x0102030405060708, Number: 258, Prev: filled(0xa1), Pool: filled(0xa2), Body: filled(0xa3), Size: 1 << 40, Many: 16,
		Right: api.Right{Hot: filled(0xa4), Counter: 0xfffefdfcfbfaf9f8, Start: 255, Sig: strings.Repeat("r", rightSig)},
		Sig:   strings.Repeat("s", headSig),
	}
	want := "0102030405060708" + "0000000000000102" +
		strings.Repeat("a1", 32) + strings.Repeat("a2", 32) + strings.Repeat("a3", 32) +
		"0000010000000000" + "0000000000000010" +
		strings.Repeat("a4", 32) + "fffefdfcfbfaf9f8" + "00000000000000ff"
	s, e := head.Put(h)
	if e != api.OK || len(s) != whole || hex.EncodeToString([]byte(s[:rightSigAt])) != want {
		t.Fatalf("%x, %d", s, e)
	}
	if s[rightSigAt:] != strings.Repeat("r", 1024)+strings.Repeat("s", 1120) {
		t.Errorf("%q", s[rightSigAt:])
	}
	if back, e := head.Take(s); e != api.OK || back != h {
		t.Errorf("%x, %d", back, e)
	}
}

// P14.1: a field that is another one changes the bytes where it stands, and no others.
func TestPlaces(t *testing.T) {
	for base, of := range bases() {
		was, e := head.Put(of)
		if e != api.OK {
			t.Fatal(e)
		}
		check := func(name string, h api.Head, at int, stands string) {
			t.Helper()
			want := was[:at] + stands + was[at+len(stands):]
			if s, e := head.Put(h); e != api.OK || s != want {
				t.Errorf("%s, %s: %x, %d", base, name, s, e)
			}
			if back, e := head.Take(want); e != api.OK || back != h {
				t.Errorf("%s, %s: Take %x, %d", base, name, back, e)
			}
		}
		for _, f := range numbers() {
			h := of
			*f.of(&h) = 0x8001020304050607
			check(f.name, h, f.at, "\x80\x01\x02\x03\x04\x05\x06\x07")
		}
		for _, f := range hashes() {
			h := of
			*f.of(&h) = named(f.name)
			other := named(f.name)
			check(f.name, h, f.at, string(other[:]))
		}
		h := of
		h.Right.Sig = sig(rightSig, "another")
		check("Right.Sig", h, rightSigAt, sig(1024, "another"))
		h = of
		h.Sig = sig(headSig, "another")
		check("Sig", h, sigAt, sig(1120, "another"))
	}
}

// sizes are lengths that a signature is tried with.
func sizes() []int { return []int{0, 1, 32, 1023, 1024, 1025, 1119, 1120, 1121, 2048, 2144, 2240} }

// P14.1, P14.2: signatures of all lengths, one or both of them wrong; also where both have together as many bytes as they must.
func TestSignatureSizes(t *testing.T) {
	right := 0
	for base, of := range bases() {
		for _, n := range sizes() {
			for _, m := range append(sizes(), rightSig+headSig-n) {
				if m < 0 {
					continue
				}
				h := of
				h.Right.Sig, h.Sig = sig(n, "n"), sig(m, "m")
				hold(t, base+" "+strconv.Itoa(n)+" "+strconv.Itoa(m), h)
				if head.May(h) == api.OK {
					right++
					continue
				}
				if n+m == rightSig+headSig {
					holdTake(t, base+" other cuts", plainPut(h))
				}
			}
		}
	}
	if right != 3*2 {
		t.Error(right, "may be")
	}
}

// P14.1: lengths are of bytes, not of runes.
func TestSignaturesOfRunes(t *testing.T) {
	h := some()
	h.Right.Sig, h.Sig = strings.Repeat("\u00e9", 512), strings.Repeat("\u00e9", 560)
	hold(t, "as many bytes", h)
	if e := head.May(h); e != api.OK {
		t.Error(e)
	}
	h.Right.Sig = strings.Repeat("\u00e9", 1024)
	hold(t, "as many runes, the right", h)
	h = some()
	h.Sig = strings.Repeat("\u00e9", 1120)
	hold(t, "as many runes", h)
}

// changed are heads of which one field is another one than that of a base: numbers and hashes of all ends, and a byte of Right.Sig.
func changed(of api.Head) map[string]api.Head {
	l := map[string]api.Head{}
	for _, f := range numbers() {
		for _, n := range ends() {
			h := of
			*f.of(&h) = n
			l[f.name+" "+strconv.FormatUint(n, 10)] = h
		}
	}
	for _, f := range hashes() {
		for name, other := range map[string]api.Hash{"until 1": until(1), "until 255": until(255), "from 1": from(1), "from 255": from(255), "noughts": {}, "filled": filled(255)} {
			h := of
			*f.of(&h) = other
			l[f.name+" "+name] = h
		}
		for _, at := range []int{0, 31} {
			h := of
			f.of(&h)[at] ^= 1
			l[f.name+" with the byte "+strconv.Itoa(at)] = h
		}
	}
	for _, at := range []int{0, 1, 511, 1022, 1023} {
		h := of
		b := []byte(h.Right.Sig)
		b[at] ^= 16
		h.Right.Sig = string(b)
		l["Right.Sig with the byte "+strconv.Itoa(at)] = h
	}
	for name, h := range l {
		if h == of {
			delete(l, name)
		}
	}
	return l
}

// P14.1, P14.2: no two heads have the same bytes, or the same id; each is taken as it was.
func TestFields(t *testing.T) {
	for base, of := range bases() {
		hold(t, base, of)
		of.Sig = sig(headSig, "of all")
		heads := map[api.Head]bool{}
		puts, ids := map[string]bool{}, map[api.Hash]bool{}
		for name, h := range changed(of) {
			hold(t, base+" "+name, h)
			s, _ := head.Put(h)
			id, _ := head.Id(h)
			heads[h], puts[s], ids[id] = true, true, true
		}
		if len(heads) < 70 || len(puts) != len(heads) || len(ids) != len(heads) {
			t.Error(base, len(heads), len(puts), len(ids))
		}
	}
}

// P14.1: two numbers that change their places, and two hashes, are another head.
func TestExchangedFields(t *testing.T) {
	for i, f := range numbers() {
		for _, g := range numbers()[:i] {
			h := most()
			*f.of(&h), *g.of(&h) = 1, 2
			other := h
			*f.of(&other), *g.of(&other) = 2, 1
			hold(t, f.name+" "+g.name, h)
			hold(t, f.name+" "+g.name, other)
		}
	}
	for i, f := range hashes() {
		for _, g := range hashes()[:i] {
			h := bare()
			*f.of(&h), *g.of(&h) = from(1), until(1)
			other := h
			*f.of(&other), *g.of(&other) = until(1), from(1)
			hold(t, f.name+" "+g.name, h)
			hold(t, f.name+" "+g.name, other)
		}
	}
}

// P14.1, P14.5: so many bytes are a head, whatever they are; other ones are none.
func TestTake(t *testing.T) {
	r := rand.New(rand.NewSource(14))
	some := make([]byte, 2*whole+1)
	r.Read(some)
	kinds := map[string]string{
		"0": strings.Repeat("\x00", 2*whole+1), "255": strings.Repeat("\xff", 2*whole+1), "a": strings.Repeat("a", 2*whole+1),
		"runes": strings.Repeat("\u20ac", whole), "any": string(some), "a head's": plainPut(most()) + plainPut(bare()) + "a",
	}
	for kind, s := range kinds {
		for _, n := range []int{0, 1, 8, 176, 1023, 1024, 1120, 1199, 1200, 1201, 2319, 2320, 2321, 2328, 2352, 4639, 4640, 4641} {
			holdTake(t, kind, s[:n])
		}
	}
	for n := range whole + 100 {
		holdTake(t, "any", string(some[:n]))
	}
	holdTake(t, "a great many", strings.Repeat("a", 1<<24))
}

// P14.2: its bytes' sum under head: each byte of the signature makes another id, and each other byte.
func TestId(t *testing.T) {
	s := plainPut(some())
	ids := map[api.Hash]bool{plainOf("head", s): true}
	for at := range whole {
		b := []byte(s)
		b[at] ^= 1 << (at % 8)
		h, e := head.Take(string(b))
		if e != api.OK {
			t.Fatal(at, e)
		}
		id, e := head.Id(h)
		if e != api.OK || id != plainOf("head", string(b)) {
			t.Errorf("%d: %x, %d", at, id, e)
		}
		ids[id] = true
	}
	if len(ids) != whole+1 {
		t.Error(len(ids), "ids")
	}
}

// P14.3: the right that was asked for, and what once signs of its text.
func TestGrant(t *testing.T) {
	sigs := map[string]bool{}
	many := 0
	for _, cold := range []api.Hash{{}, until(1), from(1), named("cold"), filled(255)} {
		public := once.Public(cold)
		for _, hot := range []api.Hash{{}, until(1), from(1), named("hot"), filled(255)} {
			for _, n := range [][2]uint64{{0, 0}, {0, 1}, {1, 0}, {255, 256}, {256, 255}, {1 << 32, 1 << 63}, {1 << 63, 1 << 32}, {greatest, 0}, {0, greatest}, {greatest, greatest}} {
				r := head.Grant(cold, hot, n[0], n[1])
				want := api.Right{Hot: hot, Counter: n[0], Start: n[1]}
				want.Sig = once.Sign(cold, plainRight(want))
				if r != want || len(r.Sig) != rightSig {
					t.Errorf("%x %x %v: %x", cold, hot, n, r)
				}
				if !head.Granted(public, r) {
					t.Errorf("%x %x %v: not granted", cold, hot, n)
				}
				sigs[r.Sig] = true
				many++
			}
		}
	}
	if len(sigs) != many {
		t.Error(len(sigs), "signatures of", many, "rights")
	}
}

// P14.3: a right of which one thing is another one is not granted, nor is one of another pool.
func TestGrantedOtherwise(t *testing.T) {
	cold := named("cold")
	pool := once.Public(cold)
	was := head.Grant(cold, named("hot"), 7, 70)
	if !head.Granted(pool, was) {
		t.Fatal("not granted")
	}
	no := func(name string, pool api.Hash, r api.Right) {
		t.Helper()
		if head.Granted(pool, r) || once.Check(pool, plainRight(r), r.Sig) {
			t.Error(name, "is granted")
		}
	}
	for at := range 256 {
		r := was
		r.Hot[at/8] ^= 1 << (at % 8)
		no("hot "+strconv.Itoa(at), pool, r)
		other := pool
		other[at/8] ^= 1 << (at % 8)
		no("pool "+strconv.Itoa(at), other, was)
	}
	for bit := range 64 {
		r := was
		r.Counter ^= 1 << bit
		no("counter "+strconv.Itoa(bit), pool, r)
		r = was
		r.Start ^= 1 << bit
		no("start "+strconv.Itoa(bit), pool, r)
	}
	for _, n := range ends() {
		r := was
		r.Counter = n
		no("counter", pool, r)
		r = was
		r.Start = n
		no("start", pool, r)
	}
	r := was
	r.Counter, r.Start = was.Start, was.Counter
	no("exchanged", pool, r)
	for at := range rightSig {
		for _, by := range []byte{1, 128, 255} {
			b := []byte(was.Sig)
			b[at] ^= by
			r := was
			r.Sig = string(b)
			no("sig "+strconv.Itoa(at), pool, r)
		}
	}
	for _, other := range []api.Hash{{}, cold, named("hot"), once.Public(named("another")), once.Public(api.Hash{})} {
		no("another pool", other, was)
	}
	no("another seed's", pool, head.Grant(named("another"), named("hot"), 7, 70))
	no("another seed's, by a byte", pool, head.Grant(filled(255), named("hot"), 7, 70))
	no("the zero right", pool, api.Right{})
}

// P14.3: signatures of other lengths, by any pool: also by the one that a signature tells of which nothing is told.
func TestGrantedOfOtherLengths(t *testing.T) {
	cold := named("cold")
	was := head.Grant(cold, named("hot"), 7, 70)
	sigs := []string{"", was.Sig[:1], was.Sig[:1023], was.Sig[1:], was.Sig + "\x00", was.Sig + was.Sig[:1], "\x00" + was.Sig, was.Sig + was.Sig, was.Sig + sig(96, "sides"), strings.Repeat("a", 1<<20)}
	for _, s := range sigs {
		for _, pool := range []api.Hash{once.Public(cold), {}, named("pool")} {
			r := was
			r.Sig = s
			if head.Granted(pool, r) {
				t.Error(len(s), "bytes are granted")
			}
		}
	}
}

// otherwise are heads of which one byte is another one than in h, as Take tells them.
func otherwise(t *testing.T, h api.Head, from, to int, by func(at int) byte) map[int]api.Head {
	t.Helper()
	s := plainPut(h)
	l := map[int]api.Head{}
	for at := from; at < to; at++ {
		b := []byte(s)
		b[at] ^= by(at)
		other, e := head.Take(string(b))
		if e != api.OK {
			t.Fatal(at, e)
		}
		l[at] = other
	}
	return l
}

// P14.4: the head with evolve.Sign of its text, in each period; whatever the fields are.
func TestSeal(t *testing.T) {
	for period := range 8 {
		k := keyAt(t, named("warm"), period)
		for base, of := range bases() {
			holdSeal(t, base, of, k)
			if period > 0 && period < last {
				continue
			}
			for name, h := range changed(of) {
				holdSeal(t, base+" "+name, h, k)
			}
		}
	}
}

// P14.4: the key need be no seed's, nor Hot the key's.
func TestSealByStrangeKeys(t *testing.T) {
	for period := range 8 {
		r := rand.New(rand.NewSource(int64(period)))
		k := api.Evolving{Depth: depth, Period: period, Right: make([]api.Hash, depth), Side: make([]api.Hash, depth)}
		r.Read(k.Leaf[:])
		for row := range depth {
			r.Read(k.Side[row][:])
			if period>>(depth-1-row)&1 == 0 {
				r.Read(k.Right[row][:])
			}
		}
		holdSeal(t, "strange", some(), k)
		h := sealed(t, some(), k)
		for p := range uint64(8) {
			holdSealed(t, "another Hot", h, h.Right.Start+p, false)
		}
		h.Right.Hot = publicOf(t, k)
		h = sealed(t, h, k)
		for p := range uint64(8) {
			holdSealed(t, "its Hot", h, h.Right.Start+p, p == uint64(period))
		}
	}
}

// P14.4: each field but Sig makes another signed text, byte by byte; signatures tell the first two bytes of it, so these are held against the chapter's words.
func TestSignedText(t *testing.T) {
	k := keyAt(t, named("warm"), 3)
	h := sealed(t, granted(t, k, 70), k)
	for at, other := range otherwise(t, h, 0, sigAt, func(at int) byte { return 1 << (at % 8) }) {
		if plainText(other) == plainText(h) {
			t.Error(at, "makes no other text")
		}
		holdSeal(t, strconv.Itoa(at), other, k)
		if got := sealed(t, other, k); got.Sig == h.Sig {
			t.Error(at, "makes no other signature")
		}
	}
	for name, other := range changed(h) {
		if got := sealed(t, other, k); got.Sig == h.Sig {
			t.Error(name, "makes no other signature")
		}
	}
}

// P14.4: what Sig was makes no difference to Seal.
func TestSealOfSealed(t *testing.T) {
	k := keyAt(t, named("warm"), 2)
	want := sealed(t, granted(t, k, 70), k)
	for _, s := range []string{"", "a", sig(1119, "s"), sig(1120, "s"), sig(1121, "s"), want.Sig, strings.Repeat("s", 1<<20)} {
		h := want
		h.Sig = s
		if got, e := head.Seal(h, k); e != api.OK || got != want {
			t.Errorf("%d bytes: %x, %d", len(s), got, e)
		}
	}
}

// P14.4: a Right.Sig of another length.
func TestSealOfOtherRights(t *testing.T) {
	k := keyAt(t, named("warm"), 2)
	for base, of := range bases() {
		for _, n := range append(sizes(), 1<<20) {
			h := of
			h.Right.Sig = sig(n, "n")
			if n == rightSig {
				holdSeal(t, base, h, k)
				continue
			}
			if got, e := head.Seal(h, k); e != api.ErrArg || !isZero(got) {
				t.Errorf("%s %d: %x, %d", base, n, got, e)
			}
			if got, e := head.Seal(h, api.Evolving{}); e != api.ErrArg || !isZero(got) {
				t.Errorf("%s %d, no key: %x, %d", base, n, got, e)
			}
		}
	}
}

// P14.4: keys of all depths, of each period; of the depth 3 alone they seal.
func TestSealByDepths(t *testing.T) {
	for d := range api.MaxDepth + 1 {
		k, e := evolve.Make(named("warm"), d)
		for p := 0; e == api.OK; p++ {
			h := some()
			h.Right.Hot = publicOf(t, k)
			if d == depth {
				holdSeal(t, strconv.Itoa(d), h, k)
			} else if got, e := head.Seal(h, k); e != api.ErrArg || !isZero(got) {
				t.Errorf("depth %d, period %d: %x, %d", d, p, got, e)
			}
			k, e = evolve.Next(k)
		}
	}
}

// P14.4: keys that may not be.
func TestSealByNoKeys(t *testing.T) {
	no := func(name string, k api.Evolving) {
		t.Helper()
		if evolve.May(k) == api.OK && k.Depth == depth {
			t.Error(name, "may be")
		}
		if got, e := head.Seal(some(), k); e != api.ErrArg || !isZero(got) {
			t.Errorf("%s: %x, %d", name, got, e)
		}
	}
	no("the zero key", api.Evolving{})
	for period := range 8 {
		of := keyAt(t, named("warm"), period)
		for _, d := range []int{-1, 0, 1, 2, 4, 5, 64, math.MinInt, math.MaxInt} {
			k := copied(of)
			k.Depth = d
			no("depth", k)
		}
		for _, p := range []int{-1, -8, 8, 9, period + 8, period - 8, period + 1<<32, math.MinInt, math.MaxInt} {
			k := copied(of)
			k.Period = p
			no("period", k)
		}
		for _, n := range []int{0, 1, 2, 4, 5, 1 << 16} {
			k := copied(of)
			k.Right = append(k.Right, make([]api.Hash, n)...)[:n]
			no("rights", k)
			k = copied(of)
			k.Side = append(k.Side, make([]api.Hash, n)...)[:n]
			no("sides", k)
			k.Right = append(k.Right, make([]api.Hash, n)...)[:n]
			no("both", k)
		}
		k := copied(of)
		k.Right = nil
		no("nil rights", k)
		k = copied(of)
		k.Side = nil
		no("nil sides", k)
		for row := range depth {
			if period>>(depth-1-row)&1 == 1 {
				k := copied(of)
				k.Right[row][31] = 1
				no("a right where the way goes right", k)
			}
		}
	}
}

// starts are where rights begin; of the last ones not all periods are numbers.
func starts() []uint64 {
	return []uint64{0, 1, 5, 7, 8, 255, 1<<32 - 4, 1 << 32, 1<<63 - 4, 1 << 63, greatest - 8, 1<<64 - 8, greatest - 6, greatest - 1, greatest}
}

// P14.4, P14.6: a head is sealed at Start and the key's period together, where that is a number, and at no other one: not ahead of Start, not behind the eighth.
func TestSealed(t *testing.T) {
	for period := range uint64(8) {
		k := keyAt(t, named("warm"), int(period))
		for _, start := range starts() {
			h := sealed(t, granted(t, k, start), k)
			at := []uint64{0, 1, period, 7, 8, 9, 1 << 32, 1 << 63, greatest, start - 1, start - 7, start - 8, start - 9, start + period + 1<<32, start + period + 1<<63}
			for p := range uint64(10) {
				// These run over, as those above do: such a one is a period ahead of Start.
				at = append(at, start+p)
			}
			is := 0
			for _, p := range at {
				want := start <= greatest-period && p == start+period
				holdSealed(t, "period "+strconv.FormatUint(period, 10), h, p, want)
				if want {
					is++
				}
			}
			if (is > 0) != (start <= greatest-period) {
				t.Error(start, period, is)
			}
		}
	}
}

// P14.4: the edges by hand: Start less 1, Start, the seven behind it, the eighth.
func TestSealedByHand(t *testing.T) {
	warm := named("warm")
	first, final := keyAt(t, warm, 0), keyAt(t, warm, last)
	for _, c := range []struct {
		k             api.Evolving
		start, period uint64
		want          bool
	}{
		{first, 100, 99, false}, {first, 100, 100, true}, {first, 100, 101, false}, {first, 100, 107, false}, {first, 100, 108, false},
		{final, 100, 99, false}, {final, 100, 100, false}, {final, 100, 106, false}, {final, 100, 107, true}, {final, 100, 108, false}, {final, 100, 115, false},
		{first, 0, 0, true}, {first, 0, 8, false}, {first, 0, greatest, false}, {final, 0, 7, true}, {final, 0, 8, false}, {final, 0, greatest, false},
		{first, 1<<64 - 8, 1<<64 - 9, false}, {first, 1<<64 - 8, 1<<64 - 8, true}, {final, 1<<64 - 8, greatest, true}, {final, 1<<64 - 8, 0, false}, {first, 1<<64 - 8, 0, false},
		{first, greatest, greatest - 1, false}, {first, greatest, greatest, true}, {first, greatest, 0, false}, {final, greatest, greatest, false}, {final, greatest, 6, false}, {final, greatest, 7, false},
	} {
		h := sealed(t, granted(t, c.k, c.start), c.k)
		if head.Sealed(h, c.period) != c.want {
			t.Error(c.k.Period, c.start, c.period, !c.want)
		}
	}
}

// P14.4: a signature of another period, or by another key, or of another head.
func TestSealedOtherwise(t *testing.T) {
	warm := named("warm")
	for period := range 8 {
		k := keyAt(t, warm, period)
		h := sealed(t, granted(t, k, 70), k)
		at := 70 + uint64(period)
		holdSealed(t, "as it is", h, at, true)
		for p := range 8 {
			other := h
			other.Sig = sealed(t, h, keyAt(t, warm, p)).Sig
			holdSealed(t, "another period's", other, at, p == period)
		}
		other := h
		other.Sig = sealed(t, h, keyAt(t, named("another"), period)).Sig
		holdSealed(t, "another key's", other, at, false)
		other.Sig = sealed(t, bare(), k).Sig
		holdSealed(t, "another head's", other, at, false)
		for name, hot := range map[string]api.Hash{"noughts": {}, "another": publicOf(t, keyAt(t, named("another"), 0)), "pool": h.Pool, "leaf": once.Public(k.Leaf), "seed": warm} {
			other := h
			other.Right.Hot = hot
			holdSealed(t, "Hot "+name, other, at, false)
			// And where that is what was signed.
			other = sealed(t, other, k)
			holdSealed(t, "Hot "+name+", signed", other, at, false)
		}
	}
}

// P14.4: each field of the head turned once, byte by byte, and its signature's.
func TestSealedOfTurned(t *testing.T) {
	k := keyAt(t, named("warm"), 5)
	h := sealed(t, granted(t, k, 70), k)
	holdSealed(t, "as it is", h, 75, true)
	for at, other := range otherwise(t, h, 0, whole, func(at int) byte { return 128 >> (at % 8) }) {
		holdSealed(t, strconv.Itoa(at), other, 75, false)
	}
	for name, other := range changed(h) {
		holdSealed(t, name, other, 75, false)
		// At the period that the other Start would make of it, too.
		holdSealed(t, name, other, other.Right.Start+5, false)
	}
}

// P14.4: a head that may not be is not sealed, though what is signed of it be checked.
func TestSealedMayBe(t *testing.T) {
	k := keyAt(t, named("warm"), 1)
	for _, n := range sizes() {
		h := granted(t, k, 70)
		h.Right.Sig = sig(n, "n")
		h.Sig = signedBy(t, k, plainText(h))
		if !evolve.Check(h.Right.Hot, depth, 1, plainText(h), h.Sig) {
			t.Fatal(n)
		}
		holdSealed(t, "right "+strconv.Itoa(n), h, 71, n == rightSig)
	}
	was := sealed(t, granted(t, k, 70), k)
	for _, s := range []string{"", was.Sig[:1024], was.Sig[:1119], was.Sig + "\x00", was.Sig[1:] + was.Sig[:2], was.Sig + was.Sig, strings.Repeat("s", 1<<20)} {
		h := was
		h.Sig = s
		holdSealed(t, "sig "+strconv.Itoa(len(s)), h, 71, false)
	}
	holdSealed(t, "noughts", bare(), 0, false)
	holdSealed(t, "most", most(), greatest, false)
}

// P14.4: by the depth 3, though a signature of another depth be checked by Hot.
func TestSealedByDepths(t *testing.T) {
	for d := range api.MaxDepth + 1 {
		k, e := evolve.Make(named("warm"), d)
		if e != api.OK {
			t.Fatal(e)
		}
		h := granted(t, k, 70)
		h.Sig = signedBy(t, k, plainText(h))
		if !evolve.Check(h.Right.Hot, d, 0, plainText(h), h.Sig) {
			t.Fatal(d)
		}
		holdSealed(t, "depth "+strconv.Itoa(d), h, 70, d == depth)
	}
}

// P14.4: a signature that comes to Hot by the ways to two periods is good for both.
func TestSealedAtTwoPeriods(t *testing.T) {
	k := keyAt(t, named("warm"), 0)
	k.Side[depth-1] = once.Public(k.Leaf)
	h := sealed(t, granted(t, k, 70), k)
	for p := range uint64(8) {
		holdSealed(t, "both sides alike", h, 70+p, p < 2)
	}
}

func someNumber(r *rand.Rand) uint64 {
	if r.Intn(3) == 0 {
		return ends()[r.Intn(len(ends()))]
	}
	return r.Uint64() >> r.Intn(64)
}

func someHash(r *rand.Rand) (h api.Hash) {
	switch r.Intn(4) {
	case 0:
		h[31*r.Intn(2)] = byte(r.Intn(256))
	default:
		r.Read(h[:])
	}
	return h
}

func someText(r *rand.Rand, size int) string {
	b := make([]byte, size)
	r.Read(b)
	return string(b)
}

func someHead(r *rand.Rand) api.Head {
	return api.Head{
		Slot: someNumber(r), Number: someNumber(r), Prev: someHash(r), Pool: someHash(r), Body: someHash(r), Size: someNumber(r), Many: someNumber(r),
		Right: api.Right{Hot: someHash(r), Counter: someNumber(r), Start: someNumber(r), Sig: someText(r, rightSig)},
		Sig:   someText(r, headSig),
	}
}

// P14.5: there and back, of many heads and many bytes.
func TestThereAndBack(t *testing.T) {
	r := rand.New(rand.NewSource(5))
	for i := range 2000 {
		h := someHead(r)
		hold(t, strconv.Itoa(i), h)
		holdTake(t, strconv.Itoa(i), someText(r, whole))
		holdTake(t, strconv.Itoa(i), someText(r, r.Intn(3000)))
		switch r.Intn(2) {
		case 0:
			h.Sig = someText(r, r.Intn(2*headSig))
		case 1:
			h.Right.Sig = someText(r, r.Intn(2*rightSig))
		}
		hold(t, strconv.Itoa(i)+" of some lengths", h)
	}
}

// P14.6: what Grant signs by a seed is granted by its public key, and what Seal signs is sealed at Right.Start and the key's period together, if that is a number.
func TestMadeAndChecked(t *testing.T) {
	r := rand.New(rand.NewSource(6))
	for range 40 {
		cold, warm := someHash(r), someHash(r)
		period := r.Intn(8)
		k := keyAt(t, warm, period)
		h := someHead(r)
		h.Pool = once.Public(cold)
		h.Right = head.Grant(cold, publicOf(t, k), someNumber(r), someNumber(r))
		if !head.Granted(h.Pool, h.Right) {
			t.Errorf("not granted: %x", h.Right)
		}
		h = sealed(t, h, k)
		s, e := head.Put(h)
		back, e2 := head.Take(s)
		if e != api.OK || e2 != api.OK || back != h {
			t.Error(e, e2)
		}
		at := back.Right.Start + uint64(period)
		holdSealed(t, "made", back, at, at >= back.Right.Start)
		if !head.Granted(back.Pool, back.Right) {
			t.Error("not granted behind Take")
		}
	}
}

// R3: the key that is handed in stays as it is, and what stands in the room behind its lists, too.
func TestHandedInStays(t *testing.T) {
	for period := range 8 {
		of := keyAt(t, named("warm"), period)
		k := copied(of)
		k.Right, k.Side = append(k.Right, filled(9)), append(k.Side, filled(9))
		room, room2 := k.Right, k.Side
		k.Right, k.Side = k.Right[:depth], k.Side[:depth]
		h := some()
		got := sealed(t, h, k)
		if h != some() || got == h {
			t.Error("the head was changed")
		}
		if k.Depth != of.Depth || k.Period != of.Period || k.Leaf != of.Leaf || !slices.Equal(k.Right, of.Right) || !slices.Equal(k.Side, of.Side) {
			t.Error("the key was changed")
		}
		if room[depth] != filled(9) || room2[depth] != filled(9) {
			t.Error("the room behind its lists was written over")
		}
		// R5: nothing of the key is kept: what was sealed stays so, whatever becomes of its lists.
		clear(k.Right)
		clear(k.Side)
		if got != sealed(t, h, of) {
			t.Error("it hangs on the key's lists")
		}
	}
}

// R1: of whatever is handed in, each call ends.
func TestWhatever(t *testing.T) {
	long := strings.Repeat("\xff", 1<<24)
	for _, h := range []api.Head{{}, {Sig: long}, {Right: api.Right{Sig: long}}, {Right: api.Right{Sig: long, Start: greatest}, Sig: long}, {Slot: greatest, Right: api.Right{Start: greatest}}} {
		hold(t, "whatever", h)
		for _, p := range ends() {
			if head.Sealed(h, p) {
				t.Error("sealed", p)
			}
		}
		if head.Granted(api.Hash{}, h.Right) {
			t.Error("granted")
		}
		for _, k := range []api.Evolving{{}, {Depth: -1, Period: -1}, {Depth: depth}, {Depth: depth, Right: make([]api.Hash, 1<<16), Side: make([]api.Hash, 1<<16)}} {
			if got, e := head.Seal(h, k); e != api.ErrArg || !isZero(got) {
				t.Errorf("%x, %d", got, e)
			}
		}
	}
	if r := head.Grant(filled(255), filled(255), greatest, greatest); len(r.Sig) != rightSig {
		t.Errorf("%x", r)
	}
}

// R5: nothing is kept from call to call.
func TestAtOneTime(t *testing.T) {
	k := keyAt(t, named("warm"), 4)
	h := granted(t, k, 70)
	want := sealed(t, h, k)
	id, _ := head.Id(want)
	var all sync.WaitGroup
	for i := range 8 {
		all.Go(func() {
			for range 20 {
				got, e := head.Seal(h, k)
				s, e2 := head.Put(got)
				back, e3 := head.Take(s)
				now, e4 := head.Id(back)
				if e != api.OK || e2 != api.OK || e3 != api.OK || e4 != api.OK || back != want || now != id {
					t.Error(i, e, e2, e3, e4)
				}
				if !head.Sealed(back, 74) || head.Sealed(back, 73) || !head.Granted(back.Pool, head.Grant(named("cold"), back.Right.Hot, 2, 70)) {
					t.Error(i, "not as it was")
				}
			}
		})
	}
	all.Wait()
}
