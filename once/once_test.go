package once_test

import (
	"bytes"
	"crypto/sha256"
	"encoding/hex"
	"math/bits"
	"math/rand"
	"strings"
	"sync"
	"testing"

	"mintage/api"
	"mintage/once"
	"mintage/sha"
)

const (
	places = 16   // places of a message's bits
	half   = 32   // bytes of half a piece
	piece  = 64   // bytes of a piece
	whole  = 1024 // bytes of a signature
)

// named is the sum of a name.
func named(s string) api.Hash { return sha256.Sum256([]byte(s)) }

// filled is a hash of one byte, 32 times.
func filled(b byte) (h api.Hash) {
	for i := range h {
		h[i] = b
	}
	return h
}

// begins is a message that begins with these two bytes, highest first; what stands behind hangs on salt.
func begins(two int, salt string) api.Hash {
	h := named(salt)
	h[0], h[1] = byte(two>>8), byte(two)
	return h
}

// turned is a hash with one bit turned, of 256 from the highest of the first byte on.
func turned(h api.Hash, at int) api.Hash {
	h[at/8] ^= 128 >> (at % 8)
	return h
}

func seeds() []api.Hash {
	return []api.Hash{{}, filled(0xff), filled(0x80), {31: 1}, {0: 1}, named("a"), named("b"), named("seed")}
}

// edges are messages whose first two bytes are those that the chapter's order of bits makes hard.
func edges() []api.Hash {
	l := []api.Hash{{}, filled(0xff), named("message"), named("abc")}
	for _, two := range []int{0, 0xffff, 0x8000, 0x0001, 0x7fff, 0xfffe, 0x0100, 0x0080, 0x00ff, 0xff00, 0x5555, 0xaaaa, 0x0ff0, 0x8001, 0x0180} {
		l = append(l, begins(two, "edge"))
	}
	return l
}

// sum is the sum of parts under a tag by the words of chapters 1 and 3; no part has more than 16383 bytes.
func sum(tag string, parts ...[]byte) []byte {
	b := append([]byte{byte(len(tag))}, tag...)
	for _, p := range parts {
		if len(p) > 127 {
			b = append(b, byte(len(p)%128+128), byte(len(p)/128))
		} else {
			b = append(b, byte(len(p)))
		}
		b = append(b, p...)
	}
	h := sha256.Sum256(b)
	return h[:]
}

func markOf(secret []byte) []byte { return sum("mark", secret) }

// key is all that a seed has, by the places and bits, told by the chapter's words alone.
type key struct{ secret, mark [2 * places][]byte }

func keyOf(seed api.Hash) (k key) {
	for at := range k.secret {
		k.secret[at] = sum("secret", seed[:], []byte{byte(at)})
		k.mark[at] = markOf(k.secret[at])
	}
	return k
}

func (k key) public() api.Hash { return api.Hash(sum("once", bytes.Join(k.mark[:], nil))) }

func (k key) sign(message api.Hash) string {
	var b []byte
	for i, c := range digits(message) {
		own, other := 2*i, 2*i+1
		if c == '1' {
			own, other = other, own
		}
		b = append(append(b, k.secret[own]...), k.mark[other]...)
	}
	return string(b)
}

// digits are the 16 binary ones of a message's first two bytes as one number.
func digits(message api.Hash) string {
	n := int(message[0])*256 + int(message[1])
	var b []byte
	for p := 1 << 15; p > 0; p /= 2 {
		b = append(b, byte('0'+n/p%2))
	}
	return string(b)
}

// told is what 1024 bytes tell of a message.
func told(message api.Hash, sig string) api.Hash {
	var marks []byte
	for i, c := range digits(message) {
		first, second := []byte(sig[piece*i:piece*i+half]), []byte(sig[piece*i+half:piece*i+piece])
		if c == '0' {
			marks = append(append(marks, markOf(first)...), second...)
		} else {
			marks = append(append(marks, second...), markOf(first)...)
		}
	}
	return api.Hash(sum("once", marks))
}

// pieces are a signature's.
func pieces(t *testing.T, sig string) (l [places]string) {
	t.Helper()
	if len(sig) != whole {
		t.Fatalf("a signature of %d bytes", len(sig))
	}
	for i := range l {
		l[i] = sig[piece*i : piece*i+piece]
	}
	return l
}

func checkTells(t *testing.T, name string, message api.Hash, sig string) {
	t.Helper()
	want := told(message, sig)
	if got, e := once.Tells(message, sig); got != want || e != api.OK {
		t.Errorf("%s: Tells of % x.. = %x, %d, want %x", name, message[:2], got, e, want)
	}
	if !once.Check(want, message, sig) {
		t.Errorf("%s: Check of % x.. by the key that is told: false", name, message[:2])
	}
}

func checkNot(t *testing.T, name string, public, message api.Hash, sig string) {
	t.Helper()
	if once.Check(public, message, sig) {
		t.Errorf("%s: Check of % x.., %d bytes: true", name, message[:2], len(sig))
	}
}

func TestExamples(t *testing.T) { // P5.1 to P5.3
	seed, message := named("seed"), named("message")
	if size := len(once.Sign(seed, message)); size != 1024 {
		t.Errorf("Sign has %d bytes", size)
	}
	if public, e := once.Tells(message, ""); public != (api.Hash{}) || e != api.ErrBytes {
		t.Errorf("Tells of no bytes = %x, %d", public, e)
	}
	if once.Check(once.Public(seed), message, "") {
		t.Error("Check of no bytes: true")
	}
	if !once.Check(once.Public(seed), message, once.Sign(seed, message)) {
		t.Error("Check of what was signed: false")
	}
}

func TestPinned(t *testing.T) { // P5.1: told by another program; of the signatures their sums
	for _, c := range []struct {
		seed   api.Hash
		public string
		signed map[api.Hash]string
	}{
		{api.Hash{}, "a915d13025ed3649d7a23d9eb88309b889856ee581def3f91a916e75997beccb", map[api.Hash]string{
			{}:               "bd9e6d268460c2e20b691deb06fca7e46c9d9a595805d846f74d7853e66e8852",
			filled(0xff):     "32c01ef4cd4bf0bfbba54055cd13db852d9f77c31516164d8ea3e064dbcfb292",
			named("message"): "b538311209bd37af47ad4ff504f334052735aec8bab134849b7c4b9a3b5d15a7",
			named("abc"):     "a5a5960125875be23ecf5a4eb55da72dfdf09f451e31b3456d23f22f4302b62d",
		}},
		{filled(0xff), "fa37c7fc174d5e725423ba019d577283544a4ebe92253d9c69aa7dc8f75dc327", map[api.Hash]string{
			{}:               "de66d2c2198ba1121666b9f0c8f4488d51bd0f6fd4fb8e5e881e298946d8403b",
			filled(0xff):     "c8371a1e09dc3dbc1bc568c29da8fcb040ca1532d3b3090513230e13d1437351",
			named("message"): "46da2553f5424d9fc8edd1deccb41d946c92648d4af0df5af32f96818838801f",
			named("abc"):     "39551906ebd133cec0c327e35c1bbe76cdacc522847f79dbf1cd3673b6f42832",
		}},
		{named("a"), "10e6c4765c60926f1f485f95e142679986d398fe4f37112fb34c92ee552cc9d7", map[api.Hash]string{
			{}:               "0e2aca95aec8827b716c63eb65ac138f3ca8714c8d86d7a3a69b57295347c117",
			filled(0xff):     "c7801008dc9fed31e92357926eecd0e7e9c78f6528cbf74c4447483463bebe5f",
			named("message"): "b93df196694fd01256f55517b83b635290cf1b7039c9b815fdd11bdf899bf17a",
			named("abc"):     "33cbc105011dee2ad74b55be9b583b230656dcf9c031a6f086b3c90c0f6456c4",
		}},
		{named("seed"), "337956246c233e10ad87a3647315a79327f40cfdb81c7e4b9218495e0be19298", map[api.Hash]string{
			{}:               "d6ce49ea7dd00bd2c7429204547650c53dbe64e5fa5428471817efda98e15ad0",
			filled(0xff):     "f2f36e0673e2719a3502d2ae3c474b1dd858a7cc54a7e8e63fb2ac0c5fa066fc",
			named("message"): "d2d74976b36084b7c5449f959afe7c8a60dcf1e25309031146d3d68b3ee672a5",
			named("abc"):     "c79dbd46a88cf2af72e7b1bede6f5816a53c920677c901fce557bdf20341529c",
		}},
	} {
		public := once.Public(c.seed)
		if text := hex.EncodeToString(public[:]); text != c.public {
			t.Errorf("Public(%x) = %s, want %s", c.seed, text, c.public)
		}
		for message, want := range c.signed {
			got := sha256.Sum256([]byte(once.Sign(c.seed, message)))
			if text := hex.EncodeToString(got[:]); text != want {
				t.Errorf("the sum of Sign(%x, %x) = %s, want %s", c.seed, message, text, want)
			}
		}
	}
}

func TestPublic(t *testing.T) { // P5.1: by the chapter's words, and by the calls of sha
	r := rand.New(rand.NewSource(5))
	l := seeds()
	for range 100 {
		var seed api.Hash
		r.Read(seed[:])
		l = append(l, seed)
	}
	for _, seed := range l {
		var marks strings.Builder
		for at := range byte(2 * places) {
			secret := sha.Of("secret", sha.Bytes(seed), string([]byte{at}))
			marks.WriteString(sha.Bytes(sha.Of("mark", sha.Bytes(secret))))
		}
		got, want := once.Public(seed), sha.Of("once", marks.String())
		if got != want || got != keyOf(seed).public() {
			t.Errorf("Public(%x) = %x, want %x", seed, got, want)
		}
	}
}

func TestPublicsApart(t *testing.T) { // P5.1: each bit of the seed counts
	seen := map[api.Hash]int{once.Public(named("seed")): -1}
	for at := range 256 {
		public := once.Public(turned(named("seed"), at))
		if other, there := seen[public]; there {
			t.Errorf("the seeds with the bits %d and %d turned have one public key", at, other)
		}
		seen[public] = at
	}
}

func TestSign(t *testing.T) { // P5.1
	for _, seed := range seeds() {
		k := keyOf(seed)
		for _, message := range edges() {
			if once.Sign(seed, message) != k.sign(message) {
				t.Errorf("Sign(%x, %x) is another one", seed, message)
			}
		}
	}
}

func TestSignEveryBeginning(t *testing.T) { // P5.1: all first two bytes
	seed := named("every")
	k := keyOf(seed)
	for two := range 1 << 16 {
		message := begins(two, "behind")
		if once.Sign(seed, message) != k.sign(message) {
			t.Fatalf("Sign of % x.. is another one", message[:2])
		}
	}
}

func TestSignByHand(t *testing.T) { // P5.1: which bit stands at which place, and which half is which
	seed := named("seed")
	k := keyOf(seed)
	for _, c := range []struct {
		first, second byte
		ones          []int
	}{
		{0x00, 0x00, nil},
		{0x80, 0x00, []int{0}},
		{0x01, 0x00, []int{7}},
		{0x00, 0x80, []int{8}},
		{0x00, 0x01, []int{15}},
		{0x80, 0x01, []int{0, 15}},
		{0xc0, 0x30, []int{0, 1, 10, 11}},
		{0xff, 0x00, []int{0, 1, 2, 3, 4, 5, 6, 7}},
		{0xff, 0xff, []int{0, 1, 2, 3, 4, 5, 6, 7, 8, 9, 10, 11, 12, 13, 14, 15}},
	} {
		var one [places]int
		for _, i := range c.ones {
			one[i] = 1
		}
		message := api.Hash{0: c.first, 1: c.second, 2: 0xff, 31: 0xff}
		for i, p := range pieces(t, once.Sign(seed, message)) {
			secret, mark := k.secret[2*i+one[i]], k.mark[2*i+1-one[i]]
			if p[:half] != string(secret) || p[half:] != string(mark) {
				t.Errorf("the message %x %x..: the piece %d is % x, want % x, % x", c.first, c.second, i, p, secret, mark)
			}
		}
	}
}

func TestTellsLengths(t *testing.T) { // P5.2
	message := named("message")
	sig := once.Sign(named("seed"), message)
	long := strings.Repeat(sig, 3)
	sizes := []int{0, 1, 31, 32, 33, 63, 64, 65, 127, 128, 512, 960, 1023, 1025, 1056, 1088, 1120, 2047, 2048, 2049, 3072}
	for _, size := range sizes {
		for _, s := range []string{long[:size], strings.Repeat("\x00", size), long[len(long)-size:]} {
			if public, e := once.Tells(message, s); public != (api.Hash{}) || e != api.ErrBytes {
				t.Errorf("Tells of %d bytes = %x, %d, want noughts, ErrBytes", size, public, e)
			}
			checkNot(t, "another length", once.Public(named("seed")), message, s)
			checkNot(t, "another length, noughts as the key", api.Hash{}, message, s)
		}
	}
	checkNot(t, "a byte ahead", once.Public(named("seed")), message, "\x00"+sig)
	checkNot(t, "a byte behind", once.Public(named("seed")), message, sig+"\x00")
	checkNot(t, "its first one too few", once.Public(named("seed")), message, sig[1:])
	checkNot(t, "far too long", once.Public(named("seed")), message, strings.Repeat(sig, 1<<10))
	if _, e := once.Tells(message, sig); e != api.OK {
		t.Errorf("Tells of 1024 bytes: %d", e)
	}
}

func TestTellsWhatever(t *testing.T) { // P5.2: any 1024 bytes tell a key
	r := rand.New(rand.NewSource(52))
	for _, message := range edges() {
		checkTells(t, "bytes 0", message, strings.Repeat("\x00", whole))
		checkTells(t, "bytes 255", message, strings.Repeat("\xff", whole))
		for range 20 {
			b := make([]byte, whole)
			r.Read(b)
			checkTells(t, "by chance", message, string(b))
		}
	}
}

func TestTellsOfAnotherMessage(t *testing.T) { // P5.2: some other key, that is told as the chapter says
	for _, seed := range seeds()[:4] {
		k := keyOf(seed)
		for _, signed := range edges() {
			sig := k.sign(signed)
			for _, message := range edges() {
				checkTells(t, "a signature of another message", message, sig)
				same := message[0] == signed[0] && message[1] == signed[1]
				if once.Check(k.public(), message, sig) != same {
					t.Errorf("Check of % x.. by a signature of % x..: %t", message[:2], signed[:2], !same)
				}
			}
		}
	}
}

func TestCheckOfAnotherMessage(t *testing.T) { // P5.2: one bit of the 16 is turned
	seed := named("seed")
	for _, message := range edges() {
		sig := once.Sign(seed, message)
		for at := range 256 {
			if want := at >= places; once.Check(once.Public(seed), turned(message, at), sig) != want {
				t.Errorf("Check of % x.. with the bit %d turned: %t", message[:2], at, !want)
			}
		}
	}
}

func TestCheckOfAnotherSeed(t *testing.T) { // P5.2
	for i, seed := range seeds() {
		for j, other := range seeds() {
			for _, message := range edges() {
				if once.Check(once.Public(other), message, once.Sign(seed, message)) != (i == j) {
					t.Errorf("Check of % x.., signed by the seed %d, by the key of the seed %d: %t", message[:2], i, j, i != j)
				}
			}
		}
	}
}

func TestCheckOfAnotherKey(t *testing.T) { // P5.2: each bit of the public key counts
	seed, message := named("seed"), named("message")
	public, sig := once.Public(seed), once.Sign(seed, message)
	for at := range 256 {
		checkNot(t, "a key with a bit turned", turned(public, at), message, sig)
	}
	checkNot(t, "noughts as the key", api.Hash{}, message, sig)
	checkNot(t, "the seed as the key", seed, message, sig)
	checkNot(t, "the message as the key", message, message, sig)
}

func TestCheckOfExchanged(t *testing.T) { // P5.2: pieces, halves of a piece, halves of two pieces
	for _, message := range edges() {
		seed := named("seed")
		public, l := once.Public(seed), pieces(t, once.Sign(seed, message))
		for i := range l {
			for j := range i {
				two := l
				two[i], two[j] = two[j], two[i]
				checkNot(t, "two pieces exchanged", public, message, strings.Join(two[:], ""))
				two = l
				two[i], two[j] = l[j][:half]+l[i][half:], l[i][:half]+l[j][half:]
				checkNot(t, "two first halves exchanged", public, message, strings.Join(two[:], ""))
				two = l
				two[i] = l[j]
				checkNot(t, "a piece twice", public, message, strings.Join(two[:], ""))
			}
			one := l
			one[i] = l[i][half:] + l[i][:half]
			sig := strings.Join(one[:], "")
			checkNot(t, "the halves of a piece exchanged", public, message, sig)
			// Nor is it one of the message with the other bit there: the secret is not the mark's.
			checkNot(t, "the halves exchanged, the other bit", public, turned(message, i), sig)
			checkTells(t, "the halves of a piece exchanged", message, sig)
		}
	}
}

func TestCheckOfTurnedBits(t *testing.T) { // P5.2: each byte of the signature counts
	seed := named("seed")
	for n, message := range []api.Hash{begins(0, ""), begins(0xffff, ""), named("message")} {
		public, sig := once.Public(seed), []byte(once.Sign(seed, message))
		for at := range sig {
			for bit := range 8 {
				if n > 0 && bit != at%8 {
					continue
				}
				sig[at] ^= 1 << bit
				checkNot(t, "a bit turned", public, message, string(sig))
				sig[at] ^= 1 << bit
			}
		}
		if !once.Check(public, message, string(sig)) {
			t.Errorf("Check of % x.. as it was signed: false", message[:2])
		}
	}
}

func TestSignedIsChecked(t *testing.T) { // P5.3
	r := rand.New(rand.NewSource(53))
	for n, seed := range seeds() {
		public := once.Public(seed)
		messages := edges()
		for range 100 {
			var message api.Hash
			r.Read(message[:])
			messages = append(messages, message)
		}
		for _, message := range messages {
			sig := once.Sign(seed, message)
			if got, e := once.Tells(message, sig); got != public || e != api.OK {
				t.Errorf("Tells of % x.. by the seed %d = %x, %d, want %x", message[:2], n, got, e, public)
			}
			if !once.Check(public, message, sig) {
				t.Errorf("Check of % x.. by the seed %d: false", message[:2], n)
			}
		}
	}
}

func TestTwoBytesAlone(t *testing.T) { // P5.4: what stands behind them does not count
	seed := named("seed")
	public := once.Public(seed)
	for _, message := range edges() {
		sig := once.Sign(seed, message)
		others := []api.Hash{{0: message[0], 1: message[1]}, begins(int(message[0])<<8|int(message[1]), "another")}
		for at := places; at < 256; at++ {
			others = append(others, turned(message, at))
		}
		for _, other := range others {
			if once.Sign(seed, other) != sig {
				t.Errorf("Sign of %x is not that of %x", other, message)
			}
			if !once.Check(public, other, sig) {
				t.Errorf("Check of %x by the signature of %x: false", other, message)
			}
		}
	}
}

func TestBothSignatures(t *testing.T) { // P5.4: where bits differ both secrets are told, elsewhere pieces are alike
	seed := named("seed")
	k := keyOf(seed)
	for _, a := range edges() {
		for _, b := range edges() {
			of, by := pieces(t, once.Sign(seed, a)), pieces(t, once.Sign(seed, b))
			differs := [2]byte{a[0] ^ b[0], a[1] ^ b[1]}
			unlike := 0
			for i := range places {
				if of[i] == by[i] {
					continue
				}
				unlike++
				x, y := of[i], by[i]
				if a[i/8]&(128>>(i%8)) != 0 {
					x, y = y, x
				}
				if x[:half] != string(k.secret[2*i]) || y[:half] != string(k.secret[2*i+1]) {
					t.Errorf("% x.. and % x..: the place %d does not tell both secrets", a[:2], b[:2], i)
				}
				if x[half:] != string(markOf([]byte(y[:half]))) || y[half:] != string(markOf([]byte(x[:half]))) {
					t.Errorf("% x.. and % x..: the place %d has not the marks of both secrets", a[:2], b[:2], i)
				}
			}
			if want := bits.OnesCount8(differs[0]) + bits.OnesCount8(differs[1]); unlike != want {
				t.Errorf("% x.. and % x..: %d pieces differ, want %d", a[:2], b[:2], unlike, want)
			}
		}
	}
}

func TestOneBitOnePiece(t *testing.T) { // P5.4: a bit of the message is told by the piece of its place
	seed := named("seed")
	for _, message := range edges() {
		was := pieces(t, once.Sign(seed, message))
		for at := range places {
			now := pieces(t, once.Sign(seed, turned(message, at)))
			for i := range places {
				if (now[i] != was[i]) != (i == at) {
					t.Errorf("% x.. with the bit %d turned: the piece %d", message[:2], at, i)
				}
			}
		}
	}
}

func TestOtherSecretsAreNotTold(t *testing.T) { // P5.1: of the other bit a signature has the mark alone
	seed := named("seed")
	k := keyOf(seed)
	for _, message := range edges() {
		sig := once.Sign(seed, message)
		for i, c := range digits(message) {
			other := 2*i + 1 - int(c-'0')
			if strings.Contains(sig, string(k.secret[other])) {
				t.Errorf("Sign of % x.. tells the secret of the other bit at %d", message[:2], i)
			}
		}
	}
}

func TestAtOneTime(t *testing.T) { // R5: nothing is kept from call to call
	var wait sync.WaitGroup
	for _, seed := range seeds() {
		wait.Go(func() {
			k := keyOf(seed)
			for _, message := range edges() {
				sig := once.Sign(seed, message)
				if sig != k.sign(message) || once.Public(seed) != k.public() || !once.Check(k.public(), message, sig) {
					t.Errorf("the seed %x beside others is another one", seed)
				}
			}
		})
	}
	wait.Wait()
}
