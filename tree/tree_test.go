package tree_test

import (
	"crypto/sha256"
	"encoding/binary"
	"encoding/hex"
	"math"
	"math/bits"
	"math/rand"
	"slices"
	"sync"
	"testing"

	"mintage/api"
	"mintage/sha"
	"mintage/tree"
)

const most = 1 << 20 // the chapter's number up to which Check says yes

// letter is the sum of one byte: of a, of b, ..
func letter(i int) api.Hash { return sha256.Sum256([]byte{byte('a' + i)}) }

// letters are the first n of them.
func letters(n int) []api.Hash {
	l := make([]api.Hash, n)
	for i := range l {
		l[i] = letter(i)
	}
	return l
}

// some are n hashes from a fixed row of chances.
func some(n int) []api.Hash {
	r := rand.New(rand.NewSource(int64(n) + 4))
	l := make([]api.Hash, n)
	for i := range l {
		r.Read(l[i][:])
	}
	return l
}

// numbers are those up to 70, and those around the powers of two behind them.
func numbers() []int {
	var l []int
	for n := range 71 {
		l = append(l, n)
	}
	for p := 128; p <= 2048; p *= 2 {
		l = append(l, p-2, p-1, p, p+1, p+2)
	}
	return append(l, 100, 500, 1000, 1500, 3000)
}

// sum is the sum of parts under a tag by the words of chapters 1 and 3; no part here has more than 127 bytes.
func sum(tag string, parts ...[]byte) api.Hash {
	b := append([]byte{byte(len(tag))}, tag...)
	for _, p := range parts {
		b = append(append(b, byte(len(p))), p...)
	}
	return sha256.Sum256(b)
}

func leafOf(h api.Hash) api.Hash    { return sum("leaf", h[:]) }
func pairOf(a, b api.Hash) api.Hash { return sum("pair", a[:], b[:]) }
func rootOf(n int, t api.Hash) api.Hash {
	return sum("root", binary.BigEndian.AppendUint64(nil, uint64(n)), t[:])
}

// left is how many of n hashes, two at least, stand on the left of the top's pair: the greatest power of two below n.
func left(n int) int { return 1 << (bits.Len(uint(n-1)) - 1) }

// topOf goes down from the top, where the program goes up from the leaves.
func topOf(l []api.Hash) api.Hash {
	switch len(l) {
	case 0:
		return sum("none")
	case 1:
		return leafOf(l[0])
	}
	k := left(len(l))
	return pairOf(topOf(l[:k]), topOf(l[k:]))
}

// proofOf is the proof for the place i by going down.
func proofOf(l []api.Hash, i int) []api.Hash {
	if len(l) == 1 {
		return nil
	}
	k := left(len(l))
	if i < k {
		return append(proofOf(l[:k], i), topOf(l[k:]))
	}
	return append(proofOf(l[k:], i-k), topOf(l[:k]))
}

// many is how many hashes a proof for the place i of n has.
func many(n, i int) int {
	if n == 1 {
		return 0
	}
	k := left(n)
	if i < k {
		return 1 + many(k, i)
	}
	return 1 + many(n-k, i-k)
}

// topBy is the top that a proof of just as many hashes as it must have tells, for h at the place i of n.
func topBy(n, i int, h api.Hash, proof []api.Hash) api.Hash {
	if n == 1 {
		return leafOf(h)
	}
	k, last := left(n), len(proof)-1
	if i < k {
		return pairOf(topBy(k, i, h, proof[:last]), proof[last])
	}
	return pairOf(proof[last], topBy(n-k, i-k, h, proof[:last]))
}

// says is what Check must say, of a place of up to 2^20 hashes.
func says(root api.Hash, n, i int, h api.Hash, proof []api.Hash) bool {
	if i < 0 || i >= n || len(proof) != many(n, i) {
		return false
	}
	return rootOf(n, topBy(n, i, h, proof)) == root
}

func prove(t *testing.T, l []api.Hash, i int) []api.Hash {
	t.Helper()
	proof, e := tree.Prove(l, i)
	if e != api.OK {
		t.Fatalf("Prove of %d hashes, %d: %d", len(l), i, e)
	}
	return proof
}

func checkRoot(t *testing.T, l []api.Hash) {
	t.Helper()
	kept := slices.Clone(l)
	if got, want := tree.Root(l), rootOf(len(l), topOf(l)); got != want {
		t.Errorf("Root of %d hashes = %x, want %x", len(l), got, want)
	}
	if !slices.Equal(l, kept) {
		t.Errorf("Root of %d hashes changed them", len(l))
	}
}

func checkCheck(t *testing.T, want bool, name string, root api.Hash, n, i int, h api.Hash, proof []api.Hash) {
	t.Helper()
	kept := slices.Clone(proof)
	if got := tree.Check(root, n, i, h, proof); got != want {
		t.Errorf("%s: Check of the place %d of %d, %d hashes in the proof: %t", name, i, n, len(proof), got)
	}
	if !slices.Equal(proof, kept) {
		t.Errorf("%s: Check changed the proof", name)
	}
}

func TestRootExamples(t *testing.T) { // P4.1
	none := sha.Of("root", "\x00\x00\x00\x00\x00\x00\x00\x00", sha.Bytes(sha.Of("none")))
	if got := tree.Root(nil); got != none {
		t.Errorf("Root of none = %x, want %x", got, none)
	}
	if got := tree.Root([]api.Hash{}); got != none {
		t.Errorf("Root of an empty list = %x, want %x", got, none)
	}
}

func TestRootPinned(t *testing.T) { // P4.1: of the sums of a, b, ..; told by another program
	for _, c := range []struct {
		n    int
		want string
	}{
		{0, "5dad5ea8506df386e9aa4c2a06f2fb7b96593bea7b399d724278a41815482561"},
		{1, "8e1f5d04dea530ba07bf7b03b3c88b72d552347d8e41c68faafd4f5fb07547b8"},
		{2, "a8de26f9d7164934c5f77ce3348204a3b28b9e6e4ad4c4cafe75778bc2d7afd5"},
		{3, "0d73c2817f4d791bb1b4547d3edc7390c9789610d0ba5378070190816e2b1367"},
		{4, "e321ea4931e752626627a444824df67a9cf8d709eddef06611281630f66b3db6"},
		{5, "92786275d0a2f548611daad9d620c70e55b2436c58b26007a7f0117215198ed0"},
		{6, "8a42dbb15f768a0317c04d37a7019511fcf593f17efc466faf5f7d51d0e79f31"},
		{7, "96e454b6c61a38f145420b7114eae4c3148c1579f270f7e68421448db58a6263"},
		{8, "01c92c126628d4e9ac17a75b1d10bb9d77c6bbe8410e66b1be8138ccb3b7fd02"},
		{9, "f03898b2f3f92314db95bcaf7bf993f27e267e9c77e30caf729077dfd75595ed"},
		{16, "2b8464525073995a6cca538166fe6ba3a9d9b36206b63ae8fe45135c93c85b89"},
		{17, "a1851a3acaa0aaf87b0ad8f6810b6a4af38a680352a1229c6feb1606c3b1370a"},
	} {
		got := tree.Root(letters(c.n))
		if text := hex.EncodeToString(got[:]); text != c.want {
			t.Errorf("Root of %d = %s, want %s", c.n, text, c.want)
		}
	}
}

func TestRootByHand(t *testing.T) { // P4.1: a last one that has no other one stays, at the lowest row and at higher ones
	a, b, c, d, e, f := letter(0), letter(1), letter(2), letter(3), letter(4), letter(5)
	ab, cd, ef := pairOf(leafOf(a), leafOf(b)), pairOf(leafOf(c), leafOf(d)), pairOf(leafOf(e), leafOf(f))
	for n, top := range map[int]api.Hash{
		1: leafOf(a),
		2: ab,
		3: pairOf(ab, leafOf(c)),
		4: pairOf(ab, cd),
		5: pairOf(pairOf(ab, cd), leafOf(e)),
		6: pairOf(pairOf(ab, cd), ef),
		7: pairOf(pairOf(ab, cd), pairOf(ef, leafOf(letter(6)))),
	} {
		if got, want := tree.Root(letters(n)), rootOf(n, top); got != want {
			t.Errorf("Root of %d = %x, want %x", n, got, want)
		}
	}
}

func TestRoot(t *testing.T) { // P4.1
	for _, n := range numbers() {
		checkRoot(t, some(n))
		checkRoot(t, make([]api.Hash, n))
		checkRoot(t, slices.Repeat([]api.Hash{letter(0)}, n))
	}
	checkRoot(t, some(1<<16+1))
}

func TestRootsApart(t *testing.T) { // P4.1: the number, the order and each hash are told
	seen := map[api.Hash]int{}
	for n := range 300 {
		root := tree.Root(make([]api.Hash, n))
		if other, there := seen[root]; there {
			t.Errorf("the roots of %d and of %d noughts are the same", n, other)
		}
		seen[root] = n
	}
	for n := 2; n <= 20; n++ {
		l := some(n)
		root := tree.Root(l)
		for i := range n {
			turned := slices.Clone(l)
			turned[i], turned[(i+1)%n] = turned[(i+1)%n], turned[i]
			changed := slices.Clone(l)
			changed[i][31] ^= 1
			if tree.Root(turned) == root || tree.Root(changed) == root {
				t.Errorf("the root of %d does not tell what stands at %d", n, i)
			}
		}
	}
}

func TestProveExamples(t *testing.T) { // P4.2
	a, b, c := letter(0), letter(1), letter(2)
	l := []api.Hash{a, b, c}
	for _, x := range []struct {
		l    []api.Hash
		i    int
		want []api.Hash
	}{
		{l, 0, []api.Hash{leafOf(b), leafOf(c)}},
		{l, 1, []api.Hash{leafOf(a), leafOf(c)}},
		{l, 2, []api.Hash{pairOf(leafOf(a), leafOf(b))}},
		{l[:2], 0, []api.Hash{leafOf(b)}},
		{l[:2], 1, []api.Hash{leafOf(a)}},
		{l[:1], 0, nil},
	} {
		if got := prove(t, x.l, x.i); !slices.Equal(got, x.want) {
			t.Errorf("Prove of %d, %d = %x, want %x", len(x.l), x.i, got, x.want)
		}
	}
	if proof, e := tree.Prove(l[:1], 1); proof != nil || e != api.ErrRange {
		t.Errorf("Prove of 1, 1 = %x, %d", proof, e)
	}
}

func TestProve(t *testing.T) { // P4.2: each place
	for _, n := range numbers() {
		if n > 300 {
			continue
		}
		l := some(n)
		kept := slices.Clone(l)
		for i := range n {
			if got, want := prove(t, l, i), proofOf(l, i); !slices.Equal(got, want) {
				t.Errorf("Prove of %d, %d = %x, want %x", n, i, got, want)
			}
		}
		if !slices.Equal(l, kept) {
			t.Errorf("Prove of %d hashes changed them", n)
		}
	}
}

func TestProveOfMany(t *testing.T) { // P4.2: first and last places, and some between
	for _, n := range numbers() {
		if n <= 300 {
			continue
		}
		l := some(n)
		for _, i := range []int{0, 1, 2, n / 3, left(n) - 1, left(n), n - 3, n - 2, n - 1} {
			if i < n {
				if got, want := prove(t, l, i), proofOf(l, i); !slices.Equal(got, want) {
					t.Errorf("Prove of %d, %d is another proof", n, i)
				}
			}
		}
	}
}

func TestProveNoPlace(t *testing.T) { // P4.2
	for _, n := range numbers() {
		l := some(n)
		for _, i := range []int{-1, -2, -n, -n - 1, n, n + 1, n ^ 1, 2 * n, 1 << 40, math.MinInt, math.MinInt + 1, math.MaxInt - 1, math.MaxInt} {
			if i >= 0 && i < n {
				continue
			}
			if proof, e := tree.Prove(l, i); proof != nil || e != api.ErrRange {
				t.Errorf("Prove of %d, %d = %d hashes, %d, want none, ErrRange", n, i, len(proof), e)
			}
		}
	}
	if proof, e := tree.Prove(nil, 0); proof != nil || e != api.ErrRange {
		t.Errorf("Prove of none, 0 = %x, %d", proof, e)
	}
}

func TestProofsAreNew(t *testing.T) { // P4.2: an answer shares nothing with the list or with another answer
	l := some(13)
	kept := slices.Clone(l)
	for i := range l {
		first := prove(t, l, i)
		clear(first[:cap(first)])
		if !slices.Equal(l, kept) {
			t.Fatalf("the proof for %d is written into the list", i)
		}
		if got := prove(t, l, i); !slices.Equal(got, proofOf(kept, i)) {
			t.Errorf("the proof for %d is another one the second time", i)
		}
	}
}

func TestCheckExamples(t *testing.T) { // P4.3
	a := letter(0)
	root := tree.Root([]api.Hash{a})
	checkCheck(t, true, "one", root, 1, 0, a, nil)
	checkCheck(t, true, "one", root, 1, 0, a, []api.Hash{})
	checkCheck(t, false, "one too many", root, 1, 0, a, []api.Hash{a})
}

func TestCheck(t *testing.T) { // P4.3, P4.4: what Prove answers, at each place
	for _, n := range numbers() {
		if n > 300 {
			continue
		}
		l := some(n)
		root := tree.Root(l)
		for i, h := range l {
			checkCheck(t, true, "as proved", root, n, i, h, prove(t, l, i))
			checkCheck(t, true, "by going down", rootOf(n, topOf(l)), n, i, h, proofOf(l, i))
		}
	}
}

func TestCheckWrongProofs(t *testing.T) { // P4.3, P4.4: a hash too few, too many, changed, in another order
	for n := 1; n <= 40; n++ {
		l := some(n)
		root := tree.Root(l)
		for i, h := range l {
			proof := prove(t, l, i)
			checkCheck(t, false, "a root behind it", root, n, i, h, append(slices.Clone(proof), root))
			checkCheck(t, false, "noughts behind it", root, n, i, h, append(slices.Clone(proof), api.Hash{}))
			checkCheck(t, false, "noughts ahead of it", root, n, i, h, slices.Concat([]api.Hash{{}}, proof))
			checkCheck(t, false, "twice", root, n, i, h, slices.Concat(proof, proof, []api.Hash{h}))
			for at := range proof {
				checkCheck(t, false, "one too few", root, n, i, h, slices.Delete(slices.Clone(proof), at, at+1))
				checkCheck(t, false, "one twice", root, n, i, h, slices.Insert(slices.Clone(proof), at, proof[at]))
				changed := slices.Clone(proof)
				changed[at][at%32] ^= 128
				checkCheck(t, false, "one changed", root, n, i, h, changed)
				if at > 0 {
					turned := slices.Clone(proof)
					turned[at-1], turned[at] = turned[at], turned[at-1]
					checkCheck(t, false, "two turned", root, n, i, h, turned)
				}
			}
			if len(proof) > 1 {
				back := slices.Clone(proof)
				slices.Reverse(back)
				checkCheck(t, false, "backwards", root, n, i, h, back)
			}
			if len(proof) > 0 {
				checkCheck(t, false, "none at all", root, n, i, h, nil)
				// Of a last one that stays, the hash that a pair with itself would need.
				checkCheck(t, false, "its own leaf ahead", root, n, i, h, slices.Concat([]api.Hash{leafOf(h)}, proof))
			}
		}
	}
}

func TestCheckOfAnother(t *testing.T) { // P4.3, P4.4: another place, number, hash, root
	for n := 1; n <= 24; n++ {
		l := some(n)
		root := tree.Root(l)
		for i, h := range l {
			proof := prove(t, l, i)
			for j := range n {
				if j == i {
					continue
				}
				checkCheck(t, false, "the proof and hash of another place", root, n, j, h, proof)
				checkCheck(t, false, "the proof of another place", root, n, j, l[j], proof)
				checkCheck(t, false, "the hash of another place", root, n, i, l[j], proof)
			}
			for m := range 50 {
				if m != n {
					checkCheck(t, false, "another number", root, m, i, h, proof)
					checkCheck(t, false, "the root of another number", tree.Root(some(50)[:m]), n, i, h, proof)
				}
			}
			for bit := range 256 {
				h[bit/8] ^= 1 << (bit % 8)
				checkCheck(t, false, "another hash", root, n, i, h, proof)
				h[bit/8] ^= 1 << (bit % 8)
				root[bit/8] ^= 1 << (bit % 8)
				checkCheck(t, false, "another root", root, n, i, h, proof)
				root[bit/8] ^= 1 << (bit % 8)
			}
			checkCheck(t, false, "the leaf as a hash", root, n, i, leafOf(h), proof)
			checkCheck(t, false, "noughts as a root", api.Hash{}, n, i, h, proof)
			checkCheck(t, false, "the top as a root", topOf(l), n, i, h, proof)
		}
	}
}

func TestCheckUnderAnotherNumber(t *testing.T) { // P4.3, P4.4: the same top under whatever number and place; it hangs on how the rows go up
	for n := 2; n <= 34; n++ {
		l := some(n)
		top := topOf(l)
		for i, h := range l {
			proof := prove(t, l, i)
			for m := 1; m <= 36; m++ {
				root := rootOf(m, top)
				for _, j := range []int{i, i - 1, i + 1, m - 1} {
					checkCheck(t, says(root, m, j, h, proof), "the top under a number", root, m, j, h, proof)
				}
			}
		}
	}
}

func TestCheckNoPlace(t *testing.T) { // P4.3
	for _, n := range []int{1, 2, 3, 4, 5, 7, 8, 9} {
		l := some(n)
		root := tree.Root(l)
		for _, h := range append(some(n), api.Hash{}) {
			for at := range n {
				for _, i := range []int{-1, -2, -n, -n - 1, n, n + 1, n ^ 1, 2 * n, 1 << 40, math.MinInt, math.MinInt + 1, math.MaxInt} {
					if i < 0 || i >= n {
						checkCheck(t, false, "no place", root, n, i, h, prove(t, l, at))
						checkCheck(t, false, "no place", root, n, i, h, nil)
					}
				}
			}
		}
	}
	// The last one's proof would come to the root, if its place were taken as one behind it where no other one stands.
	l := some(3)
	checkCheck(t, false, "behind the last one", tree.Root(l), 3, 3, l[2], prove(t, l, 2))
	checkCheck(t, false, "far behind the only one", tree.Root(l[:1]), 1, 2, l[0], nil)
}

func TestCheckNumbers(t *testing.T) { // P4.3: 0, below 0, huge
	h := letter(0)
	roots := []api.Hash{{}, tree.Root(nil), tree.Root([]api.Hash{h}), rootOf(0, leafOf(h)), rootOf(-1, leafOf(h)), rootOf(-1, sum("none"))}
	for _, n := range []int{0, -1, -2, -1 << 20, math.MinInt, math.MinInt + 1, most + 1, most + 2, 1 << 21, 1 << 40, math.MaxInt - 1, math.MaxInt} {
		for _, root := range append(roots, rootOf(n, leafOf(h)), rootOf(n, sum("none"))) {
			for _, i := range []int{0, 1, -1, n - 1, n, n + 1} {
				for _, size := range []int{0, 1, 20, 21, 63, 64} {
					checkCheck(t, false, "no number", root, n, i, h, make([]api.Hash, size))
				}
			}
		}
	}
}

// TestCheckByItsWords takes whatever hashes as a proof, and the root that they come to: so great numbers need no great list.
func TestCheckByItsWords(t *testing.T) { // P4.3
	ns := []int{1, 2, 3, 4, 5, 1000, 1<<16 - 1, 1 << 16, 1<<16 + 1, 1 << 19, 1<<19 + 1, 1<<20 - 2, 1<<20 - 1, most, most + 1, most + 2, 3 << 19, 1 << 21, 1<<21 + 1, 1 << 40, math.MaxInt}
	for _, n := range ns {
		places := []int{0, 1, 2, 3, n / 3, n / 2, n - 3, n - 2, n - 1}
		if n > 1 {
			places = append(places, left(n)-1, left(n))
		}
		for _, i := range places {
			if i < 0 || i >= n {
				continue
			}
			h, proof := letter(i%26), some(many(n, i))
			root := rootOf(n, topBy(n, i, h, proof))
			checkCheck(t, n <= most, "by the words", root, n, i, h, proof)
			checkCheck(t, false, "by the words, one too many", root, n, i, h, append(proof, h))
			checkCheck(t, false, "by the words, another hash", root, n, i, letter(i%26+1), proof)
			checkCheck(t, false, "by the words, another number", root, n+1, i, h, proof)
			if len(proof) > 0 {
				checkCheck(t, false, "by the words, one too few", root, n, i, h, proof[:len(proof)-1])
				checkCheck(t, false, "by the words, its first too few", root, n, i, h, proof[1:])
			}
		}
	}
}

func TestOfTheGreatest(t *testing.T) { // P4.1 to P4.3: Root and Prove ask for no limit
	l := some(most + 1)
	proof := prove(t, l, most) // 2^20 + 1 hashes, of which the last one stays up to the highest row
	if len(proof) != 1 {
		t.Fatalf("Prove of 2^20 + 1, the last one: %d hashes", len(proof))
	}
	if got, want := tree.Root(l[:most]), rootOf(most, proof[0]); got != want {
		t.Errorf("Root of 2^20 = %x, want %x", got, want)
	}
	root := rootOf(most+1, pairOf(proof[0], leafOf(l[most])))
	checkCheck(t, false, "2^20 + 1", root, most+1, most, l[most], proof)
}

func TestCheckOfLongProofs(t *testing.T) { // P4.3, R1: it ends, and takes none of them
	l := some(5)
	for i, h := range l {
		long := append(prove(t, l, i), make([]api.Hash, 1<<16)...)
		checkCheck(t, false, "far too long", tree.Root(l), 5, i, h, long)
	}
}

func TestProofSizes(t *testing.T) { // P4.5
	for _, n := range numbers() {
		digits := bits.Len(uint(max(n, 1) - 1))
		l := make([]api.Hash, n)
		for i := range n {
			if n > 70 && i > 3 && i < n-3 {
				continue
			}
			proof := prove(t, l, i)
			if len(proof) > digits {
				t.Errorf("Prove of %d, %d: %d hashes, want %d at most", n, i, len(proof), digits)
			}
			if len(proof) != many(n, i) {
				t.Errorf("Prove of %d, %d: %d hashes, want %d", n, i, len(proof), many(n, i))
			}
		}
		if n > 0 && len(prove(t, l, 0)) != digits { // the first one always has another one
			t.Errorf("Prove of %d, 0: not %d hashes", n, digits)
		}
	}
}

func TestAtOneTime(t *testing.T) { // R5: nothing is kept from call to call
	var wait sync.WaitGroup
	l := some(21)
	root := rootOf(21, topOf(l))
	for i := range l {
		wait.Go(func() {
			for range 20 {
				proof, e := tree.Prove(l, i)
				if e != api.OK || tree.Root(l) != root || !tree.Check(root, 21, i, l[i], proof) {
					t.Errorf("the place %d beside others is another one", i)
				}
			}
		})
	}
	wait.Wait()
}
