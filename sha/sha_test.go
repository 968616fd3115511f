package sha_test

import (
	"crypto/sha256"
	"encoding/hex"
	"fmt"
	"math/rand"
	"slices"
	"strings"
	"sync"
	"testing"

	"mintage/api"
	"mintage/sha"
)

// edges are the lengths that the chapter names, and those beside them.
var edges = []int{0, 1, 2, 3, 54, 55, 56, 57, 62, 63, 64, 65, 66, 118, 119, 120, 121, 127, 128, 129, 183, 184, 191, 192, 193}

// some is a text of that many bytes from a fixed row of chances.
func some(size int) string {
	b := make([]byte, size)
	rand.New(rand.NewSource(int64(size) + 1)).Read(b)
	return string(b)
}

func read(t *testing.T, s string) api.Hash {
	t.Helper()
	h, e := sha.Read(s)
	if e != api.OK {
		t.Fatalf("Read(%q) = %d", s, e)
	}
	return h
}

func checkSum(t *testing.T, s string) {
	t.Helper()
	if got, want := sha.Sum(s), api.Hash(sha256.Sum256([]byte(s))); got != want {
		t.Errorf("Sum of %d bytes % x.. = %x, want %x", len(s), s[:min(len(s), 8)], got, want)
	}
}

func TestSumExamples(t *testing.T) { // P3.1
	for _, c := range []struct{ s, want string }{
		{"", "e3b0c44298fc1c149afbf4c8996fb92427ae41e4649b934ca495991b7852b855"},
		{"abc", "ba7816bf8f01cfea414140de5dae2223b00361a396177a9cb410ff61f20015ad"},
		{"abcdbcdecdefdefgefghfghighijhijkijkljklmklmnlmnomnopnopq", "248d6a61d20638b8e5c026930c3e6039a33ce45964ff2167f6ecedd419db06c1"},
		{"abcdefghbcdefghicdefghijdefghijkefghijklfghijklmghijklmnhijklmnoijklmnopjklmnopqklmnopqrlmnopqrsmnopqrstnopqrstu", "cf5b16a778af8380036ce59e7b0492370b249b11e8f07a51afac45037afee9d1"},
		{strings.Repeat("a", 1000000), "cdc76e5c9914fb9281a1c7e284d73e67f1809a48a497200e046d39ccc7112cd0"},
	} {
		got := sha.Sum(c.s)
		if text := hex.EncodeToString(got[:]); text != c.want {
			t.Errorf("Sum of %d bytes = %s, want %s", len(c.s), text, c.want)
		}
	}
}

func TestSumLengths(t *testing.T) { // P3.1
	for _, size := range edges {
		checkSum(t, some(size))
	}
	for size := range 520 {
		checkSum(t, some(size))
		checkSum(t, strings.Repeat("\x00", size))
		checkSum(t, strings.Repeat("\xff", size))
		checkSum(t, strings.Repeat("\x80", size))
	}
}

func TestSumManyBlocks(t *testing.T) { // P3.1: the length takes up to four of its eight bytes
	for _, size := range []int{1000, 4095, 4096, 4097, 8191, 8192, 10007, 1 << 16, 1<<20 - 9, 1<<20 - 8, 1<<20 + 3, 1<<21 + 56} {
		checkSum(t, some(size))
	}
}

func TestSumEveryByte(t *testing.T) { // P3.1
	var all []byte
	for n := range 256 {
		b := byte(n)
		checkSum(t, string([]byte{b}))
		checkSum(t, strings.Repeat(string([]byte{b}), 64))
		checkSum(t, strings.Repeat("a", 63)+string([]byte{b})+"b")
		all = append(all, b)
		checkSum(t, string(all))
	}
}

func TestSumEachPlace(t *testing.T) { // P3.1: each byte of two blocks counts, and where it stands
	seen := map[api.Hash]int{sha.Sum(strings.Repeat("\x00", 128)): -1}
	for i := range 128 {
		b := make([]byte, 128)
		b[i] = 1
		checkSum(t, string(b))
		h := sha.Sum(string(b))
		if at, there := seen[h]; there {
			t.Errorf("a byte at %d and at %d: the same sum", i, at)
		}
		seen[h] = i
	}
}

func TestSumAtOneTime(t *testing.T) { // P3.1, R5: nothing is kept from call to call
	var wait sync.WaitGroup
	for i := range 8 {
		wait.Go(func() {
			for size := range 200 {
				s := some(size + i)
				if sha.Sum(s) != sha256.Sum256([]byte(s)) {
					t.Errorf("Sum of %d bytes beside others is another one", size+i)
				}
			}
		})
	}
	wait.Wait()
}

// told tells a text by the words of chapter 1, by division alone.
func told(s string) string {
	var b []byte
	n := len(s)
	for ; n > 127; n /= 128 {
		b = append(b, byte(n%128+128))
	}
	return string(append(b, byte(n))) + s
}

// row is what the sum of parts under a tag is the sum of.
func row(tag string, parts ...string) string {
	s := told(tag)
	for _, p := range parts {
		s += told(p)
	}
	return s
}

func checkOf(t *testing.T, tag string, parts ...string) {
	t.Helper()
	kept := slices.Clone(parts)
	got := sha.Of(tag, parts...)
	if want := api.Hash(sha256.Sum256([]byte(row(tag, parts...)))); got != want {
		t.Errorf("Of a tag of %d bytes, %d parts = %x, want %x", len(tag), len(parts), got, want)
	}
	if !slices.Equal(parts, kept) {
		t.Errorf("Of changed its parts")
	}
}

func TestOfExamples(t *testing.T) { // P3.2
	if got, want := sha.Of("t", "ab"), sha.Sum("\x01t\x02ab"); got != want {
		t.Errorf("Of(t, ab) = %x, want %x", got, want)
	}
	if got, want := sha.Of("none"), sha.Sum("\x04none"); got != want {
		t.Errorf("Of(none) = %x, want %x", got, want)
	}
	if got, want := sha.Of(""), sha.Sum("\x00"); got != want {
		t.Errorf("Of of an empty tag = %x, want %x", got, want)
	}
	if got, want := sha.Of("", ""), sha.Sum("\x00\x00"); got != want {
		t.Errorf("Of of an empty tag, an empty part = %x, want %x", got, want)
	}
	long := strings.Repeat("x", 300)
	if got, want := sha.Of(long, "", long), sha.Sum("\xac\x02"+long+"\x00\xac\x02"+long); got != want {
		t.Errorf("Of of 300 bytes each = %x, want %x", got, want)
	}
}

func TestOf(t *testing.T) { // P3.2
	sizes := append([]int{126, 127, 128, 129, 255, 256, 16383, 16384, 16385}, edges...)
	for _, size := range sizes {
		s := some(size)
		checkOf(t, s)
		checkOf(t, s, "")
		checkOf(t, "", s)
		checkOf(t, "tag", s, "", s)
		checkOf(t, s, s, "x", s+"x")
	}
	checkOf(t, "tag", nil...)
	checkOf(t, "tag", []string{}...)
	for n := range 40 {
		checkOf(t, "tag", make([]string, n)...)
		checkOf(t, "tag", slices.Repeat([]string{"part"}, n)...)
	}
	checkOf(t, "tag", make([]string, 100000)...)
}

func TestOfEveryByte(t *testing.T) { // P3.2
	for n := range 256 {
		b := string([]byte{byte(n)})
		checkOf(t, b)
		checkOf(t, b, b, b+b)
	}
}

func TestHexExamples(t *testing.T) { // P3.3
	var rising api.Hash
	for i := range rising {
		rising[i] = byte(i * 8)
	}
	for _, c := range []struct {
		h    api.Hash
		want string
	}{
		{api.Hash{}, strings.Repeat("0", 64)},
		{api.Hash{0: 1, 31: 0xef}, "01" + strings.Repeat("0", 60) + "ef"},
		{rising, "0008101820283038404850586068707880889098a0a8b0b8c0c8d0d8e0e8f0f8"},
		{sha.Sum("abc"), "ba7816bf8f01cfea414140de5dae2223b00361a396177a9cb410ff61f20015ad"},
	} {
		if got := sha.Hex(c.h); got != c.want {
			t.Errorf("Hex = %s, want %s", got, c.want)
		}
		if got := read(t, c.want); got != c.h {
			t.Errorf("Read(%s) = %x, want %x", c.want, got, c.h)
		}
	}
}

func TestHexEveryByte(t *testing.T) { // P3.3: each byte at each place
	for i := range 32 {
		for n := range 256 {
			h := sha.Sum("beside")
			h[i] = byte(n)
			want := hex.EncodeToString(h[:])
			if got := sha.Hex(h); got != want {
				t.Fatalf("Hex = %s, want %s", got, want)
			}
			if got := read(t, want); got != h {
				t.Fatalf("Read(%s) = %x, want %x", want, got, h)
			}
			if got := sha.Bytes(h); got != string(h[:]) {
				t.Fatalf("Bytes = % x, want % x", got, h)
			}
		}
	}
}

func checkNotRead(t *testing.T, s string) {
	t.Helper()
	if h, e := sha.Read(s); e != api.ErrArg || h != (api.Hash{}) {
		t.Errorf("Read(%q) = %x, %d, want noughts, %d", s, h, e, api.ErrArg)
	}
}

func TestReadLengths(t *testing.T) { // P3.3
	for size := range 200 {
		if size != 64 {
			checkNotRead(t, strings.Repeat("0", size))
			checkNotRead(t, strings.Repeat("f", size))
		}
	}
	whole := sha.Hex(sha.Sum("whole"))
	read(t, whole)
	checkNotRead(t, whole[:63])
	checkNotRead(t, whole[1:])
	checkNotRead(t, whole+"0")
	checkNotRead(t, "0"+whole)
	checkNotRead(t, whole+whole)
	checkNotRead(t, whole+"\n")
	checkNotRead(t, " "+whole[1:])
	checkNotRead(t, "0x"+whole)
	checkNotRead(t, "0x"+whole[2:])
	checkNotRead(t, strings.Repeat("1", 1<<20))
}

func TestReadNoDigits(t *testing.T) { // P3.3: each byte at each place of 64; great letters are no digits
	whole := sha.Hex(sha.Sum("whole"))
	for i := range 64 {
		for n := range 256 {
			b := []byte(whole)
			b[i] = byte(n)
			if strings.IndexByte("0123456789abcdef", byte(n)) >= 0 {
				if got := sha.Hex(read(t, string(b))); got != string(b) {
					t.Errorf("Hex(Read(%s)) = %s", b, got)
				}
				continue
			}
			checkNotRead(t, string(b))
		}
	}
	checkNotRead(t, strings.ToUpper(whole))
	checkNotRead(t, strings.Repeat("A", 64))
	checkNotRead(t, strings.Repeat("\u00e9", 32))
	checkNotRead(t, strings.Repeat("\x00", 64))
}

func TestBytes(t *testing.T) { // P3.3
	if got, want := sha.Bytes(api.Hash{}), strings.Repeat("\x00", 32); got != want {
		t.Errorf("Bytes of noughts = % x", got)
	}
	if got, want := sha.Bytes(api.Hash{0: 0xff, 1: 0x80, 31: 7}), "\xff\x80"+strings.Repeat("\x00", 29)+"\x07"; got != want {
		t.Errorf("Bytes = % x, want % x", got, want)
	}
	if got := sha.Bytes(sha.Sum("abc")); fmt.Sprintf("%x", got) != "ba7816bf8f01cfea414140de5dae2223b00361a396177a9cb410ff61f20015ad" {
		t.Errorf("Bytes(Sum(abc)) = %x", got)
	}
}

// rows are rows of texts that are hard to tell apart, if only their bytes are put behind one another, or only their lengths.
func rows() [][]string {
	texts := []string{"", "a", "b", "ab", "\x00", "\x01", "\x01a", "\x00\x00", "\x01a\x01b", strings.Repeat("a", 127), strings.Repeat("a", 128)}
	var l [][]string
	for _, tag := range texts {
		l = append(l, []string{tag})
		for _, p := range texts {
			l = append(l, []string{tag, p})
			for _, q := range texts {
				l = append(l, []string{tag, p, q})
			}
		}
	}
	return l
}

func TestRowsApart(t *testing.T) { // P3.4
	seen := map[api.Hash][]string{}
	for _, r := range rows() {
		h := sha.Of(r[0], r[1:]...)
		if other, there := seen[h]; there {
			t.Errorf("Of %q and of %q are the same", r, other)
		}
		seen[h] = r
		if again := sha.Of(r[0], r[1:]...); again != h {
			t.Errorf("Of %q twice: %x, %x", r, h, again)
		}
	}
}

func TestRowsByTheirBytes(t *testing.T) { // P3.4: the sum hangs on the told texts alone, which only one row has
	seen := map[string]bool{}
	for _, r := range rows() {
		s := row(r[0], r[1:]...)
		if seen[s] {
			t.Errorf("two rows have the bytes % x", s)
		}
		seen[s] = true
		if got, want := sha.Of(r[0], r[1:]...), sha.Sum(s); got != want {
			t.Errorf("Of %q = %x, want %x", r, got, want)
		}
	}
}

func TestReadOfHex(t *testing.T) { // P3.4
	hashes := []api.Hash{{}, {31: 1}, {0: 255}}
	for size := range 300 {
		hashes = append(hashes, sha.Sum(some(size)))
	}
	for _, h := range hashes {
		s := sha.Hex(h)
		if len(s) != 64 {
			t.Errorf("Hex(%x) has %d digits", h, len(s))
		}
		if got := read(t, s); got != h {
			t.Errorf("Read(Hex(%x)) = %x", h, got)
		}
	}
}
