package frame_test

import (
	"encoding/binary"
	"hash/crc32"
	"math"
	"math/rand"
	"slices"
	"strconv"
	"strings"
	"sync"
	"testing"

	"mintage/api"
	"mintage/frame"
)

const (
	mostBytes = 65536 // bytes that a frame's text may have
	beside    = 9     // bytes that a frame has beside its text
)

// plainCheck is the check as the chapter's Words say it, bit by bit.
func plainCheck(s string) uint32 {
	n := uint32(0xffffffff)
	for _, b := range []byte(s) {
		n ^= uint32(b)
		for range 8 {
			out := n % 2
			n /= 2
			if out == 1 {
				n ^= 0x82f63b78
			}
		}
	}
	return 0xffffffff - n
}

// four are the four bytes of a number, the highest first.
func four(n uint32) string { return string(binary.BigEndian.AppendUint32(nil, n)) }

// built is what would be a frame, with a length that is told, whatever it is, and the check of that and the text.
func built(size uint32, text, last string) string {
	return four(size) + four(plainCheck(four(size)+text)) + text + last
}

// plainFrame is a text's frame.
func plainFrame(text string) string { return built(uint32(len(text)), text, "Z") }

// plainTake is what is taken, as P11.2 says it.
func plainTake(s string) (string, int, api.Errno) {
	if len(s) < 9 {
		return "", 0, 10
	}
	n := uint64(s[0])<<24 + uint64(s[1])<<16 + uint64(s[2])<<8 + uint64(s[3])
	switch {
	case n > 65536:
		return "", 0, 3
	case uint64(len(s)) < n+9:
		return "", 0, 10
	case s[n+8] != 'Z':
		return "", 0, 6
	case s[4:8] != four(plainCheck(s[:4]+s[8:n+8])):
		return "", 0, 110
	}
	return s[8 : n+8], int(n) + 9, 0
}

// plainScan is what is scanned, as P11.3 says it.
func plainScan(s string, most int) ([]string, int) {
	if most <= 0 {
		return nil, 0
	}
	text, n, e := plainTake(s)
	if e != api.OK {
		return nil, 0
	}
	others, size := plainScan(s[n:], most-1)
	return append([]string{text}, others...), n + size
}

// chances are texts of so many bytes from a row of chances that is always the same.
func chances(seed int64) func(size int) string {
	r := rand.New(rand.NewSource(seed))
	return func(size int) string {
		b := make([]byte, size)
		r.Read(b)
		return string(b)
	}
}

// texts are short ones and long ones, some of which look like frames, or like their ends.
func texts() []string {
	l := []string{
		"", "\x00", "Z", "\xff", "a", "123456789", "ZZZZ", "ZZZZZZZZZ", "\x00\x00\x00\x00", "\x00\x00\x00\x00\x00\x00\x00\x00\x00",
		strings.Repeat("\x00", 255), strings.Repeat("Z", 256), strings.Repeat("\xff", 257), plainFrame(""), plainFrame("a"), plainFrame("") + plainFrame("Z"),
		strings.Repeat("\x00", mostBytes), strings.Repeat("Z", mostBytes-1), strings.Repeat(plainFrame(""), mostBytes/beside),
	}
	next := chances(1)
	for size := range 70 {
		l = append(l, next(size))
	}
	for _, size := range []int{255, 256, 257, 4095, 4096, 65280, mostBytes - 2, mostBytes - 1, mostBytes} {
		l = append(l, next(size))
	}
	return l
}

// brief is how a text is told where a test fails: no more than its first bytes.
func brief(s string) string {
	return strconv.Itoa(len(s)) + " bytes " + strconv.Quote(s[:min(len(s), 40)])
}

// put is a text's frame, that of one which may be put.
func put(t *testing.T, s string) string {
	t.Helper()
	f, e := frame.Put(s)
	if e != api.OK {
		t.Fatalf("Put of %s: %d", brief(s), e)
	}
	return f
}

// takes fails unless this is taken.
func takes(t *testing.T, s, text string, size int, e api.Errno) {
	t.Helper()
	gotText, gotSize, got := frame.Take(s)
	if gotText != text || gotSize != size || got != e {
		t.Errorf("Take of %s: %s, %d, %d, want %s, %d, %d", brief(s), brief(gotText), gotSize, got, brief(text), size, e)
	}
}

// refuses fails unless nothing is taken, by this error, and Scan finds nothing.
func refuses(t *testing.T, s string, e api.Errno) {
	t.Helper()
	takes(t, s, "", 0, e)
	scans(t, s, math.MaxInt, nil)
}

// scans fails unless these texts are scanned, and so many bytes as their frames have.
func scans(t *testing.T, s string, most int, want []string) {
	t.Helper()
	size := 0
	for _, text := range want {
		size += len(text) + beside
	}
	got, n := frame.Scan(s, most)
	if !slices.Equal(got, want) || n != size {
		t.Errorf("Scan of %s, %d: %d texts, %d, want %d, %d", brief(s), most, len(got), n, len(want), size)
	}
}

// P11.1 to P11.3: the chapter's examples.
func TestExamples(t *testing.T) {
	if got := frame.Check(""); got != 0 {
		t.Errorf("Check of no bytes: %x", got)
	}
	if got := frame.Check("123456789"); got != 0xe3069283 {
		t.Errorf("Check(123456789): %x", got)
	}
	if got := put(t, ""); len(got) != 9 {
		t.Errorf("Put of no bytes: %q", got)
	}
	takes(t, "Z\x00\x00Z\x00\x00\x00Z", "", 0, api.ErrShort)
	takes(t, strings.Repeat("\x00", 8), "", 0, api.ErrShort)
	takes(t, strings.Repeat("\x00", 9), "", 0, api.ErrBytes)
	s := put(t, "a") + put(t, "b") + "c"
	if got, size := frame.Scan(s, 9); !slices.Equal(got, []string{"a", "b"}) || size != 20 {
		t.Errorf("Scan(.., 9): %q, %d", got, size)
	}
	if got, size := frame.Scan(s, 1); !slices.Equal(got, []string{"a"}) || size != 10 {
		t.Errorf("Scan(.., 1): %q, %d", got, size)
	}
}

// P11.1: what RFC 3720 shows, with the bytes of its checks as a number.
func TestCheckOfRFC(t *testing.T) {
	var rising, falling []byte
	for i := range byte(32) {
		rising, falling = append(rising, i), append(falling, 31-i)
	}
	read := "\x01\xc0\x00\x00\x00\x00\x00\x00\x00\x00\x00\x00\x00\x00\x00\x00\x14\x00\x00\x00\x00\x00\x04\x00\x00\x00\x00\x14\x00\x00\x00\x18\x28\x00\x00\x00\x00\x00\x00\x00\x02\x00\x00\x00\x00\x00\x00\x00"
	for _, c := range []struct {
		s    string
		want uint32
	}{
		{strings.Repeat("\x00", 32), 0x8a9136aa},
		{strings.Repeat("\xff", 32), 0x62a8ab43},
		{string(rising), 0x46dd794e},
		{string(falling), 0x113fdb5c},
		{read, 0xd9963a56},
	} {
		if got := frame.Check(c.s); got != c.want {
			t.Errorf("Check(%q): %x, want %x", c.s, got, c.want)
		}
	}
}

// P11.1: texts of all kinds, of one byte and of two all that there are.
func TestCheck(t *testing.T) {
	l := texts()
	for a := range 256 {
		l = append(l, string([]byte{byte(a)}))
		for b := range 256 {
			l = append(l, string([]byte{byte(a), byte(b)}))
		}
	}
	castagnoli := crc32.MakeTable(crc32.Castagnoli)
	for _, s := range l {
		got := frame.Check(s)
		if want := plainCheck(s); got != want {
			t.Fatalf("Check of %s: %x, want %x", brief(s), got, want)
		}
		if want := crc32.Checksum([]byte(s), castagnoli); got != want {
			t.Fatalf("Check of %s: %x, but %x by the library", brief(s), got, want)
		}
	}
}

// P11.1: Check has no limit of its own.
func TestCheckOfLong(t *testing.T) {
	s := chances(2)(1<<22 + 3)
	if got, want := frame.Check(s), plainCheck(s); got != want {
		t.Errorf("Check of %s: %x, want %x", brief(s), got, want)
	}
}

// P11.1: a frame's bytes, written out.
func TestPutWrittenOut(t *testing.T) {
	for text, want := range map[string]string{
		"":          "\x00\x00\x00\x00\x48\x67\x4b\xc7\x5a",
		"123456789": "\x00\x00\x00\x09\x69\x34\xcf\x6f123456789\x5a",
	} {
		if got := put(t, text); got != want {
			t.Errorf("Put(%q): % x, want % x", text, got, want)
		}
	}
}

// P11.1: frames of texts of all kinds; one of MaxFrame bytes is put, a longer one is not.
func TestPut(t *testing.T) {
	for _, s := range texts() {
		if got, want := put(t, s), plainFrame(s); got != want {
			t.Errorf("Put of %s: %s, want %s", brief(s), brief(got), brief(want))
		}
	}
	for _, size := range []int{mostBytes + 1, mostBytes + 2, mostBytes + 256, 2 * mostBytes, 1<<24 + 1} {
		if got, e := frame.Put(strings.Repeat("a", size)); got != "" || e != api.ErrLong {
			t.Errorf("Put of %d bytes: %s, %d", size, brief(got), e)
		}
	}
}

// P11.2: texts that are too short for any frame, whatever they tell.
func TestTakeShort(t *testing.T) {
	for _, b := range []string{"\x00", "\x01", "Z", "\xff"} {
		for size := range 9 {
			refuses(t, strings.Repeat(b, size), api.ErrShort)
		}
	}
	for size := range 9 {
		refuses(t, plainFrame("")[:size], api.ErrShort)
		refuses(t, plainFrame("abc")[:size], api.ErrShort)
		refuses(t, four(mostBytes + 1)[:min(size, 4)], api.ErrShort)
	}
}

// P11.2: a length of MaxFrame is one; one above it is none, whether the text is long enough for it or not.
func TestTakeLong(t *testing.T) {
	whole := chances(3)(mostBytes)
	takes(t, built(mostBytes, whole, "Z"), whole, mostBytes+beside, api.OK)
	for _, n := range []uint32{mostBytes + 1, mostBytes + 2, mostBytes + 256, 2 * mostBytes} {
		text := strings.Repeat("a", int(n))
		for _, last := range []string{"Z", "a", ""} {
			refuses(t, built(n, text, last), api.ErrLong)
		}
		refuses(t, built(n, text[:int(n)-1], ""), api.ErrLong)
		refuses(t, built(n, "", "Z"), api.ErrLong)
	}
	for _, n := range []uint32{1 << 24, 1<<24 + 1, 1<<31 - 1, 1 << 31, 1<<31 + 1, math.MaxUint32 - 9, math.MaxUint32 - 8, math.MaxUint32} {
		refuses(t, built(n, "", "Z"), api.ErrLong)
		refuses(t, built(n, "a", "Z"), api.ErrLong)
		refuses(t, built(n, whole, "Z"), api.ErrLong)
	}
}

// P11.2: a text that ends ahead of its frame's end, by one byte and by more.
func TestTakeEndsEarly(t *testing.T) {
	for _, s := range texts() {
		f := plainFrame(s)
		for _, size := range []int{len(f) - 1, len(f) - 2, len(f) / 2, 9, 8} {
			if size < len(f) {
				refuses(t, f[:size], api.ErrShort)
			}
		}
	}
	refuses(t, built(1, "", "Z"), api.ErrShort)
	refuses(t, built(mostBytes, strings.Repeat("Z", mostBytes-1), "Z"), api.ErrShort)
}

// P11.2: each last byte but 5a is none, though the check is right; and though it is not.
func TestTakeLastByte(t *testing.T) {
	for _, s := range []string{"", "a", "ZZ", chances(4)(300), strings.Repeat("Z", mostBytes)} {
		for b := range 256 {
			f := built(uint32(len(s)), s, string([]byte{byte(b)}))
			spoilt := f[:4] + "none" + f[8:]
			if b == 0x5a {
				takes(t, f, s, len(f), api.OK)
				takes(t, spoilt, "", 0, api.ErrSum)
				continue
			}
			takes(t, f, "", 0, api.ErrBytes)
			takes(t, f+"Z", "", 0, api.ErrBytes)
			takes(t, spoilt, "", 0, api.ErrBytes)
		}
	}
}

// P11.2: a check of which any bit is another one, and checks of the text alone, or told the other way round.
func TestTakeCheck(t *testing.T) {
	for _, s := range []string{"", "a", "abc", chances(5)(300)} {
		size := four(uint32(len(s)))
		right := plainCheck(size + s)
		for bit := range 32 {
			refuses(t, size+four(right^1<<bit)+s+"Z", api.ErrSum)
		}
		turned := binary.LittleEndian.AppendUint32(nil, right)
		for _, wrong := range []string{four(plainCheck(s)), four(plainCheck(s + size)), four(plainCheck(size)), four(^right), string(turned)} {
			if wrong != four(right) {
				refuses(t, size+wrong+s+"Z", api.ErrSum)
			}
		}
	}
}

// P11.2, R2: of several errors the one that is named first.
func TestTakeOrder(t *testing.T) {
	for _, c := range []struct {
		what, s string
		e       api.Errno
	}{
		{"fewer than nine bytes, too long a length", four(mostBytes+1) + "none", api.ErrShort},
		{"fewer than nine bytes, of a longer frame", built(1, "", ""), api.ErrShort},
		{"fewer than nine bytes, another check", four(0) + "none", api.ErrShort},
		{"too long a length, the text ends early", four(mostBytes+1) + "noneZ", api.ErrLong},
		{"too long a length, another last byte", built(mostBytes+1, strings.Repeat("a", mostBytes+1), "a"), api.ErrLong},
		{"too long a length, another check", four(mostBytes+1) + "none" + strings.Repeat("a", mostBytes+1) + "Z", api.ErrLong},
		{"the text ends early, another last byte, another check", four(5) + "noneabcde", api.ErrShort},
		{"the text ends early, with 5a, another check", four(5) + "noneabcdZ", api.ErrShort},
		{"another last byte, another check", four(5) + "noneabcdea", api.ErrBytes},
		{"another check", four(5) + "noneabcdeZ", api.ErrSum},
	} {
		if _, _, e := frame.Take(c.s); e != c.e {
			t.Errorf("%s: %d, want %d", c.what, e, c.e)
		}
		refuses(t, c.s, c.e)
	}
}

// P11.2: the lengths of all that is taken, told by the first four bytes alone.
func TestTakeEachLength(t *testing.T) {
	long := chances(6)(mostBytes + 64)
	for _, n := range []int{0, 1, 2, 9, 127, 128, 255, 256, 257, 511, 512, 4096, 32767, 32768, 65279, 65280, 65535, 65536} {
		f := built(uint32(n), long[:n], "Z")
		takes(t, f, long[:n], n+9, api.OK)
		takes(t, f+long, long[:n], n+9, api.OK)
	}
}

// P11.2, P11.3, R1: bytes of all kinds, many of them nearly frames: Take and Scan answer what the chapter says.
func TestTakeAndScanOfChances(t *testing.T) {
	r, next := rand.New(rand.NewSource(7)), chances(8)
	some := func() string {
		text := next(r.Intn(12))
		switch r.Intn(8) {
		case 0:
			return text
		case 1:
			return strings.Repeat("\x00", r.Intn(12))
		case 2:
			return built(uint32(r.Intn(14)), text, "Z")
		case 3:
			return built(uint32(len(text)), text, next(1))
		}
		return plainFrame(text)
	}
	for range 60000 {
		var s string
		for range r.Intn(6) {
			s += some()
		}
		if s != "" && r.Intn(3) == 0 {
			at := r.Intn(len(s))
			s = s[:at] + next(1) + s[at+1:]
		}
		s = s[:len(s)-r.Intn(2)*r.Intn(len(s)+1)]
		text, size, e := plainTake(s)
		takes(t, s, text, size, e)
		most := r.Intn(7) - 1
		l, n := frame.Scan(s, most)
		if want, size := plainScan(s, most); !slices.Equal(l, want) || n != size {
			t.Fatalf("Scan(%q, %d): %q, %d, want %q, %d", s, most, l, n, want, size)
		}
	}
}

// P11.3: most below 0, 0, 1, fewer than there are, as many, more.
func TestScanMost(t *testing.T) {
	l := []string{"a", "", "Z", plainFrame("b"), "", strings.Repeat("c", 300)}
	var s string
	for _, text := range l {
		s += plainFrame(text)
	}
	for _, behind := range []string{"", "Z", "\x00", strings.Repeat("\x00", 100), "no frame stands here", plainFrame("d")[:9]} {
		for _, most := range []int{math.MinInt, math.MinInt32, -2, -1, 0} {
			scans(t, s+behind, most, nil)
		}
		for most := range len(l) {
			scans(t, s+behind, most, l[:most])
		}
		for _, most := range []int{len(l), len(l) + 1, math.MaxInt32, math.MaxInt} {
			scans(t, s+behind, most, l)
		}
	}
}

// P11.3: where nothing is found there is nothing, whatever most is.
func TestScanNothing(t *testing.T) {
	for _, s := range []string{"", "Z", "abc", strings.Repeat("\x00", 100), strings.Repeat("Z", 100), "a" + plainFrame("a")} {
		for _, most := range []int{math.MinInt, -1, 0, 1, 9, math.MaxInt} {
			scans(t, s, most, nil)
		}
	}
}

// P11.3: what Take refuses ends a Scan, by whichever error, though whole frames stand behind it; and what the ones ahead hold stays.
func TestScanEnds(t *testing.T) {
	ahead, behind := plainFrame("a")+plainFrame("")+plainFrame("bc"), plainFrame("d")+plainFrame("e")
	want := []string{"a", "", "bc"}
	for _, between := range []struct {
		s string
		e api.Errno
	}{
		{"\x00", api.ErrBytes},
		{strings.Repeat("\x00", 9), api.ErrBytes},
		{"Z", api.ErrLong},
		{"no frame", api.ErrLong},
		{built(mostBytes+1, "", "Z"), api.ErrLong},
		{built(300, "", "Z"), api.ErrShort},
		{plainFrame("c")[:9] + "z", api.ErrBytes},
		{plainFrame("c")[:9], api.ErrBytes},
		{four(1) + "nonecZ", api.ErrSum},
	} {
		takes(t, between.s+behind, "", 0, between.e)
		for _, most := range []int{3, 4, 5, math.MaxInt} {
			scans(t, ahead+between.s+behind, most, want)
		}
		scans(t, ahead+between.s+behind, 2, want[:2])
	}
}

// P11.3: frames of no bytes, one behind the other, and many of them.
func TestScanOfEmpty(t *testing.T) {
	for _, many := range []int{1, 2, 3, 64, 10000} {
		s := strings.Repeat(plainFrame(""), many)
		for _, most := range []int{1, many - 1, many, many + 1, math.MaxInt} {
			scans(t, s, most, make([]string, min(most, many)))
			scans(t, s+"\x00", most, make([]string, min(most, many)))
		}
	}
}

// P11.3: texts of MaxFrame bytes, as many as a file has.
func TestScanOfLong(t *testing.T) {
	next := chances(9)
	var l []string
	var s string
	for range 8 {
		l = append(l, next(mostBytes))
		s += put(t, l[len(l)-1])
	}
	scans(t, s, 8, l)
	scans(t, s, 7, l[:7])
	scans(t, s[:len(s)-1], 8, l[:7])
}

// P11.4: what is put is taken as it was, whatever stands behind it, and scanned as it was among others.
func TestThereAndBack(t *testing.T) {
	var all string
	for _, s := range texts() {
		f := put(t, s)
		for _, behind := range []string{"", "\x00", "Z", "\xff", strings.Repeat("\x00", 20), f, plainFrame("a"), s} {
			takes(t, f+behind, s, len(f), api.OK)
		}
		all += f
	}
	scans(t, all, math.MaxInt, texts())
}

// P11.4: each text of one byte and of two, with each byte behind it.
func TestThereAndBackOfShort(t *testing.T) {
	for a := range 256 {
		for b := range 256 {
			one, two := string([]byte{byte(a)}), string([]byte{byte(a), byte(b)})
			takes(t, put(t, one)+string([]byte{byte(b)}), one, 10, api.OK)
			takes(t, put(t, two), two, 11, api.OK)
		}
	}
}

// P11.5: of each beginning of a frame, with bytes 0 behind it up to the frame's end and beyond, nothing is taken, ahead of which frames stand or not.
func TestTorn(t *testing.T) {
	ahead := []string{"a", ""}
	row := plainFrame("a") + plainFrame("")
	noughts := strings.Repeat("\x00", 400)
	for _, s := range texts() {
		if len(s) > 300 {
			continue
		}
		f := put(t, s)
		for size := range len(f) {
			for many := range len(f) - size + 12 {
				torn := f[:size] + noughts[:many]
				if text, n, e := frame.Take(torn); text != "" || n != 0 || e == api.OK {
					t.Fatalf("Take of the first %d bytes of the frame of %s, and %d bytes 0: %s, %d, %d", size, brief(s), many, brief(text), n, e)
				}
			}
			for _, many := range []int{0, 1, len(f) - size, 300} {
				scans(t, row+f[:size]+noughts[:many], math.MaxInt, ahead)
			}
		}
	}
}

// P11.5: of long texts, whose lengths have several bytes, and with many bytes 0.
func TestTornOfLong(t *testing.T) {
	noughts := strings.Repeat("\x00", 2*mostBytes)
	for _, s := range texts() {
		if len(s) <= 300 {
			continue
		}
		f := put(t, s)
		for _, size := range []int{0, 1, 2, 3, 4, 5, 6, 7, 8, 9, len(f) / 2, len(f) - 10, len(f) - 2, len(f) - 1} {
			for _, many := range []int{0, 1, 8, 9, 265, len(f) - size - 1, len(f) - size, len(f) - size + 1, 2 * mostBytes} {
				torn := f[:size] + noughts[:many]
				if text, n, e := frame.Take(torn); text != "" || n != 0 || e == api.OK {
					t.Fatalf("Take of the first %d bytes of the frame of %s, and %d bytes 0: %s, %d, %d", size, brief(s), many, brief(text), n, e)
				}
				scans(t, plainFrame("a")+torn, math.MaxInt, []string{"a"})
			}
		}
	}
}

// otherwise is a text to which up to four bytes were added, bit by bit without carrying, from a place on.
func otherwise(s string, at int, by [4]byte) string {
	b := []byte(s)
	for i, x := range by {
		if at+i < len(b) {
			b[at+i] ^= x
		}
	}
	return string(b)
}

// P11.6: texts of one length that are otherwise within four bytes have unlike checks: by one byte or two all that there are, by four many.
func TestUnlikeChecks(t *testing.T) {
	r, next := rand.New(rand.NewSource(10)), chances(11)
	for _, size := range []int{1, 2, 3, 4, 5, 8, 9, 33} {
		s := next(size)
		is := frame.Check(s)
		unlike := func(at int, by [4]byte) {
			if other := otherwise(s, at, by); other != s && frame.Check(other) == is {
				t.Fatalf("Check of %q and of %q: %x", s, other, is)
			}
		}
		for at := range size {
			for n := 1; n < 1<<16; n++ {
				unlike(at, [4]byte{byte(n), byte(n >> 8)})
			}
			for range 5000 {
				n := r.Uint32()
				unlike(at, [4]byte{byte(n), byte(n >> 8), byte(n >> 16), byte(n >> 24)})
				unlike(at, [4]byte{byte(n), 0, 0, byte(n >> 24)})
			}
			for i := range 32 {
				for j := range i + 1 {
					n := uint32(1)<<i | uint32(1)<<j
					unlike(at, [4]byte{byte(n), byte(n >> 8), byte(n >> 16), byte(n >> 24)})
				}
			}
		}
	}
}

// P11.6: a byte of a long text is another one.
func TestUnlikeChecksOfLong(t *testing.T) {
	r := rand.New(rand.NewSource(12))
	for _, s := range []string{chances(13)(mostBytes), strings.Repeat("\x00", mostBytes), strings.Repeat("Z", 4096)} {
		is := frame.Check(s)
		for range 40 {
			at, by := r.Intn(len(s)), byte(1+r.Intn(255))
			if frame.Check(otherwise(s, at, [4]byte{by})) == is {
				t.Errorf("Check of %s and of one whose byte %d is another one: %x", brief(s), at, is)
			}
		}
	}
}

// P11.6: a frame of whose text a byte is another one, or four bytes are, is refused, whatever it is.
func TestSpoilt(t *testing.T) {
	r := rand.New(rand.NewSource(14))
	for _, s := range texts() {
		if len(s) > 300 {
			continue
		}
		f := put(t, s)
		for at := range len(s) {
			for by := 1; by < 256; by++ {
				takes(t, otherwise(f, 8+at, [4]byte{byte(by)}), "", 0, api.ErrSum)
			}
			n := r.Uint32() | 1
			spoilt := otherwise(s, at, [4]byte{byte(n), byte(n >> 8), byte(n >> 16), byte(n >> 24)})
			refuses(t, f[:8]+spoilt+"Z", api.ErrSum)
		}
	}
}

// P11.2: each byte of a frame is another one, those of its numbers too: what the chapter says of it, and never the text.
func TestSpoiltAnywhere(t *testing.T) {
	for _, s := range []string{"", "a", "abcdefgh", plainFrame("a"), chances(15)(40)} {
		for _, behind := range []string{"", strings.Repeat("Z", 300)} {
			f := put(t, s) + behind
			for at := range len(s) + 9 {
				for by := 1; by < 256; by++ {
					spoilt := otherwise(f, at, [4]byte{byte(by)})
					text, size, e := plainTake(spoilt)
					if e == api.OK {
						t.Fatalf("%q is taken", spoilt)
					}
					takes(t, spoilt, text, size, e)
				}
			}
		}
	}
}

// R3, LANGUAGE 7: what is scanned stays as it is when what was handed in, or another answer, is done with.
func TestScannedStays(t *testing.T) {
	s := plainFrame("a") + plainFrame("b") + plainFrame("c")
	first, _ := frame.Scan(s, 2)
	second, _ := frame.Scan(s, 3)
	first = append(first, "d")
	second[0] = "e"
	if !slices.Equal(first, []string{"a", "b", "d"}) || !slices.Equal(second, []string{"e", "b", "c"}) {
		t.Errorf("the lists have become %q and %q", first, second)
	}
	scans(t, s, 9, []string{"a", "b", "c"})
}

// R5: calls come to the same again, and beside others.
func TestAtOneTime(t *testing.T) {
	var wait sync.WaitGroup
	for i := range 8 {
		wait.Go(func() {
			s := strings.Repeat(strconv.Itoa(i), 100*i)
			want := plainFrame(s)
			for range 50 {
				if got, e := frame.Put(s); got != want || e != api.OK {
					t.Errorf("Put of %s beside others: %s, %d", brief(s), brief(got), e)
				}
				takes(t, want, s, len(want), api.OK)
				scans(t, want+want, 2, []string{s, s})
				if frame.Check(s) != plainCheck(s) {
					t.Errorf("Check of %s beside others", brief(s))
				}
			}
		})
	}
	wait.Wait()
}
