package digit_test

import (
	"encoding/binary"
	"math"
	"math/rand"
	"strings"
	"testing"

	"mintage/api"
	"mintage/digit"
)

const greatest = math.MaxUint64

// numbers are those around every power of two, and some from a fixed row of chances.
func numbers() []uint64 {
	l := []uint64{0, 1, 2, 127, 128, 129, 255, 256, 300, 16383, 16384, greatest - 1, greatest}
	for i := range 64 {
		p := uint64(1) << i
		l = append(l, p-1, p, p+1, ^p)
	}
	r := rand.New(rand.NewSource(1))
	for range 500 {
		l = append(l, r.Uint64()>>r.Intn(64))
	}
	return l
}

// short tells the short form by the words of the chapter, by division alone.
func short(n uint64) string {
	if n < 128 {
		return string([]byte{byte(n)})
	}
	return string([]byte{byte(n%128 + 128)}) + short(n/128)
}

func TestPutExamples(t *testing.T) { // P1.1
	for _, c := range []struct {
		n    uint64
		want string
	}{
		{0, "\x00"},
		{1, "\x01"},
		{127, "\x7f"},
		{128, "\x80\x01"},
		{300, "\xac\x02"},
		{16383, "\xff\x7f"},
		{16384, "\x80\x80\x01"},
		{1<<63 - 1, "\xff\xff\xff\xff\xff\xff\xff\xff\x7f"},
		{1 << 63, "\x80\x80\x80\x80\x80\x80\x80\x80\x80\x01"},
		{greatest, "\xff\xff\xff\xff\xff\xff\xff\xff\xff\x01"},
	} {
		if got := digit.Put(c.n); got != c.want {
			t.Errorf("Put(%d) = % x, want % x", c.n, got, c.want)
		}
		if got := digit.Size(c.n); got != len(c.want) {
			t.Errorf("Size(%d) = %d, want %d", c.n, got, len(c.want))
		}
	}
}

func TestPutAndSize(t *testing.T) { // P1.1
	for _, n := range numbers() {
		want := short(n)
		if got := digit.Put(n); got != want {
			t.Errorf("Put(%d) = % x, want % x", n, got, want)
		}
		if got := digit.Size(n); got != len(want) {
			t.Errorf("Size(%d) = %d, want %d", n, got, len(want))
		}
	}
}

func TestSizeEdges(t *testing.T) { // P1.1
	for k := 1; k <= 9; k++ {
		first := uint64(1) << (7 * k)
		if got := digit.Size(first - 1); got != k {
			t.Errorf("Size(2^%d - 1) = %d, want %d", 7*k, got, k)
		}
		if got := digit.Size(first); got != k+1 {
			t.Errorf("Size(2^%d) = %d, want %d", 7*k, got, k+1)
		}
	}
}

func checkTake(t *testing.T, s string, n uint64, size int, e api.Errno) {
	t.Helper()
	gotN, gotSize, gotE := digit.Take(s)
	if gotN != n || gotSize != size || gotE != e {
		t.Errorf("Take(% x) = %d, %d, %d, want %d, %d, %d", s, gotN, gotSize, gotE, n, size, e)
	}
}

func TestTakeExamples(t *testing.T) { // P1.2
	checkTake(t, "\xac\x02\x07", 300, 2, api.OK)
	checkTake(t, "\x00", 0, 1, api.OK)
	checkTake(t, "\x7f", 127, 1, api.OK)
	checkTake(t, "\x80\x01", 128, 2, api.OK)
	checkTake(t, strings.Repeat("\xff", 9)+"\x01", greatest, 10, api.OK)
	checkTake(t, strings.Repeat("\x80", 9)+"\x01", 1<<63, 10, api.OK)
	checkTake(t, "\x80", 0, 0, api.ErrShort)
	checkTake(t, "\x80\x00", 0, 0, api.ErrBytes)
	checkTake(t, strings.Repeat("\xff", 9)+"\x02", 0, 0, api.ErrBytes)
}

func TestTakeTooEarly(t *testing.T) { // P1.2: each true beginning of a short form
	checkTake(t, "", 0, 0, api.ErrShort)
	for _, n := range numbers() {
		s := short(n)
		for size := range len(s) {
			checkTake(t, s[:size], 0, 0, api.ErrShort)
		}
	}
}

func TestTakeTooLong(t *testing.T) { // P1.2: zeros put behind a short form, alone and with others behind them
	for _, n := range numbers() {
		s := []byte(short(n))
		s[len(s)-1] |= 128
		for zeros := range 10 {
			long := string(s) + strings.Repeat("\x80", zeros) + "\x00"
			checkTake(t, long, 0, 0, api.ErrBytes)
			checkTake(t, long+"\x01", 0, 0, api.ErrBytes)
		}
	}
}

func TestTakeTenthByte(t *testing.T) { // P1.2: only 1 fits there
	for _, nine := range []string{strings.Repeat("\x80", 9), strings.Repeat("\xff", 9), strings.Repeat("\xac", 9)} {
		checkTake(t, nine, 0, 0, api.ErrShort)
		for last := range 256 {
			s := nine + string([]byte{byte(last)})
			if last == 1 {
				n, size, e := digit.Take(s)
				if short(n) != s || size != 10 || e != api.OK {
					t.Errorf("Take(% x) = %d, %d, %d", s, n, size, e)
				}
				continue
			}
			checkTake(t, s, 0, 0, api.ErrBytes)
			checkTake(t, s+"\x00", 0, 0, api.ErrBytes)
			checkTake(t, s+"\x01", 0, 0, api.ErrBytes)
		}
	}
	checkTake(t, strings.Repeat("\xff", 1000), 0, 0, api.ErrBytes)
}

func TestTakeOfAllShortTexts(t *testing.T) { // P1.2: all texts of two bytes, and what may stand behind them
	for a := range 256 {
		for b := range 256 {
			for _, behind := range []string{"", "\x00", "\x05", "\x80", "\xff\x00"} {
				s := string([]byte{byte(a), byte(b)}) + behind
				n, size, e := told(s)
				checkTake(t, s, n, size, e)
			}
		}
	}
}

// told answers as Take does: it seeks the end of the short form, adds up its bytes, and holds the sum's short form against them.
func told(s string) (uint64, int, api.Errno) {
	end := 0
	for end < len(s) && s[end] >= 128 {
		end++
	}
	if end == len(s) && end < 10 {
		return 0, 0, api.ErrShort
	}
	if end >= 10 {
		return 0, 0, api.ErrBytes
	}
	var n uint64
	for i := end; i >= 0; i-- {
		n = n*128 + uint64(s[i])%128
	}
	if short(n) != s[:end+1] {
		return 0, 0, api.ErrBytes
	}
	return n, end + 1, api.OK
}

func TestEight(t *testing.T) { // P1.3
	if got := digit.Eight(258); got != "\x00\x00\x00\x00\x00\x00\x01\x02" {
		t.Errorf("Eight(258) = % x", got)
	}
	if got := digit.Eight(0x0102030405060708); got != "\x01\x02\x03\x04\x05\x06\x07\x08" {
		t.Errorf("Eight(0x0102030405060708) = % x", got)
	}
	for _, n := range numbers() {
		want := string(binary.BigEndian.AppendUint64(nil, n))
		if got := digit.Eight(n); got != want {
			t.Errorf("Eight(%d) = % x, want % x", n, got, want)
		}
		for _, behind := range []string{"", "\x00", "z", want} {
			if got, e := digit.TakeEight(want + behind); got != n || e != api.OK {
				t.Errorf("TakeEight(% x) = %d, %d, want %d", want+behind, got, e, n)
			}
		}
	}
}

func TestTakeEightTooEarly(t *testing.T) { // P1.3
	for size := range 8 {
		for _, c := range []string{"\x00", "\x01", "\xff"} {
			s := strings.Repeat(c, size)
			if n, e := digit.TakeEight(s); n != 0 || e != api.ErrShort {
				t.Errorf("TakeEight(% x) = %d, %d, want 0, ErrShort", s, n, e)
			}
		}
	}
}

func TestPutText(t *testing.T) { // P1.4
	for s, want := range map[string]string{
		"":                          "\x00",
		"ab":                        "\x02ab",
		"\x00":                      "\x01\x00",
		"\xff\xfe":                  "\x02\xff\xfe",
		"é":                         "\x02é", // bytes, not runes, are counted
		strings.Repeat("a", 127):    "\x7f" + strings.Repeat("a", 127),
		strings.Repeat("b", 128):    "\x80\x01" + strings.Repeat("b", 128),
		strings.Repeat("c", 300):    "\xac\x02" + strings.Repeat("c", 300),
		strings.Repeat("d", 1<<16):  "\x80\x80\x04" + strings.Repeat("d", 1<<16),
		strings.Repeat("\x80", 200): "\xc8\x01" + strings.Repeat("\x80", 200),
	} {
		if got := digit.PutText(s); got != want {
			t.Errorf("PutText of %d bytes: % x..", len(s), got[:min(len(got), 8)])
		}
	}
}

func TestTakeText(t *testing.T) { // P1.4
	for _, c := range []struct {
		name, s string
		most    int
		text    string
		size    int
		e       api.Errno
	}{
		{"the chapter's text", "\x02abc", 5, "ab", 3, api.OK},
		{"the chapter's limit", "\x02ab", 1, "", 0, api.ErrLong},
		{"the chapter's short one", "\x03a", 9, "", 0, api.ErrShort},
		{"just as long as may be", "\x02ab", 2, "ab", 3, api.OK},
		{"no bytes at all", "", 9, "", 0, api.ErrShort},
		{"an empty text", "\x00", 0, "", 1, api.OK},
		{"an empty text with more behind it", "\x00ab", 0, "", 1, api.OK},
		{"one byte where none may be", "\x01a", 0, "", 0, api.ErrLong},
		{"most below 0, an empty text", "\x00", -1, "", 0, api.ErrLong},
		{"most below 0, a text", "\x02ab", -1, "", 0, api.ErrLong},
		{"most far below 0", "\x02ab", math.MinInt, "", 0, api.ErrLong},
		{"most far above", "\x02abc", math.MaxInt, "ab", 3, api.OK},
		{"the number ends too early", "\x80", 9, "", 0, api.ErrShort},
		{"the number has a second form", "\x80\x00ab", 9, "", 0, api.ErrBytes},
		{"the number ends too early, most below 0", "\x80", -1, "", 0, api.ErrShort},
		{"the number has a second form, most below 0", "\x80\x00", -1, "", 0, api.ErrBytes},
		{"too long and too short", "\x03a", 2, "", 0, api.ErrLong},
		{"one byte is wanting", "\x03ab", 3, "", 0, api.ErrShort},
		{"no byte is there", "\x01", 1, "", 0, api.ErrShort},
		{"the greatest number", digit.Put(greatest) + "ab", math.MaxInt, "", 0, api.ErrLong},
		{"the greatest number, most below 0", digit.Put(greatest) + "ab", -1, "", 0, api.ErrLong},
		{"one above all that most may be", digit.Put(1<<63) + "ab", math.MaxInt, "", 0, api.ErrLong},
		{"all that most may be", digit.Put(1<<63-1) + "ab", math.MaxInt, "", 0, api.ErrShort},
		{"a sum that would run over", digit.Put(1<<63-9) + "abcdefghi", math.MaxInt, "", 0, api.ErrShort},
		{"a number of two bytes", "\x80\x01" + strings.Repeat("a", 129), 128, strings.Repeat("a", 128), 130, api.OK},
		{"a number of two bytes above the limit", "\x80\x01" + strings.Repeat("a", 128), 127, "", 0, api.ErrLong},
	} {
		text, size, e := digit.TakeText(c.s, c.most)
		if text != c.text || size != c.size || e != c.e {
			t.Errorf("%s: TakeText(% x, %d) = % x, %d, %d", c.name, c.s[:min(len(c.s), 12)], c.most, text, size, e)
		}
	}
}

func TestThereAndBack(t *testing.T) { // P1.5: numbers, whatever stands behind them
	for _, n := range numbers() {
		s := digit.Put(n)
		for _, behind := range []string{"", "\x00", "\x01", "\x7f", "\x80", "\xff", s, "text"} {
			checkTake(t, s+behind, n, len(s), api.OK)
			if m, e := digit.TakeEight(digit.Eight(n) + behind); m != n || e != api.OK {
				t.Errorf("TakeEight(Eight(%d) + % x) = %d, %d", n, behind, m, e)
			}
		}
	}
}

func TestTextsThereAndBack(t *testing.T) { // P1.5
	r := rand.New(rand.NewSource(2))
	for _, size := range []int{0, 1, 2, 126, 127, 128, 129, 300, 16383, 16384, 1 << 16} {
		b := make([]byte, size)
		r.Read(b)
		s := digit.PutText(string(b))
		for _, behind := range []string{"", "\x00", "\x80", "text"} {
			text, n, e := digit.TakeText(s+behind, size)
			if text != string(b) || n != len(s) || e != api.OK {
				t.Errorf("a text of %d bytes with % x behind it: %d bytes, %d, %d", size, behind, len(text), n, e)
			}
		}
	}
}

func TestBackAndThere(t *testing.T) { // P1.5: what is taken, from whatever bytes, is what is put for it
	r := rand.New(rand.NewSource(3))
	for range 200000 {
		s := chance(r)
		if n, size, e := digit.Take(s); e == api.OK && digit.Put(n) != s[:size] {
			t.Fatalf("Take(% x) = %d, but Put tells % x", s, n, digit.Put(n))
		}
		if n, e := digit.TakeEight(s); e == api.OK && digit.Eight(n) != s[:8] {
			t.Fatalf("TakeEight(% x) = %d, but Eight tells % x", s, n, digit.Eight(n))
		}
		if text, size, e := digit.TakeText(s, 9); e == api.OK && digit.PutText(text) != s[:size] {
			t.Fatalf("TakeText(% x) = % x, but PutText tells % x", s, text, digit.PutText(text))
		}
	}
}

// chance is some bytes of the kinds that short forms are made of, up to 12 of them.
func chance(r *rand.Rand) string {
	b := make([]byte, r.Intn(13))
	for i := range b {
		b[i] = []byte{0, 1, 2, 127, 128, 129, 255, byte(r.Intn(256)), 128 | byte(r.Intn(128))}[r.Intn(9)]
	}
	return string(b)
}

func TestAllBytesAreTakenAsTold(t *testing.T) { // P1.2, P1.5
	r := rand.New(rand.NewSource(4))
	for range 200000 {
		s := chance(r)
		n, size, e := told(s)
		checkTake(t, s, n, size, e)
	}
}

func TestNoShortFormBeginsAnother(t *testing.T) { // P1.5
	l := numbers()
	for _, a := range l {
		for _, b := range l {
			if a != b && strings.HasPrefix(digit.Put(b), digit.Put(a)) {
				t.Fatalf("the short form of %d begins that of %d", a, b)
			}
		}
	}
}

func TestOrder(t *testing.T) { // P1.6
	l := numbers()
	for _, a := range l {
		for _, b := range l {
			if a >= b {
				continue
			}
			if digit.Eight(a) >= digit.Eight(b) {
				t.Fatalf("the eight bytes of %d do not stand ahead of those of %d", a, b)
			}
			if len(digit.Put(a)) > len(digit.Put(b)) || digit.Size(a) > digit.Size(b) {
				t.Fatalf("the short form of %d has more bytes than that of %d", a, b)
			}
		}
	}
}
