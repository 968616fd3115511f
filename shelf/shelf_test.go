package shelf_test

import (
	"iter"
	"math"
	"math/bits"
	"math/rand"
	"slices"
	"strconv"
	"strings"
	"sync"
	"testing"
	"time"

	"mintage/shelf"
)

// thing is a number at a key.
type thing struct {
	key string
	n   int
}

// plain is a sorted list of things, which every call looks through from its beginning on. It is never written over.
type plain []thing

// String tells odd bytes as such.
func (l plain) String() string {
	var b strings.Builder
	for _, x := range l {
		b.WriteString(strconv.Quote(x.key) + ":" + strconv.Itoa(x.n) + " ")
	}
	return b.String()
}

func (l plain) ahead(key string) int {
	n := 0
	for n < len(l) && l[n].key < key {
		n++
	}
	return n
}

func (l plain) has(key string) bool {
	at := l.ahead(key)
	return at < len(l) && l[at].key == key
}

func (l plain) drop(key string) plain {
	at := l.ahead(key)
	if !l.has(key) {
		return l
	}
	return append(slices.Clone(l[:at]), l[at+1:]...)
}

func (l plain) put(key string, n int) plain {
	l = l.drop(key)
	at := l.ahead(key)
	return append(append(slices.Clone(l[:at]), thing{key, n}), l[at:]...)
}

func (l plain) get(key string) (int, bool) {
	if !l.has(key) {
		return 0, false
	}
	return l[l.ahead(key)].n, true
}

func (l plain) next(key string) (string, int, bool) {
	at := l.ahead(key)
	if at == len(l) {
		return "", 0, false
	}
	return l[at].key, l[at].n, true
}

type numbers = shelf.Shelf[int]

// told is what All tells.
func told(all iter.Seq2[string, int]) plain {
	var l plain
	for key, n := range all {
		l = append(l, thing{key, n})
	}
	return l
}

// around are keys beside a key: itself, longer and shorter ones, ones with another last byte, and no bytes.
func around(key string) []string {
	l := []string{key, "", key + "\x00", key + "\xff", key + key}
	if key != "" {
		short, last := key[:len(key)-1], key[len(key)-1]
		l = append(l, short, short+string([]byte{last - 1}), short+string([]byte{last + 1}), short+string([]byte{last - 1, 255, 255}))
	}
	return l
}

// check holds what a shelf tells of some keys against a plain list.
func check(t *testing.T, s numbers, l plain, keys ...string) {
	t.Helper()
	if s.Len() != len(l) {
		t.Fatalf("Len = %d, want %d", s.Len(), len(l))
	}
	for _, key := range keys {
		n, is := s.Get(key)
		if m, has := l.get(key); n != m || is != has {
			t.Fatalf("Get(%q) = %d, %t, want %d, %t", key, n, is, m, has)
		}
		at, n, is := s.Next(key)
		if next, m, has := l.next(key); at != next || n != m || is != has {
			t.Fatalf("Next(%q) = %q, %d, %t, want %q, %d, %t", key, at, n, is, next, m, has)
		}
	}
}

// checkWhole holds all that a shelf tells, of its own keys and of those beside them, against a plain list.
func checkWhole(t *testing.T, s numbers, l plain) {
	t.Helper()
	if got := told(s.All()); !slices.Equal(got, l) {
		t.Fatalf("All tells %v, want %v", got, l)
	}
	check(t, s, l, "", "\x00", "m", "\xff", "\xff\xff\xff\xff")
	for _, x := range l {
		check(t, s, l, around(x.key)...)
	}
}

func fromPlain(l plain) numbers {
	s := shelf.New[int]()
	for _, x := range l {
		s = s.Put(x.key, x.n)
	}
	return s
}

// orders are all orders of some keys.
func orders(keys []string) [][]string {
	if len(keys) == 0 {
		return [][]string{nil}
	}
	var l [][]string
	for i, first := range keys {
		rest := append(slices.Clone(keys[:i]), keys[i+1:]...)
		for _, order := range orders(rest) {
			l = append(l, append([]string{first}, order...))
		}
	}
	return l
}

// digits is n as a text of four digits, so that such texts stand as their numbers do.
func digits(n int) string { return strconv.Itoa(10000 + n)[1:] }

// ways are ways in which n keys may come: places from 0 to n - 1, each once.
func ways(n int) map[string][]int {
	l := map[string][]int{}
	for i := range n {
		l["rising"] = append(l["rising"], i)
		l["falling"] = append(l["falling"], n-1-i)
		outer := i / 2
		if i%2 == 1 {
			outer = n - 1 - i/2
		}
		l["from both ends"] = append(l["from both ends"], outer)
	}
	l["from the middle"] = slices.Clone(l["from both ends"])
	slices.Reverse(l["from the middle"])
	l["mixed"] = rand.New(rand.NewSource(int64(n))).Perm(n)
	return l
}

func TestExamples(t *testing.T) { // P8.1 to P8.4
	a := shelf.New[int]().Put("k", 1).Put("b", 2)
	b := a.Drop("k")
	if n, is := a.Get("k"); n != 1 || !is {
		t.Errorf("a.Get(k) = %d, %t", n, is)
	}
	if n, is := b.Get("k"); n != 0 || is {
		t.Errorf("b.Get(k) = %d, %t", n, is)
	}
	if a.Len() != 2 || b.Len() != 1 {
		t.Errorf("Len: %d, %d", a.Len(), b.Len())
	}
	for _, c := range []struct {
		key, at string
		n       int
		is      bool
	}{{"", "b", 2, true}, {"c", "k", 1, true}, {"kk", "", 0, false}} {
		if at, n, is := a.Next(c.key); at != c.at || n != c.n || is != c.is {
			t.Errorf("a.Next(%q) = %q, %d, %t", c.key, at, n, is)
		}
	}
}

func TestWithoutThings(t *testing.T) { // P8.1 to P8.3
	for _, s := range []numbers{shelf.New[int](), shelf.New[int]().Drop(""), shelf.New[int]().Drop("k"), shelf.New[int]().Put("k", 1).Drop("k"), shelf.New[int]().Put("", 1).Drop("").Drop("")} {
		checkWhole(t, s, nil)
		for range s.All() {
			t.Error("All tells of a thing where there is none")
		}
		checkWhole(t, s.Put("k", 5), plain{{"k", 5}})
		checkWhole(t, s.Put("", 5), plain{{"", 5}})
		checkWhole(t, s, nil)
	}
}

// odd are keys, as they rise: no bytes, beginnings of others, bytes 0, 127, 128 and 255, bytes that are no runes.
var odd = []string{
	"", "\x00", "\x00\x00", "\x00\x00\x01", "\x00\x01", "\x00\xff", "\x01", "A", "B", "Z", "a", "a\x00", "a\x00\x00", "a\x00b", "aa", "ab", "abc", "ac", "a\x7f", "a\x80", "a\xff", "a\xff\xff", "b",
	"\x7f", "\x80", "\xc3\xa9", "\xc3\xff", "\xed\xa0\x80", "\xf0\x9f\x98\x80", "\xfe", "\xfe\xff", "\xff", "\xff\x00", "\xff\xfe", "\xff\xff", "\xff\xff\xff",
}

func TestKeysByteByByte(t *testing.T) { // P8.1 to P8.3
	for name, way := range ways(len(odd)) {
		s, l := shelf.New[int](), plain(nil)
		for _, at := range way {
			s, l = s.Put(odd[at], at), l.put(odd[at], at)
			check(t, s, l, odd...)
		}
		at := 0
		for key, n := range s.All() {
			if key != odd[at] || n != at {
				t.Fatalf("%s: All tells %q, %d at the place %d", name, key, n, at)
			}
			at++
		}
		checkWhole(t, s, l)
		for _, at := range way {
			s, l = s.Drop(odd[at]), l.drop(odd[at])
			check(t, s, l, odd...)
		}
		checkWhole(t, s, nil)
	}
}

func TestBeginnings(t *testing.T) { // P8.1 to P8.3: keys of which each is a beginning of all that stand behind it
	long := strings.Repeat("\x00\xffk", 100)
	for _, way := range ways(len(long)) {
		s, l := shelf.New[int](), plain(nil)
		for _, at := range way {
			s, l = s.Put(long[:at], at), l.put(long[:at], at)
		}
		checkWhole(t, s, l)
		s = s.Drop(long[:7]).Drop("")
		checkWhole(t, s, l.drop(long[:7]).drop(""))
	}
}

func TestLongKeys(t *testing.T) { // P8.1 to P8.3: that differ in their last byte alone
	long := strings.Repeat("k", 1<<20)
	s := shelf.New[int]().Put(long+"b", 2).Put(long, 0).Put(long+"a", 1).Put(long+"\xff", 3)
	l := plain{{long, 0}, {long + "a", 1}, {long + "b", 2}, {long + "\xff", 3}}
	check(t, s, l, long, long+"\x00", long+"a", long+"aa", long+"b", long+"c", long+"\xff", long+"\xff\x00", long[1:], "")
	if !slices.Equal(told(s.All()), l) {
		t.Error("All tells otherwise of long keys")
	}
	check(t, s.Drop(long+"a"), l.drop(long+"a"), long, long+"a", long+"b")
}

func TestPutAtAKeyThatIsThere(t *testing.T) { // P8.1, P8.2: the new thing stands there, nothing else is another
	s, l := shelf.New[int](), plain(nil)
	for i := range 50 {
		s, l = s.Put(digits(i), i), l.put(digits(i), i)
	}
	for i := range 50 {
		once := s.Put(digits(i), 1000+i)
		checkWhole(t, once, l.put(digits(i), 1000+i))
		checkWhole(t, once.Put(digits(i), -1), l.put(digits(i), -1))
		checkWhole(t, once.Put(digits(i), i), l)
		checkWhole(t, s.Put(digits(i), i), l)
		checkWhole(t, s, l)
	}
}

func TestZeroThings(t *testing.T) { // P8.2, P8.3: a zero thing at a key is a thing
	s := shelf.New[int]().Put("a", 0).Put("b", 0)
	checkWhole(t, s, plain{{"a", 0}, {"b", 0}})
	checkWhole(t, s.Put("b", 7).Put("b", 0), plain{{"a", 0}, {"b", 0}})
	checkWhole(t, s.Drop("a"), plain{{"b", 0}})
}

func TestDrop(t *testing.T) { // P8.1: of each key: the first, the last, those between, those that are not there; and of the only one
	for n := range 34 {
		for _, way := range ways(n) {
			s, l := shelf.New[int](), plain(nil)
			for _, at := range way {
				s, l = s.Put(digits(2*at+1), at), l.put(digits(2*at+1), at)
			}
			for at := range 2*n + 1 {
				dropped := s.Drop(digits(at))
				checkWhole(t, dropped, l.drop(digits(at)))
				checkWhole(t, dropped.Drop(digits(at)), l.drop(digits(at)))
			}
			checkWhole(t, s.Drop(""), l)
			checkWhole(t, s.Drop("\xff"), l)
			checkWhole(t, s, l)
		}
	}
}

func TestDropAll(t *testing.T) { // P8.1: one after the other, in whatever order, until there is none
	n := 60
	for came, way := range ways(n) {
		for went, back := range ways(n) {
			s, l := shelf.New[int](), plain(nil)
			for _, at := range way {
				s, l = s.Put(digits(at), at), l.put(digits(at), at)
				check(t, s, l, around(digits(at))...)
			}
			for _, at := range back {
				s, l = s.Drop(digits(at)), l.drop(digits(at))
				check(t, s, l, around(digits(at))...)
			}
			if s.Len() != 0 || len(told(s.All())) != 0 {
				t.Errorf("came %s, went %s: %d things are left", came, went, s.Len())
			}
		}
	}
}

func TestNext(t *testing.T) { // P8.3: of a key that is there, of one between two, of one ahead of the first, of one behind the last
	for n := 1; n < 40; n++ {
		for _, way := range ways(n) {
			s := shelf.New[int]()
			for _, at := range way {
				s = s.Put(digits(2*at+1), at)
			}
			for at := range n {
				for _, key := range []string{digits(2*at + 1), digits(2 * at), digits(2*at) + "\xff", digits(2*at) + "\x00"} {
					if next, m, is := s.Next(key); next != digits(2*at+1) || m != at || !is {
						t.Fatalf("of %d things: Next(%q) = %q, %d, %t", n, key, next, m, is)
					}
				}
			}
			for _, key := range []string{digits(2*n-1) + "\x00", digits(2 * n), "\xff"} {
				if next, m, is := s.Next(key); next != "" || m != 0 || is {
					t.Fatalf("of %d things: Next(%q) = %q, %d, %t", n, key, next, m, is)
				}
			}
			if next, m, is := s.Next(""); next != digits(1) || m != 0 || !is {
				t.Fatalf("of %d things: Next(no bytes) = %q, %d, %t", n, next, m, is)
			}
		}
	}
}

func TestAllByNext(t *testing.T) { // P8.3: from key to key, Next goes as All does
	s, l := shelf.New[int](), plain(nil)
	for at, key := range odd {
		s, l = s.Put(key, at), l.put(key, at)
	}
	var got plain
	for key, n, is := s.Next(""); is; key, n, is = s.Next(key + "\x00") {
		got = append(got, thing{key, n})
	}
	if !slices.Equal(got, l) {
		t.Errorf("by Next: %v, want %v", got, l)
	}
}

func TestAllLeftEarly(t *testing.T) { // P8.3: at the first thing, at each in the middle, at the last one, and gone through again
	for n := range 30 {
		for _, way := range ways(n) {
			s, l := shelf.New[int](), plain(nil)
			for _, at := range way {
				s, l = s.Put(digits(at), at), l.put(digits(at), at)
			}
			all := s.All()
			for leave := range n {
				var got plain
				for key, m := range all {
					got = append(got, thing{key, m})
					if len(got) == leave+1 {
						break
					}
				}
				if !slices.Equal(got, l[:leave+1]) {
					t.Fatalf("All left at the place %d told %v", leave, got)
				}
				if got := told(all); !slices.Equal(got, l) {
					t.Fatalf("All, left at the place %d and gone through again, told %v", leave, got)
				}
			}
			if got := told(all); !slices.Equal(got, l) {
				t.Fatalf("All, gone through again, told %v", got)
			}
		}
	}
}

func TestAllEndsWhereItIsLeft(t *testing.T) { // P8.3: who said no is not told of another thing
	s := shelf.New[int]()
	for i := range 100 {
		s = s.Put(digits(i), i)
	}
	for leave := range 100 {
		many := 0
		s.All()(func(string, int) bool {
			many++
			return many <= leave
		})
		if many != leave+1 {
			t.Errorf("All was left at the place %d, and told %d things", leave, many)
		}
	}
}

func TestAllWithinAll(t *testing.T) { // P8.3: one All gone through again while it is gone through
	s, n := shelf.New[int](), 12
	for i := range n {
		s = s.Put(digits(i), i)
	}
	all := s.All()
	outer := 0
	for _, a := range all {
		inner := 0
		for _, b := range all {
			if a != outer || b != inner {
				t.Fatalf("%d, %d at the places %d, %d", a, b, outer, inner)
			}
			inner++
			if b == a {
				break
			}
		}
		outer++
	}
	if outer != n {
		t.Errorf("the outer one told %d things", outer)
	}
}

func TestAllWhileThingsChange(t *testing.T) { // P8.3, P8.4: what is told is of the shelf that was asked, whatever is made of it meanwhile
	s, l := shelf.New[int](), plain(nil)
	for i := range 64 {
		s, l = s.Put(digits(2*i), i), l.put(digits(2*i), i)
	}
	all, now, model := s.All(), s, l
	for key, n := range s.All() {
		now, model = now.Drop(key), model.drop(key)
		now, model = now.Put(key+"x", -n), model.put(key+"x", -n)
		now, model = now.Put(digits(127-2*n), n), model.put(digits(127-2*n), n)
		checkWhole(t, now, model)
	}
	checkWhole(t, s, l)
	if got := told(all); !slices.Equal(got, l) {
		t.Errorf("All told %v", got)
	}
}

// keysOf are rows of keys that come one after the other.
func keysOf(kind string, r *rand.Rand) func() string {
	at := 0
	switch kind {
	case "rising":
		return func() string { at++; return digits(at) }
	case "falling":
		return func() string { at++; return digits(9999 - at) }
	case "few":
		return func() string { return odd[r.Intn(len(odd))] }
	}
	return func() string { // mixed: up to four bytes of those at the edges
		b := make([]byte, r.Intn(5))
		for i := range b {
			b[i] = []byte{0, 1, 'a', 127, 128, 254, 255}[r.Intn(7)]
		}
		return string(b)
	}
}

func TestRowsOfCalls(t *testing.T) { // P8.1 to P8.3: calls of all kinds, held step by step against a plain list
	for i, kind := range []string{"rising", "falling", "few", "mixed"} {
		for _, drops := range []int{10, 30, 45, 55, 70} { // of 100 calls
			r := rand.New(rand.NewSource(int64(100*i + drops)))
			keys := keysOf(kind, r)
			s, l := shelf.New[int](), plain(nil)
			for step := range 1500 {
				key := keys()
				if len(l) > 0 && r.Intn(2) == 0 {
					key = around(l[r.Intn(len(l))].key)[r.Intn(5)]
				}
				if r.Intn(100) < drops {
					s, l = s.Drop(key), l.drop(key)
				} else {
					s, l = s.Put(key, step), l.put(key, step)
				}
				check(t, s, l, append(around(key), keys())...)
				if step%50 == 0 || len(l) < 4 {
					checkWhole(t, s, l)
				}
			}
			checkWhole(t, s, l)
		}
	}
}

func TestOldOnesStay(t *testing.T) { // P8.4: every shelf that was ever answered, of which others were made anywhere in the row
	type state struct {
		s   numbers
		l   plain
		all iter.Seq2[string, int]
	}
	for i, kind := range []string{"rising", "falling", "few", "mixed"} {
		r := rand.New(rand.NewSource(int64(i)))
		keys := keysOf(kind, r)
		states := []state{{s: shelf.New[int](), all: shelf.New[int]().All()}}
		for step := range 1000 {
			old := states[len(states)-1]
			if r.Intn(40) == 0 {
				old = states[r.Intn(len(states))]
			}
			key := keys()
			if len(old.l) > 0 && r.Intn(2) == 0 {
				key = old.l[r.Intn(len(old.l))].key
			}
			made := state{s: old.s.Put(key, step), l: old.l.put(key, step)}
			if r.Intn(3) == 0 {
				made = state{s: old.s.Drop(key), l: old.l.drop(key)}
			}
			made.all = made.s.All()
			check(t, old.s, old.l, around(key)...)
			check(t, made.s, made.l, around(key)...)
			states = append(states, made)
		}
		for _, x := range states {
			checkWhole(t, x.s, x.l)
			if got := told(x.all); !slices.Equal(got, x.l) {
				t.Fatalf("%s: an All that was answered earlier tells %v, want %v", kind, got, x.l)
			}
		}
	}
}

func TestOldOnesStayAtEachKey(t *testing.T) { // P8.4: a Put between all keys, one at each, a Drop of each, all made of one shelf
	for n := range 40 {
		for _, way := range ways(n) {
			s, l := shelf.New[int](), plain(nil)
			for _, at := range way {
				s, l = s.Put(digits(2*at+1), at), l.put(digits(2*at+1), at)
			}
			made := map[int][2]numbers{}
			for at := range 2*n + 1 {
				made[at] = [2]numbers{s.Put(digits(at), -1), s.Drop(digits(at))}
			}
			if got := told(s.All()); !slices.Equal(got, l) {
				t.Fatalf("a shelf of %d tells %v behind what was made of it", n, got)
			}
			for at, both := range made {
				if got := told(both[0].All()); !slices.Equal(got, l.put(digits(at), -1)) {
					t.Fatalf("Put at %d of %d: %v", at, n, got)
				}
				if got := told(both[1].All()); !slices.Equal(got, l.drop(digits(at))) {
					t.Fatalf("Drop at %d of %d: %v", at, n, got)
				}
			}
		}
	}
}

func TestCopies(t *testing.T) { // R4: a copy is the same shelf, and goes its own way
	a := shelf.New[int]().Put("a", 1).Put("b", 2)
	b := a
	b = b.Put("c", 3).Drop("a")
	c := a
	checkWhole(t, a, plain{{"a", 1}, {"b", 2}})
	checkWhole(t, b, plain{{"b", 2}, {"c", 3}})
	checkWhole(t, c, plain{{"a", 1}, {"b", 2}})
}

func TestOneMeaning(t *testing.T) { // P8.5: six keys in each order, plainly and over things that went again
	keys := []string{"", "\x00", "a", "ab", "b", "\xff"}
	var l plain
	for i, key := range keys {
		l = l.put(key, i)
	}
	for _, order := range orders(keys) {
		plainly, over := shelf.New[int](), shelf.New[int]()
		for i, key := range order {
			at := slices.Index(keys, key)
			plainly = plainly.Put(key, at)
			over = over.Put(key, -1).Put("aa", i).Put(order[len(order)-1], 77).Drop("aa").Drop("none").Put(key+"x", 5).Drop(key).Put(key, at)
			over = over.Drop(key + "x")
		}
		checkWhole(t, plainly, l)
		checkWhole(t, over, l)
	}
}

func TestOneMeaningOfMany(t *testing.T) { // P8.5: the same things, come in several ways, some of them left of more, tell the same of every key
	n := 300
	var shelves []numbers
	var l plain
	for i := range n {
		l = l.put(digits(3*i), i)
	}
	for _, way := range ways(n) {
		s := shelf.New[int]()
		for _, at := range way {
			s = s.Put(digits(3*at), at)
		}
		shelves = append(shelves, s)
	}
	for _, came := range ways(3 * n) {
		for _, went := range ways(3 * n) {
			s := shelf.New[int]()
			for _, at := range came {
				s = s.Put(digits(at), at/3)
			}
			for _, at := range went {
				if at%3 != 0 {
					s = s.Drop(digits(at))
				}
			}
			shelves = append(shelves, s)
		}
	}
	for _, s := range shelves {
		checkWhole(t, s, l)
		for at := range 3*n + 2 {
			check(t, s, l, digits(at))
		}
	}
}

func TestOtherThings(t *testing.T) { // P8.1 to P8.3: shelves of texts, lists, functions, errors, pointers, nothing, and shelves
	texts := shelf.New[string]().Put("b", "B").Put("a", "").Put("b", "BB")
	if x, is := texts.Get("a"); x != "" || !is {
		t.Errorf("a text of no bytes: %q, %t", x, is)
	}
	if at, x, is := texts.Next("aa"); at != "b" || x != "BB" || !is {
		t.Errorf("Next of texts: %q, %q, %t", at, x, is)
	}
	if at, x, is := texts.Next("c"); at != "" || x != "" || is {
		t.Errorf("Next behind the last text: %q, %q, %t", at, x, is)
	}
	lists := shelf.New[[]int]().Put("a", []int{1, 2}).Put("none", nil)
	if x, is := lists.Get("a"); !slices.Equal(x, []int{1, 2}) || !is {
		t.Errorf("a list: %d, %t", x, is)
	}
	if x, is := lists.Get("none"); x != nil || !is {
		t.Errorf("a nil list: %d, %t", x, is)
	}
	if x, is := lists.Get("b"); x != nil || is {
		t.Errorf("no list: %d, %t", x, is)
	}
	calls := shelf.New[func() int]().Put("a", func() int { return 7 })
	if x, is := calls.Get("a"); !is || x() != 7 {
		t.Error("a function")
	}
	if x, is := calls.Drop("a").Get("a"); is || x != nil {
		t.Error("no function")
	}
	errors := shelf.New[error]().Put("a", nil)
	if x, is := errors.Get("a"); x != nil || !is {
		t.Errorf("a nil error: %v, %t", x, is)
	}
	seven := 7
	pointers := shelf.New[*int]().Put("a", &seven)
	if x, is := pointers.Get("a"); x != &seven || !is {
		t.Errorf("a pointer: %p, %t", x, is)
	}
	set := shelf.New[struct{}]().Put("a", struct{}{}).Put("a", struct{}{}).Put("b", struct{}{})
	if _, is := set.Get("a"); !is || set.Len() != 2 {
		t.Errorf("things without bytes: %d", set.Len())
	}
	shelves := shelf.New[numbers]().Put("a", shelf.New[int]().Put("k", 1)).Put("b", shelf.New[int]())
	for key, s := range shelves.All() {
		shelves = shelves.Put(key, s.Put("more", 2))
	}
	a, _ := shelves.Get("a")
	b, _ := shelves.Get("b")
	checkWhole(t, a, plain{{"k", 1}, {"more", 2}})
	checkWhole(t, b, plain{{"more", 2}})
}

func TestRowsOfTexts(t *testing.T) { // P8.1 to P8.3: structs as things, held against a map
	type pair struct {
		text string
		n    int
	}
	r := rand.New(rand.NewSource(8))
	keys := keysOf("mixed", r)
	s, m := shelf.New[pair](), map[string]pair{}
	for step := range 5000 {
		key := keys()
		if r.Intn(3) == 0 {
			s = s.Drop(key)
			delete(m, key)
		} else {
			s = s.Put(key, pair{key, step})
			m[key] = pair{key, step}
		}
		if x, is := s.Get(key); x != m[key] || is != (m[key] != pair{}) || s.Len() != len(m) {
			t.Fatalf("Get(%q) = %v, %t", key, x, is)
		}
	}
	last := ""
	for key, x := range s.All() {
		if x != m[key] || x.text != key || key < last {
			t.Fatalf("All tells %q, %v behind %q", key, x, last)
		}
		last = key
		delete(m, key)
	}
	if len(m) != 0 {
		t.Errorf("All left %d things out", len(m))
	}
}

func TestAtOneTime(t *testing.T) { // R4: many ask one shelf, and make others of it
	s, l := shelf.New[int](), plain(nil)
	for i, key := range odd {
		s, l = s.Put(key, i), l.put(key, i)
	}
	all := s.All()
	var wait sync.WaitGroup
	for who := range 8 {
		wait.Go(func() {
			mine, model := s, l
			for step := range 200 {
				key := odd[(step*(who+1))%len(odd)]
				n, is := s.Get(key)
				if m, has := l.get(key); n != m || is != has || s.Len() != len(l) {
					t.Errorf("Get(%q) beside others: %d, %t", key, n, is)
				}
				at, n, is := s.Next(key + "\x00")
				if next, m, has := l.next(key + "\x00"); at != next || n != m || is != has {
					t.Errorf("Next(%q) beside others: %q, %d, %t", key+"\x00", at, n, is)
				}
				mine, model = mine.Put(key, who), model.put(key, who)
				mine, model = mine.Drop(odd[step%len(odd)]), model.drop(odd[step%len(odd)])
				if !slices.Equal(told(all), l) || !slices.Equal(told(mine.All()), model) {
					t.Error("All beside others tells otherwise")
				}
			}
		})
	}
	wait.Wait()
	checkWhole(t, s, l)
}

// isCheap fails unless a Put and a Drop at a key take few pieces of memory: a shelf that keeps its old states makes what it looked at anew, so that a long way down, or all of the shelf, would be many.
func isCheap(t *testing.T, s numbers, key string) {
	t.Helper()
	few := 8*bits.Len(uint(s.Len())) + 8
	put := testing.AllocsPerRun(1, func() { s.Put(key, 1) })
	drop := testing.AllocsPerRun(1, func() { s.Drop(key) })
	if put > float64(few) || drop > float64(few) {
		t.Fatalf("of %d things: Put(%q) took %v pieces of memory, Drop %v", s.Len(), key, put, drop)
	}
}

func TestWaysStayShort(t *testing.T) { // P8.6: keys that come rising, falling, mixed; that go as they came, and from behind
	n := 700
	for _, way := range ways(n) {
		back := slices.Clone(way)
		slices.Reverse(back)
		s := shelf.New[int]()
		for i, at := range way {
			s = s.Put(digits(at), at)
			isCheap(t, s, digits(way[i/2]))
			isCheap(t, s, digits(at))
		}
		for at := range n {
			isCheap(t, s, digits(at))
			isCheap(t, s, digits(at)+"x")
		}
		for _, order := range [][]int{way, back} {
			rest := s
			for i, at := range order[:n-10] {
				rest = rest.Drop(digits(at))
				isCheap(t, rest, digits(at))
				isCheap(t, rest, digits(order[n-1]))
				isCheap(t, rest, digits(order[(i+n)/2]))
			}
		}
	}
}

func TestWaysStayShortInRows(t *testing.T) { // P8.6: those that came first go as others come; and long mixed rows
	r := rand.New(rand.NewSource(9))
	queue, mixed := shelf.New[int](), shelf.New[int]()
	for i := range 9000 {
		queue = queue.Put(digits(i), i)
		if i >= 500 {
			queue = queue.Drop(digits(i - 500))
		}
		isCheap(t, queue, digits(max(0, i-r.Intn(500))))
		key := digits(r.Intn(1000))
		if r.Intn(2) == 0 {
			mixed = mixed.Put(key, i)
		} else {
			mixed = mixed.Drop(key)
		}
		isCheap(t, mixed, key)
	}
}

// costs are the pieces of memory that a Put at each key of a shelf takes.
func costs(s numbers) (keys []string, pieces []float64) {
	for key, n := range s.All() {
		keys = append(keys, key)
		pieces = append(pieces, testing.AllocsPerRun(1, func() { s.Put(key, n) }))
	}
	return keys, pieces
}

// longest are the keys that stand on the longest way down, as far as costs tell: the dearest one, and on both sides of it those that cost less than all up to it.
func longest(s numbers) map[string]bool {
	keys, pieces := costs(s)
	dearest := slices.Index(pieces, slices.Max(pieces))
	way := map[string]bool{keys[dearest]: true}
	for _, step := range []int{-1, 1} {
		least := pieces[dearest]
		for at := dearest + step; at >= 0 && at < len(keys); at += step {
			if pieces[at] < least {
				way[keys[at]], least = true, pieces[at]
			}
		}
	}
	return way
}

func TestLongestWaysGrowShort(t *testing.T) { // P8.6: where all goes but what stands on the longest way, that becomes a short one
	for name, way := range ways(8192) {
		s := shelf.New[int]()
		for _, at := range way {
			s = s.Put(digits(at), at)
		}
		stays := longest(s)
		for _, order := range ways(8192) {
			rest := s
			for _, at := range order {
				if key := digits(at); !stays[key] {
					rest = rest.Drop(key)
				}
			}
			_, pieces := costs(rest)
			if most := slices.Max(pieces); most > float64(2*bits.Len(uint(rest.Len()))+3) {
				t.Fatalf("come %s: %d things are left, and a Put takes %v pieces of memory", name, rest.Len(), most)
			}
		}
	}
}

// calls are the four of which P8.6 speaks.
func calls() map[string]func(s numbers, key string) {
	return map[string]func(s numbers, key string){
		"Put":  func(s numbers, key string) { s.Put(key, 1) },
		"Drop": func(s numbers, key string) { s.Drop(key) },
		"Get":  func(s numbers, key string) { s.Get(key) },
		"Next": func(s numbers, key string) { s.Next(key) },
	}
}

// eight is n as a text of eight digits.
func eight(n int) string { return strconv.Itoa(100000000 + n)[1:] }

// takes is how long 1000 calls for keys all over a shelf of n things take, at the best of several times.
func takes(s numbers, n int, call func(s numbers, key string)) time.Duration {
	keys := make([]string, 1000)
	for i := range keys {
		keys[i] = eight(int(int64(i) * int64(n) / 1000))
	}
	best := time.Duration(math.MaxInt64)
	for range 7 {
		begin := time.Now()
		for _, key := range keys {
			call(s, key)
		}
		best = min(best, time.Since(begin))
	}
	return best
}

func TestFewKeysAreLookedAt(t *testing.T) { // P8.6: with 1024 times as many things a call takes a few times as long, not hundreds of times
	few, many := 1<<5, 1<<15
	small := shelf.New[int]()
	for i := range few {
		small = small.Put(eight(i), i)
	}
	for name, way := range ways(many) {
		great := shelf.New[int]()
		for _, at := range way {
			great = great.Put(eight(at), at)
		}
		half := great
		for _, at := range way[:many/2] {
			half = half.Drop(eight(at))
		}
		for kind, call := range calls() {
			once := takes(small, few, call)
			if all := takes(great, many, call); all > 150*once {
				t.Fatalf("%s, come %s: %v with %d things, %v with %d", kind, name, once, few, all, many)
			}
			if rest := takes(half, many, call); rest > 150*once {
				t.Fatalf("%s, come %s, half gone again: %v with %d things, %v with %d", kind, name, once, few, rest, many/2)
			}
		}
	}
}
