package disk_test

import (
	"math"
	"math/rand"
	"slices"
	"strconv"
	"strings"
	"testing"

	"mintage/api"
	"mintage/disk"
)

// noFiles are numbers of which there is no file.
var noFiles = []int{math.MinInt, math.MinInt32, -64, -1, 64, 65, math.MaxInt32, math.MaxInt}

// all keeps of a change what can be kept.
const all = math.MaxInt

// plain is a disk that is kept plainly: a byte at a time, and by the numbers of operations.
type plain struct {
	now, sure [64][]byte
	loose     []plainChange
	off       bool
	ops       int
	goes      int // how many operations there are when the power goes, the last one with it; 0: at none
}

type plainChange struct {
	kind        string
	file, place int
	text        string
}

// operation is the error that is told of one that nothing is wrong with.
func (p *plain) operation() api.Errno {
	p.ops++
	if p.ops == p.goes {
		p.off = true
		return api.ErrOff
	}
	return api.OK
}

func (p *plain) wrong(f int) api.Errno {
	switch {
	case p.off:
		return api.ErrOff
	case f < 0, f > 63:
		return api.ErrArg
	}
	return api.OK
}

func (p *plain) append(f int, s string) api.Errno {
	if e := p.wrong(f); e != api.OK {
		return e
	}
	if len(p.now[f])+len(s) > 1048576 {
		return api.ErrLong
	}
	e := p.operation()
	if e == api.OK {
		p.loose = append(p.loose, plainChange{"append", f, len(p.now[f]), s})
		p.now[f] = slices.Concat(p.now[f], []byte(s))
	}
	return e
}

func (p *plain) cut(f, n int) api.Errno {
	if e := p.wrong(f); e != api.OK {
		return e
	}
	if n < 0 || n > len(p.now[f]) {
		return api.ErrRange
	}
	e := p.operation()
	if e == api.OK {
		p.loose = append(p.loose, plainChange{"cut", f, n, ""})
		p.now[f] = slices.Clone(p.now[f][:n])
	}
	return e
}

func (p *plain) sync(f int) api.Errno {
	if e := p.wrong(f); e != api.OK {
		return e
	}
	e := p.operation()
	if e == api.OK {
		var others []plainChange
		for _, c := range p.loose {
			if c.file != f {
				others = append(others, c)
			}
		}
		p.loose, p.sure[f] = others, slices.Clone(p.now[f])
	}
	return e
}

func (p *plain) power(n int) api.Errno {
	if p.off {
		return api.ErrOff
	}
	if n < 0 || n > 1099511627776 {
		return api.ErrArg
	}
	p.goes = p.ops + n + 1
	return api.OK
}

func (p *plain) read(f, at, n int) (string, api.Errno) {
	if e := p.wrong(f); e != api.OK {
		return "", e
	}
	if at < 0 || n < 0 || uint64(at)+uint64(n) > uint64(len(p.now[f])) {
		return "", api.ErrRange
	}
	var b []byte
	for i := range n {
		b = append(b, p.now[f][at+i])
	}
	return string(b), api.OK
}

func (p *plain) crash(keep []int) {
	for i, c := range p.loose {
		kept := 0
		if i < len(keep) {
			kept = keep[i]
		}
		file := p.sure[c.file]
		for j := range len(c.text) {
			if j >= kept {
				break
			}
			for len(file) <= c.place+j {
				file = append(file, 0)
			}
			file[c.place+j] = c.text[j]
		}
		for c.kind == "cut" && kept > 0 && len(file) > c.place {
			file = file[:len(file)-1]
		}
		p.sure[c.file] = file
	}
	for f := range p.now {
		p.now[f] = slices.Clone(p.sure[f])
	}
	p.loose, p.off, p.goes = nil, false, 0
}

func (p *plain) copy() *plain {
	other := *p
	for f := range p.now {
		other.now[f], other.sure[f] = slices.Clone(p.now[f]), slices.Clone(p.sure[f])
	}
	other.loose = slices.Clone(p.loose)
	return &other
}

// whole is what a file of a disk with power has.
func whole(t *testing.T, d *disk.Disk, f int) string {
	t.Helper()
	s, e := d.Read(f, 0, d.Size(f))
	if e != api.OK {
		t.Fatalf("Read(%d, 0, %d): %d", f, d.Size(f), e)
	}
	return s
}

// checkFile fails unless a file of a disk with power has these bytes.
func checkFile(t *testing.T, d *disk.Disk, f int, want string) {
	t.Helper()
	if got := whole(t, d, f); got != want {
		t.Fatalf("the file %d has %q, want %q", f, got, want)
	}
}

// checkState fails unless a disk tells this of its power and its numbers.
func checkState(t *testing.T, d *disk.Disk, on bool, ops, loose int) {
	t.Helper()
	if d.On() != on || d.Ops() != ops || d.Loose() != loose {
		t.Fatalf("On, Ops, Loose: %t, %d, %d, want %t, %d, %d", d.On(), d.Ops(), d.Loose(), on, ops, loose)
	}
}

// check fails unless a disk tells what the plain one tells.
func check(t *testing.T, d *disk.Disk, p *plain) {
	t.Helper()
	checkState(t, d, !p.off, p.ops, len(p.loose))
	for f := range p.now {
		if d.Size(f) != len(p.now[f]) {
			t.Fatalf("Size(%d): %d, want %d", f, d.Size(f), len(p.now[f]))
		}
		got, e := d.Read(f, 0, d.Size(f))
		if want, wrong := p.read(f, 0, len(p.now[f])); got != want || e != wrong {
			t.Fatalf("Read(%d): %q, %d, want %q, %d", f, got, e, want, wrong)
		}
	}
}

// crashes fails unless a copy of a disk becomes by a crash what the plain one does.
func crashes(t *testing.T, d *disk.Disk, p *plain, keep []int) {
	t.Helper()
	d, p = d.Copy(), p.copy()
	if e := d.Crash(keep); e != api.OK {
		t.Fatalf("Crash(%d): %d", keep, e)
	}
	p.crash(keep)
	check(t, d, p)
}

// keepAll keeps all of so many changes.
func keepAll(many int) []int { return slices.Repeat([]int{all}, many) }

// does fails unless calls, one after the other, answer OK.
func does(t *testing.T, answers ...api.Errno) {
	t.Helper()
	for i, e := range answers {
		if e != api.OK {
			t.Fatalf("the call %d answered %d", i, e)
		}
	}
}

// P10.1 to P10.5: the chapter's examples.
func TestExamples(t *testing.T) {
	d := disk.New()
	does(t, d.Append(0, "abc"))
	if d.Size(0) != 3 || d.Loose() != 1 || d.Ops() != 1 {
		t.Errorf("Size, Loose, Ops: %d, %d, %d", d.Size(0), d.Loose(), d.Ops())
	}
	if s, e := d.Read(0, 1, 3); s != "" || e != api.ErrRange {
		t.Errorf("Read(0, 1, 3): %q, %d", s, e)
	}
	does(t, d.Sync(0), d.Append(0, "de"), d.Append(0, "fg"), d.Crash([]int{1, 2}))
	if s, e := d.Read(0, 0, 7); s != "abcd\x00fg" || e != api.OK {
		t.Errorf("Read(0, 0, 7): %q, %d", s, e)
	}
	does(t, d.Cut(0, 1), d.Crash(nil))
	if d.Size(0) != 7 {
		t.Errorf("Size(0): %d", d.Size(0))
	}
	if e := d.Cut(0, 8); e != api.ErrRange {
		t.Errorf("Cut(0, 8): %d", e)
	}
	does(t, d.Power(0))
	if a, b := d.Append(1, "x"), d.Sync(1); a != api.ErrOff || b != api.ErrOff {
		t.Errorf("Append, Sync: %d, %d", a, b)
	}
	if d.Size(1) != 0 || d.On() {
		t.Errorf("Size(1), On: %d, %t", d.Size(1), d.On())
	}
}

// P10.1: a new disk; no two have anything in common.
func TestNew(t *testing.T) {
	d, other := disk.New(), disk.New()
	check(t, d, &plain{})
	for f := range 64 {
		does(t, d.Append(f, strconv.Itoa(f)))
	}
	check(t, other, &plain{})
	check(t, disk.New(), &plain{})
	for f := range 64 {
		checkFile(t, d, f, strconv.Itoa(f))
	}
	checkState(t, d, true, 64, 64)
}

// P10.1: files are there from 0 to 63.
func TestSize(t *testing.T) {
	d := disk.New()
	does(t, d.Append(0, "a"), d.Append(63, "bcd"), d.Append(1, ""))
	for f, want := range map[int]int{0: 1, 1: 0, 2: 0, 62: 0, 63: 3} {
		if got := d.Size(f); got != want {
			t.Errorf("Size(%d): %d, want %d", f, got, want)
		}
	}
	for _, f := range noFiles {
		if got := d.Size(f); got != 0 {
			t.Errorf("Size(%d): %d", f, got)
		}
	}
}

// P10.1 to P10.6, R4: of a nil disk, whatever else is wrong.
func TestNil(t *testing.T) {
	var d *disk.Disk
	for _, f := range append([]int{0, 63}, noFiles...) {
		for _, n := range []int{math.MinInt, -1, 0, 1, math.MaxInt} {
			errors := []api.Errno{d.Append(f, ""), d.Append(f, "a"), d.Cut(f, n), d.Sync(f), d.Power(n), d.Crash(nil), d.Crash([]int{n})}
			if slices.ContainsFunc(errors, func(e api.Errno) bool { return e != api.ErrNil }) {
				t.Errorf("Append, Append, Cut, Sync, Power, Crash, Crash: %d", errors)
			}
			if s, e := d.Read(f, n, n); s != "" || e != api.ErrNil {
				t.Errorf("Read: %q, %d", s, e)
			}
		}
		if d.Size(f) != 0 {
			t.Errorf("Size(%d): %d", f, d.Size(f))
		}
	}
	if d.Append(0, strings.Repeat("a", 1<<20+1)) != api.ErrNil {
		t.Error("Append of too much")
	}
	if d.On() || d.Ops() != 0 || d.Loose() != 0 || d.Copy() != nil {
		t.Errorf("On, Ops, Loose, Copy: %t, %d, %d, %v", d.On(), d.Ops(), d.Loose(), d.Copy())
	}
}

// asks are calls that are to be refused: each by the error that is handed in, if there is one, or else by its own.
type asks struct {
	t     *testing.T
	d     *disk.Disk
	ahead api.Errno
}

func (a asks) is(call string, got, want api.Errno) {
	a.t.Helper()
	if a.ahead != api.OK {
		want = a.ahead
	}
	if got != want {
		a.t.Errorf("%s: %d, want %d", call, got, want)
	}
}

func (a asks) reads(f, at, n int, want api.Errno) {
	a.t.Helper()
	s, e := a.d.Read(f, at, n)
	a.is("Read("+strconv.Itoa(f)+", "+strconv.Itoa(at)+", "+strconv.Itoa(n)+")", e, want)
	if s != "" {
		a.t.Errorf("Read beside an error: %q", s)
	}
}

// ofNoFile: that there is no such file comes ahead of all that is wrong with places and lengths.
func (a asks) ofNoFile(f int) {
	a.is("Append to no file", a.d.Append(f, "a"), api.ErrArg)
	a.is("Append of nothing to no file", a.d.Append(f, ""), api.ErrArg)
	a.is("Append of too much to no file", a.d.Append(f, strings.Repeat("a", 1<<20+1)), api.ErrArg)
	for _, n := range []int{math.MinInt, -1, 0, 1, math.MaxInt} {
		a.is("Cut of no file", a.d.Cut(f, n), api.ErrArg)
		a.reads(f, n, 0, api.ErrArg)
		a.reads(f, 0, n, api.ErrArg)
		a.reads(f, n, n, api.ErrArg)
	}
	a.is("Sync of no file", a.d.Sync(f), api.ErrArg)
}

// ofFiles asks files 0 and 1, of three bytes and one at most, for what they have not.
func (a asks) ofFiles() {
	a.is("Append of a byte too much", a.d.Append(0, strings.Repeat("a", 1<<20-2)), api.ErrLong)
	a.is("Append of more than a file", a.d.Append(1, strings.Repeat("a", 1<<20+1)), api.ErrLong)
	for _, n := range []int{math.MinInt, math.MinInt32, -2, -1, 4, 5, 64, 1 << 20, 1 << 32, math.MaxInt} {
		a.is("Cut at "+strconv.Itoa(n), a.d.Cut(0, n), api.ErrRange)
		a.reads(0, n, 0, api.ErrRange)
		a.reads(0, 0, n, api.ErrRange)
		a.reads(0, 3, n, api.ErrRange)
		a.reads(0, n, n, api.ErrRange)
		a.reads(0, n, -1, api.ErrRange)
		a.reads(0, -1, n, api.ErrRange)
		a.reads(0, n, math.MaxInt-n, api.ErrRange)
		a.reads(0, n, math.MaxInt, api.ErrRange)
	}
	a.is("Cut beyond a short file", a.d.Cut(1, 2), api.ErrRange)
	a.reads(0, 3, 1, api.ErrRange)
	a.reads(0, 1, math.MaxInt, api.ErrRange)
	a.reads(0, math.MaxInt, 1, api.ErrRange)
	a.reads(1, 0, 2, api.ErrRange)
	for _, n := range []int{math.MinInt, math.MinInt32, -1, 1<<40 + 1, 1 << 41, math.MaxInt} {
		a.is("Power("+strconv.Itoa(n)+")", a.d.Power(n), api.ErrArg)
	}
}

// P10.2 to P10.4, R2: the errors of each call, in their order, of a disk with and without power; what is refused is no operation, and changes nothing.
func TestErrors(t *testing.T) {
	d, p := disk.New(), &plain{}
	does(t, d.Append(0, "abc"), d.Append(63, "de"), d.Sync(63), d.Power(2))
	does(t, p.append(0, "abc"), p.append(63, "de"), p.sync(63), p.power(2))
	refuses := func(ahead api.Errno) {
		for _, f := range noFiles {
			asks{t, d, ahead}.ofNoFile(f)
		}
		asks{t, d, ahead}.ofFiles()
		check(t, d, p)
	}
	refuses(api.OK)
	does(t, d.Append(1, "x"), d.Cut(0, 3), p.append(1, "x"), p.cut(0, 3)) // the power lasts for both: nothing that was refused is counted
	check(t, d, p)
	if d.Sync(0) != api.ErrOff || p.sync(0) != api.ErrOff {
		t.Error("the power did not go")
	}
	refuses(api.ErrOff)
	crashes(t, d, p, keepAll(9))
	crashes(t, d, p, nil)
}

// P10.2: each piece of a file, up to none at its end, and one byte beyond.
func TestRead(t *testing.T) {
	text := "\x00ab\xff\nc"
	for _, f := range []int{0, 1, 62, 63} {
		d := disk.New()
		does(t, d.Append(f, text))
		for at := range len(text) + 3 {
			for n := range len(text) + 3 {
				s, e := d.Read(f, at, n)
				if at+n <= len(text) && (s != text[at:at+n] || e != api.OK) || at+n > len(text) && (s != "" || e != api.ErrRange) {
					t.Errorf("Read(%d, %d, %d): %q, %d", f, at, n, s, e)
				}
			}
		}
		checkState(t, d, true, 1, 1)
		if s, e := d.Read(5, 0, 0); s != "" || e != api.OK {
			t.Errorf("Read of nothing of an empty file: %q, %d", s, e)
		}
	}
}

// P10.3: files up to MaxFile bytes, by one Append and by several.
func TestFull(t *testing.T) {
	most := strings.Repeat("0123456789abcdef", 1<<16)
	d := disk.New()
	if e := d.Append(0, most+"g"); e != api.ErrLong || d.Size(0) != 0 || d.Ops() != 0 {
		t.Errorf("Append of %d bytes: %d, then %d bytes", len(most)+1, e, d.Size(0))
	}
	does(t, d.Append(0, most), d.Append(1, most[:1<<20-1]), d.Append(63, "a"))
	for _, f := range []int{0, 1, 63} {
		if e := d.Append(f, most); e != api.ErrLong {
			t.Errorf("Append of %d bytes behind %d: %d", len(most), d.Size(f), e)
		}
	}
	if d.Append(0, "b") != api.ErrLong || d.Append(1, "bc") != api.ErrLong || d.Append(63, most[1:]+"b") != api.ErrLong {
		t.Error("a byte beyond a file was put")
	}
	checkState(t, d, true, 3, 3)
	does(t, d.Append(0, ""), d.Append(1, "x"), d.Append(63, most[1:]))
	checkState(t, d, true, 6, 6)
	if d.Append(1, "y") != api.ErrLong || d.Append(63, "y") != api.ErrLong {
		t.Error("a byte beyond a file was put")
	}
	d.Crash([]int{all, all, all, all, all, all})
	checkFile(t, d, 0, most)
	checkFile(t, d, 1, most[:1<<20-1]+"x")
	checkFile(t, d, 63, "a"+most[1:])
	if d.Append(0, "b") != api.ErrLong {
		t.Error("behind a crash a byte beyond a file was put")
	}
	does(t, d.Cut(0, 1<<20-1), d.Append(0, "b"))
	checkFile(t, d, 0, most[:1<<20-1]+"b")
	does(t, d.Cut(0, 1<<20), d.Cut(0, 0), d.Append(0, most))
	d.Crash([]int{0, 0, 0, 1, 0}) // of all this just that it was emptied
	checkFile(t, d, 0, "")
}

// P10.3: an Append of nothing is an operation and a change.
func TestNothing(t *testing.T) {
	d := disk.New()
	does(t, d.Append(3, ""))
	checkState(t, d, true, 1, 1)
	does(t, d.Append(3, "ab"), d.Crash([]int{0, 1}))
	checkFile(t, d, 3, "a")
	does(t, d.Append(3, ""), d.Sync(3))
	checkState(t, d, true, 4, 0)
	does(t, d.Power(0))
	if e := d.Append(3, ""); e != api.ErrOff {
		t.Errorf("Append of nothing without power: %d", e)
	}
	checkState(t, d, false, 5, 0)
}

// P10.5: an Append of nothing that stood behind what was lost leaves nothing, however much of it is kept.
func TestNothingKept(t *testing.T) {
	d := disk.New()
	does(t, d.Append(0, "ab"), d.Append(0, ""), d.Append(0, "c"), d.Append(0, ""))
	for keep, want := range map[[4]int]string{{0, all, 0, all}: "", {1, 1, 0, 1}: "a", {0, 0, 1, 1}: "\x00\x00c", {2, 0, 1, 0}: "abc"} {
		other := d.Copy()
		does(t, other.Crash(keep[:]))
		checkFile(t, other, 0, want)
	}
}

// P10.3: a Cut to whatever place a file has, which is an operation and a change even at its end.
func TestCut(t *testing.T) {
	text := "abcde"
	for n := range len(text) + 1 {
		d := disk.New()
		does(t, d.Append(7, text), d.Cut(7, n))
		checkFile(t, d, 7, text[:n])
		checkState(t, d, true, 2, 2)
		if e := d.Cut(7, n+1); e != api.ErrRange {
			t.Errorf("Cut of %d bytes at %d: %d", n, n+1, e)
		}
		does(t, d.Append(7, "xy"))
		checkFile(t, d, 7, text[:n]+"xy")
		does(t, d.Cut(7, n+1), d.Sync(7))
		checkState(t, d, true, 5, 0)
		checkFile(t, d, 7, text[:n]+"x")
	}
	d := disk.New()
	does(t, d.Cut(0, 0))
	checkState(t, d, true, 1, 1)
}

// P10.5: a Cut is done just if what is kept of it is above 0.
func TestCutKept(t *testing.T) {
	for _, keep := range []int{math.MinInt, -1, 0, 1, 2, 3, all} {
		for n := range 6 {
			d := disk.New()
			does(t, d.Append(0, "abcde"), d.Sync(0), d.Cut(0, n), d.Crash([]int{keep}))
			want := "abcde"
			if keep > 0 {
				want = want[:n]
			}
			checkFile(t, d, 0, want)
		}
	}
}

// P10.5: a Cut of what was lost cuts off what is left behind its place, and puts nothing there.
func TestCutOfLost(t *testing.T) {
	d := disk.New()
	does(t, d.Append(0, "ab"), d.Sync(0), d.Append(0, "cdef"), d.Cut(0, 5), d.Append(0, "g"))
	for keep, want := range map[[3]int]string{{0, 1, 0}: "ab", {1, 1, 0}: "abc", {3, 1, 0}: "abcde", {4, 1, 0}: "abcde", {0, 1, 1}: "ab\x00\x00\x00g", {4, 0, 1}: "abcdeg"} {
		other := d.Copy()
		does(t, other.Crash(keep[:]))
		checkFile(t, other, 0, want)
	}
}

// P10.3: what was synced is sure; of others' changes those that stay are counted anew.
func TestSync(t *testing.T) {
	d := disk.New()
	does(t, d.Append(1, "abc"), d.Append(0, "de"), d.Append(2, "fgh"), d.Cut(0, 1), d.Append(1, "ijk"), d.Append(2, "lm"))
	checkState(t, d, true, 6, 6)
	one := d.Copy()
	does(t, one.Sync(0)) // left: abc, fgh, ijk, lm
	checkState(t, one, true, 7, 4)
	does(t, one.Crash([]int{1, 2, 3, 0}))
	checkFile(t, one, 0, "d")
	checkFile(t, one, 1, "a\x00\x00ijk")
	checkFile(t, one, 2, "fg")
	checkState(t, one, true, 7, 0)
	two := d.Copy()
	does(t, two.Sync(1), two.Sync(5), two.Append(1, "no")) // left: de, fgh, the cut, lm, no
	checkState(t, two, true, 9, 5)
	does(t, two.Crash([]int{2, 0, 0, 1, 1}))
	checkFile(t, two, 0, "de")
	checkFile(t, two, 1, "abcijkn")
	checkFile(t, two, 2, "\x00\x00\x00l")
	does(t, d.Sync(2), d.Sync(0), d.Sync(1), d.Sync(1))
	checkState(t, d, true, 10, 0)
	does(t, d.Crash(nil))
	checkFile(t, d, 0, "d")
	checkFile(t, d, 1, "abcijk")
	checkFile(t, d, 2, "fghlm")
}

// P10.4: the power goes at the operation behind so many more, of whatever kinds these are; that one is counted and does nothing, and behind it there is none.
func TestPower(t *testing.T) {
	kinds := []func(d *disk.Disk) api.Errno{
		func(d *disk.Disk) api.Errno { return d.Append(0, "x") },
		func(d *disk.Disk) api.Errno { return d.Cut(0, 1) },
		func(d *disk.Disk) api.Errno { return d.Sync(0) },
		func(d *disk.Disk) api.Errno { return d.Append(1, "") },
		func(d *disk.Disk) api.Errno { return d.Cut(0, d.Size(0)) },
		func(d *disk.Disk) api.Errno { return d.Sync(63) },
	}
	for first := range kinds {
		for n := range 10 {
			d, same := disk.New(), disk.New() // the same calls, without the one at which the power goes
			does(t, d.Append(0, "abc"), d.Sync(0), d.Append(0, "d"), d.Power(n))
			does(t, same.Append(0, "abc"), same.Sync(0), same.Append(0, "d"))
			for i := range n {
				kind := kinds[(first+i)%len(kinds)]
				does(t, kind(d), kind(same))
				d.Append(-1, "a") // no operation
				d.Cut(0, -1)
				d.Read(0, 0, 1)
			}
			checkState(t, d, true, 3+n, same.Loose())
			if e := kinds[(first+n)%len(kinds)](d); e != api.ErrOff {
				t.Fatalf("Power(%d): the operation behind them answered %d", n, e)
			}
			for range 2 {
				checkState(t, d, false, 4+n, same.Loose())
				for _, kind := range kinds {
					if e := kind(d); e != api.ErrOff {
						t.Fatalf("an operation without power: %d", e)
					}
				}
			}
			for _, keep := range [][]int{nil, keepAll(20)} {
				one, other := d.Copy(), same.Copy()
				does(t, one.Crash(keep), other.Crash(keep))
				checkFile(t, one, 0, whole(t, other, 0))
				checkFile(t, one, 1, "")
				checkState(t, one, true, 4+n, 0)
			}
		}
	}
}

// P10.4: of several calls the newest one that is not refused counts.
func TestPowerAnew(t *testing.T) {
	d := disk.New()
	does(t, d.Power(0), d.Power(2), d.Append(0, "a"), d.Append(0, "b"))
	does(t, d.Power(1), d.Append(0, "c"), d.Power(1<<40), d.Sync(0))
	for range 1000 {
		does(t, d.Append(0, "d"))
	}
	does(t, d.Power(3), d.Power(1))
	if d.Power(-1) != api.ErrArg || d.Power(1<<40+1) != api.ErrArg {
		t.Error("Power of less than 0, or of too much")
	}
	checkState(t, d, true, 1004, 1000)
	does(t, d.Cut(0, 5))
	if e := d.Sync(0); e != api.ErrOff {
		t.Errorf("the power did not go, but %d", e)
	}
	if e := d.Power(5); e != api.ErrOff {
		t.Errorf("Power of a disk that is off: %d", e)
	}
	checkState(t, d, false, 1006, 1001)
	does(t, d.Crash(nil))
	checkFile(t, d, 0, "abc")
}

// P10.1, P10.5, P10.6: what is told, and is done, without power.
func TestOff(t *testing.T) {
	d := disk.New()
	does(t, d.Append(2, "abc"), d.Sync(2), d.Append(2, "de"), d.Power(0))
	if e := d.Cut(2, 0); e != api.ErrOff {
		t.Errorf("Cut: %d", e)
	}
	if d.Size(2) != 5 || d.Size(3) != 0 || d.Size(64) != 0 {
		t.Errorf("Size: %d, %d, %d", d.Size(2), d.Size(3), d.Size(64))
	}
	checkState(t, d, false, 4, 1)
	other := d.Copy()
	checkState(t, other, false, 4, 1)
	if s, e := other.Read(2, 0, 1); s != "" || e != api.ErrOff {
		t.Errorf("Read of the copy: %q, %d", s, e)
	}
	does(t, d.Crash([]int{1}))
	checkFile(t, d, 2, "abcd")
	checkState(t, d, true, 4, 0)
	checkState(t, other, false, 4, 1)
	does(t, d.Cut(2, 0), d.Sync(2)) // the power goes no more
	checkState(t, d, true, 6, 0)
}

// P10.5: keep of whatever length, with whatever numbers, of changes of several files.
func TestKeep(t *testing.T) {
	d := disk.New()
	does(t, d.Append(0, "ab"), d.Append(63, "cd"), d.Append(0, "ef"))
	for _, x := range []struct {
		keep        []int
		first, last string
	}{
		{nil, "", ""},
		{[]int{}, "", ""},
		{[]int{0, 0, 0}, "", ""},
		{[]int{1}, "a", ""},
		{[]int{2}, "ab", ""},
		{[]int{3}, "ab", ""},
		{[]int{2, 1}, "ab", "c"},
		{[]int{2, 1, 1}, "abe", "c"},
		{[]int{all, all, all}, "abef", "cd"},
		{[]int{2, 2, 2}, "abef", "cd"},
		{[]int{2, 2, 2, 2, 0, -1, all}, "abef", "cd"},
		{[]int{-1, math.MinInt, 2}, "\x00\x00ef", ""},
		{[]int{0, 2, 1}, "\x00\x00e", "cd"},
		{[]int{1, -1, 2}, "a\x00ef", ""},
		{[]int{1, 3, 0}, "a", "cd"},
		{[]int{1, 3, -5}, "a", "cd"},
	} {
		other, keep := d.Copy(), slices.Clone(x.keep)
		does(t, other.Crash(keep))
		if !slices.Equal(keep, x.keep) {
			t.Errorf("Crash made %d of %d", keep, x.keep)
		}
		for i := range keep {
			keep[i] = 7 // it is asked no more
		}
		checkFile(t, other, 0, x.first)
		checkFile(t, other, 63, x.last)
		checkState(t, other, true, 3, 0)
		does(t, other.Crash(keep)) // all was sure
		checkFile(t, other, 0, x.first)
		checkFile(t, other, 63, x.last)
	}
	checkState(t, d, true, 3, 3)
}

// P10.5: an Append that is kept behind a Cut that is not writes over what the file has there, and leaves what stands behind it.
func TestWrittenOver(t *testing.T) {
	d := disk.New()
	does(t, d.Append(4, "abcdef"), d.Sync(4), d.Cut(4, 2), d.Append(4, "xyz"), d.Append(4, "uvw"))
	for keep, want := range map[[3]int]string{
		{0, 0, 0}: "abcdef", {0, 1, 0}: "abxdef", {0, 3, 0}: "abxyzf", {0, 0, 1}: "abcdeu", {0, 1, 3}: "abxdeuvw",
		{1, 0, 0}: "ab", {1, 1, 0}: "abx", {1, 0, 1}: "ab\x00\x00\x00u", {1, 2, 2}: "abxy\x00uv", {1, 3, 3}: "abxyzuvw",
	} {
		other := d.Copy()
		does(t, other.Crash(keep[:]))
		checkFile(t, other, 4, want)
	}
}

// P10.5: what a Cut that is kept cut off does not come back where later changes reach beyond it.
func TestCutOffStaysOff(t *testing.T) {
	d := disk.New()
	does(t, d.Append(0, "abcdefgh"), d.Cut(0, 2), d.Append(0, "ijk"), d.Append(0, "lm"))
	does(t, d.Crash([]int{8, 1, 0, 2}))
	checkFile(t, d, 0, "ab\x00\x00\x00lm")
}

// P10.5: a crash while the power is on and one while it is off leave the same, and all of it is sure; then the power goes at no operation.
func TestCrash(t *testing.T) {
	on := disk.New()
	does(t, on.Append(0, "abc"), on.Append(1, "de"), on.Sync(1), on.Append(1, "fg"))
	off := on.Copy()
	does(t, on.Power(3), off.Power(0))
	if e := off.Sync(0); e != api.ErrOff {
		t.Errorf("the power did not go, but %d", e)
	}
	for i, d := range []*disk.Disk{on, off} {
		does(t, d.Crash([]int{2, 1}))
		checkState(t, d, true, 4+i, 0)
		for range 2 {
			checkFile(t, d, 0, "ab")
			checkFile(t, d, 1, "def")
			does(t, d.Crash(keepAll(5)))
		}
		for range 9 {
			does(t, d.Append(1, "g"))
		}
		checkState(t, d, true, 13+i, 9)
		does(t, d.Crash([]int{0, all, 0, 1}))
		checkFile(t, d, 0, "ab")
		checkFile(t, d, 1, "def\x00g\x00g")
		does(t, d.Crash(nil))
		checkFile(t, d, 1, "def\x00g\x00g")
	}
}

// P10.6: a copy has the files, what is sure, what is loose and the power that is set; then each goes its own way.
func TestCopy(t *testing.T) {
	d, p := disk.New(), &plain{}
	does(t, d.Append(0, "abc"), d.Sync(0), d.Append(0, "de"), d.Append(1, "fg"), d.Cut(0, 1), d.Power(3))
	does(t, p.append(0, "abc"), p.sync(0), p.append(0, "de"), p.append(1, "fg"), p.cut(0, 1), p.power(3))
	a, b := d.Copy(), d.Copy().Copy()
	does(t, a.Append(0, "hij"), b.Append(0, "klm"), b.Append(2, "n"), b.Sync(0)) // a list of one would be written over by another's
	does(t, a.Sync(1), a.Append(5, "o"))
	if a.Sync(0) != api.ErrOff || b.Sync(0) != api.ErrOff {
		t.Error("a copy's power did not go")
	}
	check(t, d, p)
	for _, keep := range [][]int{nil, keepAll(3), {1, 1, 0}, {2, 0, 1}} {
		crashes(t, d, p, keep)
	}
	does(t, a.Crash([]int{2, 1, 2, 0}))
	checkFile(t, a, 0, "ahi")
	checkFile(t, a, 1, "fg")
	checkFile(t, a, 2, "")
	does(t, b.Crash([]int{1, 0}))
	checkFile(t, b, 0, "aklm")
	checkFile(t, b, 1, "f")
	does(t, d.Crash(keepAll(3)), d.Append(0, "q"))
	checkFile(t, d, 0, "aq")
	checkFile(t, a, 0, "ahi")
	checkState(t, a, true, 9, 0)
	checkState(t, b, true, 9, 0)
	checkState(t, d, true, 6, 1)
}

// P10.6: a copy and what it was made of put changes behind lists that have room, and take some out.
func TestCopiesOfMany(t *testing.T) {
	d, p := disk.New(), &plain{}
	for i := range 40 {
		does(t, d.Append(i%5, strconv.Itoa(i)), p.append(i%5, strconv.Itoa(i)))
		a, b, pa, pb := d.Copy(), d.Copy(), p.copy(), p.copy()
		does(t, a.Sync(i%4), pa.sync(i%4), b.Append(6, "b"), pb.append(6, "b"), a.Append(7, "a"), pa.append(7, "a"))
		for _, keep := range [][]int{nil, keepAll(50), {0, 1, 2, 3, 4, 5, 6}} {
			crashes(t, d, p, keep)
			crashes(t, a, pa, keep)
			crashes(t, b, pb, keep)
		}
		check(t, d, p)
		check(t, a, pa)
		check(t, b, pb)
	}
}

// both is a disk, and the plain one beside it.
type both struct {
	d *disk.Disk
	p *plain
}

// text is a few bytes, often none, that are others each time.
func text(r *rand.Rand) string {
	b := make([]byte, max(0, r.Intn(6)-1))
	for i := range b {
		b[i] = byte(r.Intn(256))
	}
	return string(b)
}

// keeps are numbers for about so many changes: below 0, 0, small ones, huge ones.
func keeps(r *rand.Rand, many int) []int {
	keep := make([]int, max(0, many+r.Intn(5)-3))
	for i := range keep {
		keep[i] = []int{0, 0, 1, 2, 3, 4, 9, -1, all, math.MinInt}[r.Intn(10)]
	}
	return keep
}

// step does the same to both, which answer the same.
func (x *both) step(t *testing.T, r *rand.Rand) {
	t.Helper()
	f := []int{0, 1, 2, 63, 63, 0, 1, 1, 1, 64, -1}[r.Intn(11)]
	at := r.Intn(x.d.Size(f)+3) - 1
	var got, want api.Errno
	switch r.Intn(12) {
	case 0, 1, 2, 3:
		s := text(r)
		got, want = x.d.Append(f, s), x.p.append(f, s)
	case 4, 5:
		got, want = x.d.Cut(f, at), x.p.cut(f, at)
	case 6, 7:
		got, want = x.d.Sync(f), x.p.sync(f)
	case 8, 9:
		n := r.Intn(6) - 1
		one, e := x.d.Read(f, at, n)
		other, wrong := x.p.read(f, at, n)
		if got, want = e, wrong; one != other {
			t.Fatalf("Read(%d, %d, %d): %q, want %q", f, at, n, one, other)
		}
	case 10:
		n := r.Intn(20) - 1
		got, want = x.d.Power(n), x.p.power(n)
	case 11:
		if keep := keeps(r, x.d.Loose()); r.Intn(3) == 0 || x.p.off {
			got = x.d.Crash(keep)
			x.p.crash(keep)
		}
	}
	if got != want {
		t.Fatalf("a call answered %d, want %d", got, want)
	}
}

// P10.1 to P10.6: rows of calls of all kinds, held step by step against the plain disk; of the copies that are made now and then any may go on.
func TestRows(t *testing.T) {
	for seed := range 150 {
		r := rand.New(rand.NewSource(int64(seed)))
		rows := []both{{disk.New(), &plain{}}}
		for range 150 {
			x := &rows[r.Intn(len(rows))]
			x.step(t, r)
			check(t, x.d, x.p)
			crashes(t, x.d, x.p, keeps(r, x.d.Loose()))
			if r.Intn(25) == 0 {
				rows = append(rows, both{x.d.Copy(), x.p.copy()})
			}
		}
		for _, x := range rows {
			check(t, x.d, x.p)
			crashes(t, x.d, x.p, nil)
			crashes(t, x.d, x.p, keepAll(200))
		}
	}
}

// P10.3, P10.5: all rows of four calls to a file, and of each all that may be kept of them.
func TestAllShortRows(t *testing.T) {
	names := []string{"ab", "cd", "ef", "gh"}
	row := func(kinds [4]int) both {
		x := both{disk.New(), &plain{}}
		for i, kind := range kinds {
			var e, want api.Errno
			switch {
			case kind < 3:
				e, want = x.d.Append(0, names[i][:kind]), x.p.append(0, names[i][:kind])
			case kind < 6:
				e, want = x.d.Cut(0, kind-3), x.p.cut(0, kind-3)
			default:
				e, want = x.d.Sync(0), x.p.sync(0)
			}
			if e != want {
				t.Fatalf("%d: the call %d answered %d, want %d", kinds, i, e, want)
			}
		}
		return x
	}
	for k := range 7 * 7 * 7 * 7 {
		x := row([4]int{k % 7, k / 7 % 7, k / 49 % 7, k / 343})
		many := 1
		for range x.d.Loose() {
			many *= 3
		}
		for k := range many {
			d, p, keep := x.d.Copy(), x.p.copy(), []int{k % 3, k / 3 % 3, k / 9 % 3, k / 27}
			does(t, d.Crash(keep))
			p.crash(keep)
			checkFile(t, d, 0, string(p.now[0]))
		}
	}
}

// mixedDisk is a disk to which much was done, whose power stays.
func mixedDisk(t *testing.T, r *rand.Rand) *disk.Disk {
	t.Helper()
	x := both{disk.New(), &plain{}}
	for range 40 {
		x.step(t, r)
	}
	if !x.d.On() {
		does(t, x.d.Crash(keeps(r, x.d.Loose())))
	}
	does(t, x.d.Power(1000))
	return x.d
}

// P10.7: what was synced is there behind a crash, whatever is kept of other files.
func TestSyncedStays(t *testing.T) {
	for seed := range 300 {
		r := rand.New(rand.NewSource(int64(seed)))
		mixed := mixedDisk(t, r)
		for f := range 3 {
			d := mixed.Copy()
			does(t, d.Sync(f))
			want := whole(t, d, f)
			for range 20 {
				other := (f + 1 + r.Intn(63)) % 64 // any but this one
				d.Append(other, text(r))
				d.Cut(other, r.Intn(3))
			}
			does(t, d.Crash(keeps(r, d.Loose())))
			checkFile(t, d, f, want)
		}
	}
}

// P10.7: a crash with all kept leaves each file as it was: the bytes that each Append has, and each Cut.
func TestAllKept(t *testing.T) {
	for seed := range 300 {
		r := rand.New(rand.NewSource(int64(seed)))
		d := mixedDisk(t, r)
		exact := make([]int, d.Loose(), d.Loose()+20)
		for i := range exact {
			exact[i] = all
		}
		for range 20 {
			f, s := r.Intn(3), text(r)
			if r.Intn(3) == 0 {
				does(t, d.Cut(f, r.Intn(d.Size(f)+1)))
				exact = append(exact, 1)
				continue
			}
			does(t, d.Append(f, s))
			exact = append(exact, len(s))
		}
		var want [64]string
		for f := range want {
			want[f] = whole(t, d, f)
		}
		for _, keep := range [][]int{exact, keepAll(len(exact)), keepAll(len(exact) + 5)} {
			other := d.Copy()
			does(t, other.Crash(keep))
			for f := range want {
				checkFile(t, other, f, want[f])
			}
		}
	}
}

// P10.8: of one Append behind a Sync a crash leaves a beginning, as long as it is told.
func TestBeginning(t *testing.T) {
	for size := range 8 {
		for keep := -2; keep < 12; keep++ {
			was, s := "sure"[:size%5], "abcdefgh"[:size]
			d := disk.New()
			does(t, d.Append(9, was), d.Sync(9), d.Append(9, s))
			off := d.Copy()
			does(t, off.Power(0))
			off.Append(9, "more")
			want := was + s[:min(max(keep, 0), size)]
			for _, x := range []*disk.Disk{d, off} {
				does(t, x.Crash([]int{keep, 5, 5}))
				checkFile(t, x, 9, want)
			}
		}
	}
}

// R1, R2: of many changes, and of a disk that is full, each call ends soon.
func TestMany(t *testing.T) {
	d := disk.New()
	for i := range 100_000 {
		does(t, d.Append(i%64, "abc"))
		if i%3 == 0 {
			does(t, d.Cut(i%64, d.Size(i%64)-1))
		}
	}
	loose := d.Loose()
	for f := range 64 {
		does(t, d.Append(f, strings.Repeat("z", 1<<20-d.Size(f))))
	}
	checkState(t, d, true, loose+64, loose+64)
	before := d.Copy()
	does(t, d.Crash(keepAll(loose+64)))
	for f := range 64 {
		if whole(t, d, f) != whole(t, before, f) {
			t.Fatalf("the file %d is another one", f)
		}
	}
	does(t, before.Crash(slices.Repeat([]int{0}, loose)))
	for f := range 64 {
		checkFile(t, before, f, "")
	}
}
