package reel_test

import (
	"encoding/binary"
	"hash/crc32"
	"math"
	"math/rand"
	"slices"
	"strconv"
	"strings"
	"testing"

	"mintage/api"
	"mintage/disk"
	"mintage/reel"
)

const (
	mostRecords = 512
	mostBytes   = 65536 // bytes that a record may have
	beside      = 9     // bytes that a frame has beside its text

	all = math.MaxInt // what is kept of a change of which all is
)

var castagnoli = crc32.MakeTable(crc32.Castagnoli)

// framed is a record's frame.
func framed(s string) string {
	size := string(binary.BigEndian.AppendUint32(nil, uint32(len(s))))
	check := crc32.Checksum([]byte(size+s), castagnoli)
	return size + string(binary.BigEndian.AppendUint32(nil, check)) + s + "Z"
}

// row is frames one behind the other.
func row(records ...string) string {
	var b strings.Builder
	for _, s := range records {
		b.WriteString(framed(s))
	}
	return b.String()
}

// record is the i-th one of the tests: they are of several kinds, some look like frames or like what a crash leaves, and no two that are near are the same.
func record(i int) string {
	s := strconv.Itoa(i)
	switch i % 6 {
	case 1:
		return framed(s) + "\x00\x00" + s
	case 2:
		return ""
	case 3:
		return s + "\x00\x00\x00\x00\x00\x00\x00\x00\x00\x00"
	case 4:
		return strings.Repeat("Z", i%300) + s
	}
	return s
}

// records are the tests' ones from one on to ahead of another.
func records(from, to int) []string {
	var l []string
	for i := from; i < to; i++ {
		l = append(l, record(i))
	}
	return l
}

// scanned is the records that a file begins with, eight at most, and how many bytes they have.
func scanned(file string) (l []string, size int) {
	for len(l) < 8 {
		s := file[size:]
		if len(s) < beside {
			return l, size
		}
		n := int(binary.BigEndian.Uint32([]byte(s)))
		if n > mostBytes || len(s) < n+beside || s[:n+beside] != framed(s[8:8+n]) {
			return l, size
		}
		l, size = append(l, s[8:8+n]), size+n+beside
	}
	return l, size
}

// plain is a reel that is kept plainly: its records, and of each whether it is sure.
type plain struct {
	d       *disk.Disk
	records []string
	sure    []bool
}

func plainOpen(d *disk.Disk) (*plain, api.Errno) {
	if !d.On() {
		return nil, api.ErrOff
	}
	p := &plain{d: d}
	last, end := -1, 0
	for goesOn := true; goesOn; {
		last++
		file, _ := d.Read(last, 0, d.Size(last))
		l, size := scanned(file)
		p.records, end = append(p.records, l...), size
		goesOn = last < 63 && len(l) == 8 && size == len(file)
	}
	var cut []int
	for f := last; f < 64; f++ {
		if d.Size(f) != end {
			if e := d.Cut(f, end); e != api.OK {
				return nil, e
			}
			cut = append(cut, f)
		}
		end = 0
	}
	for _, f := range cut {
		if e := d.Sync(f); e != api.OK {
			return nil, e
		}
	}
	p.sure = slices.Repeat([]bool{true}, len(p.records))
	return p, api.OK
}

func (p *plain) append(s string) api.Errno {
	switch {
	case len(s) > mostBytes:
		return api.ErrLong
	case len(p.records) == mostRecords:
		return api.ErrFull
	}
	e := p.d.Append(len(p.records)/8, framed(s))
	if e == api.OK {
		p.records, p.sure = append(p.records, s), append(p.sure, false)
	}
	return e
}

func (p *plain) sync() api.Errno {
	for f := range 64 {
		unsure := false
		for i, sure := range p.sure {
			unsure = unsure || i/8 == f && !sure
		}
		if !unsure {
			continue
		}
		if e := p.d.Sync(f); e != api.OK {
			return e
		}
		for i := range p.sure {
			p.sure[i] = p.sure[i] || i/8 == f
		}
	}
	return api.OK
}

func (p *plain) get(i int) (string, api.Errno) {
	switch {
	case i < 0 || i >= len(p.records):
		return "", api.ErrRange
	case !p.d.On():
		return "", api.ErrOff
	}
	return p.records[i], api.OK
}

// someKeeps are what may be kept of so many changes: nothing, all, one alone, all but one, of one a byte only.
func someKeeps(many int) [][]int {
	l := [][]int{nil, slices.Repeat([]int{all}, many)}
	for i := 0; i < many; i += 1 + many/12 {
		alone, without, byteOnly := make([]int, many), slices.Repeat([]int{all}, many), slices.Repeat([]int{all}, many)
		alone[i], without[i], byteOnly[i] = all, 0, 1
		l = append(l, alone, without, byteOnly)
	}
	return l
}

// whole is what a file of a disk with power has.
func whole(t *testing.T, d *disk.Disk, f int) string {
	t.Helper()
	s, e := d.Read(f, 0, d.Size(f))
	if e != api.OK {
		t.Fatalf("Read(%d): %d", f, e)
	}
	return s
}

// same fails unless two disks have the same files, with the same changes loose, after as many operations.
func same(t *testing.T, got, want *disk.Disk) {
	t.Helper()
	if got.On() != want.On() || got.Ops() != want.Ops() || got.Loose() != want.Loose() {
		t.Fatalf("On, Ops, Loose: %t, %d, %d, want %t, %d, %d", got.On(), got.Ops(), got.Loose(), want.On(), want.Ops(), want.Loose())
	}
	for f := range 64 {
		if got.Size(f) != want.Size(f) {
			t.Fatalf("the file %d has %d bytes, want %d", f, got.Size(f), want.Size(f))
		}
	}
	for _, keep := range someKeeps(got.Loose()) {
		a, b := got.Copy(), want.Copy()
		does(t, a.Crash(keep), b.Crash(keep))
		for f := range 64 {
			if whole(t, a, f) != whole(t, b, f) {
				t.Fatalf("behind a crash that keeps %d the file %d has %q, want %q", keep, f, whole(t, a, f), whole(t, b, f))
			}
		}
	}
}

// does fails unless calls, one after the other, answer OK.
func does(t *testing.T, answers ...api.Errno) {
	t.Helper()
	for i, e := range answers {
		if e != api.OK {
			t.Fatalf("the call %d answered %d", i, e)
		}
	}
}

// has fails unless a reel has these records, so many of them sure.
func has(t *testing.T, r *reel.Reel, want []string, sure int) {
	t.Helper()
	if r.Len() != len(want) || r.Sure() != sure {
		t.Fatalf("Len, Sure: %d, %d, want %d, %d", r.Len(), r.Sure(), len(want), sure)
	}
	for i := range want {
		if s, e := r.Get(i); s != want[i] || e != api.OK {
			t.Fatalf("Get(%d): %q, %d, want %q", i, s, e, want[i])
		}
	}
	for _, i := range []int{math.MinInt, math.MinInt32, -8, -1, len(want), len(want) + 1, len(want) + 8, 512, 1 << 32, math.MaxInt} {
		if s, e := r.Get(i); s != "" || e != api.ErrRange {
			t.Fatalf("Get(%d) of %d: %q, %d", i, len(want), s, e)
		}
	}
}

// opened is the reel of a disk on which nothing goes wrong.
func opened(t *testing.T, d *disk.Disk) *reel.Reel {
	t.Helper()
	r, e := reel.Open(d)
	if e != api.OK || r == nil {
		t.Fatalf("Open: %d", e)
	}
	return r
}

// files are what files of a disk have, by their numbers.
type files map[int]string

// laid is a disk that has these files, all sure.
func laid(t *testing.T, l files) *disk.Disk {
	t.Helper()
	d := disk.New()
	for f := range 64 {
		if l[f] != "" {
			does(t, d.Append(f, l[f]), d.Sync(f))
		}
	}
	return d
}

// both is a reel, and the plain one on another disk that was the same.
type both struct {
	t *testing.T
	d *disk.Disk
	r *reel.Reel
	p *plain
}

// onBoth opens a disk, and a copy of it plainly.
func onBoth(t *testing.T, d *disk.Disk) *both {
	t.Helper()
	x := &both{t: t, d: d}
	other := d.Copy()
	var e, want api.Errno
	x.r, e = reel.Open(d)
	x.p, want = plainOpen(other)
	if e != want || (x.r != nil) != (x.p != nil) {
		t.Fatalf("Open: %v, %d, want %d", x.r, e, want)
	}
	if x.p == nil {
		x.p = &plain{d: other}
	}
	return x
}

func (x *both) append(l ...string) {
	x.t.Helper()
	for _, s := range l {
		if x.r == nil {
			return
		}
		if e, want := x.r.Append(s), x.p.append(s); e != want {
			x.t.Fatalf("Append of %d bytes: %d, want %d", len(s), e, want)
		}
	}
}

func (x *both) sync() {
	x.t.Helper()
	if x.r == nil {
		return
	}
	if e, want := x.r.Sync(), x.p.sync(); e != want {
		x.t.Fatalf("Sync: %d, want %d", e, want)
	}
}

// check fails unless the reel tells what the plain one tells, and the disks are the same.
func (x *both) check() {
	x.t.Helper()
	same(x.t, x.d, x.p.d)
	if x.r == nil {
		return
	}
	sure := 0
	for _, is := range x.p.sure {
		if is {
			sure++
		}
	}
	if x.r.Len() != len(x.p.records) || x.r.Sure() != sure {
		x.t.Fatalf("Len, Sure: %d, %d, want %d, %d", x.r.Len(), x.r.Sure(), len(x.p.records), sure)
	}
	for i := -2; i < len(x.p.records)+2; i++ {
		s, e := x.r.Get(i)
		if want, wrong := x.p.get(i); s != want || e != wrong {
			x.t.Fatalf("Get(%d): %q, %d, want %q, %d", i, s, e, want, wrong)
		}
	}
}

// crashes fails unless, whatever is kept, what is opened behind a crash is what the plain reel has; and that again does nothing.
func (x *both) crashes() {
	x.t.Helper()
	for _, keep := range someKeeps(x.d.Loose()) {
		d := x.d.Copy()
		does(x.t, d.Crash(keep))
		y := onBoth(x.t, d)
		y.check()
		opensAgain(x.t, d, y.p.records)
	}
}

// opensAgain fails unless a disk that Open left has these records, and Open does nothing to it.
func opensAgain(t *testing.T, d *disk.Disk, want []string) {
	t.Helper()
	before := d.Copy()
	has(t, opened(t, d), want, len(want))
	same(t, d, before)
}

// atEachPower does calls, the first of which is Open, to a disk whose power goes at the first operation, at the second one, and so on, till it lasts.
func atEachPower(t *testing.T, laid *disk.Disk, calls func(x *both)) {
	t.Helper()
	for n := range 1000 {
		d := laid.Copy()
		does(t, d.Power(n))
		x := onBoth(t, d)
		x.check()
		if x.r != nil {
			calls(x)
		}
		x.check()
		x.crashes()
		if d.On() {
			return
		}
	}
	t.Fatal("there is no end of operations")
}

// P12.1 to P12.4: the chapter's examples.
func TestExamples(t *testing.T) {
	d := disk.New()
	r := opened(t, d)
	does(t, r.Append("a"), r.Append("b"))
	has(t, r, []string{"a", "b"}, 0)
	if s, e := r.Get(1); s != "b" || e != api.OK {
		t.Errorf("Get(1): %q, %d", s, e)
	}
	if s, e := r.Get(2); s != "" || e != api.ErrRange {
		t.Errorf("Get(2): %q, %d", s, e)
	}
	does(t, r.Sync(), r.Append("c"), d.Crash([]int{3}))
	ops := d.Ops()
	r = opened(t, d)
	has(t, r, []string{"a", "b"}, 2)
	if d.Ops() != ops+2 || d.Loose() != 0 || d.Size(0) != 20 {
		t.Errorf("Ops, Loose, Size: %d, %d, %d", d.Ops()-ops, d.Loose(), d.Size(0))
	}
	if e := r.Append(strings.Repeat("a", 65537)); e != api.ErrLong {
		t.Errorf("Append of 65537 bytes: %d", e)
	}
}

// P12.1 to P12.4, R4: no disk; no reel, whatever else is wrong.
func TestNil(t *testing.T) {
	if r, e := reel.Open(nil); r != nil || e != api.ErrNil {
		t.Errorf("Open of no disk: %v, %d", r, e)
	}
	var r *reel.Reel
	for _, s := range []string{"", "a", strings.Repeat("a", mostBytes+1)} {
		if e := r.Append(s); e != api.ErrNil {
			t.Errorf("Append of %d bytes: %d", len(s), e)
		}
	}
	if e := r.Sync(); e != api.ErrNil {
		t.Errorf("Sync: %d", e)
	}
	if r.Len() != 0 || r.Sure() != 0 {
		t.Errorf("Len, Sure: %d, %d", r.Len(), r.Sure())
	}
	for _, i := range []int{math.MinInt, -1, 0, 1, math.MaxInt} {
		if s, e := r.Get(i); s != "" || e != api.ErrNil {
			t.Errorf("Get(%d): %q, %d", i, s, e)
		}
	}
}

// P12.1: nothing is done to a disk whose power is off, whatever it has.
func TestOpenOff(t *testing.T) {
	for _, l := range []files{nil, {0: row("a")}, {0: row("a") + "torn"}, {0: "torn", 63: "torn"}} {
		d := laid(t, l)
		does(t, d.Append(1, "loose"), d.Power(0))
		if e := d.Sync(1); e != api.ErrOff {
			t.Fatalf("the power did not go, but %d", e)
		}
		before := d.Copy()
		for range 2 {
			if r, e := reel.Open(d); r != nil || e != api.ErrOff {
				t.Errorf("Open: %v, %d", r, e)
			}
			same(t, d, before)
		}
		does(t, d.Crash(nil))
		opened(t, d)
	}
}

// P12.1: a new disk; nothing is done to it, even where the power goes at the next operation.
func TestOpenNew(t *testing.T) {
	d := disk.New()
	does(t, d.Power(0))
	r := opened(t, d)
	has(t, r, nil, 0)
	does(t, r.Sync())
	same(t, d, disk.New())
	other := opened(t, disk.New())
	does(t, other.Append("a"))
	has(t, r, nil, 0)
}

// lostBehind are what may stand behind records and is none.
func lostBehind() []string {
	torn := framed("torn")
	spoilt := []byte(torn)
	spoilt[9] ^= 1
	return []string{
		"\x00", "Z", "\xff\xff\xff\xff", "abc", strings.Repeat("\x00", 9), strings.Repeat("\x00", 100), strings.Repeat("\xff", 100),
		torn[:1], torn[:8], torn[:9], torn[:len(torn)-1], torn[:len(torn)-1] + "\x00", torn[:5] + strings.Repeat("\x00", len(torn)-5) + row("behind", "it"),
		strings.Repeat("\x00", len(torn)) + row("behind", "it"), string(spoilt), string(spoilt) + row("behind", "it"),
		"\x00\x01\x00\x01" + strings.Repeat("a", mostBytes+6),
	}
}

// P12.1: files of all numbers of records, with nothing, and with all kinds of bytes that are no records, behind them.
func TestOpenOneFile(t *testing.T) {
	for many := range 9 {
		for _, lost := range append(lostBehind(), "") {
			l := records(0, many)
			d := laid(t, files{0: row(l...) + lost})
			before := d.Copy()
			has(t, opened(t, d), l, many)
			if lost != "" {
				does(t, before.Cut(0, len(row(l...))), before.Sync(0))
			}
			same(t, d, before)
			opensAgain(t, d, l)
		}
	}
}

// P12.1: frames behind PerFile ones are no records, and what stands in the next files then is none either.
func TestOpenNineInAFile(t *testing.T) {
	for more := 1; more < 10; more++ {
		d := laid(t, files{0: row(records(0, 8+more)...), 1: row("next"), 3: "x"})
		before := d.Copy()
		has(t, opened(t, d), records(0, 8), 8)
		does(t, before.Cut(0, len(row(records(0, 8)...))), before.Cut(1, 0), before.Cut(3, 0), before.Sync(0), before.Sync(1), before.Sync(3))
		same(t, d, before)
	}
}

// P12.1: what stands behind the last file goes, even where nothing stands behind that one's records.
func TestOpenBehindLast(t *testing.T) {
	full := row(records(0, 8)...)
	for _, x := range []struct {
		l    files
		want []string
		cut  map[int]int // the places where files are cut
	}{
		{files{0: row("a"), 1: row("b")}, []string{"a"}, map[int]int{1: 0}},
		{files{1: row("b")}, nil, map[int]int{1: 0}},
		{files{63: "x"}, nil, map[int]int{63: 0}},
		{files{0: "x", 62: row("y"), 63: "z"}, nil, map[int]int{0: 0, 62: 0, 63: 0}},
		{files{0: full, 2: row("b")}, records(0, 8), map[int]int{2: 0}},
		{files{0: full, 1: "x"}, records(0, 8), map[int]int{1: 0}},
		{files{0: full, 1: row("b"), 2: "", 3: full}, append(records(0, 8), "b"), map[int]int{3: 0}},
		{files{0: full, 1: row("b") + "x", 2: full, 3: full}, append(records(0, 8), "b"), map[int]int{1: 10, 2: 0, 3: 0}},
		{files{0: full, 1: row(records(8, 15)...), 2: full}, records(0, 15), map[int]int{2: 0}},
		{files{0: full + "x", 1: full, 3: full}, records(0, 8), map[int]int{0: len(full), 1: 0, 3: 0}},
		{files{0: full, 1: row(records(8, 16)...), 2: row("b")}, append(records(0, 16), "b"), nil},
		{files{0: full, 1: row(records(8, 16)...)}, records(0, 16), nil},
	} {
		d := laid(t, x.l)
		before := d.Copy()
		has(t, opened(t, d), x.want, len(x.want))
		for f := range 64 {
			if at, is := x.cut[f]; is {
				does(t, before.Cut(f, at))
			}
		}
		for f := range 64 {
			if _, is := x.cut[f]; is {
				does(t, before.Sync(f))
			}
		}
		same(t, d, before)
		opensAgain(t, d, x.want)
		atEachPower(t, laid(t, x.l), func(x *both) { x.append("more", "and more") })
	}
}

// fullFiles are so many files of eight records each.
func fullFiles(many int) files {
	l := files{}
	for f := range many {
		l[f] = row(records(8*f, 8*f+8)...)
	}
	return l
}

// P12.1: all 64 files full, with nothing, and with something, behind the last one's records; one of them with something behind its records.
func TestOpenFull(t *testing.T) {
	d := laid(t, fullFiles(64))
	before := d.Copy()
	has(t, opened(t, d), records(0, mostRecords), mostRecords)
	same(t, d, before)
	for _, lost := range append(lostBehind(), framed("more")) {
		l := fullFiles(64)
		end := len(l[63])
		l[63] += lost
		d := laid(t, l)
		before := d.Copy()
		has(t, opened(t, d), records(0, mostRecords), mostRecords)
		does(t, before.Cut(63, end), before.Sync(63))
		same(t, d, before)
	}
	l := fullFiles(64)
	l[5] += "x"
	d = laid(t, l)
	ops := d.Ops()
	has(t, opened(t, d), records(0, 48), 48)
	if d.Ops() != ops+2*59 || d.Loose() != 0 {
		t.Errorf("Ops, Loose: %d, %d", d.Ops()-ops, d.Loose())
	}
	opensAgain(t, d, records(0, 48))
}

// P12.1: the operations of Open, and the disk's error in each of their places, on disks of which several files are laid somehow.
func TestOpenLaid(t *testing.T) {
	lost := lostBehind()
	for seed := range 250 {
		r := rand.New(rand.NewSource(int64(seed)))
		l := fullFiles(r.Intn(4))
		first := len(l)
		for range r.Intn(4) {
			f := first + r.Intn(4)
			l[f] = row(records(8*f, 8*f+r.Intn(9))...) + strings.Repeat(lost[r.Intn(len(lost))], r.Intn(2))
		}
		if r.Intn(4) == 0 {
			l[r.Intn(64)] += "x"
		}
		atEachPower(t, laid(t, l), func(x *both) {
			x.append(records(900, 900+r.Intn(12))...)
			x.sync()
		})
	}
}

// P12.1: what was not synced is sure too where it is there when the disk is opened; nothing is done to it for that.
func TestOpenLoose(t *testing.T) {
	d := disk.New()
	does(t, d.Append(0, row("a", "b")), d.Append(0, row("c")))
	before := d.Copy()
	r := opened(t, d)
	has(t, r, []string{"a", "b", "c"}, 3)
	does(t, r.Sync())
	same(t, d, before)
	does(t, d.Append(0, "x"), d.Append(1, "y"), before.Append(0, "x"), before.Append(1, "y"))
	has(t, opened(t, d), []string{"a", "b", "c"}, 3)
	does(t, before.Cut(0, 30), before.Cut(1, 0), before.Sync(0), before.Sync(1))
	same(t, d, before)
}

// P12.2: a record is appended to its file as its frame, by one operation; nothing is synced.
func TestAppend(t *testing.T) {
	d, other := disk.New(), disk.New()
	r := opened(t, d)
	for i := range 40 {
		does(t, r.Append(record(i)), other.Append(i/8, framed(record(i))))
		has(t, r, records(0, i+1), 0)
		same(t, d, other)
	}
}

// P12.2: which of the errors comes first; what is refused does nothing.
func TestAppendErrors(t *testing.T) {
	for _, many := range []int{0, 7, 8, 511, 512} {
		d := disk.New()
		r := opened(t, d)
		for i := range many {
			does(t, r.Append(record(i)))
		}
		full := api.OK
		if many == mostRecords {
			full = api.ErrFull
		}
		before := d.Copy()
		for _, size := range []int{mostBytes + 1, 2 * mostBytes, 1 << 21, 1<<24 + 1} {
			if e := r.Append(strings.Repeat("a", size)); e != api.ErrLong {
				t.Errorf("Append of %d bytes behind %d: %d", size, many, e)
			}
		}
		same(t, d, before)
		if e := r.Append("a"); e != full {
			t.Errorf("Append behind %d: %d", many, e)
		}
		if full == api.ErrFull {
			same(t, d, before)
		}
		has(t, r, append(records(0, many), "a")[:min(many+1, mostRecords)], 0)
		goesOff(t, d)
		offRefuses(t, d, r)
	}
}

// goesOff has the power of a disk go.
func goesOff(t *testing.T, d *disk.Disk) {
	t.Helper()
	does(t, d.Power(0))
	if e := d.Append(0, ""); e != api.ErrOff {
		t.Fatalf("the power did not go, but %d", e)
	}
}

// offRefuses fails unless, without power, what is too long and a reel that is full are told ahead of that.
func offRefuses(t *testing.T, d *disk.Disk, r *reel.Reel) {
	t.Helper()
	before, many, sure := d.Copy(), r.Len(), r.Sure()
	want := api.ErrOff
	if many == mostRecords {
		want = api.ErrFull
	}
	if e := r.Append(strings.Repeat("a", mostBytes+1)); e != api.ErrLong {
		t.Errorf("Append of a byte too much, without power: %d", e)
	}
	for _, s := range []string{"", "a", strings.Repeat("a", mostBytes)} {
		if e := r.Append(s); e != want {
			t.Errorf("Append without power behind %d: %d, want %d", many, e, want)
		}
	}
	want = api.ErrOff
	if sure == many {
		want = api.OK
	}
	if e := r.Sync(); e != want {
		t.Errorf("Sync without power: %d, want %d", e, want)
	}
	if r.Len() != many || r.Sure() != sure {
		t.Errorf("Len, Sure: %d, %d, want %d, %d", r.Len(), r.Sure(), many, sure)
	}
	same(t, d, before)
}

// P12.2: 512 records are put, and not one more; so too behind an Open.
func TestFull(t *testing.T) {
	d := disk.New()
	r := opened(t, d)
	for i := range mostRecords {
		does(t, r.Append(record(i)))
	}
	for f := range 64 {
		if got := whole(t, d, f); got != row(records(8*f, 8*f+8)...) {
			t.Fatalf("the file %d has %q", f, got)
		}
	}
	for range 3 {
		if e := r.Append(""); e != api.ErrFull {
			t.Errorf("Append of one more: %d", e)
		}
		if d.Ops() != mostRecords || d.Loose() != mostRecords {
			t.Errorf("Ops, Loose: %d, %d", d.Ops(), d.Loose())
		}
	}
	has(t, r, records(0, mostRecords), 0)
	does(t, r.Sync())
	if d.Ops() != mostRecords+64 || d.Loose() != 0 {
		t.Errorf("Ops, Loose: %d, %d", d.Ops(), d.Loose())
	}
	does(t, d.Crash(nil))
	r = opened(t, d)
	has(t, r, records(0, mostRecords), mostRecords)
	if e := r.Append(""); e != api.ErrFull || d.Ops() != mostRecords+64 {
		t.Errorf("Append of one more: %d, Ops %d", e, d.Ops())
	}
	l := fullFiles(64)
	l[63] = row(records(504, 511)...) + "x"
	r = opened(t, laid(t, l))
	does(t, r.Append(record(511)))
	if e := r.Append(record(512)); e != api.ErrFull {
		t.Errorf("Append of one more: %d", e)
	}
	has(t, r, records(0, mostRecords), 511)
}

// P12.2: records of MaxFrame bytes; PerFile of them, more than which no file ever has, do not reach MaxFile.
func TestLong(t *testing.T) {
	d := disk.New()
	r := opened(t, d)
	var l []string
	for i := range 17 {
		l = append(l, strings.Repeat(strconv.Itoa(i%10), mostBytes-i%2))
		does(t, r.Append(l[i]))
		if e := r.Append(l[0] + "0"); e != api.ErrLong {
			t.Errorf("Append of 65537 bytes: %d", e)
		}
	}
	has(t, r, l, 0)
	if d.Size(0) != 8*(mostBytes+beside)-4 || d.Size(0) > 1<<20 || d.Size(2) != mostBytes+beside || d.Ops() != 17 {
		t.Errorf("Size, Size, Ops: %d, %d, %d", d.Size(0), d.Size(2), d.Ops())
	}
	does(t, r.Sync(), r.Append(l[16]), d.Crash([]int{mostBytes + beside - 1}))
	r = opened(t, d)
	has(t, r, l, 17)
}

// P12.3: Sync of nothing; of records in one file, some of which are sure; in several files, of which others stay alone.
func TestSync(t *testing.T) {
	d, other := disk.New(), disk.New()
	r := opened(t, d)
	does(t, r.Sync(), r.Sync())
	same(t, d, other)
	at := 0
	for _, x := range []struct {
		more  int   // records that are put
		syncs []int // files that are synced then
	}{
		{1, []int{0}}, {0, nil}, {1, []int{0}}, {6, []int{0}}, {0, nil}, {1, []int{1}}, {7, []int{1}}, {8, []int{2}},
		{9, []int{3, 4}}, {7, []int{4}}, {0, nil}, {24, []int{5, 6, 7}}, {4, []int{8}}, {5, []int{8, 9}}, {30, []int{9, 10, 11, 12}}, {409, nil},
	} {
		if x.more == 409 {
			for f := 12; f < 64; f++ {
				x.syncs = append(x.syncs, f)
			}
		}
		for range x.more {
			does(t, r.Append(record(at)), other.Append(at/8, framed(record(at))))
			at++
		}
		same(t, d, other)
		does(t, r.Sync())
		for _, f := range x.syncs {
			does(t, other.Sync(f))
		}
		same(t, d, other)
		if d.Loose() != 0 || r.Sure() != at || r.Len() != at {
			t.Fatalf("Loose, Sure, Len: %d, %d, %d, want 0, %d, %d", d.Loose(), r.Sure(), r.Len(), at, at)
		}
		does(t, r.Sync())
		same(t, d, other)
	}
	has(t, r, records(0, mostRecords), mostRecords)
}

// P12.3: what is sure behind a Sync that the disk ended, for each place where it may: what was, and the records of the files that were synced.
func TestSyncEnded(t *testing.T) {
	for _, x := range []struct {
		first, many int
		sure        []int // behind so many Syncs of files
	}{
		{0, 1, []int{0, 1}}, {0, 8, []int{0, 8}}, {0, 9, []int{0, 8, 9}}, {3, 8, []int{3, 8}}, {3, 9, []int{3, 8, 9}}, {3, 30, []int{3, 8, 16, 24, 30}},
		{8, 9, []int{8, 9}}, {8, 24, []int{8, 16, 24}}, {13, 20, []int{13, 16, 20}}, {16, 16, []int{16}}, {500, 512, []int{500, 504, 512}},
	} {
		for n, sure := range x.sure {
			d := disk.New()
			r := opened(t, d)
			for i := range x.many {
				if i == x.first {
					does(t, r.Sync())
				}
				does(t, r.Append(record(i)))
			}
			if x.first == x.many {
				does(t, r.Sync())
			}
			does(t, d.Power(n))
			want := api.ErrOff
			if sure == x.many {
				want = api.OK
			}
			for range 2 {
				if e := r.Sync(); e != want {
					t.Errorf("Sync of %d, with power for %d: %d, want %d", x.many, n, e, want)
				}
				if r.Sure() != sure || r.Len() != x.many {
					t.Errorf("Sure, Len: %d, %d, want %d, %d", r.Sure(), r.Len(), sure, x.many)
				}
			}
			does(t, d.Crash(nil))
			has(t, opened(t, d), records(0, sure), sure)
		}
	}
}

// P12.4: records are told from the disk: without power they are not, but their places are known.
func TestGetOff(t *testing.T) {
	for _, many := range []int{0, 1, 8, 9, 20} {
		d := disk.New()
		r := opened(t, d)
		for i := range many {
			does(t, r.Append(record(i)))
		}
		has(t, r, records(0, many), 0)
		goesOff(t, d)
		for i := -3; i < many+3; i++ {
			want := api.ErrOff
			if i < 0 || i >= many {
				want = api.ErrRange
			}
			if s, e := r.Get(i); s != "" || e != want {
				t.Errorf("Get(%d) of %d, without power: %q, %d, want %d", i, many, s, e, want)
			}
		}
		for _, i := range []int{math.MinInt, math.MaxInt, 1 << 32, -1 << 32} {
			if s, e := r.Get(i); s != "" || e != api.ErrRange {
				t.Errorf("Get(%d), without power: %q, %d", i, s, e)
			}
		}
		offRefuses(t, d, r)
	}
}

// P12.1 to P12.4: rows of Appends and Syncs whose power goes at each of their operations.
func TestRowsAtEachPower(t *testing.T) {
	for _, syncs := range [][]int{nil, {3}, {7}, {8}, {9}, {2, 20}, {5, 6, 12}, {18}, {1, 2, 3, 4, 5, 6, 7, 8, 9, 10}} {
		for _, first := range []files{nil, {0: row("a", "b") + "c"}, {0: row(records(0, 7)...), 1: "x", 4: "y"}} {
			atEachPower(t, laid(t, first), func(x *both) {
				for i := range 19 {
					if slices.Contains(syncs, i) {
						x.sync()
					}
					x.append(record(i + 30))
				}
				x.sync()
				x.sync()
			})
		}
	}
}

// P12.1 to P12.4: rows of calls, held step by step against the plain reel; some disks are crashed and opened again.
func TestRows(t *testing.T) {
	for seed := range 60 {
		r := rand.New(rand.NewSource(int64(seed)))
		x := onBoth(t, disk.New())
		for i := range 80 {
			switch r.Intn(8) {
			case 0, 1, 2, 3, 4:
				x.append(records(i, i+r.Intn(4))...)
			case 5:
				x.sync()
			case 6:
				x.append(strings.Repeat("a", mostBytes+1))
			case 7:
				if keep := keeps(r, x.d.Loose()); r.Intn(3) == 0 || !x.d.On() {
					does(t, x.d.Crash(keep))
					if n := r.Intn(20); n > 0 {
						does(t, x.d.Power(n))
					}
					x = onBoth(t, x.d)
				}
			}
			x.check()
		}
		x.crashes()
	}
}

// keeps are numbers for so many changes, or some fewer: below 0, 0, small ones, huge ones, mostly such as keep all.
func keeps(r *rand.Rand, many int) []int {
	keep := make([]int, max(0, many-r.Intn(3)))
	for i := range keep {
		keep[i] = []int{0, 1, 2, 5, 9, 12, -1, all, all, all, all, all, all, all}[r.Intn(14)]
	}
	return keep
}

// begins fails unless a reel has a beginning of what was put, with so many records at least, and all that it has are sure.
func begins(t *testing.T, r *reel.Reel, put []string, sure int) {
	t.Helper()
	if r.Len() < sure || r.Len() > len(put) {
		t.Fatalf("there are %d records, of %d, %d of which are sure", r.Len(), len(put), sure)
	}
	has(t, r, put[:r.Len()], r.Len())
}

// opensAtLast opens a disk, behind Opens that the power ends at each operation, whatever of it is kept; all that is opened has to begin what was put.
func opensAtLast(t *testing.T, d *disk.Disk, put []string, sure int) {
	t.Helper()
	for n := range 200 {
		x := d.Copy()
		does(t, x.Power(n))
		r, e := reel.Open(x)
		if e == api.OK {
			begins(t, r, put, sure)
			opensAgain(t, x, put[:r.Len()])
			return
		}
		if r != nil || e != api.ErrOff {
			t.Fatalf("Open: %v, %d", r, e)
		}
		for k := range 1 << x.Loose() {
			keep := make([]int, x.Loose())
			for i := range keep {
				keep[i] = k >> i & 1
			}
			y := x.Copy()
			does(t, y.Crash(keep))
			begins(t, opened(t, y), put, sure)
		}
	}
	t.Fatal("there is no end of operations")
}

// P12.5, P12.6: some records are sure, five others in two files or three are not: whatever is kept of these, in Open too.
func TestBeginning(t *testing.T) {
	for _, sure := range []int{0, 3, 5, 6, 8, 14} {
		base := disk.New()
		r := opened(t, base)
		put := records(sure%3, sure+5+sure%3)
		for i, s := range put {
			if i == sure {
				does(t, r.Sync())
			}
			does(t, r.Append(s))
		}
		for k := range 4 * 4 * 4 * 4 * 4 {
			keep := make([]int, 5)
			for i, at := 0, k; i < 5; i, at = i+1, at/4 {
				size := len(put[sure+i]) + beside
				keep[i] = []int{0, 1 + k%7, size - 1, size}[at%4]
			}
			d := base.Copy()
			does(t, d.Crash(keep))
			opensAtLast(t, d, put, sure)
		}
	}
}

// P12.5: of one record each number of bytes is kept; what stood in files behind it goes too.
func TestBeginningOfOne(t *testing.T) {
	for i := range 12 {
		base := disk.New()
		r := opened(t, base)
		put := append(records(0, i), record(500+i))
		put = append(put, records(200, 210)...)
		for j, s := range put {
			if j == i {
				does(t, r.Sync())
			}
			does(t, r.Append(s))
		}
		size := len(put[i]) + beside
		for n := range size + 1 {
			keep := slices.Repeat([]int{all}, base.Loose())
			keep[0] = n
			d := base.Copy()
			does(t, d.Crash(keep))
			want := put[:i]
			if n == size {
				want = put
			}
			has(t, opened(t, d), want, len(want))
			opensAgain(t, d, want)
		}
	}
}

// life is what a disk went through: what was put on it, and how much of that is sure.
type life struct {
	d    *disk.Disk
	put  []string
	sure int
}

// goesOn puts records and syncs, till the power goes, or for a while.
func (x *life) goesOn(r *rand.Rand, its *reel.Reel) {
	for range r.Intn(30) {
		if s := record(r.Intn(2000)); its.Append(s) == api.OK {
			x.put = append(x.put, s)
		}
		if r.Intn(6) == 0 && its.Sync() == api.OK {
			x.sure = len(x.put)
		}
	}
}

// P12.5, P12.6: many lives of disks from new ones on, with crashes in Opens, Appends and Syncs.
func TestLives(t *testing.T) {
	for seed := range 400 {
		r := rand.New(rand.NewSource(int64(seed)))
		x := &life{d: disk.New()}
		for range 30 {
			if r.Intn(4) > 0 {
				does(t, x.d.Power(r.Intn(25)))
			}
			its, e := reel.Open(x.d)
			if e == api.OK {
				begins(t, its, x.put, x.sure)
				x.put, x.sure = x.put[:its.Len():its.Len()], its.Len()
				x.goesOn(r, its)
				x.sure = max(x.sure, its.Sure()) // of a Sync that the disk ended some may be sure too
			}
			does(t, x.d.Crash(keeps(r, x.d.Loose())))
		}
		begins(t, opened(t, x.d), x.put, x.sure)
		opensAgain(t, x.d, x.put[:opened(t, x.d).Len()])
	}
}

// R1, R6: a reel whose disk crashed, or was opened anew, or was changed by somebody else, ends all calls.
func TestOlder(t *testing.T) {
	spoils := []func(d *disk.Disk){
		func(d *disk.Disk) { d.Crash(nil) },
		func(d *disk.Disk) { d.Crash([]int{all, 3, 0, all}) },
		func(d *disk.Disk) { d.Cut(0, 5); d.Cut(1, 0); reel.Open(d) },
		func(d *disk.Disk) { d.Append(1, "x"); d.Append(2, row("a")) },
		func(d *disk.Disk) { d.Append(1, strings.Repeat("x", 1<<20-d.Size(1))) },
	}
	for _, spoil := range spoils {
		d := disk.New()
		r := opened(t, d)
		for i := range 12 {
			does(t, r.Append(record(i)))
		}
		spoil(d)
		for i := range 600 {
			r.Get(i)
			r.Get(i - 1)
			r.Append(record(i))
			if i%50 == 0 {
				r.Sync()
				spoil(d)
			}
		}
		for i := -2; i < 600; i++ {
			r.Get(i)
		}
		r.Sync()
		if r.Len() < 12 || r.Len() > mostRecords || r.Sure() > r.Len() {
			t.Errorf("Len, Sure: %d, %d", r.Len(), r.Sure())
		}
	}
}
