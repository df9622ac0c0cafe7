package sector

import (
	"bytes"
	"math"
	"slices"
	"testing"

	"fascicle/api"
)

// full makes a sector's bytes, all the same.
func full(c byte) []byte {
	return bytes.Repeat([]byte{c}, 256)
}

// torn makes a sector's bytes, the first n of them a.
func torn(n int, a, b byte) []byte {
	return append(full(a)[:n], full(b)[n:]...)
}

// rising makes a sector's bytes, no two of which are the same.
func rising(from byte) []byte {
	b := make([]byte, 256)
	for i := range b {
		b[i] = from + byte(i)
	}
	return b
}

// has asks for what a sector has.
func has(t *testing.T, d *Disk, n int, want []byte) {
	t.Helper()
	if b, e := d.Read(n); !bytes.Equal(b, want) || e != api.OK {
		t.Errorf("Read(%d) = %x %d, want %x", n, b, int(e), want)
	}
}

// is asks for an answer.
func is(t *testing.T, what string, got, want api.Errno) {
	t.Helper()
	if got != want {
		t.Errorf("%s: %d, want %d", what, int(got), int(want))
	}
}

// looks asks for what a disk tells of itself.
func looks(t *testing.T, d *Disk, calls int, off bool, waits ...int) {
	t.Helper()
	if d.Calls() != calls || d.Off() != off || !slices.Equal(d.Waits(), waits) {
		t.Errorf("calls %d, off %t, waits %v; want %d, %t, %v", d.Calls(), d.Off(), d.Waits(), calls, off, waits)
	}
}

// broken makes a disk of two sectors whose power is off; the sector 0 has 1 all over, and is safe.
func broken(t *testing.T) *Disk {
	t.Helper()
	d := New(2)
	d.Write(0, full(1))
	d.Sync()
	is(t, "Break", d.Break(0, false), api.OK)
	is(t, "Write", d.Write(0, full(2)), api.ErrDown)
	return d
}

// P3.1
func TestNewAndSize(t *testing.T) {
	for _, c := range []struct{ sectors, want int }{
		{math.MinInt, 0}, {-1, 0}, {0, 0}, {1, 1}, {2, 2}, {255, 255},
		{4095, 4095}, {4096, 4096}, {4097, 4096}, {math.MaxInt, 4096},
	} {
		d := New(c.sectors)
		if d == nil || d.Size() != c.want {
			t.Errorf("New(%d) has %d sectors, want %d", c.sectors, d.Size(), c.want)
		}
		looks(t, d, 0, false)
	}
}

// P3.1, P3.2: each sector that Size counts is there, has zeros, and is a sector of its own.
func TestSectorsAtFirst(t *testing.T) {
	for _, size := range []int{0, 1, 7, 4096} {
		d := New(size)
		for n := range size {
			has(t, d, n, full(0))
		}
		for n := range size {
			is(t, "Write", d.Write(n, full(byte(n+1))), api.OK)
		}
		for n := range size {
			has(t, d, n, full(byte(n+1)))
		}
		is(t, "Write behind the last", d.Write(size, full(1)), api.ErrRange)
		is(t, "Write ahead of the first", d.Write(-1, full(1)), api.ErrRange)
	}
}

// P3.2
func TestWriteReadSync(t *testing.T) {
	d := New(5)
	is(t, "Write", d.Write(4, rising(9)), api.OK)
	has(t, d, 4, rising(9))
	has(t, d, 3, full(0))
	looks(t, d, 1, false, 4)
	is(t, "Write again", d.Write(4, rising(77)), api.OK)
	has(t, d, 4, rising(77))
	is(t, "Write", d.Write(0, full(255)), api.OK)
	looks(t, d, 3, false, 0, 4)
	is(t, "Sync", d.Sync(), api.OK)
	looks(t, d, 4, false)
	has(t, d, 0, full(255))
	has(t, d, 4, rising(77))
	is(t, "Sync of nothing", d.Sync(), api.OK)
	looks(t, d, 5, false)
	d.Power([]byte{0})
	has(t, d, 0, full(255))
	has(t, d, 4, rising(77))
}

// P3.2: what is written anew as it was waits, too.
func TestSameBytesWait(t *testing.T) {
	d := New(3)
	d.Write(1, full(0))
	looks(t, d, 1, false, 1)
	d.Sync()
	d.Write(1, full(0))
	looks(t, d, 3, false, 1)
}

// P3.2: only the last of what was written counts, and what is safe is what was had at the last Sync.
func TestSafeIsOfTheLastSync(t *testing.T) {
	d := New(1)
	d.Write(0, full(1))
	d.Sync()
	d.Write(0, full(2))
	d.Sync()
	d.Write(0, full(3))
	d.Write(0, full(4))
	f := d.Fork()
	d.Power(nil)
	has(t, d, 0, full(2))
	f.Power([]byte{3, 10})
	has(t, f, 0, torn(10, 4, 2))
}

// P3.2: the errors in their order, on a disk whose power is on.
func TestFaults(t *testing.T) {
	d := New(3)
	for _, c := range []struct {
		n, size int
		want    api.Errno
	}{
		{-1, 256, api.ErrRange},
		{3, 256, api.ErrRange},
		{4, 256, api.ErrRange},
		{4096, 256, api.ErrRange},
		{math.MinInt, 256, api.ErrRange},
		{math.MaxInt, 256, api.ErrRange},
		{3, 255, api.ErrRange},
		{-1, 0, api.ErrRange},
		{0, 0, api.ErrArg},
		{0, 1, api.ErrArg},
		{0, 255, api.ErrArg},
		{2, 257, api.ErrArg},
		{2, 512, api.ErrArg},
		{0, 256, api.OK},
		{2, 256, api.OK},
	} {
		f := d.Fork()
		if got := f.Write(c.n, make([]byte, c.size)); got != c.want {
			t.Errorf("Write(%d, %d bytes) = %d, want %d", c.n, c.size, int(got), int(c.want))
		}
		if c.want == api.OK {
			looks(t, f, 1, false, c.n)
		} else {
			looks(t, f, 0, false)
		}
	}
	is(t, "Write of nil", d.Write(0, nil), api.ErrArg)
	for _, n := range []int{-1, 3, 4096, math.MinInt, math.MaxInt} {
		if b, e := d.Read(n); b != nil || e != api.ErrRange {
			t.Errorf("Read(%d) = %x %d", n, b, int(e))
		}
	}
	if b, e := New(0).Read(0); b != nil || e != api.ErrRange {
		t.Errorf("Read of a disk without sectors: %x %d", b, int(e))
	}
	is(t, "Sync of a disk without sectors", New(0).Sync(), api.OK)
}

// P3.2: 255 and 257 bytes change nothing that was there.
func TestWrongLengthsChangeNothing(t *testing.T) {
	d := New(2)
	d.Write(1, rising(3))
	for _, n := range []int{0, 255, 257} {
		is(t, "Write", d.Write(1, make([]byte, n)), api.ErrArg)
		is(t, "Write", d.Write(0, make([]byte, n)), api.ErrArg)
	}
	has(t, d, 1, rising(3))
	looks(t, d, 1, false, 1)
}

// P3.2, P3.3: a disk whose power is off tells so ahead of all else but nil, and stays as it is.
func TestPowerIsOff(t *testing.T) {
	d := broken(t)
	for range 2 {
		for _, n := range []int{0, 1, 2, -1, math.MaxInt} {
			is(t, "Write", d.Write(n, full(9)), api.ErrDown)
			is(t, "Write of a wrong length", d.Write(n, full(9)[:255]), api.ErrDown)
			if b, e := d.Read(n); b != nil || e != api.ErrDown {
				t.Errorf("Read(%d) = %x %d", n, b, int(e))
			}
		}
		is(t, "Sync", d.Sync(), api.ErrDown)
		is(t, "Break", d.Break(0, true), api.ErrDown)
		is(t, "Break of a wrong number", d.Break(-1, true), api.ErrDown)
		looks(t, d, 3, true)
	}
	if d.Size() != 2 {
		t.Error(d.Size())
	}
	d.Power(nil)
	looks(t, d, 3, false)
	has(t, d, 0, full(1))
	is(t, "Write", d.Write(0, full(9)), api.OK)
	is(t, "Sync", d.Sync(), api.OK)
	looks(t, d, 5, false)
}

// P3.3: what is told an error ahead of the break counts neither in Calls nor towards the break.
func TestCallsAndWhatDoesNotCount(t *testing.T) {
	d := New(2)
	is(t, "Break", d.Break(2, false), api.OK)
	is(t, "1", d.Write(0, full(1)), api.OK)
	is(t, "out of range", d.Write(2, full(1)), api.ErrRange)
	is(t, "wrong length", d.Write(0, full(1)[1:]), api.ErrArg)
	is(t, "wrong break", d.Break(-1, false), api.ErrArg)
	d.Read(0)
	d.Read(2)
	d.Waits()
	d.Fork().Sync()
	looks(t, d, 1, false, 0)
	is(t, "2", d.Sync(), api.OK)
	is(t, "3", d.Sync(), api.ErrDown)
	looks(t, d, 3, true)
}

// P3.3
func TestBreakFaults(t *testing.T) {
	d := New(1)
	for _, after := range []int{-1, -2, math.MinInt} {
		is(t, "Break", d.Break(after, true), api.ErrArg)
	}
	is(t, "Write", d.Write(0, full(1)), api.OK)
	looks(t, d, 1, false, 0)
	// A wrong Break leaves the one that was set.
	is(t, "Break", d.Break(0, false), api.OK)
	is(t, "Break", d.Break(-1, true), api.ErrArg)
	is(t, "Write", d.Write(0, full(2)), api.ErrDown)
	d.Power([]byte{2})
	has(t, d, 0, full(1))
}

// P3.3: the after-th call of either kind, done or not.
func TestBreakAfter(t *testing.T) {
	for _, done := range []bool{false, true} {
		for after := range 6 {
			d := New(8)
			is(t, "Break", d.Break(after, done), api.OK)
			looks(t, d, 0, false)
			for n := range after {
				if n%2 == 0 {
					is(t, "Write", d.Write(n, full(7)), api.OK)
				} else {
					is(t, "Sync", d.Sync(), api.OK)
				}
			}
			s := d.Fork()
			var waits []int
			if after%2 == 1 {
				waits = []int{after - 1}
			}
			looks(t, d, after, false, waits...)
			breakAtWrite(t, d, after, done, waits)
			breakAtSync(t, s, after, done, waits)
		}
	}
	d := New(1)
	is(t, "Break far off", d.Break(math.MaxInt, false), api.OK)
	for range 1000 {
		is(t, "Write", d.Write(0, full(1)), api.OK)
	}
}

func breakAtWrite(t *testing.T, d *Disk, calls int, done bool, waits []int) {
	t.Helper()
	is(t, "Write that breaks", d.Write(7, full(9)), api.ErrDown)
	want := full(0)
	if done {
		waits, want = append(slices.Clone(waits), 7), full(9)
	}
	looks(t, d, calls+1, true, waits...)
	d.Power([]byte{2, 2})
	looks(t, d, calls+1, false)
	has(t, d, 7, want)
}

func breakAtSync(t *testing.T, d *Disk, calls int, done bool, waits []int) {
	t.Helper()
	is(t, "Sync that breaks", d.Sync(), api.ErrDown)
	safe := full(0)
	if done {
		waits, safe = slices.Delete(slices.Clone(waits), 0, len(waits)), full(7)
	}
	looks(t, d, calls+1, true, waits...)
	d.Power(nil)
	looks(t, d, calls+1, false)
	if calls%2 == 1 {
		has(t, d, calls-1, safe)
	}
}

// P3.3: a Sync that was done makes all safe, one that was not done makes nothing safe.
func TestBreakOfSync(t *testing.T) {
	for _, done := range []bool{false, true} {
		d := New(3)
		d.Write(0, full(1))
		d.Write(2, full(2))
		d.Break(0, done)
		is(t, "Sync", d.Sync(), api.ErrDown)
		d.Power([]byte{0, 3, 4})
		if done {
			has(t, d, 0, full(1))
			has(t, d, 2, full(2))
		} else {
			has(t, d, 0, full(0))
			has(t, d, 2, torn(4, 2, 0))
		}
	}
}

// P3.3: of two Breaks the later one counts.
func TestBreakAnew(t *testing.T) {
	d := New(1)
	d.Break(0, false)
	d.Break(1, true)
	is(t, "Write", d.Write(0, full(1)), api.OK)
	is(t, "Sync", d.Sync(), api.ErrDown)
	d.Power(nil)
	has(t, d, 0, full(1))
	d.Break(5, false)
	d.Write(0, full(2))
	d.Break(0, true)
	is(t, "Write", d.Write(0, full(3)), api.ErrDown)
	d.Power([]byte{2})
	has(t, d, 0, full(3))
}

// P3.4, and the chapter's example.
func TestPowerExample(t *testing.T) {
	d := New(6)
	d.Write(3, full(7))
	d.Power([]byte{3, 5})
	has(t, d, 3, torn(5, 7, 0))
	looks(t, d, 1, false)
}

// P3.4: each fate, by its rest of four.
func TestFates(t *testing.T) {
	for f := range 256 {
		for _, first := range []byte{0, 1, 2, 100, 254, 255} {
			d := New(2)
			d.Write(1, full(20))
			d.Sync()
			d.Write(1, rising(30))
			d.Power([]byte{byte(f), first})
			want := [][]byte{
				full(20),
				full(20),
				rising(30),
				append(rising(30)[:first], full(20)[first:]...),
			}[f%4]
			has(t, d, 1, want)
			looks(t, d, 3, false)
			d.Power([]byte{0})
			has(t, d, 1, want)
		}
	}
}

// P3.4: fates are taken by rising numbers of those that wait; one that tears takes two; those that are missing are 0.
func TestFatesInOrder(t *testing.T) {
	for _, c := range []struct {
		fates string
		want  [4][]byte
	}{
		{"", [4][]byte{full(1), full(2), full(3), full(4)}},
		{"\x02", [4][]byte{full(11), full(2), full(3), full(4)}},
		{"\x00\x02", [4][]byte{full(1), full(12), full(3), full(4)}},
		{"\x01\x01\x01\x02", [4][]byte{full(1), full(2), full(3), full(14)}},
		{"\x02\x02\x02\x02", [4][]byte{full(11), full(12), full(13), full(14)}},
		{"\x02\x02\x02\x02\x02\x02", [4][]byte{full(11), full(12), full(13), full(14)}},
		{"\x03\x02\x02", [4][]byte{torn(2, 11, 1), full(12), full(3), full(4)}},
		{"\x03\x03\x03\x03", [4][]byte{torn(3, 11, 1), torn(3, 12, 2), full(3), full(4)}},
		{"\x03", [4][]byte{full(1), full(2), full(3), full(4)}},
		{"\x02\x03", [4][]byte{full(11), full(2), full(3), full(4)}},
		{"\x02\x03\xff", [4][]byte{full(11), torn(255, 12, 2), full(3), full(4)}},
		{"\x07\x80\x06\x05\x0b\x01", [4][]byte{torn(128, 11, 1), full(12), full(3), torn(1, 14, 4)}},
		{"\x00\x00\x00\xff\x09\x02", [4][]byte{full(1), full(2), full(3), torn(9, 14, 4)}},
	} {
		d := New(60)
		at := [4]int{0, 9, 10, 59}
		for i, n := range at {
			d.Write(n, full(byte(i+1)))
		}
		d.Write(30, full(30))
		d.Sync()
		// The order of writing is not that of the numbers.
		for _, i := range []int{2, 0, 3, 1, 2} {
			d.Write(at[i], full(byte(i+11)))
		}
		d.Power([]byte(c.fates))
		for i, n := range at {
			has(t, d, n, c.want[i])
		}
		has(t, d, 30, full(30))
		looks(t, d, 11, false)
	}
}

// P3.4: what each has behind a power loss is safe.
func TestPowerMakesSafe(t *testing.T) {
	d := New(2)
	d.Write(0, full(1))
	d.Write(1, full(2))
	d.Power([]byte{2, 3, 50})
	d.Write(0, full(3))
	d.Write(1, full(4))
	d.Power([]byte{0, 3, 20})
	has(t, d, 0, full(1))
	has(t, d, 1, append(full(4)[:20], torn(50, 2, 0)[20:]...))
}

// P3.4: a power loss forgets a Break that is still to come, and one that came.
func TestPowerForgetsBreak(t *testing.T) {
	d := New(1)
	d.Break(1, false)
	d.Write(0, full(1))
	d.Power(nil)
	for range 5 {
		is(t, "Write", d.Write(0, full(2)), api.OK)
		is(t, "Sync", d.Sync(), api.OK)
	}
	d = broken(t)
	d.Power(nil)
	for range 5 {
		is(t, "Write", d.Write(0, full(2)), api.OK)
		is(t, "Sync", d.Sync(), api.OK)
	}
	looks(t, d, 13, false)
}

// P3.5
func TestWaitsRise(t *testing.T) {
	d := New(4096)
	var want []int
	for n := 4095; n >= 0; n -= 3 {
		d.Write(n, full(1))
		d.Write((n*7)%4096, full(2))
		want = append(want, n, (n*7)%4096)
	}
	slices.Sort(want)
	want = slices.Compact(want)
	if got := d.Waits(); !slices.Equal(got, want) {
		t.Errorf("%d wait, want %d: %v", len(got), len(want), got)
	}
	d.Sync()
	if got := d.Waits(); len(got) != 0 {
		t.Error(got)
	}
}

// P3.5: a fork is as the disk is, and each goes its own way.
func TestFork(t *testing.T) {
	d := New(4)
	d.Write(0, full(1))
	d.Write(1, full(2))
	d.Sync()
	d.Write(1, full(3))
	d.Write(2, full(4))
	f := d.Fork()
	if f == d || f.Size() != 4 {
		t.Fatal(f.Size())
	}
	looks(t, f, 5, false, 1, 2)
	f.Write(0, full(8))
	f.Write(1, full(9))
	f.Sync()
	f.Write(3, full(7))
	looks(t, d, 5, false, 1, 2)
	for n, c := range []byte{1, 3, 4, 0} {
		has(t, d, n, full(c))
	}
	d.Power([]byte{0, 2})
	d.Write(3, full(5))
	d.Sync()
	looks(t, f, 9, false, 3)
	for n, c := range []byte{8, 9, 4, 7} {
		has(t, f, n, full(c))
	}
	f.Power(nil)
	for n, c := range []byte{8, 9, 4, 0} {
		has(t, f, n, full(c))
	}
	for n, c := range []byte{1, 2, 4, 5} {
		has(t, d, n, full(c))
	}
}

// P3.5: also in what of a Break is still to come, and whether the power is off.
func TestForkOfBreak(t *testing.T) {
	d := New(1)
	d.Break(2, true)
	d.Sync()
	f := d.Fork()
	is(t, "the disk", d.Sync(), api.OK)
	is(t, "the disk", d.Write(0, full(1)), api.ErrDown)
	looks(t, f, 1, false)
	off := d.Fork()
	looks(t, off, 3, true, 0)
	is(t, "a fork of one that is off", off.Sync(), api.ErrDown)
	off.Power([]byte{2})
	has(t, off, 0, full(1))
	looks(t, d, 3, true, 0)
	is(t, "the fork", f.Sync(), api.OK)
	is(t, "the fork", f.Sync(), api.ErrDown)
	f.Power(nil)
	looks(t, f, 3, false)
	g := New(1)
	h := g.Fork()
	h.Break(0, false)
	is(t, "a disk whose fork breaks", g.Sync(), api.OK)
	is(t, "the fork that breaks", h.Sync(), api.ErrDown)
}

// P3.2, P3.3, P3.5: what nil tells.
func TestNil(t *testing.T) {
	var d *Disk
	is(t, "Write", d.Write(0, full(1)), api.ErrNil)
	is(t, "Write of nothing, nowhere", d.Write(-1, nil), api.ErrNil)
	for _, n := range []int{0, -1, math.MaxInt} {
		if b, e := d.Read(n); b != nil || e != api.ErrNil {
			t.Errorf("%x %d", b, int(e))
		}
	}
	is(t, "Sync", d.Sync(), api.ErrNil)
	is(t, "Break", d.Break(0, true), api.ErrNil)
	is(t, "Break of a wrong number", d.Break(-1, true), api.ErrNil)
	d.Power([]byte{2, 3, 5})
	d.Power(nil)
	if d.Size() != 0 || d.Calls() != 0 || d.Off() || len(d.Waits()) != 0 || d.Fork() != nil {
		t.Error(d.Size(), d.Calls(), d.Off(), d.Waits(), d.Fork())
	}
}

// P3.6: whatever is done with the others, a sector that was synced, and not written since, stays.
func TestWhatWasSyncedStays(t *testing.T) {
	for seed := range uint32(200) {
		d := New(6)
		next := rule(seed)
		d.Write(2, rising(40))
		d.Write(5, rising(50))
		d.Sync()
		for range 60 {
			anything(d, []int{0, 1, 3, 4}[next()%4], next)
		}
		d.Power([]byte{byte(next()), byte(next())})
		has(t, d, 2, rising(40))
		has(t, d, 5, rising(50))
	}
}

// rule makes numbers by a short rule, which differ from one seed to the next.
func rule(seed uint32) func() int {
	return func() int {
		seed = seed*1664525 + 1013904223
		return int(seed >> 16)
	}
}

// face is what a disk and its model have in common.
type face interface {
	Write(n int, b []byte) api.Errno
	Read(n int) ([]byte, api.Errno)
	Sync() api.Errno
	Break(after int, done bool) api.Errno
	Power(fates []byte)
	Off() bool
	Waits() []int
	Calls() int
}

// anything does something with a sector, or with the disk.
func anything(d face, n int, next func() int) api.Errno {
	switch next() % 10 {
	case 0:
		return d.Sync()
	case 1:
		return d.Break(next()%9-1, next()%2 == 0)
	case 2:
		fates := make([]byte, next()%8)
		for i := range fates {
			fates[i] = byte(next())
		}
		d.Power(fates)
		return api.OK
	case 3:
		return d.Write(n, make([]byte, 255+next()%3))
	}
	return d.Write(n, rising(byte(next())))
}

// model is a disk as the document's words tell it: for each sector what it has, what is safe of it, and whether it waits.
type model struct {
	has, safe [][]byte
	waits     []bool
	calls     int
	off       bool
	fails     []bool // one element: whether the call is done
	at        int    // the value of calls at which it fails
}

func (m *model) Write(n int, b []byte) api.Errno {
	if m.off {
		return api.ErrDown
	} else if n < 0 || n >= len(m.has) {
		return api.ErrRange
	} else if len(b) != 256 {
		return api.ErrArg
	}
	done, e := m.counts()
	if done {
		m.has[n], m.waits[n] = bytes.Clone(b), true
	}
	return e
}

func (m *model) Read(n int) ([]byte, api.Errno) {
	if m.off {
		return nil, api.ErrDown
	} else if n < 0 || n >= len(m.has) {
		return nil, api.ErrRange
	}
	return bytes.Clone(m.has[n]), api.OK
}

func (m *model) Sync() api.Errno {
	if m.off {
		return api.ErrDown
	}
	done, e := m.counts()
	if done {
		m.settle()
	}
	return e
}

func (m *model) counts() (bool, api.Errno) {
	m.calls++
	if len(m.fails) == 1 && m.calls > m.at {
		m.off = true
		return m.fails[0], api.ErrDown
	}
	return true, api.OK
}

func (m *model) settle() {
	for n := range m.has {
		m.safe[n], m.waits[n] = bytes.Clone(m.has[n]), false
	}
}

func (m *model) Break(after int, done bool) api.Errno {
	if m.off {
		return api.ErrDown
	} else if after < 0 {
		return api.ErrArg
	}
	m.fails, m.at = []bool{done}, m.calls+after
	return api.OK
}

func (m *model) Power(fates []byte) {
	fates = append(bytes.Clone(fates), make([]byte, 2*len(m.has))...)
	for n := range m.has {
		if !m.waits[n] {
			continue
		}
		keeps := 0
		switch fates[0] % 4 {
		case 2:
			keeps = 256
		case 3:
			fates = fates[1:]
			keeps = int(fates[0])
		}
		fates = fates[1:]
		m.has[n] = append(bytes.Clone(m.has[n][:keeps]), m.safe[n][keeps:]...)
	}
	m.settle()
	m.off, m.fails = false, nil
}

func (m *model) Off() bool  { return m.off }
func (m *model) Calls() int { return m.calls }

func (m *model) Waits() []int {
	var all []int
	for n, waits := range m.waits {
		if waits {
			all = append(all, n)
		}
	}
	return all
}

// P3.1 to P3.6: long scripts are answered as by the model, on forks, too.
func TestAsTheModel(t *testing.T) {
	for seed := range uint32(150) {
		const size = 5
		d, m := New(size), &model{waits: make([]bool, size)}
		for range size {
			m.has, m.safe = append(m.has, full(0)), append(m.safe, full(0))
		}
		next, nextOfModel := rule(seed), rule(seed)
		for step := range 200 {
			got := anything(d, next()%(size+2)-1, next)
			want := anything(m, nextOfModel()%(size+2)-1, nextOfModel)
			if got != want {
				t.Fatalf("script %d, step %d: %d, want %d", seed, step, int(got), int(want))
			}
			looks(t, d, m.calls, m.off, m.Waits()...)
			for n := -1; n <= size; n++ {
				b, e := d.Read(n)
				c, f := m.Read(n)
				if !bytes.Equal(b, c) || e != f {
					t.Fatalf("script %d, step %d, sector %d: %x %d, want %x %d", seed, step, n, b, int(e), c, int(f))
				}
			}
			if step%20 == 19 {
				elder := d
				d = d.Fork()
				elder.Power([]byte{2, 2, 2})
				elder.Write(step%size, full(99))
			}
		}
	}
}

// Rule 3: what is handed in is neither changed nor kept.
func TestArgumentsAreNotKept(t *testing.T) {
	d := New(2)
	room := append(rising(1), full(9)...)
	d.Write(0, room[:256])
	if !bytes.Equal(room, append(rising(1), full(9)...)) {
		t.Errorf("%x", room)
	}
	clear(room)
	has(t, d, 0, rising(1))
	fates := []byte{3, 9, 2, 2}
	d.Power(fates[:2])
	if !bytes.Equal(fates, []byte{3, 9, 2, 2}) {
		t.Errorf("%x", fates)
	}
}

// Rule 3: an answer is new memory, and its spare room, too.
func TestAnswersAreNew(t *testing.T) {
	d := New(3)
	d.Write(0, rising(1))
	d.Sync()
	d.Write(1, rising(2))
	for range 2 {
		for n, want := range [][]byte{rising(1), rising(2), full(0)} {
			b, e := d.Read(n)
			if !bytes.Equal(b, want) || e != api.OK {
				t.Errorf("%d: %x %d", n, b, int(e))
			}
			b = b[:cap(b)]
			for i := range b {
				b[i] ^= 0xa5
			}
		}
		w := d.Waits()
		w = w[:cap(w)]
		for i := range w {
			w[i] = 2
		}
		looks(t, d, 3, false, 1)
	}
	d.Power([]byte{2})
	has(t, d, 1, rising(2))
}

// Rule 4: two disks have nothing in common.
func TestTwoDisks(t *testing.T) {
	a, b := New(2), New(2)
	a.Write(0, full(1))
	a.Sync()
	a.Break(0, false)
	a.Sync()
	looks(t, b, 0, false)
	has(t, b, 0, full(0))
	is(t, "Sync", b.Sync(), api.OK)
}
