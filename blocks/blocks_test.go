package blocks

import (
	"bytes"
	"math"
	"slices"
	"testing"

	"fascicle/api"
	"fascicle/crcb"
	"fascicle/sector"
)

// rule makes numbers by a short rule, which differ from one seed to the next.
func rule(seed uint32) func() int {
	return func() int {
		seed = seed*1664525 + 1013904223
		return int(seed >> 16)
	}
}

// many makes bytes of that rule.
func many(n int, seed uint32) []byte {
	next := rule(seed)
	b := make([]byte, n)
	for i := range b {
		b[i] = byte(next())
	}
	return b
}

// is asks for an answer.
func is(t *testing.T, what string, got, want api.Errno) {
	t.Helper()
	if got != want {
		t.Errorf("%s: %d, want %d", what, int(got), int(want))
	}
}

// reads asks for a block's body.
func reads(t *testing.T, d *sector.Disk, a Area, n int, want []byte) {
	t.Helper()
	if b, e := Read(d, a, n); !bytes.Equal(b, want) || e != api.OK {
		t.Errorf("Read(%v, %d) = %d bytes %.20x, %d; want %d bytes %.20x", a, n, len(b), b, int(e), len(want), want)
	}
}

// readFails asks for an error of Read, without a body.
func readFails(t *testing.T, d *sector.Disk, a Area, n int, want api.Errno) {
	t.Helper()
	if b, e := Read(d, a, n); b != nil || e != want {
		t.Errorf("Read(%v, %d) = %d bytes %.20x, %d; want %d", a, n, len(b), b, int(e), int(want))
	}
}

// sound asks for the blocks that can be read.
func sound(t *testing.T, d *sector.Disk, a Area, want ...int) {
	t.Helper()
	if got := Sound(d, a); !slices.Equal(got, want) {
		t.Errorf("Sound(%v) = %v, want %v", a, got, want)
	}
}

// content asks a disk for all that its sectors have.
func content(t *testing.T, d *sector.Disk) []byte {
	t.Helper()
	var all []byte
	for n := range d.Size() {
		b, e := d.Read(n)
		if e != api.OK {
			t.Fatalf("the sector %d: %d", n, int(e))
		}
		all = append(all, b...)
	}
	return all
}

// seal tells the 1024 bytes of a block.
func seal(t *testing.T, body []byte) []byte {
	t.Helper()
	b, e := crcb.Seal(body, 1024)
	if e != api.OK {
		t.Fatal(int(e))
	}
	return b
}

// lay writes 1024 bytes as they are to the four sectors from first on.
func lay(t *testing.T, d *sector.Disk, first int, b []byte) {
	t.Helper()
	for i := range 4 {
		is(t, "lay", d.Write(first+i, b[256*i:256*i+256]), api.OK)
	}
}

// turnOff lets a disk's power fail, at a Sync that is done or not.
func turnOff(t *testing.T, d *sector.Disk, done bool) {
	t.Helper()
	is(t, "Break", d.Break(0, done), api.OK)
	is(t, "Sync", d.Sync(), api.ErrDown)
}

// wrongAreas are none of any disk.
func wrongAreas() []Area {
	return []Area{
		{-1, 0}, {-1, 1}, {-4, 1}, {math.MinInt, 0}, {math.MinInt, 1},
		{4097, 0}, {4097, 1}, {8192, 1}, {math.MaxInt, 0}, {math.MaxInt, 1},
		{0, -1}, {4, -1}, {4096, -1}, {0, math.MinInt},
		{0, 513}, {0, 1024}, {4096, 513}, {0, math.MaxInt},
		// Sums and products that wrap round to small ones.
		{0, math.MaxInt/4 + 1}, {0, math.MinInt / 4}, {0, 1 << 62}, {math.MaxInt - 3, 1}, {math.MaxInt, math.MaxInt}, {math.MinInt, math.MinInt},
		{4096, -1024}, {-4, 2},
	}
}

// P4.1
func TestCheck(t *testing.T) {
	for _, c := range []struct {
		size int
		a    Area
		want api.Errno
	}{
		{0, Area{0, 0}, api.OK},
		{0, Area{1, 0}, api.ErrArg},
		{0, Area{0, 1}, api.ErrArg},
		{3, Area{0, 1}, api.ErrArg},
		{3, Area{3, 0}, api.OK},
		{3, Area{4, 0}, api.ErrArg},
		{4, Area{0, 1}, api.OK},
		{4, Area{1, 1}, api.ErrArg},
		{20, Area{3, 4}, api.OK},
		{20, Area{4, 4}, api.OK},
		{20, Area{5, 4}, api.ErrArg},
		{20, Area{0, 5}, api.OK},
		{20, Area{0, 6}, api.ErrArg},
		{20, Area{20, 0}, api.OK},
		{20, Area{21, 0}, api.ErrArg},
		{20, Area{16, 1}, api.OK},
		{20, Area{17, 1}, api.ErrArg},
		{2047, Area{0, 512}, api.ErrArg},
		{2048, Area{0, 512}, api.OK},
		{2048, Area{1, 511}, api.OK},
		{2048, Area{1, 512}, api.ErrArg},
		{4096, Area{0, 512}, api.OK},
		{4096, Area{2048, 512}, api.OK},
		{4096, Area{2049, 512}, api.ErrArg},
		{4096, Area{4092, 1}, api.OK},
		{4096, Area{4093, 1}, api.ErrArg},
		{4096, Area{4095, 0}, api.OK},
		{4096, Area{4096, 0}, api.OK},
		{4096, Area{4096, 1}, api.ErrArg},
		{4095, Area{4096, 0}, api.ErrArg},
		{4096, Area{0, 513}, api.ErrArg},
	} {
		if got := Check(sector.New(c.size), c.a); got != c.want {
			t.Errorf("Check(%d sectors, %v) = %d, want %d", c.size, c.a, int(got), int(c.want))
		}
	}
}

// P4.1: each area near a small disk's edges.
func TestCheckNearTheEdges(t *testing.T) {
	for size := range 14 {
		d := sector.New(size)
		for first := -2; first < 16; first++ {
			for count := -2; count < 6; count++ {
				want := api.ErrArg
				if first >= 0 && count >= 0 && first+4*count <= size {
					want = api.OK
				}
				if got := Check(d, Area{first, count}); got != want {
					t.Errorf("Check(%d sectors, %d %d) = %d, want %d", size, first, count, int(got), int(want))
				}
			}
		}
	}
}

// P4.1: numbers that are none of any disk; a nil disk is told first; whether the power is on does not count.
func TestCheckFaults(t *testing.T) {
	d, off := sector.New(4096), sector.New(4096)
	turnOff(t, off, false)
	for _, a := range wrongAreas() {
		is(t, "Check", Check(d, a), api.ErrArg)
		is(t, "Check of a disk that is off", Check(off, a), api.ErrArg)
		is(t, "Check of a disk without sectors", Check(sector.New(0), a), api.ErrArg)
		is(t, "Check of nil", Check(nil, a), api.ErrNil)
	}
	for _, a := range []Area{{}, {0, 1}, {3, 4}, {4096, 0}, {2048, 512}} {
		is(t, "Check of nil", Check(nil, a), api.ErrNil)
		is(t, "Check of a disk that is off", Check(off, a), api.OK)
	}
	if d.Calls() != 0 || off.Calls() != 1 || !off.Off() {
		t.Error(d.Calls(), off.Calls(), off.Off())
	}
}

// P4.1, and the chapter's example.
func TestSectors(t *testing.T) {
	for _, c := range []struct {
		a    Area
		n    int
		want []int
	}{
		{Area{3, 2}, 1, []int{7, 8, 9, 10}},
		{Area{3, 2}, 0, []int{3, 4, 5, 6}},
		{Area{0, 1}, 0, []int{0, 1, 2, 3}},
		{Area{0, 512}, 511, []int{2044, 2045, 2046, 2047}},
		{Area{2048, 512}, 511, []int{4092, 4093, 4094, 4095}},
		// No disk has these, but Sectors asks for none.
		{Area{4096, 1}, 0, []int{4096, 4097, 4098, 4099}},
		{Area{4096, 512}, 511, []int{6140, 6141, 6142, 6143}},
		{Area{3, 2}, 2, nil},
		{Area{3, 2}, 3, nil},
		{Area{3, 2}, -1, nil},
		{Area{3, 2}, math.MaxInt, nil},
		{Area{3, 2}, math.MinInt, nil},
		{Area{3, 2}, 1 << 62, nil},
		{Area{0, 0}, 0, nil},
		{Area{4096, 0}, 0, nil},
		{Area{0, 512}, 512, nil},
	} {
		if got := Sectors(c.a, c.n); !slices.Equal(got, c.want) {
			t.Errorf("Sectors(%v, %d) = %v, want %v", c.a, c.n, got, c.want)
		}
	}
	for _, a := range wrongAreas() {
		for _, n := range []int{-1, 0, 1, 511, 512, math.MinInt, math.MaxInt} {
			if got := Sectors(a, n); got != nil {
				t.Errorf("Sectors(%v, %d) = %v", a, n, got)
			}
		}
	}
}

// P4.1: an area's blocks have all sectors of it, each one once.
func TestSectorsFillTheArea(t *testing.T) {
	for _, a := range []Area{{0, 0}, {0, 1}, {5, 9}, {100, 512}} {
		next := a.First
		for n := range a.Count {
			got := Sectors(a, n)
			if len(got) != 4 {
				t.Fatalf("Sectors(%v, %d) = %v", a, n, got)
			}
			for _, s := range got {
				if s != next {
					t.Fatalf("Sectors(%v, %d) = %v, want %d", a, n, got, next)
				}
				next++
			}
		}
		if next != a.First+4*a.Count {
			t.Errorf("%v ends at %d", a, next)
		}
	}
}

// P4.2: bodies of all lengths that may be, at each block.
func TestWriteAndRead(t *testing.T) {
	d := sector.New(30)
	a := Area{5, 6}
	for n := range 1017 {
		body := many(n, uint32(n))
		is(t, "Write", Write(d, a, n%6, body), api.OK)
		reads(t, d, a, n%6, body)
	}
	for _, n := range []int{0, 1, 247, 248, 249, 503, 504, 505, 759, 760, 761, 1015, 1016} {
		for _, body := range [][]byte{make([]byte, n), bytes.Repeat([]byte{0xff}, n), many(n, 3)} {
			is(t, "Write", Write(d, a, 2, body), api.OK)
			reads(t, d, a, 2, body)
		}
	}
	is(t, "Write of nil", Write(d, a, 2, nil), api.OK)
	reads(t, d, a, 2, nil)
}

// P4.2: the block's sectors have what crcb seals, and no other sector is written.
func TestWriteLaysTheSeal(t *testing.T) {
	for _, a := range []Area{{0, 3}, {1, 3}, {3, 2}, {11, 1}} {
		for n := range a.Count {
			d := sector.New(15)
			want := bytes.Repeat([]byte{9}, 15*256)
			for s := range 15 {
				d.Write(s, want[:256])
			}
			d.Sync()
			body := many(1000, uint32(n))
			is(t, "Write", Write(d, a, n, body), api.OK)
			first := a.First + 4*n
			copy(want[256*first:], seal(t, body))
			if !bytes.Equal(content(t, d), want) {
				t.Errorf("Write(%v, %d) laid something else", a, n)
			}
			if w := d.Waits(); !slices.Equal(w, []int{first, first + 1, first + 2, first + 3}) {
				t.Errorf("Write(%v, %d) wrote %v", a, n, w)
			}
			if d.Calls() != 15+1+4 {
				t.Errorf("%d calls: each sector is written once, and nothing is synced", d.Calls())
			}
		}
	}
}

// P4.2: a block of nothing, byte by byte.
func TestWriteOfNothing(t *testing.T) {
	d := sector.New(4)
	is(t, "Write", Write(d, Area{0, 1}, 0, nil), api.OK)
	want := append([]byte{0x61, 0xf5, 0xdd, 0xe6}, make([]byte, 1020)...)
	if got := content(t, d); !bytes.Equal(got, want) {
		t.Errorf("%.20x", got)
	}
}

// P4.2: the errors in their order; with each of them nothing has changed.
func TestWriteFaults(t *testing.T) {
	a := Area{3, 4}
	for _, c := range []struct {
		what string
		off  bool
		a    Area
		n    int
		size int
		want api.Errno
	}{
		{"all is wrong", true, Area{5, 4}, 4, 1017, api.ErrArg},
		{"too many blocks", false, Area{5, 4}, 0, 0, api.ErrArg},
		{"too many blocks, and too long", false, Area{5, 4}, 0, 1017, api.ErrArg},
		{"First is below 0", false, Area{-1, 1}, 0, 0, api.ErrArg},
		{"Count is below 0", false, Area{3, -1}, 0, 0, api.ErrArg},
		{"Count is above 512", false, Area{3, 513}, 0, 0, api.ErrArg},
		{"First is above 4096", false, Area{4097, 0}, 0, 0, api.ErrArg},
		{"no such block, off, too long", true, a, 4, 1017, api.ErrRange},
		{"no such block, off", true, a, -1, 0, api.ErrRange},
		{"no such block, too long", false, a, 4, 1017, api.ErrRange},
		{"no such block", false, a, 4, 0, api.ErrRange},
		{"no such block", false, a, -1, 0, api.ErrRange},
		{"no such block", false, a, math.MaxInt, 0, api.ErrRange},
		{"no such block", false, a, math.MinInt, 0, api.ErrRange},
		{"no such block, whose sectors would wrap round", false, a, 1 << 62, 0, api.ErrRange},
		{"no block at all", false, Area{3, 0}, 0, 0, api.ErrRange},
		{"too long, off", true, a, 3, 1017, api.ErrTooBig},
		{"one byte too long", false, a, 3, 1017, api.ErrTooBig},
		{"too long", false, a, 0, 1024, api.ErrTooBig},
		{"much too long", false, a, 0, 70000, api.ErrTooBig},
		{"off", true, a, 3, 1016, api.ErrDown},
		{"off", true, a, 0, 0, api.ErrDown},
		{"just as long as may be", false, a, 3, 1016, api.OK},
	} {
		d := sector.New(20)
		Write(d, a, 0, []byte("kept"))
		d.Sync()
		if c.off {
			turnOff(t, d, false)
		}
		calls := d.Calls()
		is(t, c.what, Write(d, c.a, c.n, make([]byte, c.size)), c.want)
		is(t, c.what+", of nil", Write(nil, c.a, c.n, make([]byte, c.size)), api.ErrNil)
		if c.want == api.OK {
			continue
		}
		if d.Calls() != calls || len(d.Waits()) != 0 || d.Off() != c.off {
			t.Errorf("%s: %d calls, %v waits", c.what, d.Calls()-calls, d.Waits())
		}
		d.Power(nil)
		reads(t, d, a, 0, []byte("kept"))
		sound(t, d, a, 0)
	}
}

// P4.2: the errors of Read in their order.
func TestReadFaults(t *testing.T) {
	a := Area{3, 4}
	d := sector.New(20)
	Write(d, a, 0, []byte("kept"))
	d.Sync()
	off := d.Fork()
	turnOff(t, off, false)
	for _, w := range append(wrongAreas(), Area{5, 4}, Area{0, 6}, Area{21, 0}) {
		for _, n := range []int{0, -1, 4, math.MaxInt, math.MinInt} {
			readFails(t, d, w, n, api.ErrArg)
			readFails(t, off, w, n, api.ErrArg)
			readFails(t, nil, w, n, api.ErrNil)
		}
	}
	for _, n := range []int{-1, 4, 5, 512, 1 << 62, math.MaxInt, math.MinInt} {
		readFails(t, d, a, n, api.ErrRange)
		readFails(t, off, a, n, api.ErrRange)
		readFails(t, nil, a, n, api.ErrNil)
	}
	readFails(t, d, Area{20, 0}, 0, api.ErrRange)
	for n := range 4 {
		readFails(t, off, a, n, api.ErrDown)
		readFails(t, nil, a, n, api.ErrNil)
	}
	for n := 1; n < 4; n++ {
		readFails(t, d, a, n, api.ErrSum)
	}
	reads(t, d, a, 0, []byte("kept"))
	if len(d.Waits()) != 0 || d.Calls() != 5 {
		t.Error(d.Waits(), d.Calls())
	}
}

// P4.2: bytes that have their sum, and yet were sealed of nothing.
func TestReadForm(t *testing.T) {
	for _, c := range []struct {
		at  int
		set byte
	}{
		{6, 1}, {7, 255}, {4, 4}, {8, 1}, {1023, 1}, {512, 9},
	} {
		b := seal(t, nil)
		b[c.at] = c.set
		sum := crcb.Of(b[4:])
		b[0], b[1], b[2], b[3] = byte(sum>>24), byte(sum>>16), byte(sum>>8), byte(sum)
		d := sector.New(11)
		a := Area{3, 2}
		lay(t, d, 7, b)
		readFails(t, d, a, 1, api.ErrForm)
		sound(t, d, a)
		// The sum is told ahead of the form.
		b[0]++
		lay(t, d, 7, b)
		readFails(t, d, a, 1, api.ErrSum)
	}
}

// P4.2: what a block has is told by its four sectors, whoever wrote them, and whatever stands beside them.
func TestReadOfFourSectors(t *testing.T) {
	d := sector.New(16)
	body := many(1016, 8)
	lay(t, d, 6, seal(t, body))
	reads(t, d, Area{6, 1}, 0, body)
	reads(t, d, Area{2, 2}, 1, body)
	readFails(t, d, Area{5, 2}, 0, api.ErrSum)
	readFails(t, d, Area{7, 2}, 0, api.ErrSum)
	// The order of the sectors counts.
	b := seal(t, body)
	turned := slices.Concat(b[768:], b[512:768], b[256:512], b[:256])
	lay(t, d, 6, turned)
	readFails(t, d, Area{6, 1}, 0, api.ErrSum)
}

// P4.2: the power fails at one of a block's sectors: those ahead of it are written, those behind it are not.
func TestPowerFailsWithinWrite(t *testing.T) {
	a := Area{2, 2}
	old, fresh := many(1016, 1), many(1016, 2)
	for at := range 4 {
		for _, done := range []bool{false, true} {
			d := sector.New(10)
			Write(d, a, 0, []byte("other"))
			Write(d, a, 1, old)
			d.Sync()
			calls := d.Calls()
			d.Break(at, done)
			is(t, "Write", Write(d, a, 1, fresh), api.ErrDown)
			if !d.Off() || d.Calls() != calls+at+1 {
				t.Errorf("at %d: off %t, %d calls", at, d.Off(), d.Calls()-calls)
			}
			readFails(t, d, a, 1, api.ErrDown)
			sound(t, d, a)
			written := at
			if done {
				written++
			}
			afterFailure(t, d, a, written, old, fresh)
		}
	}
	d := sector.New(10)
	d.Break(4, false)
	is(t, "Write ahead of the failure", Write(d, a, 1, fresh), api.OK)
	is(t, "the failure", d.Sync(), api.ErrDown)
}

// afterFailure asks, for fates of all that waits, what the block 1 has once as many of its sectors were written.
func afterFailure(t *testing.T, d *sector.Disk, a Area, written int, old, fresh []byte) {
	t.Helper()
	want := append(seal(t, fresh)[:256*written], seal(t, old)[256*written:]...)
	lost, kept := d.Fork(), d.Fork()
	lost.Power(nil)
	reads(t, lost, a, 1, old)
	kept.Power([]byte{2, 2, 2, 2})
	if got := content(t, kept)[6*256:]; !bytes.Equal(got, want) {
		t.Errorf("%d sectors were to be written", written)
	}
	switch written {
	case 0:
		reads(t, kept, a, 1, old)
	case 4:
		reads(t, kept, a, 1, fresh)
	default:
		readFails(t, kept, a, 1, api.ErrSum)
		sound(t, kept, a, 0)
	}
	reads(t, lost, a, 0, []byte("other"))
	reads(t, kept, a, 0, []byte("other"))
	is(t, "Write anew", Write(kept, a, 1, fresh), api.OK)
	reads(t, kept, a, 1, fresh)
}

// P4.2, P4.3: of a block of which some sectors are old and some are new, or one is torn, nothing is read.
func TestTornBlocks(t *testing.T) {
	a := Area{1, 1}
	old, fresh := many(1016, 1), many(1016, 2)
	d := sector.New(5)
	Write(d, a, 0, old)
	d.Sync()
	Write(d, a, 0, fresh)
	for which := range 16 {
		fates := make([]byte, 4)
		for i := range fates {
			fates[i] = byte(which >> i & 1 * 2)
		}
		f := d.Fork()
		f.Power(fates)
		switch which {
		case 0:
			reads(t, f, a, 0, old)
		case 15:
			reads(t, f, a, 0, fresh)
		default:
			readFails(t, f, a, 0, api.ErrSum)
			sound(t, f, a)
		}
	}
	for at := range 4 {
		fates := append(slices.Repeat([]byte{2}, at), 3, 100, 2, 2, 2)
		f := d.Fork()
		f.Power(fates)
		readFails(t, f, a, 0, api.ErrSum)
		sound(t, f, a)
	}
}

// P4.3
func TestSound(t *testing.T) {
	d := sector.New(30)
	a := Area{1, 7}
	sound(t, d, a)
	for i, n := range []int{5, 0, 6, 2} {
		is(t, "Write", Write(d, a, n, many(100*n, 1)), api.OK)
		want := []int{5, 0, 6, 2}[:i+1]
		sound(t, d, a, slices.Sorted(slices.Values(want))...)
	}
	// A body of nothing is one, too.
	is(t, "Write", Write(d, a, 3, nil), api.OK)
	sound(t, d, a, 0, 2, 3, 5, 6)
	sound(t, d, Area{1, 3}, 0, 2)
	sound(t, d, Area{5, 2}, 1)
	sound(t, d, Area{1, 0})
	sound(t, d, Area{2, 7})
	// The body ends ahead of the last sector, which has zeros: these are written anew, the second sector's bytes are not.
	d.Write(1+4*5+3, make([]byte, 256))
	sound(t, d, a, 0, 2, 3, 5, 6)
	d.Write(1+4*5+1, make([]byte, 256))
	sound(t, d, a, 0, 2, 3, 6)
	d.Power(nil)
	sound(t, d, a)
}

// P4.3: none of a nil disk, of wrong areas, and of a disk that is off.
func TestSoundFaults(t *testing.T) {
	d := sector.New(20)
	a := Area{3, 4}
	for n := range 4 {
		Write(d, a, n, []byte("x"))
	}
	d.Sync()
	sound(t, d, a, 0, 1, 2, 3)
	sound(t, nil, a)
	sound(t, nil, Area{})
	// In these the blocks would be found, if there were more of the disk.
	sound(t, d, Area{3, 5})
	sound(t, d, Area{3, 512})
	sound(t, d, Area{3, 513})
	sound(t, d, Area{-1, 5})
	sound(t, d, Area{-5, 6})
	for _, w := range wrongAreas() {
		sound(t, d, w)
		sound(t, nil, w)
		sound(t, sector.New(4096), w)
	}
	turnOff(t, d, true)
	sound(t, d, a)
	d.Power(nil)
	sound(t, d, a, 0, 1, 2, 3)
}

// P4.3: the blocks of the greatest area are all asked, rising.
func TestSoundOfTheGreatest(t *testing.T) {
	d := sector.New(4096)
	a := Area{2048, 512}
	var want []int
	for n := range 512 {
		if n%3 == 0 || n == 511 || n == 256 {
			is(t, "Write", Write(d, a, n, many(n, 4)), api.OK)
			want = append(want, n)
		}
	}
	sound(t, d, a, want...)
	for _, n := range want {
		reads(t, d, a, n, many(n, 4))
	}
}

// P4.4: a block that was never written is none, also where all else was written, or was lost.
func TestNeverWritten(t *testing.T) {
	d := sector.New(40)
	a := Area{4, 9}
	for n := range 9 {
		readFails(t, d, a, n, api.ErrSum)
	}
	for n := range 9 {
		if n != 4 {
			Write(d, a, n, many(1016, uint32(n)))
		}
	}
	readFails(t, d, a, 4, api.ErrSum)
	d.Sync()
	readFails(t, d, a, 4, api.ErrSum)
	Write(d, a, 4, []byte("lost"))
	reads(t, d, a, 4, []byte("lost"))
	d.Power(nil)
	readFails(t, d, a, 4, api.ErrSum)
	sound(t, d, a, 0, 1, 2, 3, 5, 6, 7, 8)
}

// P4.4: a byte of a block is changed: it is none, and the others are what they were.
func TestChangedByte(t *testing.T) {
	d := sector.New(16)
	a := Area{2, 3}
	for n := range 3 {
		Write(d, a, n, many(300*n, 6))
	}
	d.Sync()
	sealed := seal(t, many(300, 6))
	for i := range sealed {
		f := d.Fork()
		changed := bytes.Clone(sealed)
		changed[i] ^= 1 << (i % 8)
		at := i / 256
		is(t, "Write", f.Write(6+at, changed[256*at:256*at+256]), api.OK)
		readFails(t, f, a, 1, api.ErrSum)
		reads(t, f, a, 0, nil)
		reads(t, f, a, 2, many(600, 6))
	}
	sound(t, d, a, 0, 1, 2)
}

// P4.4: whatever is done with other blocks and with the power, a block that was written, and synced, is read.
func TestWhatWasSyncedIsRead(t *testing.T) {
	for seed := range uint32(150) {
		next := rule(seed)
		d := sector.New(27)
		a := Area{2, 6}
		kept := map[int][]byte{1: many(1016, seed), 4: many(next()%1017, seed+1)}
		for n, body := range kept {
			is(t, "Write", Write(d, a, n, body), api.OK)
		}
		is(t, "Sync", d.Sync(), api.OK)
		for range 30 {
			anything(d, a, []int{0, 2, 3, -1, 6}[next()%5], next)
			if !d.Off() {
				reads(t, d, a, 1, kept[1])
				reads(t, d, a, 4, kept[4])
				readFails(t, d, a, 5, api.ErrSum)
			}
		}
		d.Power([]byte{byte(next()), byte(next()), byte(next())})
		reads(t, d, a, 1, kept[1])
		reads(t, d, a, 4, kept[4])
		readFails(t, d, a, 5, api.ErrSum)
	}
}

// anything does something with a block, or with the disk.
func anything(d *sector.Disk, a Area, n int, next func() int) {
	switch next() % 8 {
	case 0:
		d.Sync()
	case 1:
		d.Break(next()%7, next()%2 == 0)
	case 2:
		fates := make([]byte, next()%9)
		for i := range fates {
			fates[i] = byte(next())
		}
		d.Power(fates)
	default:
		Write(d, a, n, many(next()%1020, uint32(next())))
	}
}

// model tells what the blocks have, as the chapter's words say, from the bytes of a disk of its own.
type model struct {
	disk *sector.Disk
	area Area
}

func (m model) write(n int, body []byte) api.Errno {
	if n < 0 || n >= m.area.Count {
		return api.ErrRange
	}
	b, e := crcb.Seal(body, 1024)
	for i := 0; i < 4 && e == api.OK; i++ {
		e = m.disk.Write(m.area.First+4*n+i, b[256*i:256*i+256])
	}
	return e
}

func (m model) read(n int) ([]byte, api.Errno) {
	if n < 0 || n >= m.area.Count {
		return nil, api.ErrRange
	}
	var all []byte
	for i := range 4 {
		b, e := m.disk.Read(m.area.First + 4*n + i)
		if e != api.OK {
			return nil, e
		}
		all = append(all, b...)
	}
	return crcb.Open(all, 1024)
}

// P4.2, P4.3: long scripts of writes, syncs and failures leave the disk and the model's alike, call by call.
func TestScripts(t *testing.T) {
	for seed := range uint32(60) {
		next := rule(seed + 1000)
		d, a := sector.New(20), Area{next() % 8, 3}
		m := model{d.Fork(), a}
		for step := range 60 {
			n, body := next()%5-1, many(next()%1020, uint32(next()))
			fates := many(next()%8, uint32(next()))
			after, done := next()%7, next()%2 == 0
			got, want := api.OK, api.OK
			switch next() % 8 {
			case 0:
				got, want = d.Sync(), m.disk.Sync()
			case 1:
				got, want = d.Break(after, done), m.disk.Break(after, done)
			case 2:
				d.Power(fates)
				m.disk.Power(fates)
			default:
				got, want = Write(d, a, n, body), m.write(n, body)
			}
			if got != want {
				t.Fatalf("seed %d, step %d: %d, want %d", seed, step, int(got), int(want))
			}
			alike(t, d, m)
		}
	}
}

// alike asks a disk and its model for each block.
func alike(t *testing.T, d *sector.Disk, m model) {
	t.Helper()
	var want []int
	for n := -1; n <= m.area.Count; n++ {
		b, e := m.read(n)
		if e == api.OK {
			want = append(want, n)
			reads(t, d, m.area, n, b)
		} else {
			readFails(t, d, m.area, n, e)
		}
	}
	sound(t, d, m.area, want...)
	if d.Calls() != m.disk.Calls() || !slices.Equal(d.Waits(), m.disk.Waits()) {
		t.Errorf("%d calls, %v wait; want %d, %v", d.Calls(), d.Waits(), m.disk.Calls(), m.disk.Waits())
	}
}

// Rule 1: a nil disk is told so by each call, whatever else it is given.
func TestNil(t *testing.T) {
	for _, a := range append(wrongAreas(), Area{}, Area{0, 1}, Area{3, 4}, Area{4096, 512}) {
		is(t, "Check", Check(nil, a), api.ErrNil)
		for _, n := range []int{0, 3, -1, 4, math.MinInt, math.MaxInt} {
			is(t, "Write", Write(nil, a, n, nil), api.ErrNil)
			is(t, "Write", Write(nil, a, n, make([]byte, 1017)), api.ErrNil)
			readFails(t, nil, a, n, api.ErrNil)
		}
		sound(t, nil, a)
	}
}

// Rule 3: arguments are neither changed nor kept.
func TestArgumentsAreLeft(t *testing.T) {
	d, a := sector.New(8), Area{0, 2}
	room := many(1016, 5)
	was := bytes.Clone(room)
	is(t, "Write", Write(d, a, 1, room[:20]), api.OK)
	if !bytes.Equal(room, was) {
		t.Error("the body or its spare room was changed")
	}
	clear(room)
	reads(t, d, a, 1, was[:20])
}

// Rule 3: an answer is new memory, and its spare room, too.
func TestAnswersAreNew(t *testing.T) {
	d, a := sector.New(12), Area{0, 3}
	Write(d, a, 0, many(500, 5))
	Write(d, a, 2, nil)
	for range 2 {
		reads(t, d, a, 0, many(500, 5))
		reads(t, d, a, 2, nil)
		sound(t, d, a, 0, 2)
		if got := Sectors(a, 2); !slices.Equal(got, []int{8, 9, 10, 11}) {
			t.Error(got)
		}
		for n := range 3 {
			b, _ := Read(d, a, n)
			spoil(b)
			spoil(Sectors(a, n))
		}
		spoil(Sound(d, a))
	}
}

// spoil writes over a list and its spare room.
func spoil[T byte | int](list []T) {
	list = list[:cap(list)]
	for i := range list {
		list[i] += 77
	}
}

// Rule 4: two disks have nothing in common, and a read changes none.
func TestTwoDisks(t *testing.T) {
	d, a := sector.New(8), Area{0, 2}
	other := sector.New(8)
	Write(d, a, 0, []byte("one"))
	readFails(t, other, a, 0, api.ErrSum)
	Write(other, a, 0, []byte("two"))
	reads(t, d, a, 0, []byte("one"))
	reads(t, other, a, 0, []byte("two"))
	f := d.Fork()
	Write(f, a, 0, []byte("three"))
	reads(t, d, a, 0, []byte("one"))
	if d.Calls() != 4 || !slices.Equal(d.Waits(), []int{0, 1, 2, 3}) {
		t.Error(d.Calls(), d.Waits())
	}
}
