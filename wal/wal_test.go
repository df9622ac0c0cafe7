package wal

import (
	"fmt"
	"math"
	"slices"
	"strings"
	"testing"

	"fascicle/api"
	"fascicle/sector"
)

// P10.1, P10.2, P10.3: the chapter's example.
func TestExample(t *testing.T) {
	d := sector.New(9)
	l := begin(t, d, 1, 8, 1)
	add(t, l, "a")
	must(t, "Sync", l.Sync())
	want := slices.Repeat([][]byte{make([]byte, 256)}, 9)
	want[1] = sectorOf(1, 0, "a")
	if !same(whole(t, d), want) || len(d.Waits()) > 0 {
		t.Errorf("the disk has %x, and waits %v", whole(t, d), d.Waits())
	}
	looksLike(t, "Open", open(t, d, 1, 8, 1), looks{records: []string{"a"}, epoch: 1, closed: true})
}

// P10.1: each bound of first, count and epoch, from inside.
func TestBounds(t *testing.T) {
	for _, c := range []struct{ size, first, count int }{
		{9, 1, 8}, {9, 0, 9}, {9, 0, 8}, {9, 8, 1}, {9, 9, 0}, {9, 0, 0}, {9, 8, 0}, {1, 0, 1}, {0, 0, 0},
		{256, 0, 256}, {257, 1, 256}, {257, 0, 256}, {4096, 3840, 256}, {4096, 0, 256}, {4096, 4095, 1}, {4096, 4096, 0}, {4096, 8, 255},
	} {
		for _, epoch := range []int{1, 2, 255, 256, 1 << 32, maxEpoch - 1, maxEpoch} {
			what := fmt.Sprint(c, epoch)
			d := sector.New(c.size)
			must(t, "Break", d.Break(0, false)) // any writing would turn it off
			was := lookAt(t, d)
			looksLike(t, what, begin(t, d, c.first, c.count, epoch), looks{epoch: epoch, left: c.count})
			looksLike(t, what, open(t, d, c.first, c.count, epoch), looks{epoch: epoch, closed: true})
			untouched(t, what, d, was)
		}
	}
}

// P10.1: each bound of first, count and epoch, from outside.
func TestBoundsFromOutside(t *testing.T) {
	for _, c := range []struct{ size, first, count int }{
		{9, -1, 8}, {9, -1, 0}, {9, -8, 8}, {9, 1, -1}, {9, 9, -1}, {9, 2, 8}, {9, 0, 10}, {9, 9, 1}, {9, 10, 0}, {0, 0, 1}, {0, 1, 0}, {0, 1, -1},
		{4096, 0, 257}, {4096, 0, 4096}, {4096, 100, 257}, {4096, 3841, 256}, {4096, 4096, 1}, {4096, 4097, 0}, {255, 0, 256}, {256, 1, 256},
		{9, math.MaxInt, 1}, {9, math.MaxInt, 8}, {9, math.MaxInt, 256}, {9, math.MaxInt, 0}, {9, math.MinInt, 8}, {9, math.MinInt, 0}, {9, math.MinInt, math.MinInt},
		{9, 0, math.MaxInt}, {9, 1, math.MaxInt}, {9, math.MaxInt, math.MaxInt}, {9, 0, math.MinInt}, {9, math.MaxInt, math.MinInt}, {9, math.MinInt, math.MaxInt},
	} {
		d := sector.New(c.size)
		was := lookAt(t, d)
		fails(t, fmt.Sprint(c), d, c.first, c.count, 1, api.ErrArg)
		fails(t, fmt.Sprint(c), d, c.first, c.count, maxEpoch, api.ErrArg)
		untouched(t, fmt.Sprint(c), d, was)
	}
	for _, epoch := range []int{0, -1, maxEpoch + 1, math.MaxInt, math.MinInt, -maxEpoch, 1 << 56} {
		d := sector.New(9)
		was := lookAt(t, d)
		fails(t, "the epoch", d, 1, 8, epoch, api.ErrRange)
		fails(t, "the epoch", d, 9, 0, epoch, api.ErrRange)
		untouched(t, fmt.Sprint(epoch), d, was)
	}
}

// P10.1: of two errors the first one is told.
func TestOrderOfFaults(t *testing.T) {
	down := sector.New(9)
	turnOff(t, down)
	up := sector.New(9)
	for _, c := range []struct{ first, count, epoch int }{{1, 8, 1}, {2, 8, 1}, {-1, 8, 1}, {1, 257, 1}, {1, -1, 1}, {1, 8, 0}, {1, 8, maxEpoch + 1}, {2, 8, 0}, {-1, 300, -5}} {
		fails(t, "nil", nil, c.first, c.count, c.epoch, api.ErrNil)
		fails(t, "a disk that is down", down, c.first, c.count, c.epoch, api.ErrDown)
	}
	for _, epoch := range []int{0, -1, maxEpoch + 1} {
		fails(t, "both", up, 2, 8, epoch, api.ErrArg)
		fails(t, "both", up, -1, 8, epoch, api.ErrArg)
		fails(t, "both", up, 0, -1, epoch, api.ErrArg)
		fails(t, "both", up, 0, 257, epoch, api.ErrArg)
	}
	down.Power(nil)
	begin(t, down, 1, 8, 1)
	open(t, down, 1, 8, 1)
}

// P10.1: New is empty, whatever the ring has, also of this epoch.
func TestNewOverOthers(t *testing.T) {
	for _, epoch := range []int{1, 4, 5, 6, maxEpoch} {
		d := sector.New(9)
		lay(t, d, 1, logOf(5, times(8, 200)))
		was := lookAt(t, d)
		l := begin(t, d, 1, 8, epoch)
		looksLike(t, "New", l, looks{epoch: epoch, left: 8})
		untouched(t, "New", d, was)
		add(t, l, "a")
		must(t, "Sync", l.Sync())
		if b := whole(t, d); !same(b[1:2], logOf(epoch, []string{"a"})) || !same(b[2:], was.has[2:]) {
			t.Errorf("the epoch %d: the disk has %x", epoch, b)
		}
	}
}

// P10.1: Open tells just what the sectors of the ring say.
func TestOpen(t *testing.T) {
	texts := times(8, 200)
	log := logOf(7, texts)
	zeros := make([]byte, 256)
	other := logOf(6, texts)
	torn := slices.Concat(log[2][:100], other[2][100:])
	for _, c := range []struct {
		what string
		ring [][]byte
		want []string
	}{
		{"none", nil, nil},
		{"all", log, texts},
		{"some", log[:3], texts[:3]},
		{"some, and others behind", slices.Concat(log[:3], other[3:]), texts[:3]},
		{"others", other, nil},
		{"from a further place on", log[1:], nil},
		{"without one", slices.Concat(log[:2], log[3:]), texts[:2]},
		{"one that is zeros", slices.Concat(log[:2], [][]byte{zeros}, log[3:]), texts[:2]},
		{"one that is torn", slices.Concat(log[:2], [][]byte{torn}, log[3:]), texts[:2]},
		{"the first one of another epoch", slices.Concat(other[:1], log[1:]), nil},
		{"many in one", [][]byte{sectorOf(7, 0, "", "a", "", "bc"), sectorOf(7, 1, "", "")}, []string{"", "a", "", "bc", "", ""}},
		{"one without texts", [][]byte{sectorOf(7, 0, "a"), sectorOf(7, 1), sectorOf(7, 2, "b")}, []string{"a"}},
	} {
		for _, first := range []int{0, 1, 3} {
			d := sector.New(first + 8)
			lay(t, d, first, c.ring)
			was := lookAt(t, d)
			looksLike(t, c.what, open(t, d, first, 8, 7), looks{records: c.want, epoch: 7, closed: true})
			untouched(t, c.what, d, was)
		}
	}
}

// P10.1: no sector beside the ring is read.
func TestOpenOfTheRingAlone(t *testing.T) {
	texts := times(8, 200)
	for first := range 4 {
		for count := range 9 {
			d := sector.New(12)
			lay(t, d, first, logOf(7, texts))
			looksLike(t, fmt.Sprint(first, count), open(t, d, first, count, 7), looks{records: texts[:count], epoch: 7, closed: true})
			if first > 0 {
				looksLike(t, "a ring that begins ahead", open(t, d, first-1, count, 7), looks{epoch: 7, closed: true})
			}
			if count > 0 {
				looksLike(t, "a ring that begins behind", open(t, d, first+1, count, 7), looks{epoch: 7, closed: true})
			}
		}
	}
}

// P10.1: what the disk has counts, also where it waits.
func TestOpenOfWhatWaitsOnTheDisk(t *testing.T) {
	d := sector.New(9)
	for i, b := range logOf(3, times(2, 200)) {
		must(t, "Write", d.Write(1+i, b))
	}
	looksLike(t, "Open", open(t, d, 1, 8, 3), looks{records: times(2, 200), epoch: 3, closed: true})
	if len(d.Waits()) != 2 {
		t.Error(d.Waits())
	}
}

// P10.1, P10.2, P10.3: a log that was opened is closed: nothing is put behind what stands there.
func TestClosed(t *testing.T) {
	for _, texts := range [][]string{nil, {"a"}, times(8, 200)} {
		d := sector.New(9)
		lay(t, d, 1, logOf(4, texts))
		was := lookAt(t, d)
		l := open(t, d, 1, 8, 4)
		want := looks{records: texts, epoch: 4, closed: true}
		for _, s := range []string{"", "a", text(238, 1), text(239, 1), text(5000, 1)} {
			is(t, "Add of a closed log", l.Add(s), api.ErrState)
		}
		is(t, "Sync of a closed log", l.Sync(), api.ErrState)
		looksLike(t, "closed", l, want)
		untouched(t, "closed", d, was)
		must(t, "Restart", l.Restart(5))
		looksLike(t, "restarted", l, looks{epoch: 5, left: 8})
		untouched(t, "restarted", d, was)
	}
}

// P10.2: texts of all lengths.
func TestAddOfLengths(t *testing.T) {
	for n := range 260 {
		d := sector.New(9)
		l := begin(t, d, 1, 8, 2)
		s := text(n, uint32(n))
		if n > 238 {
			is(t, fmt.Sprint("Add of ", n), l.Add(s), api.ErrTooBig)
			looksLike(t, fmt.Sprint(n), l, looks{epoch: 2, left: 8})
			continue
		}
		is(t, fmt.Sprint("Add of ", n), l.Add(s), api.OK)
		looksLike(t, fmt.Sprint(n), l, looks{waits: []string{s}, epoch: 2, left: 8})
		is(t, fmt.Sprint("Sync of ", n), l.Sync(), api.OK)
		looksLike(t, fmt.Sprint(n), l, looks{records: []string{s}, epoch: 2, left: 7})
		looksLike(t, fmt.Sprint(n), open(t, d, 1, 8, 2), looks{records: []string{s}, epoch: 2, closed: true})
	}
	l := begin(t, sector.New(9), 1, 8, 2)
	for _, n := range []int{255, 256, 257, 494, 495, 512, 1 << 16, 1 << 20} {
		is(t, fmt.Sprint("Add of ", n), l.Add(strings.Repeat("a", n)), api.ErrTooBig)
	}
	looksLike(t, "too big", l, looks{epoch: 2, left: 8})
}

// P10.2: what waits is nowhere but in the log; Left does not hang on it.
func TestAddWritesNothing(t *testing.T) {
	d := sector.New(9)
	lay(t, d, 1, logOf(1, times(8, 238)))
	was := lookAt(t, d)
	l := begin(t, d, 1, 8, 2)
	var waits []string
	for i := range 8 {
		waits = append(waits, text(238, uint32(i)))
		add(t, l, waits[i])
		looksLike(t, "waiting", l, looks{waits: waits, epoch: 2, left: 8})
	}
	is(t, "one more", l.Add(""), api.ErrFull)
	looksLike(t, "full", l, looks{waits: waits, epoch: 2, left: 8})
	untouched(t, "Add", d, was)
	// A disk of which nothing is asked does not matter.
	turnOff(t, d)
	l = begin(t, sector.New(8), 0, 8, 3).Fork(d)
	is(t, "Add upon a disk that is down", l.Add("a"), api.OK)
	looksLike(t, "down", l, looks{waits: []string{"a"}, epoch: 3, left: 8})
}

// P10.2: a ring without a sector.
func TestRingOfNone(t *testing.T) {
	for _, c := range [][2]int{{0, 0}, {9, 0}, {9, 9}, {9, 4}} {
		d := sector.New(c[0])
		l := begin(t, d, c[1], 0, 1)
		is(t, "Add", l.Add(""), api.ErrFull)
		is(t, "Add", l.Add(text(238, 1)), api.ErrFull)
		is(t, "Add of one that is too big", l.Add(text(239, 1)), api.ErrTooBig)
		is(t, "Sync", l.Sync(), api.OK)
		looksLike(t, "none", l, looks{epoch: 1})
		is(t, "Restart", l.Restart(2), api.OK)
		looksLike(t, "restarted", l, looks{epoch: 2})
		looksLike(t, "opened", open(t, d, c[1], 0, 2), looks{epoch: 2, closed: true})
		if d.Calls() != 0 {
			t.Error(d.Calls())
		}
	}
}

// P10.2: texts that just fill a sector's part, and one more.
func TestRingOfOne(t *testing.T) {
	for _, texts := range [][]string{of(238), of(237, 0), of(0, 237), of(118, 119), of(119, 118), of(100, 100, 36), times(239, 0), of(1, 1, 1, 1, 229, 0)} {
		d := sector.New(3)
		l := begin(t, d, 1, 1, 9)
		add(t, l, texts...)
		is(t, "one more", l.Add(""), api.ErrFull)
		is(t, "one more", l.Add("a"), api.ErrFull)
		is(t, "one more that is too big", l.Add(text(239, 1)), api.ErrTooBig)
		looksLike(t, "full", l, looks{waits: texts, epoch: 9, left: 1})
		must(t, "Sync", l.Sync())
		is(t, "one more behind a Sync", l.Add(""), api.ErrFull)
		is(t, "one more that is too big", l.Add(text(239, 1)), api.ErrTooBig)
		is(t, "a further Sync", l.Sync(), api.OK)
		looksLike(t, "synced", l, looks{records: texts, epoch: 9})
		looksLike(t, "opened", open(t, d, 1, 1, 9), looks{records: texts, epoch: 9, closed: true})
		if b := whole(t, d); !same(b[1:2], logOf(9, texts)) || d.Calls() != 2 {
			t.Errorf("the disk has %x", b[1])
		}
	}
	// One byte short of it.
	l := begin(t, sector.New(3), 1, 1, 9)
	add(t, l, text(237, 1))
	is(t, "one too many", l.Add("a"), api.ErrFull)
	is(t, "what just fits", l.Add(""), api.OK)
	is(t, "one more", l.Add(""), api.ErrFull)
}

// P10.2, P10.3: the greatest ring, filled at once with few texts, and with many.
func TestRingOfMost(t *testing.T) {
	for _, texts := range [][]string{times(256, 238), make([]string, 256*239)} {
		d := sector.New(260)
		l := begin(t, d, 4, 256, maxEpoch)
		add(t, l, texts...)
		is(t, "one more", l.Add(""), api.ErrFull)
		looksLike(t, "full", l, looks{waits: texts, epoch: maxEpoch, left: 256})
		must(t, "Sync", l.Sync())
		is(t, "one more", l.Add(""), api.ErrFull)
		looksLike(t, "synced", l, looks{records: texts, epoch: maxEpoch})
		looksLike(t, "opened", open(t, d, 4, 256, maxEpoch), looks{records: texts, epoch: maxEpoch, closed: true})
		if !same(whole(t, d)[4:], logOf(maxEpoch, texts)) || d.Calls() != 257 {
			t.Error("the disk has others")
		}
	}
	// Each text on its own: 256 sectors.
	d := sector.New(256)
	l := begin(t, d, 0, 256, 1)
	for i := range 256 {
		looksLike(t, "filling", l, looks{records: times(i, 1), epoch: 1, left: 256 - i})
		add(t, l, times(256, 1)[i])
		must(t, "Sync", l.Sync())
	}
	is(t, "one more", l.Add(""), api.ErrFull)
	looksLike(t, "full", l, looks{records: times(256, 1), epoch: 1})
	looksLike(t, "opened", open(t, d, 0, 256, 1), looks{records: times(256, 1), epoch: 1, closed: true})
}

// P10.2: behind what was synced just as many sectors are left as were not written; what waits fills the last one, and one more is told ErrFull.
func TestFull(t *testing.T) {
	for count := range 6 {
		for synced := range count + 1 {
			l := begin(t, sector.New(9), 1, count, 1)
			for range synced {
				add(t, l, "")
				must(t, "Sync", l.Sync())
			}
			var waits []string
			for range count - synced {
				waits = append(waits, text(200, 1), text(37, 1))
			}
			add(t, l, waits...)
			want := looks{records: make([]string, synced), waits: waits, epoch: 1, left: count - synced}
			looksLike(t, "full", l, want)
			is(t, "one more", l.Add(""), api.ErrFull)
			is(t, "one more", l.Add("a"), api.ErrFull)
			looksLike(t, "one more", l, want)
		}
	}
	// A text that is told ErrFull is not there; a shorter one still goes into the last sector.
	l := begin(t, sector.New(9), 1, 2, 1)
	add(t, l, text(238, 1), text(100, 2))
	is(t, "too long", l.Add(text(138, 3)), api.ErrFull)
	is(t, "shorter", l.Add(text(137, 4)), api.OK)
	is(t, "one more", l.Add(""), api.ErrFull)
	looksLike(t, "full", l, looks{waits: []string{text(238, 1), text(100, 2), text(137, 4)}, epoch: 1, left: 2})
}

// P10.3: what was synced is in whole sectors; the next one goes into a further one, behind them.
func TestSync(t *testing.T) {
	d := sector.New(12)
	old := logOf(4, times(8, 238))
	lay(t, d, 3, old)
	l := begin(t, d, 3, 8, 5)
	var records []string
	var written [][]byte
	for i, texts := range [][]string{{"a", "bc"}, of(150, 150), {""}, of(238, 0, 0), {"d"}} {
		add(t, l, texts...)
		looksLike(t, "waiting", l, looks{records: records, waits: texts, epoch: 5, left: 8 - len(written)})
		calls := d.Calls()
		must(t, "Sync", l.Sync())
		for _, x := range parted(texts) {
			written = append(written, sectorOf(5, len(written), x...))
		}
		records = append(records, texts...)
		looksLike(t, "synced", l, looks{records: records, epoch: 5, left: 8 - len(written)})
		b := whole(t, d)
		if !same(b[3:3+len(written)], written) || !same(b[3+len(written):11], old[len(written):]) {
			t.Errorf("the Sync %d: the disk has others", i)
		}
		if len(d.Waits()) > 0 || d.Calls() != calls+len(parted(texts))+1 {
			t.Errorf("the Sync %d: %v wait, %d calls", i, d.Waits(), d.Calls()-calls)
		}
		looksLike(t, "opened", open(t, d, 3, 8, 5), looks{records: records, epoch: 5, closed: true})
	}
	for _, n := range []int{0, 1, 2, 11} {
		if b := whole(t, d)[n]; !same([][]byte{b}, [][]byte{make([]byte, 256)}) {
			t.Errorf("the sector %d beside the ring was written", n)
		}
	}
	untouchedBySync(t, d, l)
}

// untouchedBySync asks that a Sync without anything that waits does nothing.
func untouchedBySync(t *testing.T, d *sector.Disk, l *Log) {
	t.Helper()
	was, want := lookAt(t, d), look(l)
	for range 3 {
		is(t, "Sync of nothing", l.Sync(), api.OK)
	}
	looksLike(t, "Sync of nothing", l, want)
	untouched(t, "Sync of nothing", d, was)
}

// P10.3: OK, if none waits, whatever the disk is.
func TestSyncOfNothing(t *testing.T) {
	d := sector.New(9)
	must(t, "Write", d.Write(0, make([]byte, 256)))
	l := begin(t, d, 1, 8, 1)
	untouchedBySync(t, d, l)
	must(t, "Break", d.Break(0, true))
	untouchedBySync(t, d, l)
	turnOff(t, d)
	untouchedBySync(t, d, l)
	must(t, "Restart", l.Restart(2))
	untouchedBySync(t, d, l)
	looksLike(t, "nothing", l, looks{epoch: 2, left: 8})
}

// P10.3: the first error of the disk ends it, and is told; then nothing has changed, but that the log is bad.
func TestSyncOnADiskThatFails(t *testing.T) {
	for _, texts := range [][]string{{"a"}, times(3, 238), of(100, 100, 100, 0, 238)} {
		sectors := logOf(6, append([]string{text(238, 50)}, texts...))[1:]
		for after := range len(sectors) + 1 {
			for _, done := range []bool{false, true} {
				what := fmt.Sprint(len(texts), after, done)
				d := sector.New(9)
				l := begin(t, d, 1, 8, 6)
				add(t, l, text(238, 50))
				must(t, "Sync", l.Sync())
				add(t, l, texts...)
				was := whole(t, d)
				must(t, "Break", d.Break(after, done))
				want := looks{records: []string{text(238, 50)}, waits: texts, epoch: 6, left: 7}
				looksLike(t, what, l, want)
				is(t, what, l.Sync(), api.ErrDown)
				want.bad = true
				looksLike(t, what, l, want)
				written := min(after, len(sectors))
				if done && after < len(sectors) {
					written++
				}
				if b := whole(t, d); !same(b[2:2+written], sectors[:written]) || !same(b[2+written:], was[2+written:]) || !same(b[:2], was[:2]) {
					t.Errorf("%s: the disk has others", what)
				}
				staysBad(t, d, l, want)
				d.Power(nil)
				staysBad(t, d, l, want)
			}
		}
	}
}

// staysBad asks that nothing is done with a log that is bad.
func staysBad(t *testing.T, d *sector.Disk, l *Log, want looks) {
	t.Helper()
	was := lookAt(t, d)
	for _, s := range []string{"", "a", text(238, 1), text(239, 1)} {
		is(t, "Add of a bad log", l.Add(s), api.ErrState)
	}
	is(t, "Sync of a bad log", l.Sync(), api.ErrState)
	for _, epoch := range []int{want.epoch - 1, want.epoch, want.epoch + 1, maxEpoch, maxEpoch + 1, 0, math.MinInt, math.MaxInt} {
		is(t, "Restart of a bad log", l.Restart(epoch), api.ErrState)
	}
	looksLike(t, "a bad log", l, want)
	untouched(t, "a bad log", d, was)
}

// P10.3: also a disk that is down already is told, and one that has not the ring's sectors.
func TestSyncOnOtherDisks(t *testing.T) {
	d := sector.New(9)
	l := begin(t, d, 1, 8, 6)
	add(t, l, times(3, 238)...)
	turnOff(t, d)
	is(t, "Sync of a disk that is down", l.Sync(), api.ErrDown)
	staysBad(t, d, l, looks{waits: times(3, 238), epoch: 6, left: 8, bad: true})
	for size := range 5 {
		l := begin(t, sector.New(9), 1, 8, 6)
		add(t, l, times(3, 238)...)
		d := sector.New(size)
		f := l.Fork(d)
		want := looks{waits: times(3, 238), epoch: 6, left: 8}
		if size == 4 {
			is(t, "Sync upon a disk that has them", f.Sync(), api.OK)
			looksLike(t, "has them", f, looks{records: times(3, 238), epoch: 6, left: 5})
			// There is room in the ring, but not on the disk.
			add(t, f, "a")
			is(t, "a further Sync", f.Sync(), api.ErrRange)
			looksLike(t, "has no more", f, looks{records: times(3, 238), waits: []string{"a"}, epoch: 6, left: 5, bad: true})
			continue
		}
		is(t, "Sync upon a smaller disk", f.Sync(), api.ErrRange)
		// What was written ahead of the error waits: the disk is not synced behind it.
		if n := max(size-1, 0); len(d.Waits()) != n || d.Calls() != n {
			t.Errorf("%d sectors: %v wait, %d calls", size, d.Waits(), d.Calls())
		}
		want.bad = true
		staysBad(t, d, f, want)
		want.bad = false
		looksLike(t, "its origin", l, want)
	}
}

// P10.4: the order of the epochs.
func TestRestart(t *testing.T) {
	for _, epoch := range []int{1, 2, 5, 256, maxEpoch - 1, maxEpoch} {
		for _, c := range []struct {
			epoch int
			want  api.Errno
		}{
			{epoch, api.ErrOrder}, {epoch - 1, api.ErrOrder}, {0, api.ErrOrder}, {-1, api.ErrOrder}, {math.MinInt, api.ErrOrder}, {1, api.ErrOrder}, {-maxEpoch, api.ErrOrder},
			{maxEpoch + 1, api.ErrRange}, {math.MaxInt, api.ErrRange}, {1 << 41, api.ErrRange},
			{epoch + 1, api.OK}, {epoch + 100, api.OK}, {maxEpoch, api.OK},
		} {
			if c.want == api.OK && (c.epoch > maxEpoch || c.epoch <= epoch) {
				continue
			}
			restarts(t, epoch, c.epoch, c.want)
		}
	}
}

// restarts asks for what Restart tells of logs of an epoch that are empty, have records, texts that wait, both, or are closed.
func restarts(t *testing.T, epoch, next int, want api.Errno) {
	t.Helper()
	for kind := range 5 {
		d := sector.New(9)
		l := begin(t, d, 1, 8, epoch)
		if kind%2 == 1 {
			add(t, l, times(3, 150)...)
			must(t, "Sync", l.Sync())
		}
		if kind >= 2 {
			add(t, l, times(2, 238)...)
		}
		if kind == 4 {
			must(t, "Sync", l.Sync())
			l = open(t, d, 1, 8, epoch)
		}
		after := look(l)
		was := lookAt(t, d)
		what := fmt.Sprintf("the epoch %d, the kind %d, Restart(%d)", epoch, kind, next)
		is(t, what, l.Restart(next), want)
		if want == api.OK {
			after = looks{epoch: next, left: 8}
		}
		looksLike(t, what, l, after)
		untouched(t, what, d, was)
		if want == api.OK {
			add(t, l, "next")
			must(t, "Sync", l.Sync())
			looksLike(t, what, l, looks{records: []string{"next"}, epoch: next, left: 7})
			looksLike(t, what, open(t, d, 1, 8, next), looks{records: []string{"next"}, epoch: next, closed: true})
			is(t, "the same once more", l.Restart(next), api.ErrOrder)
			if b := whole(t, d); !same(b[1:2], logOf(next, []string{"next"})) || !same(b[2:], was.has[2:]) {
				t.Errorf("%s: the disk has others", what)
			}
		}
	}
}

// P10.4: nothing is asked of the disk, so that it may be down.
func TestRestartOnADiskThatIsDown(t *testing.T) {
	d := sector.New(9)
	l := begin(t, d, 1, 8, 1)
	add(t, l, "a")
	turnOff(t, d)
	is(t, "Restart", l.Restart(2), api.OK)
	looksLike(t, "restarted", l, looks{epoch: 2, left: 8})
	add(t, l, "b")
	is(t, "Sync", l.Sync(), api.ErrDown)
	looksLike(t, "bad", l, looks{waits: []string{"b"}, epoch: 2, left: 8, bad: true})
}

// P10.4: one epoch behind the other on one ring; Open tells the last one's alone.
func TestRestartOfManyEpochs(t *testing.T) {
	d := sector.New(9)
	l := begin(t, d, 1, 8, 1)
	for epoch := 1; epoch < 40; epoch++ {
		texts := times(epoch%9, 238)
		add(t, l, texts...)
		must(t, "Sync", l.Sync())
		looksLike(t, "the last one", open(t, d, 1, 8, epoch), looks{records: texts, epoch: epoch, closed: true})
		looksLike(t, "the next one", open(t, d, 1, 8, epoch+1), looks{epoch: epoch + 1, closed: true})
		if epoch > 1 && len(texts) > 0 {
			looksLike(t, "the elder one", open(t, d, 1, 8, epoch-1), looks{epoch: epoch - 1, closed: true})
		}
		must(t, "Restart", l.Restart(epoch+1))
	}
}

// P10.2, P10.3, P10.4: of two errors the first one is told.
func TestOrderOfErrors(t *testing.T) {
	_, l := bad(t)
	is(t, "bad, and too big", l.Add(text(239, 1)), api.ErrState)
	is(t, "bad, and not above", l.Restart(5), api.ErrState)
	is(t, "bad, and above the last one", l.Restart(maxEpoch+1), api.ErrState)
	is(t, "bad, and something waits", l.Sync(), api.ErrState)
	d := sector.New(9)
	lay(t, d, 1, logOf(5, times(8, 238)))
	l = open(t, d, 1, 8, 5)
	is(t, "closed, and too big", l.Add(text(239, 1)), api.ErrState)
	is(t, "closed, and full", l.Add("a"), api.ErrState)
	is(t, "closed, and nothing waits", l.Sync(), api.ErrState)
	l = begin(t, d, 1, 0, 5)
	is(t, "too big, and full", l.Add(text(239, 1)), api.ErrTooBig)
	is(t, "full", l.Add(text(238, 1)), api.ErrFull)
	l = begin(t, d, 1, 8, maxEpoch)
	is(t, "not above the log's", l.Restart(maxEpoch), api.ErrOrder)
	is(t, "above the last one", l.Restart(maxEpoch+1), api.ErrRange)
}

// P10.5: Fork is as its origin, and both go their own ways.
func TestFork(t *testing.T) {
	d := sector.New(9)
	l := begin(t, d, 1, 8, 3)
	// Three ones, so that a list of these may have spare room.
	add(t, l, "a", "b", "c")
	must(t, "Sync", l.Sync())
	add(t, l, text(238, 1), "d", "e", "f")
	was := look(l)
	e := d.Fork()
	dWas, eWas := lookAt(t, d), lookAt(t, e)
	f, g := l.Fork(e), l.Fork(d.Fork())
	for _, x := range []*Log{f, g, l} {
		looksLike(t, "forked", x, was)
	}
	add(t, l, "origin")
	add(t, f, "fork", "too")
	untouched(t, "Fork and Add", d, dWas)
	untouched(t, "Fork and Add", e, eWas)
	waits := func(more ...string) []string { return append([]string{text(238, 1), "d", "e", "f"}, more...) }
	looksLike(t, "its origin", l, looks{records: []string{"a", "b", "c"}, waits: waits("origin"), epoch: 3, left: 7})
	looksLike(t, "the fork", f, looks{records: []string{"a", "b", "c"}, waits: waits("fork", "too"), epoch: 3, left: 7})
	looksLike(t, "the other fork", g, was)
	must(t, "Sync", f.Sync())
	untouched(t, "Sync of the fork", d, dWas)
	must(t, "Sync", l.Sync())
	records := func(more ...string) []string { return append([]string{"a", "b", "c"}, waits(more...)...) }
	looksLike(t, "its origin", l, looks{records: records("origin"), epoch: 3, left: 5})
	looksLike(t, "the fork", f, looks{records: records("fork", "too"), epoch: 3, left: 5})
	looksLike(t, "the other fork", g, was)
	looksLike(t, "its origin's disk", open(t, d, 1, 8, 3), looks{records: records("origin"), epoch: 3, closed: true})
	looksLike(t, "the fork's disk", open(t, e, 1, 8, 3), looks{records: records("fork", "too"), epoch: 3, closed: true})
	must(t, "Restart", f.Restart(4))
	looksLike(t, "restarted", f, looks{epoch: 4, left: 8})
	looksLike(t, "its origin", l, looks{records: records("origin"), epoch: 3, left: 5})
	is(t, "Restart", l.Restart(3), api.ErrOrder)
}

// P10.5: lists of all lengths, whatever spare room these have, belong to one of both alone.
func TestForkOfLists(t *testing.T) {
	for n := range 20 {
		for _, size := range []int{1, 238} {
			d := sector.New(64)
			l := begin(t, d, 0, 64, 3)
			add(t, l, times(n, size)...)
			must(t, "Sync", l.Sync())
			add(t, l, times(n, size)...)
			e := d.Fork()
			f := l.Fork(e)
			add(t, f, "fork")
			add(t, l, "origin", "too")
			want := func(more ...string) []string { return append(times(n, size), more...) }
			if !slices.Equal(f.Waits(), want("fork")) || !slices.Equal(l.Waits(), want("origin", "too")) {
				t.Errorf("%d of %d: %s and %s wait", n, size, brief(f.Waits()), brief(l.Waits()))
			}
			must(t, "Sync", f.Sync())
			must(t, "Sync", l.Sync())
			add(t, f, "x")
			add(t, l, "y")
			must(t, "Sync", l.Sync())
			must(t, "Sync", f.Sync())
			if !slices.Equal(f.Records(), append(times(n, size), want("fork", "x")...)) || !slices.Equal(l.Records(), append(times(n, size), want("origin", "too", "y")...)) {
				t.Errorf("%d of %d: the records are %s and %s", n, size, brief(f.Records()), brief(l.Records()))
			}
		}
	}
}

// P10.5: so do records that came one by one, behind which there may be room for further ones.
func TestForkOfGrownRecords(t *testing.T) {
	for n := range 40 {
		d := sector.New(64)
		l := begin(t, d, 0, 64, 3)
		for _, s := range times(n, 3) {
			add(t, l, s)
			must(t, "Sync", l.Sync())
		}
		e := d.Fork()
		f := l.Fork(e)
		add(t, f, "fork")
		must(t, "Sync", f.Sync())
		add(t, l, "origin")
		must(t, "Sync", l.Sync())
		looksLike(t, "the fork", f, looks{records: append(times(n, 3), "fork"), epoch: 3, left: 63 - n})
		looksLike(t, "its origin", l, looks{records: append(times(n, 3), "origin"), epoch: 3, left: 63 - n})
	}
}

// P10.5: a fork of a closed log is closed, and one of a bad one is bad.
func TestForkOfOthers(t *testing.T) {
	d := sector.New(9)
	lay(t, d, 1, logOf(4, times(3, 200)))
	l := open(t, d, 1, 8, 4)
	f := l.Fork(d.Fork())
	looksLike(t, "closed", f, looks{records: times(3, 200), epoch: 4, closed: true})
	is(t, "Add", f.Add("a"), api.ErrState)
	must(t, "Restart", f.Restart(5))
	looksLike(t, "restarted", f, looks{epoch: 5, left: 8})
	looksLike(t, "its origin", l, looks{records: times(3, 200), epoch: 4, closed: true})
	d, l = bad(t)
	f = l.Fork(d.Fork())
	looksLike(t, "bad", f, badLooks())
	is(t, "Sync", f.Sync(), api.ErrState)
	is(t, "Restart", f.Restart(6), api.ErrState)
	// A disk that fails under one of both is nothing to the other one.
	d = sector.New(9)
	l = begin(t, d, 1, 8, 1)
	add(t, l, "a")
	f = l.Fork(d.Fork())
	turnOff(t, d)
	is(t, "Sync", l.Sync(), api.ErrDown)
	is(t, "Sync of the fork", f.Sync(), api.OK)
	looksLike(t, "the fork", f, looks{records: []string{"a"}, epoch: 1, left: 7})
	looksLike(t, "its origin", l, looks{waits: []string{"a"}, epoch: 1, left: 8, bad: true})
}

// P10.5: of nil, and of a nil disk.
func TestNil(t *testing.T) {
	d := sector.New(9)
	for _, l := range []*Log{nil, {}} {
		for _, s := range []string{"", "a", text(239, 1)} {
			is(t, "Add", l.Add(s), api.ErrNil)
		}
		is(t, "Sync", l.Sync(), api.ErrNil)
		for _, epoch := range []int{-1, 0, 1, maxEpoch, maxEpoch + 1} {
			is(t, "Restart", l.Restart(epoch), api.ErrNil)
		}
		looksLike(t, "nil", l, looks{})
		if l.Fork(d) != nil || l.Fork(nil) != nil {
			t.Error("a fork of none")
		}
	}
	_, b := bad(t)
	for _, l := range []*Log{begin(t, d, 1, 8, 1), open(t, d, 1, 8, 1), b} {
		if l.Fork(nil) != nil {
			t.Error("a fork upon none")
		}
	}
}

// P10.5: no answer shares memory with the log, nor with another answer; nor does its spare room.
func TestAnswersAreNew(t *testing.T) {
	d := sector.New(40)
	lay(t, d, 0, logOf(1, times(5, 3)))
	logs := []*Log{open(t, d, 0, 40, 1)}
	for n := range 12 {
		l := begin(t, sector.New(40), 0, 40, 1)
		add(t, l, times(n, 90)...)
		must(t, "Sync", l.Sync())
		add(t, l, times(n, 3)...)
		logs = append(logs, l, l.Fork(sector.New(40)))
	}
	_, b := bad(t)
	for _, l := range append(logs, b) {
		want := look(l)
		want.records, want.waits = slices.Clone(want.records), slices.Clone(want.waits)
		spoil(l.Records())
		spoil(l.Waits())
		looksLike(t, "spoilt", l, want)
		records, waits := l.Records(), l.Waits()
		records, waits = records[:cap(records)], waits[:cap(waits)]
		held := slices.Clone(records)
		heldWaits := slices.Clone(waits)
		l.Add("more")
		l.Add("too")
		l.Sync()
		l.Add("and")
		if !slices.Equal(records, held) || !slices.Equal(waits, heldWaits) {
			t.Error("an answer was changed")
		}
		if l.Bad() || l.Closed() {
			looksLike(t, "bad or closed", l, want)
			continue
		}
		if !slices.Equal(l.Records(), slices.Concat(want.records, want.waits, []string{"more", "too"})) || !slices.Equal(l.Waits(), []string{"and"}) {
			t.Errorf("records %s, waits %s", brief(l.Records()), brief(l.Waits()))
		}
		spoil(records)
		spoil(waits)
		must(t, "Sync", l.Sync())
		if !slices.Equal(l.Records(), slices.Concat(want.records, want.waits, []string{"more", "too", "and"})) {
			t.Errorf("records %s", brief(l.Records()))
		}
	}
}

// P10.1, P10.5: two logs have nothing in common, and looks change nothing.
func TestLooksChangeNothing(t *testing.T) {
	d := sector.New(40)
	l := begin(t, d, 0, 16, 3)
	m := begin(t, d, 16, 16, 3)
	add(t, l, "a", "b")
	add(t, m, "c")
	must(t, "Sync", l.Sync())
	add(t, l, "d")
	was := lookAt(t, d)
	want := look(l)
	for range 3 {
		looksLike(t, "again", l, want)
		l.Fork(d.Fork())
	}
	untouched(t, "looks", d, was)
	looksLike(t, "beside it", m, looks{waits: []string{"c"}, epoch: 3, left: 16})
	must(t, "Sync", m.Sync())
	looksLike(t, "the first one", open(t, d, 0, 16, 3), looks{records: []string{"a", "b"}, epoch: 3, closed: true})
	looksLike(t, "beside it", open(t, d, 16, 16, 3), looks{records: []string{"c"}, epoch: 3, closed: true})
}
