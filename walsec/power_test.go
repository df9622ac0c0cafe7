package walsec

import (
	"bytes"
	"fmt"
	"slices"
	"testing"

	"fascicle/api"
	"fascicle/sector"
)

// pair is what sectors had, and what was written over them.
type pair struct {
	old, fresh [][]byte
	epoch      int // of those that were written
	l          []string
}

// olds are what three sectors had ahead of a log of an epoch: none, and ones of other epochs or places.
func olds(epoch int) [][][]byte {
	l := [][][]byte{
		{make([]byte, 256), make([]byte, 256), make([]byte, 256)},
		logOf(epoch, 1, times(3, 238)), // of this epoch, but of other places
		{[]byte(text(256, 1)), []byte(text(256, 2)), []byte(text(256, 3))},
		{bytes.Repeat([]byte{0xff}, 256), bytes.Repeat([]byte{0xff}, 256), bytes.Repeat([]byte{0xff}, 256)},
	}
	for _, other := range []int{epoch - 1, epoch + 1, epoch - 2, epoch ^ 0x100, epoch ^ 0x0101, epoch + 1<<32, maxEpoch - epoch, epoch * 256} {
		if 1 <= other && other <= maxEpoch && other != epoch {
			l = append(l, logOf(other, 0, times(3, 238)), logOf(other, 0, of(237, 1, 238)))
		}
	}
	return l
}

// pairs are writings over others.
func pairs() []pair {
	var p []pair
	for _, epoch := range []int{1, 2, 255, 256, 257, 0x0102030405, maxEpoch} {
		for _, l := range [][]string{of(238, 237, 238), of(1, 238, 0)} {
			for _, old := range olds(epoch) {
				p = append(p, pair{old: old, fresh: logOf(epoch, 0, l), epoch: epoch, l: l})
			}
		}
	}
	// The same texts as those of the epoch ahead.
	return append(p, pair{old: logOf(4, 0, of(238, 237, 238)), fresh: logOf(5, 0, of(238, 237, 238)), epoch: 5, l: of(238, 237, 238)})
}

// beginning asks for the texts of those sectors that are as they were written, up to the first one that is not.
func beginning(t *testing.T, what string, l [][]byte, p pair) {
	t.Helper()
	n := 0
	for n < len(p.fresh) && bytes.Equal(l[n], p.fresh[n]) {
		n++
	}
	scans(t, what, l, p.epoch, slices.Concat(parted(p.l)[:n]...), n)
}

// tears are places of tears: all within the ends and beside them, and some between.
func tears() []int {
	var l []int
	for n := range 257 {
		if n < 12 || n > 244 || n%24 == 0 {
			l = append(l, n)
		}
	}
	return l
}

// P9.4: each sector was lost, kept, or torn.
func TestTorn(t *testing.T) {
	for i, p := range pairs() {
		for _, n := range tears() {
			for c := range 27 {
				which := []int{c % 3, c / 3 % 3, c / 9}
				l := make([][]byte, 3)
				for k := range l {
					l[k] = torn([]int{0, 256, n}[which[k]], p.fresh[k], p.old[k])
				}
				beginning(t, fmt.Sprintf("pair %d, torn behind %d, %v", i, n, which), l, p)
			}
		}
	}
}

// P9.4: the sectors are torn at unlike places.
func TestTornAtUnlikePlaces(t *testing.T) {
	edges := []int{0, 1, 2, 3, 4, 5, 6, 7, 8, 9, 10, 247, 248, 249, 250, 251, 252, 253, 254, 255, 256, 256, 256}
	for i, p := range pairs() {
		next := rule(uint32(i))
		for range 1000 {
			l := make([][]byte, 3)
			for k := range l {
				n := next() % 257
				if next()%2 == 0 {
					n = edges[next()%len(edges)]
				}
				l[k] = torn(n, p.fresh[k], p.old[k])
			}
			beginning(t, fmt.Sprint("pair ", i), l, p)
		}
	}
}

// P9.4: a sector that is torn, at every place of the tear, is not read, but where the tear leaves it as it was written.
func TestReadOfTornSectors(t *testing.T) {
	for i, p := range pairs() {
		for k := range 3 {
			for n := range 257 {
				b := torn(n, p.fresh[k], p.old[k])
				what := fmt.Sprintf("pair %d, the sector %d, torn behind %d", i, k, n)
				if bytes.Equal(b, p.fresh[k]) {
					reads(t, what, b, p.epoch, k, parted(p.l)[k]...)
				} else {
					readsNone(t, what, b, p.epoch, k)
				}
			}
		}
	}
}

// onDisk tells what the sectors of a disk have.
func onDisk(t *testing.T, d *sector.Disk) [][]byte {
	t.Helper()
	var l [][]byte
	for i := range d.Size() {
		b, e := d.Read(i)
		if e != api.OK {
			t.Fatal(int(e))
		}
		l = append(l, b)
	}
	return l
}

// write writes sectors of a log from a place on, as far as the disk has room for them.
func write(t *testing.T, d *sector.Disk, from int, l [][]byte) {
	t.Helper()
	for i, b := range l {
		if e := d.Write(from+i, b); e != api.OK {
			t.Fatal(int(e))
		}
	}
}

// some makes texts that go into a few sectors, at most as many as are left.
func some(next func() int, left int) []string {
	var l []string
	for range next() % 6 {
		s := text(next()%239, uint32(next()))
		if len(parted(append(slices.Clone(l), s))) > left {
			return l
		}
		l = append(l, s)
	}
	return l
}

// P9.4: upon a ring of a disk, logs of rising epochs are written, one over the other; the power fails within each, with any fates: what was synced is told, and of what was not a beginning.
func TestOnADisk(t *testing.T) {
	const size = 8
	for seed := range uint32(400) {
		next := rule(seed)
		d := sector.New(size)
		epoch := good()[next()%(len(good())-2)]
		for range 6 {
			epoch++
			var safe, all []string
			at := 0
			for range next() % 4 {
				l := some(next, size-at)
				sectors, e := Pack(epoch, at, l)
				if e != api.OK {
					t.Fatal(int(e))
				}
				write(t, d, at, sectors)
				at, all = at+len(sectors), append(all, l...)
				scans(t, "what was written", onDisk(t, d), epoch, all, at)
				if next()%3 > 0 {
					d.Sync()
					safe = slices.Clone(all)
				}
			}
			d.Power([]byte(text(2*size, uint32(next()))))
			told, n := Scan(onDisk(t, d), epoch)
			if len(told) < len(safe) || len(told) > len(all) || !slices.Equal(told, all[:len(told)]) || n > at {
				t.Errorf("seed %d, the epoch %d: %s of %d sectors; written %s, safe %d", seed, epoch, brief(told), n, brief(all), len(safe))
			}
		}
	}
}
