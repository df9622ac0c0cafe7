package wal

import (
	"bytes"
	"fmt"
	"math/big"
	"slices"
	"strings"
	"testing"

	"fascicle/api"
	"fascicle/sector"
)

const maxEpoch = 1 << 40 // the greatest epoch

// rule makes numbers by a short rule, which differ from one seed to the next.
func rule(seed uint32) func() int {
	return func() int {
		seed = seed*1664525 + 1013904223
		return int(seed >> 16)
	}
}

// text makes a text of any bytes, by a short rule.
func text(n int, seed uint32) string {
	next := rule(seed)
	b := make([]byte, n)
	for i := range b {
		b[i] = byte(next())
	}
	return string(b)
}

// of makes texts of some lengths.
func of(lengths ...int) []string {
	var l []string
	for i, n := range lengths {
		l = append(l, text(n, uint32(100+7*i)))
	}
	return l
}

// times makes as many texts of a length.
func times(count, n int) []string {
	return of(slices.Repeat([]int{n}, count)...)
}

// stamp lays epoch times 256 and a place in eight bytes, the highest first.
func stamp(epoch, at int) []byte {
	n := big.NewInt(int64(epoch))
	n.Mul(n, big.NewInt(256)).Add(n, big.NewInt(int64(at)))
	return n.FillBytes(make([]byte, 8))
}

// part lays texts one behind the other.
func part(l ...string) []byte {
	var b []byte
	for _, s := range l {
		b = append(append(b, byte(len(s))), s...)
	}
	return b
}

// sectorOf lays a sector of a log, as the chapter of walsec tells it.
func sectorOf(epoch, at int, l ...string) []byte {
	p := part(l...)
	return slices.Concat(stamp(epoch, at), []byte{byte(len(p))}, p, make([]byte, 239-len(p)), stamp(epoch, at))
}

// parted tells the texts sector by sector.
func parted(l []string) [][]string {
	var sectors [][]string
	room := 0
	for _, s := range l {
		if 1+len(s) > room {
			sectors = append(sectors, nil)
			room = 239
		}
		room -= 1 + len(s)
		sectors[len(sectors)-1] = append(sectors[len(sectors)-1], s)
	}
	return sectors
}

// logOf lays the sectors of texts that go into an empty log at once.
func logOf(epoch int, l []string) [][]byte {
	var sectors [][]byte
	for i, x := range parted(l) {
		sectors = append(sectors, sectorOf(epoch, i, x...))
	}
	return sectors
}

// read tells the texts of a sector of that epoch and place; none of another one.
func read(b []byte, epoch, at int) []string {
	if !bytes.Equal(b[:8], stamp(epoch, at)) || !bytes.Equal(b[248:], stamp(epoch, at)) || b[8] > 239 {
		return nil
	}
	var l []string
	p := b[9 : 9+int(b[8])]
	for len(p) > 0 {
		n := int(p[0])
		if 1+n > len(p) {
			return nil
		}
		l = append(l, string(p[1:1+n]))
		p = p[1+n:]
	}
	if len(bytes.Trim(b[9+int(b[8]):248], "\x00")) > 0 {
		return nil
	}
	return l
}

// scan tells the texts of a ring's sectors up to the first one that has none of that epoch.
func scan(ring [][]byte, epoch int) []string {
	var all []string
	for at, b := range ring {
		l := read(b, epoch, at)
		if len(l) == 0 {
			break
		}
		all = append(all, l...)
	}
	return all
}

// brief tells texts by their lengths and beginnings.
func brief(l []string) string {
	var s []string
	for _, x := range l {
		s = append(s, fmt.Sprintf("%d:%.4x", len(x), x))
	}
	if len(s) > 12 {
		s = append(s[:12], fmt.Sprint("and so on: ", len(l)))
	}
	return "[" + strings.Join(s, " ") + "]"
}

// is asks for an answer.
func is(t *testing.T, what string, got, want api.Errno) {
	t.Helper()
	if got != want {
		t.Errorf("%s: %d, want %d", what, int(got), int(want))
	}
}

// must ends the test where an answer is not OK.
func must(t *testing.T, what string, got api.Errno) {
	t.Helper()
	if got != api.OK {
		t.Fatalf("%s: %d", what, int(got))
	}
}

// begin begins a log.
func begin(t *testing.T, d *sector.Disk, first, count, epoch int) *Log {
	t.Helper()
	l, e := New(d, first, count, epoch)
	must(t, "New", e)
	return l
}

// open finds a log again.
func open(t *testing.T, d *sector.Disk, first, count, epoch int) *Log {
	t.Helper()
	l, e := Open(d, first, count, epoch)
	must(t, "Open", e)
	return l
}

// add puts texts behind the others.
func add(t *testing.T, l *Log, texts ...string) {
	t.Helper()
	for _, s := range texts {
		must(t, "Add", l.Add(s))
	}
}

// fails asks for an error of New and Open, and no log.
func fails(t *testing.T, what string, d *sector.Disk, first, count, epoch int, want api.Errno) {
	t.Helper()
	if l, e := New(d, first, count, epoch); l != nil || e != want {
		t.Errorf("%s: New(%d, %d, %d) = %t, %d; want %d", what, first, count, epoch, l != nil, int(e), int(want))
	}
	if l, e := Open(d, first, count, epoch); l != nil || e != want {
		t.Errorf("%s: Open(%d, %d, %d) = %t, %d; want %d", what, first, count, epoch, l != nil, int(e), int(want))
	}
}

// looks are what a log tells of itself.
type looks struct {
	records, waits []string
	epoch, left    int
	closed, bad    bool
}

// look asks for all of it.
func look(l *Log) looks {
	return looks{records: l.Records(), waits: l.Waits(), epoch: l.Epoch(), left: l.Left(), closed: l.Closed(), bad: l.Bad()}
}

// same tells whether two logs tell the same of themselves.
func (a looks) same(b looks) bool {
	return slices.Equal(a.records, b.records) && slices.Equal(a.waits, b.waits) && a.epoch == b.epoch && a.left == b.left && a.closed == b.closed && a.bad == b.bad
}

// brief tells it in short.
func (a looks) brief() string {
	return fmt.Sprintf("records %s, waits %s, the epoch %d, %d left, closed %t, bad %t", brief(a.records), brief(a.waits), a.epoch, a.left, a.closed, a.bad)
}

// looksLike asks for what a log tells of itself.
func looksLike(t *testing.T, what string, l *Log, want looks) {
	t.Helper()
	if got := look(l); !got.same(want) {
		t.Errorf("%s: %s; want %s", what, got.brief(), want.brief())
	}
}

// whole tells what all sectors of a disk have, also of one that is down.
func whole(t *testing.T, d *sector.Disk) [][]byte {
	t.Helper()
	f := powered(d, allKept(d))
	var all [][]byte
	for n := range f.Size() {
		b, e := f.Read(n)
		must(t, "a sector", e)
		all = append(all, b)
	}
	return all
}

// diskLooks are what a disk has, and tells of itself.
type diskLooks struct {
	has   [][]byte
	waits []int
	calls int
	off   bool
}

// lookAt asks for all of it.
func lookAt(t *testing.T, d *sector.Disk) diskLooks {
	t.Helper()
	return diskLooks{has: whole(t, d), waits: d.Waits(), calls: d.Calls(), off: d.Off()}
}

// untouched asks that a disk is as it was.
func untouched(t *testing.T, what string, d *sector.Disk, was diskLooks) {
	t.Helper()
	is := lookAt(t, d)
	if !same(is.has, was.has) || !slices.Equal(is.waits, was.waits) || is.calls != was.calls || is.off != was.off {
		t.Errorf("%s: the disk was changed", what)
	}
}

// same tells whether sectors have the same bytes.
func same(a, b [][]byte) bool {
	return slices.EqualFunc(a, b, bytes.Equal)
}

// lay writes sectors as they are from one on, and makes them safe.
func lay(t *testing.T, d *sector.Disk, first int, l [][]byte) {
	t.Helper()
	for i, b := range l {
		must(t, "lay", d.Write(first+i, b))
	}
	must(t, "lay", d.Sync())
}

// turnOff lets a disk's power fail.
func turnOff(t *testing.T, d *sector.Disk) {
	t.Helper()
	must(t, "Break", d.Break(0, false))
	is(t, "Sync of the disk", d.Sync(), api.ErrDown)
}

// powered tells a disk of its own, whose power was lost and came again.
func powered(d *sector.Disk, fates []byte) *sector.Disk {
	f := d.Fork()
	f.Power(fates)
	return f
}

// allKept are fates of sectors that keep what they have.
func allKept(d *sector.Disk) []byte {
	return bytes.Repeat([]byte{2}, d.Size())
}

// spoil writes over texts and their spare room.
func spoil(l []string) {
	l = l[:cap(l)]
	for i := range l {
		l[i] = "spoilt"
	}
}

// bad is a log whose disk told an error, with a record and a text that waits; its disk has power again.
func bad(t *testing.T) (*sector.Disk, *Log) {
	t.Helper()
	d := sector.New(9)
	l := begin(t, d, 1, 8, 5)
	add(t, l, "a")
	must(t, "Sync", l.Sync())
	add(t, l, "b")
	must(t, "Break", d.Break(0, false))
	is(t, "Sync of a disk that fails", l.Sync(), api.ErrDown)
	d.Power(nil)
	return d, l
}

// badLooks is what that log tells of itself.
func badLooks() looks {
	return looks{records: []string{"a"}, waits: []string{"b"}, epoch: 5, left: 7, bad: true}
}
