package store

import (
	"bytes"
	"math/big"
	"reflect"
	"slices"
	"testing"

	"fascicle/api"
	"fascicle/bitmap"
	"fascicle/crcb"
	"fascicle/sector"
)

const maxGen = 1 << 40 // the greatest generation

// rule makes numbers by a short rule, which differ from one seed to the next.
func rule(seed uint32) func() int {
	return func() int {
		seed = seed*1664525 + 1013904223
		return int(seed >> 16)
	}
}

// many makes bytes of a short rule, none of which is 0.
func many(n int, seed uint32) []byte {
	next := rule(seed)
	b := make([]byte, n)
	for i := range b {
		b[i] = byte(1 + next()%255)
	}
	return b
}

// is asks for an answer.
func is(t *testing.T, what string, got, want api.Errno) {
	t.Helper()
	if got != want {
		t.Errorf("%s: %d, want %d", what, int(got), int(want))
	}
}

// must ends the test where an answer is not OK.
func must(t *testing.T, what string, got api.Errno) {
	t.Helper()
	if got != api.OK {
		t.Fatalf("%s: %d", what, int(got))
	}
}

// format makes a store upon a fresh disk.
func format(t *testing.T, sectors, log int) (*sector.Disk, *Store) {
	t.Helper()
	d := sector.New(sectors)
	s, e := Format(d, log)
	must(t, "Format", e)
	return d, s
}

// open finds a store again.
func open(t *testing.T, d *sector.Disk) *Store {
	t.Helper()
	s, e := Open(d)
	must(t, "Open", e)
	return s
}

// openFails asks for an error, and no store.
func openFails(t *testing.T, what string, d *sector.Disk, want api.Errno) {
	t.Helper()
	if s, e := Open(d); s != nil || e != want {
		t.Errorf("%s: Open = %t, %d; want %d", what, s != nil, int(e), int(want))
	}
}

// formatFails asks for an error, and no store.
func formatFails(t *testing.T, what string, d *sector.Disk, log int, want api.Errno) {
	t.Helper()
	if s, e := Format(d, log); s != nil || e != want {
		t.Errorf("%s: Format(%d) = %t, %d; want %d", what, log, s != nil, int(e), int(want))
	}
}

// allocs asks for a block.
func allocs(t *testing.T, s *Store, want int) {
	t.Helper()
	if n, e := s.Alloc(); n != want || e != api.OK {
		t.Errorf("Alloc = %d, %d; want %d", n, int(e), want)
	}
}

// allocFails asks for an error, and no block.
func allocFails(t *testing.T, s *Store, want api.Errno) {
	t.Helper()
	if n, e := s.Alloc(); n != 0 || e != want {
		t.Errorf("Alloc = %d, %d; want the error %d", n, int(e), int(want))
	}
}

// reads asks for a block's body.
func reads(t *testing.T, s *Store, n int, want []byte) {
	t.Helper()
	if b, e := s.Read(n); !bytes.Equal(b, want) || e != api.OK {
		t.Errorf("Read(%d) = %d bytes %.8x, %d; want %d bytes %.8x", n, len(b), b, int(e), len(want), want)
	}
}

// readFails asks for an error, and no body.
func readFails(t *testing.T, s *Store, n int, want api.Errno) {
	t.Helper()
	if b, e := s.Read(n); b != nil || e != want {
		t.Errorf("Read(%d) = %d bytes, %d; want %d", n, len(b), int(e), int(want))
	}
}

// looks are what a store tells of itself.
type looks struct {
	body       string
	size, room int
	used       []int
	gen        int
	first, log int
	bad        bool
}

// look asks for all of it.
func look(s *Store) looks {
	first, log := s.Log()
	m := s.Used()
	l := looks{body: string(s.Body()), size: m.Size, room: s.Room(), gen: s.Gen(), first: first, log: log, bad: s.Bad()}
	for n := range m.Size {
		if bitmap.Has(m, n) {
			l.used = append(l.used, n)
		}
	}
	return l
}

// same tells whether two stores tell the same of themselves.
func (l looks) same(m looks) bool {
	used := slices.Equal(l.used, m.used)
	l.used, m.used = nil, nil
	return used && reflect.DeepEqual(l, m)
}

// looksLike asks for what a store tells of itself.
func looksLike(t *testing.T, what string, s *Store, want looks) {
	t.Helper()
	if got := look(s); !got.same(want) {
		t.Errorf("%s: %#v, want %#v", what, got, want)
	}
}

// small lays a number in few bytes, as the chapter of ordkey tells it.
func small(n int) []byte {
	b := big.NewInt(int64(n)).Bytes()
	return append([]byte{byte(len(b))}, b...)
}

// eight lays a number in eight bytes, the highest first.
func eight(n uint64) []byte {
	return big.NewInt(0).SetUint64(n).FillBytes(make([]byte, 8))
}

// words lays the words of a map of that size, in which those numbers are.
func words(size int, used ...int) []byte {
	b := make([]byte, (size+63)/64*8)
	for _, n := range used {
		b[n/64*8+7-n%64/8] |= 1 << (n % 8)
	}
	return b
}

// laid tells a slot's body, as the chapter tells it.
func laid(log, count int, body []byte, used ...int) []byte {
	return slices.Concat(small(log), small(count), words(count, used...), body)
}

// slotOf lays four sectors, as the chapter of slot tells them.
func slotOf(gen int, body []byte) []byte {
	all := slices.Concat([]byte{byte(len(body) / 256), byte(len(body) % 256)}, body, make([]byte, 954-len(body)))
	var l []byte
	for i := range 4 {
		l = append(l, slices.Concat(eight(uint64(gen)), []byte{byte(i)}, all[239*i:239*i+239], eight(uint64(gen)))...)
	}
	return l
}

// lay writes bytes as they are to the sectors from one on, and makes them safe.
func lay(t *testing.T, d *sector.Disk, first int, b []byte) {
	t.Helper()
	for i := range len(b) / 256 {
		must(t, "lay", d.Write(first+i, b[256*i:256*i+256]))
	}
	must(t, "lay", d.Sync())
}

// ended lays a sector of two numbers at its ends, with bytes between them that are no sector's of a slot.
func ended(first, last uint64) []byte {
	return slices.Concat(eight(first), many(240, 3), eight(last))
}

// raw tells what sectors of a disk have.
func raw(t *testing.T, d *sector.Disk, first, count int) []byte {
	t.Helper()
	var all []byte
	for n := range count {
		b, e := d.Read(first + n)
		must(t, "a sector", e)
		all = append(all, b...)
	}
	return all
}

// whole tells what all sectors of a disk have.
func whole(t *testing.T, d *sector.Disk) []byte {
	t.Helper()
	return raw(t, d, 0, d.Size())
}

// sealed tells the 1024 bytes of a block, with bytes changed ahead of the sum.
func sealed(t *testing.T, body []byte, change func(b []byte)) []byte {
	t.Helper()
	b, e := crcb.Seal(body, 1024)
	must(t, "Seal", e)
	change(b)
	sum := crcb.Of(b[4:])
	b[0], b[1], b[2], b[3] = byte(sum>>24), byte(sum>>16), byte(sum>>8), byte(sum)
	return b
}

// turnOff lets a disk's power fail, at a Sync that is done or not.
func turnOff(t *testing.T, d *sector.Disk, done bool) {
	t.Helper()
	must(t, "Break", d.Break(0, done))
	is(t, "Sync", d.Sync(), api.ErrDown)
}

// allKept are fates of sectors that keep what they have.
func allKept() []byte {
	return bytes.Repeat([]byte{2}, 100)
}

// spoil writes over bytes and their spare room.
func spoil(b []byte) {
	b = b[:cap(b)]
	for i := range b {
		b[i] ^= 0x5a
	}
}

// mixed is a store of 8 blocks and a log of 5 sectors whose blocks 0 and 1 are in both maps, 2 and 3 in the counting one alone, 4 and 5 in the map alone, 6 and 7 in neither; each of the first six has its number as its body.
func mixed(t *testing.T) (*sector.Disk, *Store) {
	t.Helper()
	d, s := format(t, 45, 5)
	for n := range 6 {
		if n == 4 {
			must(t, "Commit", s.Commit([]byte("body")))
		}
		allocs(t, s, n)
		must(t, "Write", s.Write(n, []byte{byte(n)}))
	}
	must(t, "Free", s.Free(2))
	must(t, "Free", s.Free(3))
	return d, s
}

// mixedLooks is what that store tells of itself.
func mixedLooks() looks {
	return looks{body: "body", size: 8, room: 2, used: []int{0, 1, 4, 5}, gen: 2, first: 8, log: 5}
}
