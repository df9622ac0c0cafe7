package store

import (
	"bytes"
	"fmt"
	"math"
	"slices"
	"testing"

	"fascicle/api"
	"fascicle/sector"
)

// P7.1, P7.2, P7.3: the chapter's example.
func TestExample(t *testing.T) {
	d, s := format(t, 48, 8)
	looksLike(t, "formatted", s, looks{size: 8, room: 8, gen: 1, first: 8, log: 8})
	allocs(t, s, 0)
	is(t, "Write", s.Write(0, []byte("apple")), api.OK)
	is(t, "Commit", s.Commit(nil), api.OK)
	looksLike(t, "committed", s, looks{size: 8, room: 7, used: []int{0}, gen: 2, first: 8, log: 8})
	if b := raw(t, d, 4, 4); !bytes.Equal(b, slotOf(2, laid(8, 8, nil, 0))) {
		t.Errorf("B has %x", b)
	}
	if b := raw(t, d, 0, 4); !bytes.Equal(b, slotOf(1, laid(8, 8, nil))) {
		t.Errorf("A has %x", b)
	}
	reads(t, s, 0, []byte("apple"))
}

func TestMaxBody(t *testing.T) {
	if MaxBody != 700 {
		t.Error(MaxBody)
	}
}

// P7.1: how many blocks there are.
func TestFormat(t *testing.T) {
	for _, c := range []struct{ sectors, log, count int }{
		{24, 0, 4}, {27, 0, 4}, {28, 0, 5}, {25, 1, 4}, {29, 1, 5}, {280, 256, 4}, {283, 256, 4}, {284, 256, 5}, {45, 5, 8}, {48, 8, 8},
		{8 + 4*63, 0, 63}, {8 + 4*64, 0, 64}, {8 + 4*65, 0, 65}, {8 + 3 + 4*129, 3, 129},
		{2051, 0, 510}, {2052, 0, 511}, {2055, 0, 511}, {2056, 0, 512}, {2059, 0, 512}, {2060, 0, 512}, {4096, 0, 512}, {4096, 256, 512}, {2311, 256, 511}, {2312, 256, 512},
		{9999, 7, 512},
	} {
		what := fmt.Sprint(c)
		d, s := format(t, c.sectors, c.log)
		want := looks{size: c.count, room: c.count, gen: 1, first: 8, log: c.log}
		looksLike(t, what, s, want)
		if b := raw(t, d, 0, 4); !bytes.Equal(b, slotOf(1, laid(c.log, c.count, nil))) {
			t.Errorf("%s: A has %x", what, b)
		}
		if b := raw(t, d, 4, d.Size()-4); !bytes.Equal(b, make([]byte, len(b))) {
			t.Errorf("%s: more than A was written", what)
		}
		if len(d.Waits()) > 0 || d.Calls() != 5 {
			t.Errorf("%s: %v wait, %d calls", what, d.Waits(), d.Calls())
		}
		looksLike(t, what, open(t, d), want)
		for n := range c.count {
			allocs(t, s, n)
		}
		allocFails(t, s, api.ErrFull)
	}
}

// P7.1
func TestFormatFaults(t *testing.T) {
	formatFails(t, "nil", nil, 8, api.ErrNil)
	formatFails(t, "nil", nil, -1, api.ErrNil)
	for _, c := range []struct{ sectors, log int }{
		{48, -1}, {4096, -1}, {4096, -8}, {4096, 257}, {4096, 512}, {4096, math.MaxInt}, {4096, math.MinInt}, {4096, math.MinInt + 8}, {4096, math.MaxInt - 7},
		// Room for three blocks, or for fewer.
		{23, 0}, {20, 0}, {24, 1}, {279, 256}, {40, 17}, {8, 0}, {7, 0}, {4, 0}, {0, 0}, {0, 256}, {9, 5},
	} {
		what := fmt.Sprint(c)
		d := sector.New(c.sectors)
		formatFails(t, what, d, c.log, api.ErrArg)
		if d.Calls() != 0 {
			t.Errorf("%s: %d calls", what, d.Calls())
		}
		turnOff(t, d, true)
		formatFails(t, what+" of a disk that is down", d, c.log, api.ErrDown)
	}
	d := sector.New(48)
	turnOff(t, d, false)
	formatFails(t, "a disk that is down", d, 8, api.ErrDown)
}

// P7.1: the generation is above all that was seen, at either end of each sector of both slots.
func TestFormatGeneration(t *testing.T) {
	for n := range 8 {
		for _, c := range []struct {
			first, last uint64
			gen         int
		}{
			{5, 0, 6}, {0, 5, 6}, {5, 3, 6}, {3, 5, 6}, {9, 9, 10}, {255, 1, 256},
			{maxGen - 1, 0, maxGen}, {0, maxGen - 1, maxGen}, {maxGen + 1, 7, 8}, {7, math.MaxUint64, 8}, {1 << 63, 1<<63 + 5, 1},
		} {
			d := sector.New(48)
			lay(t, d, n, ended(c.first, c.last))
			s, e := Format(d, 8)
			what := fmt.Sprint(n, c)
			is(t, what, e, api.OK)
			looksLike(t, what, s, looks{size: 8, room: 8, gen: c.gen, first: 8, log: 8})
			looksLike(t, what, open(t, d), look(s))
		}
		for _, c := range [][2]uint64{{maxGen, maxGen}, {maxGen, 0}, {0, maxGen}, {1, maxGen}} {
			d := sector.New(48)
			lay(t, d, n, ended(c[0], c[1]))
			was, calls := whole(t, d), d.Calls()
			formatFails(t, fmt.Sprint(n, c), d, 8, api.ErrRange)
			if !bytes.Equal(whole(t, d), was) || d.Calls() != calls {
				t.Errorf("%d, %v: something was written", n, c)
			}
			// What the disk has no room for is told first.
			formatFails(t, fmt.Sprint(n, c), d, 25, api.ErrArg)
		}
	}
	// What the ring and the blocks have is no generation.
	d := sector.New(48)
	for n := 8; n < 48; n++ {
		lay(t, d, n, ended(maxGen, maxGen))
	}
	s, e := Format(d, 8)
	is(t, "Format", e, api.OK)
	looksLike(t, "beside others", s, looks{size: 8, room: 8, gen: 1, first: 8, log: 8})
}

// P7.1: a store that is formatted anew has nothing of the elder one.
func TestFormatAnew(t *testing.T) {
	d, s := mixed(t)
	for i := range 4 {
		gen := s.Gen()
		n, e := Format(d, 6-i)
		is(t, "Format", e, api.OK)
		want := looks{size: 7 + (i+3)/4, room: 7 + (i+3)/4, gen: gen + 1, first: 8, log: 6 - i}
		looksLike(t, "anew", n, want)
		looksLike(t, "opened", open(t, d), want)
		if b := raw(t, d, 0, 4); !bytes.Equal(b, slotOf(gen+1, laid(6-i, want.size, nil))) {
			t.Errorf("A has %x", b)
		}
		allocs(t, n, 0)
		must(t, "Commit", n.Commit([]byte("anew")))
		s = n
	}
}

// P7.1: a disk that fails within Format tells it, and no store; what is there then is the elder one, or the new one.
func TestFormatOnADiskThatFails(t *testing.T) {
	for after := range 5 {
		for _, done := range []bool{false, true} {
			for _, fates := range [][]byte{nil, allKept()} {
				what := fmt.Sprint(after, done, len(fates))
				d := sector.New(45)
				must(t, "Break", d.Break(after, done))
				formatFails(t, what, d, 5, api.ErrDown)
				formatFails(t, what+" and is down", d, 5, api.ErrDown)
				d.Power(fates)
				written := fates != nil && (after == 4 || after == 3 && done) || after == 4 && done
				if written {
					looksLike(t, what, open(t, d), looks{size: 8, room: 8, gen: 1, first: 8, log: 5})
				} else {
					openFails(t, what, d, api.ErrForm)
				}
			}
		}
	}
}

// P7.1
func TestOpenFaults(t *testing.T) {
	openFails(t, "nil", nil, api.ErrNil)
	for _, sectors := range []int{0, 1, 3, 4, 7, 8, 23, 24, 48, 4096} {
		d := sector.New(sectors)
		openFails(t, "zeros", d, api.ErrForm)
		turnOff(t, d, false)
		openFails(t, "a disk that is down", d, api.ErrDown)
	}
	d, _ := format(t, 48, 8)
	turnOff(t, d, true)
	openFails(t, "a store on a disk that is down", d, api.ErrDown)
	d.Power(nil)
	open(t, d)
}

// P7.1: a slot that has fewer sectors than it needs is none.
func TestOpenOfShortDisks(t *testing.T) {
	b := slotOf(1, laid(0, 4, nil))
	for sectors := range 24 {
		d := sector.New(sectors)
		lay(t, d, 0, b[:256*min(sectors, 4)])
		openFails(t, fmt.Sprint(sectors, " sectors"), d, api.ErrForm)
	}
	d := sector.New(24)
	lay(t, d, 0, b)
	open(t, d)
}

// P7.1: all that a slot tells is found again, from either slot.
func TestOpen(t *testing.T) {
	for _, c := range []struct {
		sectors, log, count int
		body                []byte
		used                []int
	}{
		{24, 0, 4, nil, nil},
		{27, 0, 4, []byte{0}, []int{0, 1, 2, 3}},
		{280, 256, 4, many(700, 1), []int{3}},
		{45, 5, 8, make([]byte, 700), []int{7}},
		{8 + 4*63, 0, 63, []byte("ab"), []int{0, 62}},
		{8 + 4*64, 0, 64, []byte("ab"), []int{0, 63}},
		{8 + 4*65, 0, 65, []byte("ab"), []int{0, 63, 64}},
		{4096, 256, 512, many(700, 2), []int{0, 1, 8, 64, 127, 128, 200, 447, 448, 510, 511}},
		{2312, 256, 512, many(699, 2), []int{100}},
	} {
		for _, gen := range []int{1, 2, 255, 256, 1 << 32, maxGen - 1, maxGen} {
			for _, place := range []int{0, 4} {
				d := sector.New(c.sectors)
				lay(t, d, place, slotOf(gen, laid(c.log, c.count, c.body, c.used...)))
				was, calls := whole(t, d), d.Calls()
				want := looks{body: string(c.body), size: c.count, room: c.count - len(c.used), used: c.used, gen: gen, first: 8, log: c.log}
				looksLike(t, fmt.Sprint(c.sectors, gen, place), open(t, d), want)
				if !bytes.Equal(whole(t, d), was) || d.Calls() != calls {
					t.Error("Open has written")
				}
			}
		}
	}
}

// wrongBodies are of a slot, but of no store of a disk of 45 sectors.
func wrongBodies() [][]byte {
	rest := words(8, 1)
	l := [][]byte{
		nil, {0}, {0, 0}, {5}, small(5), slices.Concat(small(5), small(8)),
		// The map is cut off, or has a number that there is not.
		slices.Concat(small(5), small(8), rest[:7]), slices.Concat(small(5), small(8), rest[1:]),
		slices.Concat(small(5), small(8), eight(1<<8)), slices.Concat(small(5), small(8), eight(1<<63)), slices.Concat(small(5), small(8), eight(1<<8), many(700, 1)),
		// The body is too long.
		laid(5, 8, many(701, 1), 1), laid(5, 8, make([]byte, 701), 1), laid(5, 8, many(900, 1), 1),
		// There is not so much room, or more.
		laid(5, 9, nil, 1), laid(6, 8, nil, 1), laid(9, 8, nil, 1), laid(5, 7, nil, 1), laid(1, 8, nil, 1), laid(5, 512, nil, 1), laid(5, 513, nil, 1), laid(5, 0, nil), laid(5, 0, rest), laid(5, 64, nil, 1),
		// Room for three blocks, or for none.
		laid(22, 3, nil, 1), laid(25, 3, nil, 1), laid(37, 0, nil), laid(37, 0, rest), laid(40, 0, rest),
		laid(256, 8, nil, 1), laid(257, 8, nil, 1), laid(257, 4, nil, 1),
		// Numbers in more bytes than they need, cut off, or too great.
		slices.Concat([]byte{2, 0, 5}, small(8), rest), slices.Concat(small(5), []byte{2, 0, 8}, rest), slices.Concat([]byte{9, 5}, small(8), rest), slices.Concat(small(5), []byte{9, 8}, rest),
		slices.Concat(small(maxGen+1), small(8), rest), slices.Concat(small(5), small(maxGen+1), rest), slices.Concat(small(5), small(maxGen), rest), slices.Concat(small(maxGen), small(8), rest),
		slices.Concat([]byte{8}, eight(math.MaxUint64), small(8), rest), slices.Concat(small(5), []byte{8}, eight(math.MaxUint64), rest),
		{8, 1, 2, 3}, {1, 5, 8, 1, 2, 3}, {255, 255},
		// The first byte is one too many.
		append([]byte{0}, laid(5, 8, nil, 1)...), laid(5, 8, nil, 1)[1:],
		many(954, 4), make([]byte, 954),
	}
	return l
}

// P7.1: a slot whose body is of no store that fits the disk is none.
func TestOpenOfWrongBodies(t *testing.T) {
	good := looks{body: "good", size: 8, room: 7, used: []int{1}, gen: 5, first: 8, log: 5}
	for i, b := range wrongBodies() {
		for _, place := range []int{0, 4} {
			what := fmt.Sprintf("the body %d, %.12x, at %d", i, b, place)
			d := sector.New(45)
			lay(t, d, place, slotOf(7, b))
			openFails(t, what, d, api.ErrForm)
			lay(t, d, 4-place, slotOf(7, b))
			openFails(t, what+" in both", d, api.ErrForm)
			lay(t, d, 4-place, slotOf(5, laid(5, 8, []byte("good"), 1)))
			looksLike(t, what+" beside a good one", open(t, d), good)
		}
	}
}

// P7.1: the numbers of the log and of the blocks are those of a disk of that size.
func TestOpenOfOtherSizes(t *testing.T) {
	for _, log := range []int{0, 1, 4, 5, 6, 7, 8, 9, 10, 20, 21, 24, 25, 251, 252, 253, 256, 257, 258} {
		for _, sectors := range []int{24, 45, 46, 47, 48, 49, 276, 280, 281} {
			room := (sectors - 8 - log) / 4
			for count := range 70 {
				d := sector.New(sectors)
				lay(t, d, 4, slotOf(1, laid(log, count, nil)))
				what := fmt.Sprintf("%d sectors, %d of a log, %d blocks", sectors, log, count)
				if log <= 256 && count >= 4 && count == room {
					looksLike(t, what, open(t, d), looks{size: count, room: count, gen: 1, first: 8, log: log})
				} else {
					openFails(t, what, d, api.ErrForm)
				}
			}
		}
	}
	d := sector.New(4096)
	for _, count := range []int{511, 513, 958, 1022} {
		lay(t, d, 0, slotOf(1, laid(0, count, nil)))
		openFails(t, fmt.Sprint(count), d, api.ErrForm)
	}
}

// P7.1: a map has no bit behind its last number.
func TestOpenOfBitsBehind(t *testing.T) {
	for _, count := range []int{4, 8, 63, 64, 65, 127, 128, 130, 511, 512} {
		for bit := range (count + 63) / 64 * 64 {
			d := sector.New(8 + 4*count)
			lay(t, d, 0, slotOf(1, slices.Concat(small(0), small(count), words(count+63, bit)[:(count+63)/64*8])))
			if bit < count {
				looksLike(t, fmt.Sprint(count, bit), open(t, d), looks{size: count, room: count - 1, used: []int{bit}, gen: 1, first: 8})
			} else {
				openFails(t, fmt.Sprint(count, bit), d, api.ErrForm)
			}
		}
	}
}

// P7.1: the greater generation counts; of the same A.
func TestOpenOfTwo(t *testing.T) {
	gens := []int{1, 2, 3, 255, 256, 257, 1 << 16, 1 << 32, maxGen - 1, maxGen}
	for _, a := range gens {
		for _, b := range gens {
			d := sector.New(45)
			lay(t, d, 0, slotOf(a, laid(5, 8, []byte("A"), 1)))
			lay(t, d, 4, slotOf(b, laid(4, 8, []byte("B"), 2)))
			want := looks{body: "A", size: 8, room: 7, used: []int{1}, gen: a, first: 8, log: 5}
			if b > a {
				want = looks{body: "B", size: 8, room: 7, used: []int{2}, gen: b, first: 8, log: 4}
			}
			what := fmt.Sprint(a, b)
			s := open(t, d)
			looksLike(t, what, s, want)
			if max(a, b) == maxGen {
				is(t, what, s.Commit(nil), api.ErrRange)
				continue
			}
			// What is written next goes to the slot that did not count.
			is(t, what, s.Commit([]byte("next")), api.OK)
			place := 0
			if want.body == "A" {
				place = 4
			}
			if got := raw(t, d, place, 4); !bytes.Equal(got, slotOf(max(a, b)+1, laid(want.log, 8, []byte("next"), want.used...))) {
				t.Errorf("%s: %x", what, got)
			}
		}
	}
}

// P7.1: a slot that slot.Get does not take is none, however great its generation is.
func TestOpenOfTornSlots(t *testing.T) {
	good := slotOf(5, laid(5, 8, []byte("good"), 1))
	fresh := slotOf(9, laid(5, 8, []byte("fresh"), 2))
	for _, place := range []int{0, 4} {
		for i := range 4 {
			for _, n := range []int{0, 1, 7, 8, 9, 100, 247, 248, 249, 255} {
				what := fmt.Sprint(place, i, n)
				torn := bytes.Clone(fresh)
				copy(torn[256*i+n:256*i+256], bytes.Repeat([]byte{0xee}, 256))
				d := sector.New(45)
				lay(t, d, place, torn)
				openFails(t, what, d, api.ErrForm)
				lay(t, d, 4-place, torn)
				openFails(t, what+" both", d, api.ErrForm)
				lay(t, d, 4-place, good)
				s := open(t, d)
				looksLike(t, what, s, looks{body: "good", size: 8, room: 7, used: []int{1}, gen: 5, first: 8, log: 5})
			}
		}
	}
}

// P7.2: each kind of block, in each call.
func TestBlocks(t *testing.T) {
	const free = 8
	for n := -2; n < 70; n++ {
		used := n == 0 || n == 1 || n == 4 || n == 5
		counts := n >= 0 && n < 4
		_, s := mixed(t)
		looksLike(t, "mixed", s, mixedLooks())
		switch {
		case !used:
			is(t, fmt.Sprint("Write ", n), s.Write(n, []byte("x")), api.ErrNone)
			readFails(t, s, n, api.ErrNone)
			is(t, fmt.Sprint("Free ", n), s.Free(n), api.ErrNone)
			looksLike(t, fmt.Sprint(n, " stays"), s, mixedLooks())
		case counts:
			is(t, fmt.Sprint("Write ", n), s.Write(n, []byte("x")), api.ErrState)
			reads(t, s, n, []byte{byte(n)})
			is(t, fmt.Sprint("Free ", n), s.Free(n), api.OK)
			readFails(t, s, n, api.ErrNone)
			is(t, fmt.Sprint("Write ", n), s.Write(n, []byte("x")), api.ErrNone)
			is(t, fmt.Sprint("Free ", n), s.Free(n), api.ErrNone)
			if s.Room() != 2 {
				t.Errorf("%d, which counts, was given back", n)
			}
			allocs(t, s, 6)
		default:
			is(t, fmt.Sprint("Write ", n), s.Write(n, []byte("x")), api.OK)
			reads(t, s, n, []byte("x"))
			is(t, fmt.Sprint("Free ", n), s.Free(n), api.OK)
			readFails(t, s, n, api.ErrNone)
			is(t, fmt.Sprint("Write ", n), s.Write(n, []byte("x")), api.ErrNone)
			is(t, fmt.Sprint("Free ", n), s.Free(n), api.ErrNone)
			if s.Room() != 3 {
				t.Errorf("%d was not given back", n)
			}
			allocs(t, s, n)
		}
	}
	for _, n := range []int{free, 63, 64, 511, 512, 4096, math.MaxInt, -1, -8, -64, math.MinInt} {
		_, s := mixed(t)
		is(t, fmt.Sprint("Write ", n), s.Write(n, nil), api.ErrNone)
		is(t, fmt.Sprint("Free ", n), s.Free(n), api.ErrNone)
		readFails(t, s, n, api.ErrNone)
		looksLike(t, fmt.Sprint(n, " stays"), s, mixedLooks())
	}
}

// P7.2: the lowest block that is in neither map.
func TestAlloc(t *testing.T) {
	_, s := mixed(t)
	allocs(t, s, 6)
	must(t, "Free", s.Free(4))
	allocs(t, s, 4)
	allocs(t, s, 7)
	allocFails(t, s, api.ErrFull)
	must(t, "Free", s.Free(0))
	allocFails(t, s, api.ErrFull)
	looksLike(t, "full", s, looks{body: "body", size: 8, used: []int{1, 4, 5, 6, 7}, gen: 2, first: 8, log: 5})
	must(t, "Free", s.Free(7))
	must(t, "Free", s.Free(5))
	allocs(t, s, 5)
	allocs(t, s, 7)
	allocFails(t, s, api.ErrFull)
	// What a Commit leaves out is free behind it alone.
	must(t, "Commit", s.Commit(nil))
	for _, n := range []int{0, 2, 3} {
		allocs(t, s, n)
	}
	allocFails(t, s, api.ErrFull)
}

// P7.2: a store of as many blocks as there may be.
func TestAllocOfMany(t *testing.T) {
	_, s := format(t, 4096, 256)
	for n := range 512 {
		allocs(t, s, n)
	}
	allocFails(t, s, api.ErrFull)
	must(t, "Commit", s.Commit(nil))
	allocFails(t, s, api.ErrFull)
	for n := range 512 {
		must(t, "Free", s.Free(n))
		if n%100 == 0 {
			allocFails(t, s, api.ErrFull)
		}
	}
	must(t, "Commit", s.Commit(nil))
	for n := range 512 {
		allocs(t, s, n)
	}
	allocFails(t, s, api.ErrFull)
}

// P7.2: a block lies behind the ring.
func TestWriteWhere(t *testing.T) {
	for _, c := range []struct{ sectors, log int }{{24, 0}, {45, 5}, {300, 256}, {4096, 3}} {
		d, s := format(t, c.sectors, c.log)
		for n := range min(s.Room(), 40) {
			allocs(t, s, n)
			is(t, "Write", s.Write(n, many(n, 5)), api.OK)
			first := 8 + c.log + 4*n
			if w := d.Waits(); !slices.Equal(w, []int{first, first + 1, first + 2, first + 3}) {
				t.Errorf("%v: the block %d waits in %v", c, n, w)
			}
			if got := raw(t, d, first, 4); !bytes.Equal(got, sealed(t, many(n, 5), func([]byte) {})) {
				t.Errorf("%v: the block %d has %x", c, n, got)
			}
			must(t, "Sync", d.Sync())
		}
	}
}

// P7.2: the bodies that a block may have.
func TestWriteSizes(t *testing.T) {
	d, s := format(t, 45, 5)
	allocs(t, s, 0)
	for _, n := range []int{0, 1, 255, 256, 700, 701, 1015, 1016} {
		is(t, "Write", s.Write(0, many(n, 1)), api.OK)
		reads(t, s, 0, many(n, 1))
	}
	was, calls := whole(t, d), d.Calls()
	for _, n := range []int{1017, 1018, 1024, 2000, 70000} {
		is(t, "Write", s.Write(0, many(n, 1)), api.ErrTooBig)
	}
	if !bytes.Equal(whole(t, d), was) || d.Calls() != calls {
		t.Error("something was written")
	}
	looksLike(t, "not bad", s, looks{size: 8, room: 7, used: []int{0}, gen: 1, first: 8, log: 5})
	// A block that there is not is told ahead of its body.
	is(t, "Write", s.Write(1, many(1017, 1)), api.ErrNone)
	must(t, "Commit", s.Commit(nil))
	is(t, "Write", s.Write(0, many(1017, 1)), api.ErrState)
}

// P7.2: a block whose sum or form is wrong makes no store bad.
func TestReadOfWrongBlocks(t *testing.T) {
	d, s := mixed(t)
	for _, n := range []int{0, 1, 4, 5} {
		first := 8 + 5 + 4*n
		lay(t, d, first, make([]byte, 1024))
		readFails(t, s, n, api.ErrSum)
		lay(t, d, first, many(1024, 3))
		readFails(t, s, n, api.ErrSum)
		for _, at := range []int{4, 6, 7, 9, 1023} {
			lay(t, d, first, sealed(t, []byte{byte(n)}, func(b []byte) { b[at] = 99 }))
			readFails(t, s, n, api.ErrForm)
		}
		looksLike(t, "not bad", s, mixedLooks())
		lay(t, d, first, sealed(t, []byte{byte(n)}, func([]byte) {}))
		reads(t, s, n, []byte{byte(n)})
	}
	// One that was never written.
	allocs(t, s, 6)
	readFails(t, s, 6, api.ErrSum)
	is(t, "Commit", s.Commit(nil), api.OK)
	readFails(t, s, 6, api.ErrSum)
}

// bads asks a store for what all calls answer once it is bad.
func bads(t *testing.T, what string, s *Store) {
	t.Helper()
	was := look(s)
	if !was.bad {
		t.Errorf("%s: not bad", what)
	}
	for range 2 {
		allocFails(t, s, api.ErrState)
		for _, n := range []int{-1, 0, 1, 2, 4, 6, 8} {
			is(t, what+": Write", s.Write(n, nil), api.ErrState)
			is(t, what+": Write", s.Write(n, many(1017, 1)), api.ErrState)
			is(t, what+": Free", s.Free(n), api.ErrState)
			readFails(t, s, n, api.ErrState)
		}
		is(t, what+": Commit", s.Commit(nil), api.ErrState)
		is(t, what+": Commit", s.Commit(many(701, 1)), api.ErrState)
		is(t, what+": Forget", s.Forget(), api.ErrState)
	}
	looksLike(t, what+" stays", s, was)
}

// badly is what a store tells of itself that was as in those looks, and is bad now.
func badly(l looks) looks {
	l.bad = true
	return l
}

// P7.2, P7.5: a disk that fails within Write or Read makes a store bad; it stays so, also when the power is there again.
func TestBad(t *testing.T) {
	for after := range 4 {
		for _, done := range []bool{false, true} {
			what := fmt.Sprint("Write ", after, done)
			d, s := mixed(t)
			must(t, "Break", d.Break(after, done))
			is(t, what, s.Write(4, []byte("x")), api.ErrDown)
			looksLike(t, what, s, badly(mixedLooks()))
			bads(t, what, s)
			d.Power(allKept())
			bads(t, what+", with power", s)
		}
	}
	for _, n := range []int{0, 1, 4, 5} {
		d, s := mixed(t)
		turnOff(t, d, true)
		readFails(t, s, n, api.ErrDown)
		looksLike(t, "Read", s, badly(mixedLooks()))
		bads(t, "Read", s)
		d.Power(nil)
		bads(t, "Read, with power", s)
	}
	d, s := mixed(t)
	turnOff(t, d, true)
	is(t, "Write", s.Write(4, nil), api.ErrDown)
	bads(t, "Write", s)
}

// P7.2: what asks nothing of the disk does not find that it is down.
func TestWithoutADisk(t *testing.T) {
	d, s := mixed(t)
	turnOff(t, d, true)
	allocs(t, s, 6)
	is(t, "Free", s.Free(6), api.OK)
	is(t, "Free", s.Free(0), api.OK)
	is(t, "Forget", s.Forget(), api.OK)
	is(t, "Write", s.Write(7, nil), api.ErrNone)
	is(t, "Write", s.Write(0, nil), api.ErrState)
	readFails(t, s, 7, api.ErrNone)
	is(t, "Commit", s.Commit(many(701, 1)), api.ErrTooBig)
	looksLike(t, "not bad", s, looks{body: "body", size: 8, room: 4, used: []int{0, 1, 2, 3}, gen: 2, first: 8, log: 5})
	d.Power(nil)
	is(t, "Commit", s.Commit(nil), api.OK)
}

// P7.3
func TestCommit(t *testing.T) {
	d, s := format(t, 45, 5)
	slots := [2][]byte{slotOf(1, laid(5, 8, nil)), make([]byte, 1024)}
	var used []int
	for i, size := range []int{0, 1, 2, 255, 699, 700, 0, 700} {
		body := many(size, uint32(i))
		allocs(t, s, i)
		used = append(used, i)
		must(t, "Write", s.Write(i, body))
		calls, blocks := d.Calls(), raw(t, d, 8, 37)
		is(t, fmt.Sprint("Commit of ", size), s.Commit(body), api.OK)
		slots[(i+1)%2] = slotOf(i+2, laid(5, 8, body, used...))
		if got := raw(t, d, 0, 8); !bytes.Equal(got, slices.Concat(slots[0], slots[1])) {
			t.Errorf("%d: the slots have %x", i, got)
		}
		if !bytes.Equal(raw(t, d, 8, 37), blocks) || len(d.Waits()) > 0 || d.Calls() != calls+6 {
			t.Errorf("%d: %v wait, %d calls", i, d.Waits(), d.Calls()-calls)
		}
		want := looks{body: string(body), size: 8, room: 7 - i, used: used, gen: i + 2, first: 8, log: 5}
		looksLike(t, "committed", s, want)
		looksLike(t, "opened", open(t, d), want)
		// What is opened again writes the other slot, too.
		if i%3 == 2 {
			s = open(t, d)
		}
		for n := range i + 1 {
			is(t, "Write", s.Write(n, nil), api.ErrState)
		}
	}
}

// P7.3: what was freed is not in the map that is written.
func TestCommitOfMixed(t *testing.T) {
	d, s := mixed(t)
	is(t, "Commit", s.Commit([]byte("next")), api.OK)
	want := looks{body: "next", size: 8, room: 4, used: []int{0, 1, 4, 5}, gen: 3, first: 8, log: 5}
	looksLike(t, "committed", s, want)
	looksLike(t, "opened", open(t, d), want)
	for n := range 8 {
		e := api.ErrNone
		if slices.Contains(want.used, n) {
			e = api.ErrState
		}
		is(t, "Write", s.Write(n, nil), e)
	}
	allocs(t, s, 2)
	is(t, "Write", s.Write(2, []byte("new")), api.OK)
	reads(t, s, 2, []byte("new"))
}

// P7.3
func TestCommitFaults(t *testing.T) {
	d, s := mixed(t)
	was, calls := whole(t, d), d.Calls()
	for _, n := range []int{701, 702, 954, 955, 1024, 70000} {
		is(t, "Commit", s.Commit(many(n, 1)), api.ErrTooBig)
	}
	looksLike(t, "too big", s, mixedLooks())
	if !bytes.Equal(whole(t, d), was) || d.Calls() != calls {
		t.Error("something was written")
	}
	for n := range 8 {
		for _, c := range [][2]uint64{{maxGen, maxGen}, {maxGen, 1}, {1, maxGen}} {
			d, s := mixed(t)
			lay(t, d, n, ended(c[0], c[1]))
			was, calls := whole(t, d), d.Calls()
			is(t, "Commit", s.Commit([]byte("x")), api.ErrRange)
			is(t, "Commit", s.Commit(many(700, 1)), api.ErrRange)
			is(t, "Commit", s.Commit(many(701, 1)), api.ErrTooBig)
			looksLike(t, "no generation", s, mixedLooks())
			if !bytes.Equal(whole(t, d), was) || d.Calls() != calls {
				t.Error("something was written")
			}
		}
	}
}

// P7.3: the last generations there are.
func TestLastGenerations(t *testing.T) {
	d := sector.New(45)
	lay(t, d, 4, slotOf(maxGen-2, laid(5, 8, nil)))
	s := open(t, d)
	is(t, "Commit", s.Commit([]byte("1")), api.OK)
	is(t, "Commit", s.Commit([]byte("2")), api.OK)
	want := looks{body: "2", size: 8, room: 8, gen: maxGen, first: 8, log: 5}
	for range 2 {
		is(t, "Commit", s.Commit([]byte("3")), api.ErrRange)
		looksLike(t, "the last one", s, want)
	}
	looksLike(t, "opened", open(t, d), want)
	formatFails(t, "behind the last one", d, 5, api.ErrRange)
	// The store's own generation is known without the disk.
	lay(t, d, 0, make([]byte, 2048))
	is(t, "Commit", s.Commit(nil), api.ErrRange)
	turnOff(t, d, false)
	is(t, "Commit", s.Commit(nil), api.ErrRange)
	is(t, "Commit", s.Commit(many(701, 1)), api.ErrTooBig)
	looksLike(t, "not bad", s, want)
}

// P7.3: the generation is above all that was seen, at either end of each sector of both slots, and above the store's.
func TestCommitGeneration(t *testing.T) {
	for n := range 10 {
		for _, c := range []struct {
			first, last uint64
			gen         int
		}{
			{0, 0, 3}, {1, 1, 3}, {2, 1, 3}, {3, 0, 4}, {0, 3, 4}, {9, 3, 10}, {3, 9, 10}, {maxGen - 1, 0, maxGen}, {0, maxGen - 1, maxGen}, {maxGen + 1, 5, 6}, {5, math.MaxUint64, 6}, {1<<63 + 5, 1 << 48, 3},
		} {
			what := fmt.Sprint(n, c)
			d, s := mixed(t)
			lay(t, d, n, ended(c.first, c.last))
			want := c.gen
			if n >= 8 {
				want = 3
			}
			is(t, what, s.Commit([]byte("x")), api.OK)
			if s.Gen() != want {
				t.Errorf("%s: %d, want %d", what, s.Gen(), want)
			}
			// The sectors 0 to 3 were written anew.
			if n < 4 || n >= 8 {
				looksLike(t, what, open(t, d), look(s))
			}
		}
	}
	// What waits on the disk is seen, too.
	d, s := mixed(t)
	must(t, "Write", d.Write(3, ended(77, 5)))
	is(t, "Commit", s.Commit(nil), api.OK)
	if s.Gen() != 78 {
		t.Error(s.Gen())
	}
}

// P7.3: a disk that fails within Commit makes a store bad, which stays else as it was.
func TestCommitOnADiskThatFails(t *testing.T) {
	for after := range 6 {
		for _, done := range []bool{false, true} {
			what := fmt.Sprint(after, done)
			d, s := mixed(t)
			calls := d.Calls()
			must(t, "Break", d.Break(after, done))
			is(t, what, s.Commit([]byte("next")), api.ErrDown)
			looksLike(t, what, s, badly(mixedLooks()))
			if d.Calls() != calls+after+1 {
				t.Errorf("%s: %d calls", what, d.Calls()-calls)
			}
			bads(t, what, s)
			d.Power(allKept())
			bads(t, what+", with power", s)
		}
	}
	d, s := mixed(t)
	turnOff(t, d, false)
	is(t, "a disk that is down", s.Commit(nil), api.ErrDown)
	looksLike(t, "a disk that is down", s, badly(mixedLooks()))
	bads(t, "a disk that is down", s)
}

// P7.4
func TestForget(t *testing.T) {
	d, s := mixed(t)
	was, calls := whole(t, d), d.Calls()
	want := looks{body: "body", size: 8, room: 4, used: []int{0, 1, 2, 3}, gen: 2, first: 8, log: 5}
	for range 2 {
		is(t, "Forget", s.Forget(), api.OK)
		looksLike(t, "forgotten", s, want)
	}
	for n := range 4 {
		reads(t, s, n, []byte{byte(n)})
		is(t, "Write", s.Write(n, nil), api.ErrState)
	}
	readFails(t, s, 4, api.ErrNone)
	if !bytes.Equal(whole(t, d), was) || d.Calls() != calls {
		t.Error("something was written")
	}
	allocs(t, s, 4)
	must(t, "Free", s.Free(0))
	must(t, "Commit", s.Commit([]byte("next")))
	must(t, "Free", s.Free(1))
	is(t, "Forget", s.Forget(), api.OK)
	looksLike(t, "behind a Commit", s, looks{body: "next", size: 8, room: 4, used: []int{1, 2, 3, 4}, gen: 3, first: 8, log: 5})
	_, fresh := format(t, 45, 5)
	allocs(t, fresh, 0)
	is(t, "Forget", fresh.Forget(), api.OK)
	looksLike(t, "a fresh one", fresh, looks{size: 8, room: 8, gen: 1, first: 8, log: 5})
}

// P7.4, P7.2: behind Open the map is the counting map, too.
func TestForgetOfOpened(t *testing.T) {
	d, _ := mixed(t)
	s := open(t, d)
	want := looks{body: "body", size: 8, room: 4, used: []int{0, 1, 2, 3}, gen: 2, first: 8, log: 5}
	looksLike(t, "opened", s, want)
	for n := range 4 {
		is(t, "Write", s.Write(n, nil), api.ErrState)
		reads(t, s, n, []byte{byte(n)})
		must(t, "Free", s.Free(n))
	}
	allocs(t, s, 4)
	is(t, "Forget", s.Forget(), api.OK)
	looksLike(t, "forgotten", s, want)
}

// P7.2, P7.3, P7.4, P7.5: of nil; so of a store that has no disk.
func TestNil(t *testing.T) {
	for _, s := range []*Store{nil, {}} {
		allocFails(t, s, api.ErrNil)
		for _, n := range []int{-1, 0, 1} {
			is(t, "Write", s.Write(n, nil), api.ErrNil)
			is(t, "Write", s.Write(n, many(1017, 1)), api.ErrNil)
			is(t, "Free", s.Free(n), api.ErrNil)
			readFails(t, s, n, api.ErrNil)
		}
		is(t, "Commit", s.Commit(nil), api.ErrNil)
		is(t, "Commit", s.Commit(many(701, 1)), api.ErrNil)
		is(t, "Forget", s.Forget(), api.ErrNil)
		looksLike(t, "nil", s, looks{})
		if s.Body() != nil || s.Used().Words != nil {
			t.Error("nil has something")
		}
		if s.Fork(nil) != nil || s.Fork(sector.New(45)) != nil {
			t.Error("nil has a fork")
		}
	}
	_, s := mixed(t)
	if s.Fork(nil) != nil {
		t.Error("a fork upon nil")
	}
}

// P7.5: a fork is as the store is, and goes its own way.
func TestFork(t *testing.T) {
	d, s := mixed(t)
	e := d.Fork()
	f := s.Fork(e)
	looksLike(t, "a fork", f, mixedLooks())
	was := whole(t, d)
	allocs(t, f, 6)
	is(t, "Write", f.Write(6, []byte("six")), api.OK)
	is(t, "Write", f.Write(4, []byte("four")), api.OK)
	is(t, "Write", f.Write(0, nil), api.ErrState)
	is(t, "Free", f.Free(5), api.OK)
	looksLike(t, "its origin", s, mixedLooks())
	is(t, "Commit", f.Commit([]byte("fork")), api.OK)
	looksLike(t, "its origin", s, mixedLooks())
	if !bytes.Equal(whole(t, d), was) {
		t.Error("the fork wrote on the disk of its origin")
	}
	forked := looks{body: "fork", size: 8, room: 4, used: []int{0, 1, 4, 6}, gen: 3, first: 8, log: 5}
	looksLike(t, "the fork", f, forked)
	reads(t, s, 4, []byte{4})
	reads(t, f, 4, []byte("four"))
	must(t, "Free", s.Free(0))
	must(t, "Commit", s.Commit([]byte("origin")))
	turnOff(t, d, true)
	readFails(t, s, 1, api.ErrDown)
	looksLike(t, "the fork", f, forked)
	looksLike(t, "the fork, opened", open(t, e), forked)
	reads(t, f, 0, []byte{0})
	if g := s.Fork(e.Fork()); !g.Bad() {
		t.Error("a fork is as the store is")
	}
	// It goes to the slot that its origin would have taken.
	is(t, "Commit", f.Commit([]byte("again")), api.OK)
	if got := raw(t, e, 4, 4); !bytes.Equal(got, slotOf(4, laid(5, 8, []byte("again"), 0, 1, 4, 6))) {
		t.Errorf("B has %x", got)
	}
}

// P7.5, rule 1: a fork upon a disk that is too small tells errors.
func TestForkUponSmallDisks(t *testing.T) {
	for sectors := range 45 {
		_, s := mixed(t)
		f := s.Fork(sector.New(sectors))
		looksLike(t, "a fork", f, mixedLooks())
		is(t, "Write", f.Write(4, nil), api.ErrArg)
		readFails(t, f, 4, api.ErrArg)
		looksLike(t, "not bad", f, mixedLooks())
		e := f.Commit(nil)
		if sectors < 4 {
			is(t, "Commit", e, api.ErrRange)
			bads(t, "without a slot", f)
		} else {
			is(t, "Commit", e, api.OK)
		}
	}
}

// Rule 4: two stores have nothing in common but their disk.
func TestTwoStoresUponOneDisk(t *testing.T) {
	d, s := mixed(t)
	o := open(t, d)
	was := look(o)
	allocs(t, s, 6)
	must(t, "Write", s.Write(6, []byte("six")))
	looksLike(t, "the other one", o, was)
	must(t, "Commit", s.Commit([]byte("next")))
	looksLike(t, "the other one", o, was)
	mine := look(s)
	allocs(t, o, 4)
	must(t, "Free", o.Free(0))
	looksLike(t, "the first one", s, mine)
}

// Rule 3: no function changes what it is given, nor its spare room, and none keeps it.
func TestArgumentsStay(t *testing.T) {
	d, s := format(t, 45, 5)
	allocs(t, s, 0)
	for _, n := range []int{0, 1, 500, 700, 701, 1016, 1017} {
		room := many(1100, 5)
		was := bytes.Clone(room)
		written := s.Write(0, room[:n]) == api.OK
		f := s.Fork(d.Fork())
		committed := f.Commit(room[:n]) == api.OK
		if !bytes.Equal(room, was) {
			t.Fatalf("%d bytes were changed, or their spare room", n)
		}
		spoil(room)
		if written {
			reads(t, s, 0, was[:n])
		}
		if committed && !bytes.Equal(f.Body(), was[:n]) {
			t.Errorf("the body of %d bytes hangs on what was given", n)
		}
	}
}

// Rule 3: an answer is new memory.
func TestAnswersAreNew(t *testing.T) {
	d, s := mixed(t)
	for range 2 {
		spoil(s.Body())
		looksLike(t, "a body", s, mixedLooks())
		m := s.Used()
		for i := range m.Words[:cap(m.Words)] {
			m.Words[:cap(m.Words)][i] = math.MaxUint64
		}
		looksLike(t, "a map", s, mixedLooks())
		is(t, "Write", s.Write(0, nil), api.ErrState)
		b, _ := s.Read(0)
		spoil(b)
		reads(t, s, 0, []byte{0})
	}
	// Behind a Forget and a Commit the map and the counting one are the same.
	must(t, "Forget", s.Forget())
	s.Used().Words[0] = 0
	looksLike(t, "a map", s, looks{body: "body", size: 8, room: 4, used: []int{0, 1, 2, 3}, gen: 2, first: 8, log: 5})
	is(t, "Write", s.Write(0, nil), api.ErrState)
	f := s.Fork(d)
	spoil(f.Body())
	f.Used().Words[0] = 0
	looksLike(t, "the origin", s, looks{body: "body", size: 8, room: 4, used: []int{0, 1, 2, 3}, gen: 2, first: 8, log: 5})
	o := open(t, d)
	spoil(o.Body())
	o.Used().Words[0] = 0
	looksLike(t, "an opened one", o, look(s))
}
