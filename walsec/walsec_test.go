package walsec

import (
	"bytes"
	"fmt"
	"math"
	"slices"
	"testing"

	"fascicle/api"
)

// good are epochs, of which each byte that may have something has something.
func good() []int {
	return []int{1, 2, 3, 255, 256, 257, 0x10000, 0x0102030405, 0xff00ff00ff, 1<<32 - 1, 1 << 32, maxEpoch - 1, maxEpoch}
}

// wrong are numbers that no epoch is; times 256 some of them are what others are.
func wrong() []int {
	return []int{
		0, -1, -2, -256, -maxEpoch, maxEpoch + 1, maxEpoch + 2, 2 * maxEpoch, 1 << 55, 1<<55 + 1,
		1 << 56, 1<<56 + 1, 1<<56 + maxEpoch, 1<<62 + 1, math.MinInt + 1, math.MinInt, math.MaxInt,
	}
}

// lists are of texts by their lengths: none, one and many, with parts that are just full, and ones that are a byte short.
func lists() [][]int {
	l := [][]int{
		nil,
		{237, 0}, {0, 237}, {237, 0, 0}, {237, 1}, {236, 0}, {236, 0, 0}, {236, 1}, {236, 1, 0}, {238, 0}, {238, 238}, {0, 238, 0},
		{118, 119}, {118, 118}, {118, 118, 0}, {118, 118, 1}, {118, 119, 0}, {119, 119}, {78, 79, 79}, {78, 79, 78, 0, 0}, {78, 78, 78, 1},
		{2, 200, 1, 200, 0, 201, 1}, {200, 2, 238, 2, 35, 1}, {100, 100, 100, 100, 100}, {1, 2, 3, 4, 5, 6, 7, 8, 9, 10, 11, 12},
	}
	for _, n := range []int{0, 1, 2, 100, 117, 118, 119, 200, 236, 237, 238} {
		l = append(l, []int{n}, []int{n, n}, []int{n, 0, n}, []int{n, n, n, n, n, n, n})
	}
	for _, count := range []int{238, 239, 240, 478, 479} {
		l = append(l, make([]int, count))
	}
	return l
}

// P9.1, P9.2, P9.3: the chapter's example.
func TestExample(t *testing.T) {
	l, e := Pack(1, 0, []string{"ab"})
	if e != api.OK || len(l) != 1 {
		t.Fatalf("%d sectors, %d", len(l), int(e))
	}
	one := "\x00\x00\x00\x00\x00\x00\x01\x00"
	if want := one + "\x03" + "\x02ab" + string(make([]byte, 236)) + one; string(l[0]) != want {
		t.Errorf("%x, want %x", l[0], want)
	}
	parts(t, []string{"ab"}, 1)
	reads(t, "the example", l[0], 1, 0, "ab")
	scans(t, "the example", l, 1, []string{"ab"}, 1)
}

func TestSizes(t *testing.T) {
	if Part != 239 {
		t.Error(Part)
	}
}

// P9.1
func TestParts(t *testing.T) {
	for _, c := range []struct {
		lengths []int
		want    int
	}{
		{nil, 0}, {[]int{0}, 1}, {[]int{1}, 1}, {[]int{237}, 1}, {[]int{238}, 1},
		// Just full, and a byte short.
		{[]int{237, 0}, 1}, {[]int{237, 1}, 2}, {[]int{237, 0, 0}, 2}, {[]int{236, 0}, 1}, {[]int{236, 0, 0}, 1}, {[]int{236, 0, 0, 0}, 2},
		{[]int{236, 1}, 1}, {[]int{236, 2}, 2}, {[]int{238, 0}, 2}, {[]int{0, 238}, 2}, {[]int{0, 237}, 1},
		{[]int{118, 119}, 1}, {[]int{119, 119}, 2}, {[]int{118, 119, 0}, 2}, {[]int{118, 118, 0}, 1}, {[]int{118, 118, 1}, 2},
		// No text goes into a sector ahead of the last one, though there were room for it.
		{[]int{100, 200, 100}, 3}, {[]int{1, 238, 1}, 3}, {[]int{0, 238, 0}, 3}, {[]int{1, 238, 1, 1}, 3},
		// Nor does the order change.
		{[]int{200, 200, 30, 30}, 3}, {[]int{200, 30, 200, 30}, 2}, {[]int{30, 200, 30, 200}, 2}, {[]int{30, 30, 200, 200}, 3},
	} {
		parts(t, of(c.lengths...), c.want)
	}
	for _, c := range []struct{ length, perSector int }{{0, 239}, {1, 119}, {2, 79}, {118, 2}, {119, 1}, {238, 1}} {
		most := times(1000, c.length)
		for n := range most {
			parts(t, most[:n], (n+c.perSector-1)/c.perSector)
		}
	}
}

// P9.1: all lists of up to four texts, of lengths at which something changes, also of ones that no sector has room for.
func TestPartsOfShortLists(t *testing.T) {
	edges := []int{0, 1, 79, 117, 118, 119, 120, 236, 237, 238, 239, 240, 255, 256, 300}
	var each func(lengths []int)
	each = func(lengths []int) {
		l := of(lengths...)
		parts(t, l, len(parted(l)))
		for _, n := range edges {
			if len(lengths) < 4 {
				each(append(slices.Clone(lengths), n))
			}
		}
	}
	each(nil)
}

// P9.1: a text that no sector has room for goes into a further one, and what is behind it, too.
func TestPartsOfLongTexts(t *testing.T) {
	for _, n := range []int{239, 240, 254, 255, 256, 257, 494, 495, 511, 512, 513, 1000, 65535, 65536, 65537, 1 << 20} {
		parts(t, of(n), 1)
		parts(t, of(n, 0), 2)
		parts(t, of(0, n), 2)
		parts(t, of(0, n, 0), 3)
		parts(t, of(n, n, n), 3)
		parts(t, of(n, 100, 100, n, 100), 4)
	}
}

// P9.1
func TestPack(t *testing.T) {
	for _, lengths := range lists() {
		l := of(lengths...)
		for _, from := range []int{0, 1, 7, 127, 128, 240} {
			packs(t, 1, from, l)
			packs(t, 0x0102030405, from, l)
		}
	}
	for _, epoch := range good() {
		packs(t, epoch, 0, nil)
		packs(t, epoch, 0, []string{""})
		for from := range 253 {
			packs(t, epoch, from, of(200, 200, 30, 200, 0, 238))
		}
	}
	for n := range 239 {
		packs(t, 5, 9, of(n))
		packs(t, 5, 9, of(n, 238-n, 238-n, n, 238-n, 0))
		packs(t, 5, 9, []string{string(make([]byte, n)), string(bytes.Repeat([]byte{0xff}, 238-n))})
	}
}

// P9.1: texts of each byte.
func TestPackOfAnyBytes(t *testing.T) {
	var all []string
	for x := range 256 {
		s := string([]byte{byte(x)})
		packs(t, 1, 0, []string{s})
		packs(t, 1, 0, []string{s + s, s})
		all = append(all, s)
	}
	packs(t, 1, 0, all)
	packs(t, 1, 0, []string{"\x00", "\x00\x00", "", "\x03abc", "\xff\xfe", "é", "\xef\xbf\xbd"})
}

// P9.1: the sectors are those of all texts, not of each alone; none is empty.
func TestPackPartsTheTexts(t *testing.T) {
	l, e := Pack(3, 250, []string{"ab", "", "c"})
	three := "\x00\x00\x00\x00\x00\x00\x03\xfa"
	if e != api.OK || len(l) != 1 || string(l[0]) != three+"\x06"+"\x02ab\x00\x01c"+string(make([]byte, 233))+three {
		t.Errorf("%x, %d", l, int(e))
	}
	l, e = Pack(3, 250, []string{text(237, 1), "", "c"})
	if e != api.OK || len(l) != 2 || l[0][8] != 239 || l[1][8] != 2 {
		t.Errorf("%x, %d", l, int(e))
	}
	l, e = Pack(3, 250, []string{text(236, 1), "c", "d"})
	if e != api.OK || len(l) != 2 || l[0][8] != 239 || l[1][8] != 2 {
		t.Errorf("%x, %d", l, int(e))
	}
	l, e = Pack(3, 250, []string{text(237, 1), "c"})
	if e != api.OK || len(l) != 2 || l[0][8] != 238 || l[1][8] != 2 {
		t.Errorf("%x, %d", l, int(e))
	}
}

// P9.1: epochs at the edges.
func TestPackEpochs(t *testing.T) {
	for _, l := range [][]string{nil, of(0), of(2), of(238), of(200, 200)} {
		for _, epoch := range []int{1, 2, maxEpoch - 1, maxEpoch} {
			packs(t, epoch, 0, l)
		}
		for _, epoch := range wrong() {
			packFails(t, epoch, 0, l, api.ErrRange)
			packFails(t, epoch, 5, l, api.ErrRange)
			packFails(t, epoch, 300, l, api.ErrRange)
		}
	}
}

// P9.1: places at the edges.
func TestPackPlaces(t *testing.T) {
	for n := range 7 {
		l := times(n, 238)
		for _, from := range []int{0, 1, 255 - n, 256 - n} {
			packs(t, 4, from, l)
		}
		for _, from := range []int{-1, -2, -256, 257 - n, 258 - n, 300, 512, 1 << 32, 1<<56 + 1, math.MinInt, math.MinInt + 1, math.MaxInt} {
			packFails(t, 4, from, l, api.ErrRange)
		}
	}
	// Of no text 256 is a place, too.
	packs(t, 4, 256, nil)
	packFails(t, 4, 257, nil, api.ErrRange)
}

// P9.1: as many sectors as there may be, and one more.
func TestPackOfManySectors(t *testing.T) {
	for _, n := range []int{0, 1, 100, 238} {
		perSector := 239 / (n + 1)
		most := times(256*perSector, n)
		packs(t, 9, 0, most)
		packFails(t, 9, 1, most, api.ErrRange)
		packs(t, 9, 1, most[:255*perSector])
		packs(t, 9, 0, most[:255*perSector+1])
		packFails(t, 9, 1, most[:255*perSector+1], api.ErrRange)
		packFails(t, 9, 0, append(slices.Clone(most), text(n, 1)), api.ErrRange)
		packFails(t, 9, -1, append(slices.Clone(most), text(n, 1)), api.ErrRange)
	}
	for _, n := range []int{257, 258, 300, 512, 513, 1000} {
		packFails(t, 9, 0, times(n, 238), api.ErrRange)
		packFails(t, 9, 256, times(n, 238), api.ErrRange)
		packFails(t, 9, 256-n, times(n, 238), api.ErrRange)
	}
}

// P9.1
func TestPackOfLongTexts(t *testing.T) {
	for _, n := range []int{239, 240, 255, 256, 257, 300, 494, 511, 512, 1000, 65536, 65537} {
		for _, epoch := range []int{1, maxEpoch} {
			packFails(t, epoch, 0, of(n), api.ErrTooBig)
			packFails(t, epoch, 255, of(n), api.ErrTooBig)
			packFails(t, epoch, 3, of(n, 1), api.ErrTooBig)
			packFails(t, epoch, 3, of(1, n), api.ErrTooBig)
			packFails(t, epoch, 3, of(0, 200, n, 200), api.ErrTooBig)
			packFails(t, epoch, 3, of(200, 200, 200, 0, n), api.ErrTooBig)
			packFails(t, epoch, 3, of(n, n), api.ErrTooBig)
		}
	}
	packs(t, 1, 3, of(0, 238, 0, 238))
}

// P9.1: the range is told ahead of a text that is too long.
func TestPackTellsTheRangeFirst(t *testing.T) {
	for _, epoch := range wrong() {
		packFails(t, epoch, 0, of(239), api.ErrRange)
	}
	for _, n := range []int{239, 256, 300, 1000} {
		packFails(t, 1, -1, of(n), api.ErrRange)
		packFails(t, 1, 256, of(n), api.ErrRange)
		packFails(t, 1, 255, of(n), api.ErrTooBig)
		// By Parts the long one goes into a sector of its own.
		packFails(t, 1, 254, of(1, n, 1), api.ErrRange)
		packFails(t, 1, 253, of(1, n, 1), api.ErrTooBig)
		packFails(t, 1, 0, append(times(256, 238), text(n, 1)), api.ErrRange)
		packFails(t, 1, 0, append(times(255, 238), text(n, 1)), api.ErrTooBig)
	}
}

// P9.2: what is packed is read at its place, and at no other; by its epoch, and by no other.
func TestRead(t *testing.T) {
	for _, lengths := range lists() {
		for _, l := range parted(of(lengths...)) {
			for _, at := range []int{0, 1, 100, 255} {
				reads(t, "at its place", sectorOf(7, at, l...), 7, at, l...)
			}
		}
	}
	for n := range 239 {
		reads(t, "one text", sectorOf(7, 3, text(n, 1)), 7, 3, text(n, 1))
		reads(t, "zeros", sectorOf(7, 3, string(make([]byte, n))), 7, 3, string(make([]byte, n)))
	}
	for n := range 238 {
		reads(t, "two texts", sectorOf(7, 3, text(n, 1), text(237-n, 2)), 7, 3, text(n, 1), text(237-n, 2))
	}
	for n := 1; n <= 239; n++ {
		reads(t, "empty ones", sectorOf(7, 3, make([]string, n)...), 7, 3, make([]string, n)...)
	}
}

// P9.2
func TestReadOfEpochsAndPlaces(t *testing.T) {
	epochs := slices.Concat(good(), wrong())
	places := []int{0, 1, 2, 127, 128, 254, 255}
	for _, epoch := range good() {
		for _, at := range places {
			b := sectorOf(epoch, at, "ab", "")
			for _, other := range epochs {
				for _, place := range places {
					if other == epoch && place == at {
						reads(t, "its own", b, epoch, at, "ab", "")
					} else {
						readsNone(t, fmt.Sprintf("of %d at %d", epoch, at), b, other, place)
					}
				}
			}
		}
	}
	for at := range 256 {
		for place := range 256 {
			readsAsTheWordsSay(t, fmt.Sprint("of the place ", at), sectorOf(5, at, "x"), 5, place)
		}
	}
}

// P9.2: of numbers that no epoch is, or no place, nothing is read, though a sector bore them.
func TestReadOfWrongNumbers(t *testing.T) {
	for _, epoch := range wrong() {
		for _, at := range []int{0, 1, 255, 256} {
			readsNone(t, "a wrong epoch", between(stamp(epoch, at), stamp(epoch, at), 3, part("ab")), epoch, at)
		}
	}
	for _, epoch := range good() {
		for _, at := range []int{-1, -2, -255, -256, -257, 256, 257, 511, 512, 1 << 32, 1 << 56, math.MinInt, math.MinInt + 1, math.MaxInt} {
			readsNone(t, "a wrong place", between(stamp(epoch, at), stamp(epoch, at), 3, part("ab")), epoch, at)
		}
		// Epoch and place are other ones, but the eight bytes are the same.
		readsNone(t, "a place of the next epoch", sectorOf(epoch, 5, "ab"), epoch-1, 256+5)
		readsNone(t, "a place of the epoch ahead", sectorOf(epoch, 5, "ab"), epoch+1, 5-256)
		readsNone(t, "an epoch beyond 64 bits", sectorOf(epoch, 5, "ab"), epoch+1<<56, 5)
	}
	readsNone(t, "zeros", make([]byte, 256), 0, 0)
	readsNone(t, "zeros", make([]byte, 256), 1, 0)
	readsNone(t, "zeros", make([]byte, 256), 1, -256)
}

// P9.2: of all but 256 bytes there is nothing.
func TestReadOfOtherLengths(t *testing.T) {
	readsNone(t, "nil", nil, 1, 0)
	whole := sectorOf(1, 0, "ab")
	for n := range 256 {
		readsNone(t, fmt.Sprint("the first ", n), whole[:n], 1, 0)
		readsNone(t, fmt.Sprint("the last ", n), whole[256-n:], 1, 0)
	}
	readsNone(t, "a byte more", append(bytes.Clone(whole), 0), 1, 0)
	readsNone(t, "a byte ahead", append([]byte{0}, whole...), 1, 0)
	readsNone(t, "twice", append(bytes.Clone(whole), whole...), 1, 0)
	for _, n := range []int{0, 1, 200, 238, 240, 241, 300, 495, 1000} {
		// Other parts, between the ends.
		b := slices.Concat(stamp(1, 0), []byte{1}, make([]byte, n), stamp(1, 0))
		readsNone(t, fmt.Sprint("a part of ", n), b, 1, 0)
	}
	// Spare room is no part of the bytes.
	long := append(bytes.Clone(whole), 9, 9, 9)
	reads(t, "with spare room", long[:256], 1, 0, "ab")
	readsNone(t, "the sector in the spare room", long[:255], 1, 0)
}

// P9.2: each byte is changed.
func TestReadOfChangedBytes(t *testing.T) {
	for _, lengths := range [][]int{{0}, {1}, {2}, {238}, {237, 0}, {237}, {236, 0}, {100, 0, 0, 100}, {78, 79, 79}, {1, 2, 3, 4, 5}, make([]int, 239), make([]int, 100)} {
		whole := sectorOf(0x0100000001, 77, of(lengths...)...)
		for at := range 256 {
			for x := range 256 {
				if at > 16 && at < 240 && x%16 != at%16 && x > 1 {
					continue
				}
				what := fmt.Sprintf("%v, %d at %d", lengths, x, at)
				b := changed(whole, at, byte(x))
				readsAsTheWordsSay(t, what, b, 0x0100000001, 77)
				if (at < 8 || at >= 248) && byte(x) != whole[at] {
					readsNone(t, what, b, 0x0100000001, 77)
				}
			}
		}
	}
}

// P9.2: both ends are of the epoch and the place.
func TestReadOfEndsThatPart(t *testing.T) {
	for _, epoch := range good() {
		own := stamp(epoch, 9)
		for _, other := range [][]byte{stamp(epoch, 8), stamp(epoch+1, 9), stamp(epoch-1, 9), stamp(epoch+1, 8), make([]byte, 8), bytes.Repeat([]byte{0xff}, 8)} {
			readsNone(t, "the first end", between(other, own, 3, part("ab")), epoch, 9)
			readsNone(t, "the last end", between(own, other, 3, part("ab")), epoch, 9)
			readsNone(t, "both ends", between(other, other, 3, part("ab")), epoch, 9)
		}
		turned := bytes.Clone(own)
		slices.Reverse(turned)
		readsNone(t, "the lowest first", between(turned, turned, 3, part("ab")), epoch, 9)
	}
}

// P9.2: there is at least one text.
func TestReadOfNoTexts(t *testing.T) {
	one := stamp(1, 0)
	readsNone(t, "none", between(one, one, 0, nil), 1, 0)
	readsNone(t, "a text that is not used", between(one, one, 0, part("ab")), 1, 0)
	readsNone(t, "a full part that is not used", between(one, one, 0, part(text(238, 1))), 1, 0)
	reads(t, "an empty text", between(one, one, 1, nil), 1, 0, "")
}

// P9.2: no more is used than a part has.
func TestReadOfGreatCounts(t *testing.T) {
	one := stamp(1, 0)
	full := [][]byte{nil, part(text(238, 1)), part(text(237, 1)), part(make([]string, 239)...), bytes.Repeat([]byte{0xff}, 239)}
	for used := 240; used < 256; used++ {
		for _, p := range full {
			readsNone(t, fmt.Sprint(used, " used"), between(one, one, used, p), 1, 0)
		}
		// The texts would go on into the last end.
		readsNone(t, fmt.Sprint(used, " used by one text"), between(one, one, used, append([]byte{byte(used - 1)}, text(238, 1)...)), 1, 0)
		readsNone(t, fmt.Sprint(used, " used by two texts"), between(one, one, used, append(part(text(99, 1)), byte(used-101))), 1, 0)
	}
	reads(t, "239 used", between(one, one, 239, nil), 1, 0, make([]string, 239)...)
}

// P9.2: the last text ends where what is used does.
func TestReadOfTextsThatGoOn(t *testing.T) {
	one := stamp(1, 0)
	for used := 1; used < 240; used++ {
		for _, at := range []int{0, used / 3, used / 2, used - 1} {
			// Behind empty texts there is one that ends ahead of what is used, with it, or behind it.
			left := used - at - 1
			for _, n := range []int{0, 1, 2, left - 2, left - 1, left, left + 1, left + 2, 127, 128, 237, 238, 239, 240, 254, 255} {
				p := make([]byte, 239)
				p[at] = byte(n)
				readsAsTheWordsSay(t, fmt.Sprintf("%d used, of %d at %d", used, n, at), between(one, one, used, p), 1, 0)
			}
		}
		readsNone(t, "a byte behind", between(one, one, used, append(make([]byte, used-1), 1)), 1, 0)
	}
	readsNone(t, "the length alone", between(one, one, 1, part("ab")), 1, 0)
	readsNone(t, "a byte less", between(one, one, 2, part("ab")), 1, 0)
	readsNone(t, "a byte less, of zeros", between(one, one, 2, part("\x00\x00")), 1, 0)
	reads(t, "a byte more, an empty text", between(one, one, 4, part("ab")), 1, 0, "ab", "")
	readsNone(t, "the second goes on", between(one, one, 5, part("ab", "cd")), 1, 0)
}

// P9.2: behind the texts there are zeros.
func TestReadOfBytesBehind(t *testing.T) {
	for _, lengths := range [][]int{{0}, {2}, {100}, {100, 100}, {236}, {237}, {0, 0, 0}} {
		l := of(lengths...)
		whole := sectorOf(3, 4, l...)
		reads(t, "zeros behind", whole, 3, 4, l...)
		for at := 9 + len(part(l...)); at < 248; at++ {
			for _, x := range []byte{1, 2, 0x80, 0xff} {
				readsNone(t, fmt.Sprintf("%v, %d at %d", lengths, x, at), changed(whole, at, x), 3, 4)
			}
		}
	}
}

// P9.2: any bytes between two ends of the epoch and the place.
func TestReadOfAnyParts(t *testing.T) {
	for seed := range uint32(20000) {
		next := rule(seed)
		p := make([]byte, 239)
		for i := range 1 + next()%239 {
			p[i] = byte(next() % (1 + next()%40))
		}
		used := next() % 256
		if next()%2 == 0 {
			used = len(bytes.TrimRight(p, "\x00"))
		}
		readsAsTheWordsSay(t, fmt.Sprint("seed ", seed), between(stamp(2, 6), stamp(2, 6), used, p), 2, 6)
	}
}

// P9.3
func TestScan(t *testing.T) {
	scans(t, "nil", nil, 1, nil, 0)
	scans(t, "none", [][]byte{}, 1, nil, 0)
	for _, epoch := range good() {
		for _, lengths := range lists() {
			l := of(lengths...)
			log := logOf(epoch, 0, l)
			scans(t, "what was packed", log, epoch, l, len(log))
			scans(t, "of the next epoch", log, epoch+1, nil, 0)
			scans(t, "of the epoch ahead", log, epoch-1, nil, 0)
			scans(t, "with zeros behind", append(slices.Clone(log), make([]byte, 256), make([]byte, 256)), epoch, l, len(log))
		}
	}
}

// P9.3: a text that was packed is scanned.
func TestPackAndScan(t *testing.T) {
	for seed := range uint32(500) {
		next := rule(seed)
		epoch := good()[next()%len(good())]
		var l []string
		for range next() % 60 {
			l = append(l, text(next()%[]int{3, 20, 239}[next()%3], seed))
		}
		k := next() % (len(l) + 1)
		first, e := Pack(epoch, 0, l[:k])
		if e != api.OK {
			t.Fatal(int(e))
		}
		second, e := Pack(epoch, len(first), l[k:])
		if e != api.OK {
			t.Fatal(int(e))
		}
		scans(t, "the first ones", first, epoch, l[:k], len(first))
		// A sector that is not full is no end: behind it there are those that were packed later.
		scans(t, "both", slices.Concat(first, second), epoch, l, len(first)+len(second))
	}
}

// P9.3: it ends with a sector that is not whole, whatever stands behind it.
func TestScanEnds(t *testing.T) {
	l := of(200, 100, 200, 30, 238, 238, 0, 1)
	log := logOf(6, 0, l)
	sectors := parted(l)
	older := logOf(5, 0, of(238, 200, 238, 238, 100, 150, 238, 238))
	for i := range log {
		want := slices.Concat(sectors[:i]...)
		for what, b := range map[string][]byte{
			"zeros":                make([]byte, 256),
			"nil":                  nil,
			"short":                log[i][:255],
			"long":                 append(bytes.Clone(log[i]), 0),
			"of the epoch ahead":   older[i],
			"of the next epoch":    sectorOf(7, i, "x"),
			"of the place ahead":   sectorOf(6, i-1, "x"),
			"of the next place":    sectorOf(6, i+1, "x"),
			"without a text":       between(stamp(6, i), stamp(6, i), 0, nil),
			"with bytes behind":    between(stamp(6, i), stamp(6, i), 2, []byte("\x01a\x01")),
			"torn in the middle":   torn(100, log[i], older[i]),
			"torn ahead of an end": torn(248, log[i], older[i]),
			"torn in the last end": torn(254, log[i], older[i]),
			"torn in the first":    torn(7, log[i], older[i]),
		} {
			scans(t, fmt.Sprintf("%s at %d", what, i), with(log, i, b), 6, want, i)
		}
		scans(t, "the end", log[:i], 6, want, i)
		scans(t, "another log behind", slices.Concat(log[:i], older[i:]), 6, want, i)
	}
	scans(t, "another log behind", slices.Concat(log, older), 6, l, len(log))
	scans(t, "the same log behind", slices.Concat(log, log), 6, l, len(log))
	scans(t, "from the second one on", log[1:], 6, nil, 0)
}

// P9.3: only as the 0-th, the 1-st and so on.
func TestScanOfOtherOrders(t *testing.T) {
	l := of(238, 200, 238)
	log := logOf(6, 0, l)
	for n := range 27 {
		a, b, c := n/9, n/3%3, n%3
		list := [][]byte{log[a], log[b], log[c]}
		want, sectors := scan(list, 6)
		scans(t, fmt.Sprint(a, b, c), list, 6, want, sectors)
	}
	scans(t, "packed for a later place", logOf(6, 1, l), 6, nil, 0)
}

// P9.3: at most 256 sectors.
func TestScanOfManySectors(t *testing.T) {
	l := times(256, 238)
	log := logOf(6, 0, l)
	scans(t, "255", log[:255], 6, l[:255], 255)
	scans(t, "256", log, 6, l, 256)
	for _, behind := range [][]byte{
		nil, make([]byte, 256), sectorOf(6, 255, "x"), sectorOf(6, 0, "x"), sectorOf(7, 0, "x"),
		between(stamp(6, 256), stamp(6, 256), 2, part("x")),
	} {
		scans(t, "257", append(slices.Clone(log), behind), 6, l, 256)
	}
	var more [][]byte
	for i := range 600 {
		more = append(more, between(stamp(6, i), stamp(6, i), 2, part("x")))
	}
	scans(t, "600", more, 6, slices.Repeat([]string{"x"}, 256), 256)
	scans(t, "the 257-th one on", more[256:], 7, slices.Repeat([]string{"x"}, 256), 256)
	scans(t, "as many again", slices.Concat(log, log), 6, l, 256)
	scans(t, "a gap", with(more, 255, make([]byte, 256)), 6, slices.Repeat([]string{"x"}, 255), 255)
}

// P9.3: of numbers that no epoch is nothing is scanned.
func TestScanOfWrongEpochs(t *testing.T) {
	for _, epoch := range wrong() {
		log := [][]byte{between(stamp(epoch, 0), stamp(epoch, 0), 2, part("x")), between(stamp(epoch, 1), stamp(epoch, 1), 2, part("x"))}
		scans(t, "of that number", log, epoch, nil, 0)
		scans(t, "of 1", logOf(1, 0, of(1)), epoch, nil, 0)
		scans(t, "zeros", [][]byte{make([]byte, 256)}, epoch, nil, 0)
		scans(t, "nil", nil, epoch, nil, 0)
	}
}

// P9.3: long scripts of lists of any sectors.
func TestScanOfAnyLists(t *testing.T) {
	for seed := range uint32(4000) {
		next := rule(seed)
		var l [][]byte
		for i := range next() % 12 {
			x := []string{text(next()%200, seed), text(next()%38, seed)}
			b := sectorOf(2, i, x[:1+next()%2]...)
			switch next() % 24 {
			case 0:
				b = sectorOf(1+next()%3, next()%4, x...)
			case 1:
				b = torn(next()%257, sectorOf(1+next()%3, i, "y"), b)
			case 2:
				b = b[:next()%257]
			case 3:
				b[next()%256] = byte(next())
			case 4:
				b = []byte(text(256, seed))
			}
			l = append(l, b)
		}
		want, sectors := scan(l, 2)
		scans(t, fmt.Sprint("seed ", seed), l, 2, want, sectors)
	}
}

// Rule 3: no function changes what it is given, nor its spare room.
func TestArgumentsStay(t *testing.T) {
	for _, lengths := range append(lists(), []int{239}, []int{1, 300, 2}) {
		room := append(of(lengths...), "spare", "room")
		was := slices.Clone(room)
		l := room[:len(lengths)]
		Parts(l)
		for _, epoch := range []int{0, 1, maxEpoch} {
			for _, from := range []int{-1, 0, 5, 256} {
				Pack(epoch, from, l)
			}
		}
		if !slices.Equal(room, was) {
			t.Errorf("%v: the list or its spare room was changed", lengths)
		}
	}
	log := logOf(6, 0, of(200, 200, 30, 5))
	for _, l := range [][][]byte{
		nil, log, with(log, 1, nil), with(log, 1, log[1][:200]), with(log, 0, make([]byte, 256)),
		with(log, 1, torn(100, log[1], make([]byte, 256))), with(log, 0, changed(log[0], 230, 7)), {log[1], log[0]},
	} {
		given := make([][]byte, 0, len(l)+2)
		for _, b := range l {
			given = append(given, append(bytes.Clone(b), 11, 22, 33)[:len(b)])
		}
		was, list := wide(given), slices.Clone(given[:cap(given)])
		for _, epoch := range []int{5, 6, 0} {
			Scan(given, epoch)
			for i, b := range given {
				Read(b, epoch, i)
			}
		}
		if !same(wide(given), was) || !same(given[:cap(given)], list) {
			t.Errorf("%x was changed, or its spare room", l)
		}
	}
}

// wide tells copies of bytes with their spare room.
func wide(l [][]byte) [][]byte {
	var w [][]byte
	for _, b := range l {
		w = append(w, bytes.Clone(b[:len(b)+3]))
	}
	return w
}

// spoil writes over bytes and their spare room.
func spoil(b []byte) {
	b = b[:cap(b)]
	for i := range b {
		b[i] ^= 0x5a
	}
}

// Rule 3: an answer is new memory, and no two lists of it share any.
func TestAnswersAreNew(t *testing.T) {
	l := of(200, 200, 30, 5, 238, 0)
	want := logOf(6, 0, l)
	got, _ := Pack(6, 0, l)
	for i := range got {
		spoil(got[i])
		for k := i + 1; k < len(got); k++ {
			if !bytes.Equal(got[k], want[k]) {
				t.Errorf("the sectors %d and %d share bytes", i, k)
			}
		}
	}
	for i := range got[:cap(got)] {
		got[:cap(got)][i] = nil
	}
	packs(t, 6, 0, l)
	if !slices.Equal(l, of(200, 200, 30, 5, 238, 0)) {
		t.Error("the sectors and the texts share some bytes")
	}

	log := copyOf(want)
	read, _ := Read(log[0], 6, 0)
	all, _ := Scan(log, 6)
	for _, b := range log {
		spoil(b)
	}
	if !slices.Equal(read, parted(l)[0]) || !slices.Equal(all, l) {
		t.Error("the texts hang on the sectors that they were read from")
	}
	for i := range read[:cap(read)] {
		read[:cap(read)][i] = "spoilt"
	}
	if !slices.Equal(all, l) {
		t.Error("two answers share a list")
	}
	reads(t, "again", want[0], 6, 0, parted(l)[0]...)
	for i := range all[:cap(all)] {
		all[:cap(all)][i] = "spoilt"
	}
	scans(t, "again", want, 6, l, len(want))
}

// Rule 4: what was asked ahead has no part in an answer.
func TestAnswersAreAlike(t *testing.T) {
	l := of(200, 100, 3)
	log := logOf(8, 2, l)
	for range 3 {
		packs(t, 8, 2, l)
		packFails(t, 0, 2, l, api.ErrRange)
		packFails(t, 8, 2, of(1, 239), api.ErrTooBig)
		packs(t, 7, 0, nil)
		parts(t, l, 2)
		parts(t, nil, 0)
		reads(t, "the third one", log[0], 8, 2, parted(l)[0]...)
		readsNone(t, "the fourth one", log[1], 8, 2)
		scans(t, "all", logOf(8, 0, l), 8, l, 2)
		scans(t, "none", log, 8, nil, 0)
		scans(t, "of another epoch", logOf(9, 0, l), 8, nil, 0)
	}
}
