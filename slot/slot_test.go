package slot

import (
	"bytes"
	"fmt"
	"math"
	"math/big"
	"slices"
	"testing"

	"fascicle/api"
	"fascicle/sector"
)

const maxGen = 1 << 40 // the greatest generation

// rule makes numbers by a short rule, which differ from one seed to the next.
func rule(seed uint32) func() int {
	return func() int {
		seed = seed*1664525 + 1013904223
		return int(seed >> 16)
	}
}

// many makes bytes of a short rule, none of which is 0.
func many(n int, seed uint32) []byte {
	next := rule(seed)
	b := make([]byte, n)
	for i := range b {
		b[i] = byte(1 + next()%255)
	}
	return b
}

// eight lays a number in eight bytes, the highest first.
func eight(n uint64) []byte {
	return big.NewInt(0).SetUint64(n).FillBytes(make([]byte, 8))
}

// between lays a sector of any 16 bytes at its ends, and of others between them.
func between(first, last []byte, middle []byte) []byte {
	return slices.Concat(first, middle, last)
}

// ended lays a sector of two numbers at its ends, with bytes between them that are no sector's of a slot.
func ended(first, last uint64) []byte {
	return between(eight(first), eight(last), many(240, 3))
}

// slot lays a slot's sectors as the chapter tells them, without the package's functions: of any length, and of what stands behind it.
func slot(gen uint64, length int, behind []byte) [][]byte {
	all := append([]byte{byte(length / 256), byte(length % 256)}, behind...)
	all = append(all, make([]byte, 956-len(all))...)
	var l [][]byte
	for i := range 4 {
		l = append(l, between(eight(gen), eight(gen), append([]byte{byte(i)}, all[239*i:239*i+239]...)))
	}
	return l
}

// of lays the sectors of a body.
func of(gen int, body []byte) [][]byte {
	return slot(uint64(gen), len(body), body)
}

// zeros are sectors that were never written.
func zeros() [][]byte {
	return [][]byte{make([]byte, 256), make([]byte, 256), make([]byte, 256), make([]byte, 256)}
}

// copyOf tells sectors of their own.
func copyOf(l [][]byte) [][]byte {
	var c [][]byte
	for _, b := range l {
		c = append(c, bytes.Clone(b))
	}
	return c
}

// with tells sectors of which one is another.
func with(l [][]byte, i int, b []byte) [][]byte {
	c := copyOf(l)
	c[i] = b
	return c
}

// changed tells sectors of which one byte is another.
func changed(l [][]byte, i, at int, x byte) [][]byte {
	c := copyOf(l)
	c[i][at] = x
	return c
}

// torn tells a sector of the first n bytes of one, and the last ones of another.
func torn(n int, fresh, old []byte) []byte {
	return slices.Concat(fresh[:n], old[n:])
}

// same tells whether sectors have the same bytes.
func same(a, b [][]byte) bool {
	return slices.EqualFunc(a, b, bytes.Equal)
}

// is asks for an answer.
func is(t *testing.T, what string, got, want api.Errno) {
	t.Helper()
	if got != want {
		t.Errorf("%s: %d, want %d", what, int(got), int(want))
	}
}

// puts asks for the sectors of a body.
func puts(t *testing.T, gen int, body []byte) {
	t.Helper()
	l, e := Put(gen, body)
	is(t, fmt.Sprintf("Put(%d, %d bytes)", gen, len(body)), e, api.OK)
	if want := of(gen, body); !same(l, want) {
		t.Errorf("Put(%d, %d bytes) = %x, want %x", gen, len(body), l, want)
	}
}

// putFails asks for an error, and no sectors.
func putFails(t *testing.T, gen int, body []byte, want api.Errno) {
	t.Helper()
	if l, e := Put(gen, body); l != nil || e != want {
		t.Errorf("Put(%d, %d bytes) = %d sectors, %d; want %d", gen, len(body), len(l), int(e), int(want))
	}
}

// gets asks for the number and the body of sectors.
func gets(t *testing.T, l [][]byte, gen int, body []byte) {
	t.Helper()
	if g, b, e := Get(l); g != gen || !bytes.Equal(b, body) || e != api.OK {
		t.Errorf("Get = %d, %d bytes %.8x, %d; want %d, %d bytes %.8x", g, len(b), b, int(e), gen, len(body), body)
	}
}

// getFails asks for an error, and neither a number nor a body.
func getFails(t *testing.T, what string, l [][]byte, want api.Errno) {
	t.Helper()
	if g, b, e := Get(l); g != 0 || b != nil || e != want {
		t.Errorf("%s: Get = %d, %d bytes, %d; want %d", what, g, len(b), int(e), int(want))
	}
}

// stamps asks for a sector's number; for none, if that is 0.
func stamps(t *testing.T, what string, b []byte, want int) {
	t.Helper()
	if n, ok := Stamp(b); n != want || ok != (want > 0) {
		t.Errorf("%s: Stamp = %d, %t; want %d", what, n, ok, want)
	}
}

// sees asks for the greatest number of sectors.
func sees(t *testing.T, what string, l [][]byte, want int) {
	t.Helper()
	if n := Seen(l); n != want {
		t.Errorf("%s: Seen = %d, want %d", what, n, want)
	}
}

// good are generations, of which each byte that may have something has something.
func good() []int {
	return []int{1, 2, 5, 255, 256, 257, 300, 0x10000, 0x0102030405, 0xff00ff00ff, 1<<32 - 1, 1 << 32, maxGen - 1, maxGen}
}

// wrong are numbers that no generation is.
func wrong() []uint64 {
	return []uint64{
		0, maxGen + 1, maxGen + 5, maxGen + 256, 2 * maxGen, 1<<48 + 5, 1<<56 + 5, 1<<62 + 5,
		// Of these the sign would be that of a number below 0.
		1 << 63, 1<<63 + 5, math.MaxUint64 - 4, math.MaxUint64,
	}
}

// sizes are lengths of bodies at which something changes.
func sizes() []int {
	return []int{0, 1, 2, 236, 237, 238, 239, 240, 255, 256, 257, 475, 476, 477, 478, 714, 715, 716, 717, 952, 953, 954}
}

// P6.1, P6.2, P6.3, P6.4: the chapter's example.
func TestExample(t *testing.T) {
	l, e := Put(5, []byte("ab"))
	if e != api.OK || len(l) != 4 {
		t.Fatalf("%d sectors, %d", len(l), int(e))
	}
	five := "\x00\x00\x00\x00\x00\x00\x00\x05"
	none := string(make([]byte, 239))
	for i, want := range []string{
		five + "\x00" + "\x00\x02" + "ab" + none[:235] + five,
		five + "\x01" + none + five,
		five + "\x02" + none + five,
		five + "\x03" + none + five,
	} {
		if string(l[i]) != want {
			t.Errorf("%d: %x, want %x", i, l[i], want)
		}
		stamps(t, "a sector", l[i], 5)
	}
	gets(t, l, 5, []byte("ab"))
	sees(t, "all", l, 5)
}

func TestSizes(t *testing.T) {
	if Part != 239 || Most != 954 {
		t.Error(Part, Most)
	}
}

// P6.1
func TestPut(t *testing.T) {
	for _, gen := range good() {
		for _, n := range sizes() {
			puts(t, gen, many(n, uint32(n)))
			puts(t, gen, make([]byte, n))
		}
	}
	puts(t, 7, nil)
	for n := range 955 {
		puts(t, 7, many(n, 9))
	}
}

// P6.1: where a body goes on from one sector to the next.
func TestPutPartsTheBody(t *testing.T) {
	for _, c := range []struct{ n, sector, at int }{
		{1, 0, 11}, {237, 0, 247}, {238, 1, 9}, {476, 1, 247}, {477, 2, 9}, {715, 2, 247}, {716, 3, 9}, {954, 3, 247},
	} {
		body := make([]byte, c.n)
		body[c.n-1] = 0xee
		l, e := Put(1, body)
		is(t, "Put", e, api.OK)
		want := changed(of(1, make([]byte, c.n)), c.sector, c.at, 0xee)
		if !same(l, want) {
			t.Errorf("%d bytes: %x", c.n, l)
		}
	}
}

// P6.1
func TestPutFaults(t *testing.T) {
	for _, gen := range []int{0, -1, -5, -maxGen, maxGen + 1, maxGen + 5, 2 * maxGen, math.MinInt, math.MinInt + 1, math.MaxInt} {
		for _, n := range []int{0, 1, 954, 955, 1000} {
			// The number is told ahead of the body.
			putFails(t, gen, many(n, 1), api.ErrRange)
		}
	}
	for _, gen := range []int{1, 2, maxGen - 1, maxGen} {
		puts(t, gen, many(954, 1))
		for _, n := range []int{955, 956, 957, 1024, 65535, 65536, 65536 + 5} {
			putFails(t, gen, many(n, 1), api.ErrTooBig)
			putFails(t, gen, make([]byte, n), api.ErrTooBig)
		}
	}
}

// P6.2: the ends alone count.
func TestStamp(t *testing.T) {
	for _, gen := range good() {
		for i, b := range of(gen, many(700, 2)) {
			stamps(t, fmt.Sprint("the sector ", i), b, gen)
		}
		stamps(t, "any bytes between the ends", ended(uint64(gen), uint64(gen)), gen)
		stamps(t, "zeros between the ends", between(eight(uint64(gen)), eight(uint64(gen)), make([]byte, 240)), gen)
		b := ended(uint64(gen), uint64(gen))
		for at := 8; at < 248; at++ {
			c := bytes.Clone(b)
			c[at] ^= 0xff
			stamps(t, fmt.Sprint("another byte ", at), c, gen)
		}
	}
}

// P6.2
func TestStampOfWrongNumbers(t *testing.T) {
	for _, n := range wrong() {
		stamps(t, fmt.Sprintf("%x", n), ended(n, n), 0)
		stamps(t, fmt.Sprintf("%x", n), slot(n, 3, []byte("abc"))[1], 0)
		for _, gen := range []uint64{1, 5, maxGen} {
			stamps(t, fmt.Sprintf("%x and %x", n, gen), ended(n, gen), 0)
			stamps(t, fmt.Sprintf("%x and %x", gen, n), ended(gen, n), 0)
		}
	}
	stamps(t, "zeros", make([]byte, 256), 0)
}

// P6.2: of ends that part there is no number, whichever byte it is in which they do.
func TestStampOfEndsThatPart(t *testing.T) {
	for _, gen := range good() {
		b := ended(uint64(gen), uint64(gen))
		for at := range 8 {
			for bit := range 8 {
				first, last := bytes.Clone(b), bytes.Clone(b)
				first[at] ^= 1 << bit
				last[248+at] ^= 1 << bit
				stamps(t, fmt.Sprintf("%x first", first[:8]), first, 0)
				stamps(t, fmt.Sprintf("%x last", last[248:]), last, 0)
			}
		}
		// The same bytes, the other way round.
		stamps(t, "turned", between(eight(0x0102), eight(0x0201), b[8:248]), 0)
	}
}

// lengths are of bytes that are no sector.
func lengths() []int {
	return []int{0, 1, 7, 8, 9, 15, 16, 17, 239, 248, 254, 255, 257, 258, 264, 511, 512, 1024}
}

// P6.2: of all but 256 bytes there is no number.
func TestStampOfOtherLengths(t *testing.T) {
	stamps(t, "nil", nil, 0)
	for _, n := range lengths() {
		// Each eight bytes are the same, so that both ends are, whatever the length is counted from.
		b := bytes.Repeat([]byte{0, 0, 0, 0, 0, 0, 0, 5}, 130)[:n]
		stamps(t, fmt.Sprint(n, " bytes"), b, 0)
		if n >= 16 {
			stamps(t, fmt.Sprint(n, " bytes with ends"), between(eight(5), eight(5), make([]byte, n-16)), 0)
		}
	}
	// Spare room is no part of the bytes.
	long := append(ended(5, 5), 9, 9, 9)
	stamps(t, "with spare room", long[:256], 5)
	stamps(t, "the sector in the spare room", long[:255], 0)
}

// P6.3
func TestGet(t *testing.T) {
	for _, gen := range good() {
		for _, n := range sizes() {
			body := many(n, uint32(gen))
			gets(t, of(gen, body), gen, body)
			gets(t, of(gen, make([]byte, n)), gen, make([]byte, n))
		}
	}
}

// P6.3: what is put is got, at each length.
func TestPutAndGet(t *testing.T) {
	for n := range 955 {
		body := many(n, uint32(n))
		l, e := Put(1+n*n, body)
		is(t, "Put", e, api.OK)
		gets(t, l, 1+n*n, body)
		sees(t, "what was put", l, 1+n*n)
		// A last byte of 0 is one of the body, too.
		body = append(body, 0)[:max(n, 1)]
		body[len(body)-1] = 0
		gets(t, of(3, body), 3, body)
	}
}

// P6.3: there are four sectors.
func TestGetOfOtherNumbersOfSectors(t *testing.T) {
	l := of(5, []byte("ab"))
	getFails(t, "nil", nil, api.ErrCut)
	getFails(t, "none", [][]byte{}, api.ErrCut)
	for n := range 4 {
		getFails(t, fmt.Sprint(n, " sectors"), l[:n], api.ErrCut)
		getFails(t, fmt.Sprint("all but ", n), slices.Delete(copyOf(l), n, n+1), api.ErrCut)
	}
	more := append(copyOf(l), between(eight(5), eight(5), append([]byte{4}, make([]byte, 239)...)))
	getFails(t, "five sectors", more, api.ErrCut)
	getFails(t, "eight sectors", append(copyOf(l), l...), api.ErrCut)
	getFails(t, "four, and an empty one", append(copyOf(l), nil), api.ErrCut)
	gets(t, more[:4], 5, []byte("ab"))
}

// P6.3: each sector has 256 bytes.
func TestGetOfOtherLengths(t *testing.T) {
	l := of(5, many(900, 1))
	for i := range 4 {
		getFails(t, "nil", with(l, i, nil), api.ErrCut)
		getFails(t, "a byte less", with(l, i, l[i][:255]), api.ErrCut)
		getFails(t, "the first byte less", with(l, i, l[i][1:]), api.ErrCut)
		getFails(t, "a byte more", with(l, i, append(bytes.Clone(l[i]), 0)), api.ErrCut)
		getFails(t, "twice", with(l, i, append(bytes.Clone(l[i]), l[i]...)), api.ErrCut)
		for _, n := range lengths() {
			if n >= 16 {
				getFails(t, fmt.Sprint(n, " bytes"), with(l, i, between(eight(5), eight(5), make([]byte, n-16))), api.ErrCut)
			}
		}
	}
}

// P6.3: each sector tells the same number.
func TestGetOfUnlikeGenerations(t *testing.T) {
	body := many(500, 1)
	for _, gen := range good() {
		for _, other := range good() {
			for which := 1; which < 15 && gen != other; which++ {
				l := of(gen, body)
				for i, b := range of(other, body) {
					if which>>i&1 == 1 {
						l[i] = b
					}
				}
				getFails(t, fmt.Sprintf("%d and %d, %b", gen, other, which), l, api.ErrCut)
			}
		}
	}
	for _, n := range wrong() {
		getFails(t, fmt.Sprintf("%x", n), slot(n, len(body), body), api.ErrCut)
		for i := range 4 {
			getFails(t, fmt.Sprintf("%x at %d", n, i), with(of(5, body), i, slot(n, len(body), body)[i]), api.ErrCut)
			getFails(t, fmt.Sprintf("all but %d of %x", i, n), with(slot(n, len(body), body), i, of(5, body)[i]), api.ErrCut)
		}
	}
	getFails(t, "zeros", zeros(), api.ErrCut)
}

// P6.3: ends that part tell no number.
func TestGetOfEndsThatPart(t *testing.T) {
	l := of(5, []byte("ab"))
	for i := range 4 {
		for at := range 8 {
			getFails(t, "first", changed(l, i, at, 0x77), api.ErrCut)
			getFails(t, "last", changed(l, i, 248+at, 0x77), api.ErrCut)
		}
	}
	all := of(5, []byte("ab"))
	for i := range all {
		copy(all[i][248:], eight(6))
	}
	getFails(t, "all of two numbers", all, api.ErrCut)
}

// P6.3: what is cut is told ahead of the form.
func TestGetTellsTheCutFirst(t *testing.T) {
	l := slot(5, 955, nil)
	getFails(t, "the form alone", l, api.ErrForm)
	getFails(t, "three", l[:3], api.ErrCut)
	getFails(t, "five", append(copyOf(l), l[0]), api.ErrCut)
	for i := range 4 {
		getFails(t, "short", with(l, i, l[i][:255]), api.ErrCut)
		getFails(t, "of another number", with(l, i, slot(6, 955, nil)[i]), api.ErrCut)
		getFails(t, "parted", changed(l, i, 250, 1), api.ErrCut)
	}
	getFails(t, "of no number", slot(0, 955, nil), api.ErrCut)
}

// P6.3: the sectors stand in their order.
func TestGetOfOtherOrders(t *testing.T) {
	for _, body := range [][]byte{nil, []byte("ab"), make([]byte, 954), many(954, 8)} {
		l := of(5, body)
		// Of 4^4 lists of the four one alone is theirs.
		for n := range 256 {
			a, b, c, d := n/64, n/16%4, n/4%4, n%4
			list := [][]byte{l[a], l[b], l[c], l[d]}
			if a == 0 && b == 1 && c == 2 && d == 3 {
				gets(t, list, 5, body)
			} else {
				getFails(t, fmt.Sprint(a, b, c, d), list, api.ErrForm)
			}
		}
		for i := range 4 {
			for x := range 256 {
				if x != i {
					getFails(t, fmt.Sprint(x, " at ", i), changed(l, i, 8, byte(x)), api.ErrForm)
				}
			}
		}
	}
}

// P6.3: the length is one that a body may have.
func TestGetOfGreatLengths(t *testing.T) {
	for _, behind := range [][]byte{nil, many(954, 4)} {
		for n := 955; n < 65536; n++ {
			getFails(t, fmt.Sprint("the length ", n), slot(5, n, behind), api.ErrForm)
		}
	}
	gets(t, slot(5, 954, nil), 5, make([]byte, 954))
}

// P6.3: behind the body there are zeros.
func TestGetOfBytesBehind(t *testing.T) {
	for _, n := range []int{0, 1, 2, 237, 238, 700, 953} {
		l := of(5, many(n, 6))
		for at := 2 + n; at < 956; at++ {
			for _, x := range []byte{1, 0x80, 0xff} {
				getFails(t, fmt.Sprintf("%d bytes, %d at %d", n, x, at), changed(l, at/239, 9+at%239, x), api.ErrForm)
			}
		}
		// A length that is less than it was.
		for less := range n {
			getFails(t, fmt.Sprintf("%d of %d bytes", less, n), slot(5, less, many(n, 6)), api.ErrForm)
		}
	}
}

// read tells what Get is to tell, as the chapter's words say.
func read(l [][]byte) (int, []byte, api.Errno) {
	if len(l) != 4 {
		return 0, nil, api.ErrCut
	}
	for _, b := range l {
		if number(b) == 0 || number(b) != number(l[0]) {
			return 0, nil, api.ErrCut
		}
	}
	var all []byte
	for _, b := range l {
		all = append(all, b[9:248]...)
	}
	n := 256*int(all[0]) + int(all[1])
	if n > 954 || !same(l, of(number(l[0]), all[2:2+n])) {
		return 0, nil, api.ErrForm
	}
	return number(l[0]), all[2 : 2+n], api.OK
}

// number tells a sector's number, as the chapter's words say; 0 of none.
func number(b []byte) int {
	for n := range len(b) {
		if len(b) != 256 || n < 8 && b[n] != b[248+n] {
			return 0
		}
	}
	return upTo(b, 0)
}

// upTo tells the number of eight bytes from one on, of those of a sector; 0 of none, and of a greater one than a generation may be.
func upTo(b []byte, from int) int {
	if len(b) != 256 {
		return 0
	}
	n := big.NewInt(0).SetBytes(b[from : from+8])
	if n.Cmp(big.NewInt(maxGen)) > 0 {
		return 0
	}
	return int(n.Int64())
}

// greatest tells what Seen is to tell, as the chapter's words say.
func greatest(l [][]byte) int {
	n := 0
	for _, b := range l {
		n = max(n, upTo(b, 0), upTo(b, 248))
	}
	return n
}

// asTheWordsSay asks all that can be asked of sectors.
func asTheWordsSay(t *testing.T, l [][]byte) {
	t.Helper()
	gen, body, want := read(l)
	if want == api.OK {
		gets(t, l, gen, body)
	} else {
		getFails(t, "as the words say", l, want)
	}
	sees(t, "as the words say", l, greatest(l))
	for _, b := range l {
		stamps(t, "as the words say", b, number(b))
	}
}

// P6.2, P6.3, P6.4: each byte of a slot is changed.
func TestChangedBytes(t *testing.T) {
	for _, body := range [][]byte{nil, []byte("ab"), many(500, 2), many(954, 2)} {
		l := of(0x0100000001, body)
		for at := range 1024 {
			was := l[at/256][at%256]
			for _, x := range []byte{0, 1, was + 1, was - 1, ^was} {
				asTheWordsSay(t, changed(l, at/256, at%256, x))
			}
		}
	}
}

// P6.2, P6.3, P6.4: long scripts of lists of any sectors.
func TestAnyLists(t *testing.T) {
	for seed := range uint32(3000) {
		next := rule(seed)
		var l [][]byte
		gen, body := 1+next()%3, many(next()%955, seed)
		for i := range []int{4, 4, 4, 4, 4, 4, 4, 0, 3, 5}[next()%10] {
			b := of(gen, body)[i%4]
			switch next() % 16 {
			case 0:
				b = of(1+next()%3, body)[next()%4]
			case 1:
				b = torn(next()%257, of(1+next()%3, body)[i%4], b)
			case 2:
				b = b[:next()%257]
			case 3:
				b[next()%256] = byte(next())
			case 4:
				n := wrong()[next()%len(wrong())]
				b = torn(next()%257, ended(n, n), b)
			case 5:
				b = many(next()%300, seed)
			}
			l = append(l, b)
		}
		asTheWordsSay(t, l)
	}
}

// P6.4
func TestSeen(t *testing.T) {
	sees(t, "nil", nil, 0)
	sees(t, "none", [][]byte{}, 0)
	sees(t, "empty ones", [][]byte{nil, {}, nil}, 0)
	sees(t, "zeros", zeros(), 0)
	for _, gen := range good() {
		n := uint64(gen)
		for i, b := range of(gen, []byte("ab")) {
			sees(t, fmt.Sprint("the sector ", i, " alone"), [][]byte{b}, gen)
			sees(t, "among zeros", with(zeros(), i, b), gen)
		}
		sees(t, "the first end alone", [][]byte{ended(n, 0)}, gen)
		sees(t, "the last end alone", [][]byte{ended(0, n)}, gen)
		sees(t, "the first end is less", [][]byte{ended(1, n)}, gen)
		sees(t, "the last end is less", [][]byte{ended(n, 1)}, gen)
	}
}

// P6.4: the greatest one counts, wherever it stands, of any list.
func TestSeenWherever(t *testing.T) {
	for _, size := range []int{1, 2, 4, 5, 8, 11} {
		for at := range size {
			l := make([][]byte, size)
			for i := range l {
				l[i] = ended(uint64(10+i), uint64(30-i))
			}
			sees(t, "beside less", append(slices.Clone(l), ended(77, 76)), 77)
			sees(t, "behind less", append([][]byte{ended(76, 77)}, l...), 77)
			first, last := copyOf(l), copyOf(l)
			copy(first[at], eight(99))
			copy(last[at][248:], eight(99))
			sees(t, fmt.Sprint("first of ", at), first, 99)
			sees(t, fmt.Sprint("last of ", at), last, 99)
		}
	}
	// By their numbers, not by their bytes from the lowest on.
	sees(t, "one byte more", [][]byte{ended(0xff, 0x0100)}, 0x0100)
	sees(t, "five bytes", [][]byte{ended(0xffffffff, 0x0100000000)}, 0x0100000000)
}

// P6.4: a number that no generation is does not count, and takes nothing from the others.
func TestSeenOfWrongNumbers(t *testing.T) {
	for _, n := range wrong() {
		what := fmt.Sprintf("%x", n)
		sees(t, what, [][]byte{ended(n, n)}, 0)
		for _, other := range wrong() {
			sees(t, what, [][]byte{ended(n, other), ended(other, n)}, 0)
		}
		for _, gen := range []int{1, 5, maxGen} {
			g := uint64(gen)
			sees(t, what+" last", [][]byte{ended(g, n)}, gen)
			sees(t, what+" first", [][]byte{ended(n, g)}, gen)
			sees(t, what+" behind", [][]byte{ended(g, g), ended(n, n)}, gen)
			sees(t, what+" ahead", [][]byte{ended(n, n), ended(g, g)}, gen)
			sees(t, what+" beside", [][]byte{ended(n, 1), ended(1, g), ended(n, n)}, gen)
		}
	}
}

// P6.4: bytes that are not 256 do not count.
func TestSeenOfOtherLengths(t *testing.T) {
	for _, n := range lengths() {
		b := bytes.Repeat([]byte{0, 0, 0, 0, 0, 0, 0, 5}, 130)[:n]
		sees(t, fmt.Sprint(n, " bytes"), [][]byte{b}, 0)
		sees(t, fmt.Sprint(n, " bytes beside"), [][]byte{b, ended(3, 2), b}, 3)
	}
	b := ended(5, 5)
	sees(t, "a byte less", [][]byte{b[:255], b[1:]}, 0)
	sees(t, "a byte more", [][]byte{append(bytes.Clone(b), 5)}, 0)
}

// pairs are writings of unlike generations, the elder one first.
func pairs() [][2][][]byte {
	var p [][2][][]byte
	add := func(oldGen, freshGen int, old, fresh []byte) {
		p = append(p, [2][][]byte{of(oldGen, old), of(freshGen, fresh)})
	}
	for _, gens := range [][2]int{
		{1, 2}, {2, 1}, {5, 6}, {255, 256}, {256, 255}, {0x0102, 0x0201}, {1, maxGen}, {maxGen - 1, maxGen}, {maxGen, maxGen - 1},
		{5, 5 + 1<<32}, {0x0101010101, 0x0202020202}, {0xffffffff, 0x0100000000},
	} {
		add(gens[0], gens[1], many(954, 1), many(954, 2))
	}
	for _, bodies := range [][2][]byte{
		{nil, many(954, 3)}, {many(700, 4), nil}, {many(300, 5), many(300, 5)}, {[]byte("ab"), []byte("abc")}, {nil, nil},
	} {
		add(5, 6, bodies[0], bodies[1])
		add(256, 255, bodies[0], bodies[1])
	}
	return p
}

// mixed asks for what is got of sectors that are of two writings: that one of which all are, or none; and for no less than the greatest of those that are whole.
func mixed(t *testing.T, what string, l, old, fresh [][]byte) {
	t.Helper()
	gen, body, _ := read(l)
	if gen > 0 && (same(l, old) || same(l, fresh)) {
		gets(t, l, gen, body)
	} else {
		getFails(t, what, l, api.ErrCut)
	}
	least := 0
	for i, b := range l {
		if bytes.Equal(b, old[i]) || bytes.Equal(b, fresh[i]) {
			least = max(least, upTo(b, 0))
		}
	}
	if n := Seen(l); n < least || n > maxGen || n != greatest(l) {
		t.Errorf("%s: Seen = %d; of those that are whole %d, of all %d", what, n, least, greatest(l))
	}
}

// mix tells sectors of two writings: of each place 0 the elder one, 1 the newer one, 2 torn behind n bytes.
func mix(which [4]int, n int, old, fresh [][]byte) [][]byte {
	l := make([][]byte, 4)
	for i := range l {
		l[i] = torn([]int{0, 256, n}[which[i]], fresh[i], old[i])
	}
	return l
}

// P6.5: each sector is the elder one, the newer one, or torn, at every place of the tear.
func TestTorn(t *testing.T) {
	for p, pair := range pairs() {
		for n := range 257 {
			for c := range 81 {
				which := [4]int{c % 3, c / 3 % 3, c / 9 % 3, c / 27}
				l := mix(which, n, pair[0], pair[1])
				mixed(t, fmt.Sprintf("pair %d, torn behind %d, %v", p, n, which), l, pair[0], pair[1])
			}
		}
	}
}

// P6.5: the sectors are torn at unlike places.
func TestTornAtUnlikePlaces(t *testing.T) {
	edges := []int{0, 1, 2, 3, 4, 5, 6, 7, 8, 9, 10, 11, 246, 247, 248, 249, 250, 251, 252, 253, 254, 255, 256}
	for p, pair := range pairs() {
		next := rule(uint32(p))
		for range 3000 {
			l := make([][]byte, 4)
			for i := range l {
				n := next() % 257
				if next()%2 == 0 {
					n = edges[next()%len(edges)]
				}
				l[i] = torn(n, pair[1][i], pair[0][i])
			}
			mixed(t, fmt.Sprintf("pair %d", p), l, pair[0], pair[1])
		}
	}
}

// P6.5: of a first writing, torn upon sectors that were never written, either all is got or nothing.
func TestTornUponNothing(t *testing.T) {
	old, fresh := zeros(), of(0x0102030405, many(954, 1))
	for n := range 257 {
		for c := range 81 {
			which := [4]int{c % 3, c / 3 % 3, c / 9 % 3, c / 27}
			mixed(t, fmt.Sprintf("torn behind %d, %v", n, which), mix(which, n, old, fresh), old, fresh)
		}
	}
}

// P6.5: a sector that is torn tells no number, but where the tear leaves it whole.
func TestStampOfTornSectors(t *testing.T) {
	for p, pair := range pairs() {
		for i := range 4 {
			for n := range 257 {
				b := torn(n, pair[1][i], pair[0][i])
				want := 0
				if bytes.Equal(b, pair[0][i]) || bytes.Equal(b, pair[1][i]) {
					want = upTo(b, 0)
				}
				stamps(t, fmt.Sprintf("pair %d, the sector %d, torn behind %d", p, i, n), b, want)
			}
		}
	}
}

// onDisk tells what four sectors of a disk have.
func onDisk(t *testing.T, d *sector.Disk) [][]byte {
	t.Helper()
	var l [][]byte
	for i := range 4 {
		b, e := d.Read(i)
		is(t, "Read", e, api.OK)
		l = append(l, b)
	}
	return l
}

// P6.5: upon a disk the power fails at any of the newer one's sectors, with any fates.
func TestOnADisk(t *testing.T) {
	old, _ := Put(255, many(900, 1))
	fresh, _ := Put(256, many(400, 2))
	d := sector.New(4)
	for i := range 4 {
		is(t, "Write", d.Write(i, old[i]), api.OK)
	}
	is(t, "Sync", d.Sync(), api.OK)
	for written := range 5 {
		for seed := range uint32(400) {
			next, f := rule(seed), d.Fork()
			for i := range written {
				is(t, "Write", f.Write(i, fresh[i]), api.OK)
			}
			var fates []byte
			for range 8 {
				fates = append(fates, byte(next()))
			}
			f.Power(fates)
			mixed(t, fmt.Sprint("fates ", fates), onDisk(t, f), old, fresh)
		}
	}
}

// Rule 3: no function changes what it is given, nor its spare room.
func TestArgumentsStay(t *testing.T) {
	for _, n := range []int{0, 2, 954, 955} {
		room := many(1100, 5)
		was := bytes.Clone(room)
		for _, gen := range []int{0, 5, maxGen + 1} {
			Put(gen, room[:n])
			if !bytes.Equal(room, was) {
				t.Fatalf("Put changed the body of %d bytes, or its spare room", n)
			}
		}
	}
	good := of(5, []byte("ab"))
	for _, l := range [][][]byte{
		good, of(5, many(954, 1)), zeros(), slot(5, 955, nil), slot(5, 1, []byte("ab")), with(good, 2, ended(7, 9)),
		{good[0], good[2], good[1], good[3]}, {good[0]}, with(good, 1, nil), with(good, 3, good[3][:200]), changed(good, 0, 100, 1),
	} {
		room := spacious(l)
		was := copyOf(room)
		given := make([][]byte, len(l), len(l)+2)
		copy(given, heads(room, l))
		kept := slices.Clone(given[:cap(given)])
		Get(given)
		Seen(given)
		for _, b := range given {
			Stamp(b)
		}
		if !same(room, was) || !same(given[:cap(given)], kept) {
			t.Errorf("%x was changed", l)
		}
	}
}

// spacious tells the sectors with some bytes behind them.
func spacious(l [][]byte) [][]byte {
	var room [][]byte
	for _, b := range l {
		room = append(room, append(bytes.Clone(b), 11, 22, 33))
	}
	return room
}

// heads tells the sectors, without the bytes behind them.
func heads(room, l [][]byte) [][]byte {
	var h [][]byte
	for i, b := range room {
		h = append(h, b[:len(l[i])])
	}
	return h
}

// spoil writes over bytes and their spare room.
func spoil(b []byte) {
	b = b[:cap(b)]
	for i := range b {
		b[i] ^= 0x5a
	}
}

// Rule 3: an answer is new memory, and no two lists of it share any.
func TestAnswersAreNew(t *testing.T) {
	for _, n := range []int{0, 2, 237, 954} {
		body := many(n, 7)
		was := bytes.Clone(body)
		l, _ := Put(5, body)
		for i := range l {
			spoil(l[i])
			for k := i + 1; k < 4; k++ {
				if !bytes.Equal(l[k], of(5, was)[k]) {
					t.Errorf("the sectors %d and %d share bytes", i, k)
				}
			}
		}
		if !bytes.Equal(body, was) {
			t.Errorf("the sectors and the body of %d bytes share some", n)
		}
		puts(t, 5, body)

		sectors, _ := Put(6, body)
		_, got, _ := Get(sectors)
		spoil(got)
		gets(t, sectors, 6, was)
		if !same(sectors, of(6, was)) {
			t.Error("the body that was got and the sectors share bytes")
		}
		_, got, _ = Get(sectors)
		for _, b := range sectors {
			spoil(b)
		}
		if !bytes.Equal(got, was) {
			t.Error("the body hangs on the sectors that it was got from")
		}
	}
}

// Rule 4: what was asked ahead has no part in an answer.
func TestAnswersAreAlike(t *testing.T) {
	body := many(600, 3)
	for range 3 {
		puts(t, 9, body)
		putFails(t, 0, body, api.ErrRange)
		puts(t, 8, nil)
		gets(t, of(9, body), 9, body)
		getFails(t, "none", nil, api.ErrCut)
		gets(t, of(4, nil), 4, nil)
		sees(t, "9", of(9, body), 9)
		sees(t, "4", of(4, body), 4)
		sees(t, "none", nil, 0)
		stamps(t, "9", of(9, body)[0], 9)
		stamps(t, "none", nil, 0)
		stamps(t, "4", of(4, body)[3], 4)
	}
}
