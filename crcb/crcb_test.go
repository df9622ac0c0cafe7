package crcb

import (
	"bytes"
	"math"
	"strings"
	"testing"

	"fascicle/api"
)

// many makes bytes of a short rule, which differ from one seed to the next.
func many(n int, seed uint32) []byte {
	b := make([]byte, n)
	for i := range b {
		seed = seed*1664525 + 1013904223
		b[i] = byte(seed >> 24)
	}
	return b
}

// slowSteps makes steps of a register bit by bit, as the document's words tell a step.
func slowSteps(r uint32, n int) uint32 {
	for range n {
		high := r >= 1<<31
		r = (r % (1 << 31)) * 2
		if high {
			r ^= 0x04c11db7
		}
	}
	return r
}

// slowSum tells a sum, as the document's words tell Of.
func slowSum(b []byte) uint32 {
	r := uint32(0xffffffff)
	for _, x := range b {
		r = slowSteps(r^uint32(x)*(1<<24), 8)
	}
	return r ^ 0xffffffff
}

// withSum puts the sum of what stands behind the first four bytes there.
func withSum(b []byte) []byte {
	sum := slowSum(b[4:])
	return append([]byte{byte(sum >> 24), byte(sum >> 16), byte(sum >> 8), byte(sum)}, b[4:]...)
}

// P2.1: the sums are those that bzip2 lays in its blocks.
func TestOf(t *testing.T) {
	for s, want := range map[string]uint32{
		"":                 0,
		"123456789":        0xfc891918,
		"a":                0x19939b6b,
		"abc":              0x648cbb73,
		"\x00":             0xb1f7404b,
		"\x80":             0xd8fba0a5,
		"\xff":             0x000000ff,
		"\x00\x00\x00\x00": 0x38fb2284,
		"\xff\xff\xff\xff": 0xffffffff,
		"The quick brown fox jumps over the lazy dog": 0x459dee61,
		strings.Repeat("\x00", 1020):                  0x61f5dde6,
	} {
		if got := Of([]byte(s)); got != want {
			t.Errorf("Of(%.20q) = %08x, want %08x", s, got, want)
		}
	}
	if Of(nil) != 0 || Of([]byte{}) != 0 {
		t.Errorf("of nothing %x %x", Of(nil), Of([]byte{}))
	}
}

// P2.1: each byte, and texts of all short lengths.
func TestOfAsTheWordsSay(t *testing.T) {
	for x := range 256 {
		for _, b := range [][]byte{{byte(x)}, {0, byte(x)}, {byte(x), 0xff}} {
			if got, want := Of(b), slowSum(b); got != want {
				t.Fatalf("Of(%x) = %08x, want %08x", b, got, want)
			}
		}
	}
	for n := range 300 {
		if got, want := Of(many(n, 7)), slowSum(many(n, 7)); got != want {
			t.Fatalf("Of of %d bytes = %08x, want %08x", n, got, want)
		}
	}
}

// P2.1: spare room is no part of the bytes.
func TestOfLeavesSpareRoom(t *testing.T) {
	full := []byte("123456789rest")
	if got := Of(full[:9]); got != 0xfc891918 {
		t.Errorf("%08x", got)
	}
}

// P2.1
func TestUpdate(t *testing.T) {
	all := many(120, 3)
	for i := range len(all) + 1 {
		if got, want := Update(Of(all[:i]), all[i:]), Of(all); got != want {
			t.Fatalf("parted at %d: %08x, want %08x", i, got, want)
		}
	}
	for _, sum := range []uint32{0, 1, 0x80000000, 0xfc891918, math.MaxUint32} {
		if Update(sum, nil) != sum || Update(sum, []byte{}) != sum {
			t.Errorf("%08x and nothing behind: %08x", sum, Update(sum, nil))
		}
		if got, want := Update(sum, []byte("z")), ^slowSteps(^sum^'z'<<24, 8); got != want {
			t.Errorf("%08x and a byte: %08x, want %08x", sum, got, want)
		}
	}
	sum := uint32(0)
	for i := range all {
		sum = Update(sum, all[i:i+1])
	}
	if sum != Of(all) {
		t.Errorf("byte by byte: %08x, want %08x", sum, Of(all))
	}
}

// P2.2
func TestShift(t *testing.T) {
	for _, c := range []struct {
		sum  uint32
		n    int
		want uint32
	}{
		{1, 0, 1},
		{1, 1, 1 << 8},
		{1, 3, 1 << 24},
		{1, 4, 0x04c11db7},
		{1 << 24, 1, 0x04c11db7},
		{0, 9, 0},
		{0, 100000, 0},
		{5, -1, 5},
		{0x80000001, -1, 0x80000001},
		{math.MaxUint32, math.MinInt, math.MaxUint32},
		{math.MaxUint32, 0, math.MaxUint32},
	} {
		if got := Shift(c.sum, c.n); got != c.want {
			t.Errorf("Shift(%x, %d) = %x, want %x", c.sum, c.n, got, c.want)
		}
	}
	for _, sum := range []uint32{1, 2, 0x80000000, 0xdeadbeef, math.MaxUint32} {
		for _, n := range []int{1, 2, 5, 255, 1024, 99999, 100000} {
			if got, want := Shift(sum, n), slowSteps(sum, 8*n); got != want {
				t.Errorf("Shift(%x, %d) = %x, want %x", sum, n, got, want)
			}
		}
	}
}

// P2.2: beyond 100000 all numbers are as that one.
func TestShiftEnds(t *testing.T) {
	most := Shift(1, 100000)
	if most == Shift(1, 99999) {
		t.Error("100000 is as 99999")
	}
	for _, n := range []int{100001, 100002, 1 << 29, 1 << 31, math.MaxInt/8 + 1, math.MaxInt} {
		if got := Shift(1, n); got != most {
			t.Errorf("Shift(1, %d) = %x, want %x", n, got, most)
		}
	}
}

// P2.2: how the sums of two texts part is how those of their beginnings part, shifted.
func TestShiftOfTwoTexts(t *testing.T) {
	for _, n := range []int{0, 1, 4, 33} {
		a, b := many(n, 11), many(n, 12)
		for _, k := range []int{0, 1, 2, 7, 256, 1024, 100000} {
			c := many(k, 13)
			got := Of(append(bytes.Clone(a), c...)) ^ Of(append(bytes.Clone(b), c...))
			if want := Shift(Of(a)^Of(b), k); got != want {
				t.Errorf("%d bytes, then %d: %08x, want %08x", n, k, got, want)
			}
		}
	}
}

// P2.3
func TestSeal(t *testing.T) {
	for _, c := range []struct {
		b    string
		size int
		want string
	}{
		{"", 8, "\x38\xfb\x22\x84\x00\x00\x00\x00"},
		{"abc", 16, "\x15\xdb\x42\xf5\x00\x03\x00\x00abc\x00\x00\x00\x00\x00"},
	} {
		if got, e := Seal([]byte(c.b), c.size); string(got) != c.want || e != api.OK {
			t.Errorf("Seal(%q, %d) = %x %d, want %x", c.b, c.size, got, int(e), c.want)
		}
	}
	for _, c := range []struct{ n, size int }{
		{0, 8}, {0, 9}, {1, 9}, {0, 1024}, {255, 300}, {256, 300}, {1016, 1024}, {0, 65536}, {65528, 65536},
	} {
		b := many(c.n, 21)
		want := append([]byte{0, 0, 0, 0, byte(c.n / 256), byte(c.n % 256), 0, 0}, b...)
		want = withSum(append(want, make([]byte, c.size-8-c.n)...))
		if got, e := Seal(b, c.size); !bytes.Equal(got, want) || e != api.OK {
			t.Errorf("Seal of %d bytes in %d: %d bytes, %d", c.n, c.size, len(got), int(e))
		}
	}
}

// P2.3: where several errors apply, the one that is named first.
func TestSealFaults(t *testing.T) {
	for _, c := range []struct {
		n, size int
		want    api.Errno
	}{
		{0, 7, api.ErrArg},
		{0, 0, api.ErrArg},
		{0, -1, api.ErrArg},
		{0, math.MinInt, api.ErrArg},
		{0, 65537, api.ErrArg},
		{0, math.MaxInt, api.ErrArg},
		{9, 7, api.ErrArg},
		{70000, 65537, api.ErrArg},
		{1, 8, api.ErrTooBig},
		{2, 9, api.ErrTooBig},
		{1017, 1024, api.ErrTooBig},
		{1024, 1024, api.ErrTooBig},
		{65529, 65536, api.ErrTooBig},
		{70000, 65536, api.ErrTooBig},
	} {
		if got, e := Seal(make([]byte, c.n), c.size); got != nil || e != c.want {
			t.Errorf("Seal of %d bytes in %d: %d bytes, %d, want %d", c.n, c.size, len(got), int(e), int(c.want))
		}
	}
}

// P2.3: the sizes that are none come first, then the length, then the sum, then the form.
func TestOpenFaults(t *testing.T) {
	good := withSum([]byte("....\x00\x03\x00\x00abc\x00\x00\x00\x00\x00"))
	long := withSum([]byte("....\x00\x09\x00\x00abcdefgh"))
	badSum := bytes.Clone(long)
	badSum[0]++
	for _, c := range []struct {
		b    []byte
		size int
		want api.Errno
	}{
		{good, 7, api.ErrArg},
		{good[:7], 7, api.ErrArg},
		{nil, 0, api.ErrArg},
		{nil, -1, api.ErrArg},
		{nil, math.MinInt, api.ErrArg},
		{good, math.MaxInt, api.ErrArg},
		{make([]byte, 65537), 65537, api.ErrArg},
		{good, 15, api.ErrCut},
		{good, 17, api.ErrCut},
		{good[:15], 16, api.ErrCut},
		{good[:8], 16, api.ErrCut},
		{nil, 8, api.ErrCut},
		{nil, 65536, api.ErrCut},
		{badSum, 17, api.ErrCut},
		{badSum, 16, api.ErrSum},
		{make([]byte, 8), 8, api.ErrSum},
		{make([]byte, 1024), 1024, api.ErrSum},
		{make([]byte, 65536), 65536, api.ErrSum},
		{long, 16, api.ErrForm},
	} {
		if got, e := Open(c.b, c.size); got != nil || e != c.want {
			t.Errorf("Open(%.20x, %d) = %x %d, want %d", c.b, c.size, got, int(e), int(c.want))
		}
	}
}

// P2.3: the sum holds, and yet Seal lays nothing so.
func TestOpenForm(t *testing.T) {
	for _, s := range []string{
		"....\x00\x01\x00\x00", // longer than there is room
		"....\xff\xff\x00\x00",
		"....\x00\x00\x01\x00", // no zeros behind the length
		"....\x00\x00\x00\x01",
		"....\x00\x00\xff\xff",
		"....\x00\x00\x00\x00\x01", // no zeros behind the body
		"....\x00\x02\x00\x00abc",
		"....\x00\x02\x00\x00ab\x00\x00\x01",
		"....\x00\x02\x00\x00ab\x01\x00\x00",
		"....\x00\x06\x00\x00abcde",
		"....\x01\x00\x00\x00abcde",
		"....\x01\x05\x00\x00abcde", // the length's higher byte counts
		"....\x80\x05\x00\x00abcde",
		"....\x05\x00\x00\x00abcde", // the lower byte stands first
		"....\x00\x05\x00\x80abcde",
		"....\x00\x05\x80\x00abcde\x00\x00",
		"....\x00\x05\x00\x00abcde\x00\x00\xff",
	} {
		if got, e := Open(withSum([]byte(s)), len(s)); got != nil || e != api.ErrForm {
			t.Errorf("Open(%x) = %x %d", s, got, int(e))
		}
	}
	whole := withSum(append([]byte("....\xff\xf9\x00\x00"), make([]byte, 65528)...))
	if got, e := Open(whole, 65536); got != nil || e != api.ErrForm {
		t.Errorf("a length of 65529: %d bytes, %d", len(got), int(e))
	}
	// A body's last zeros are its own: the length tells.
	if got, e := Open(withSum([]byte("....\x00\x02\x00\x00a\x00\x00")), 11); string(got) != "a\x00" || e != api.OK {
		t.Errorf("%x %d", got, int(e))
	}
}

// P2.3: whatever has its sum is opened just if it is what Seal lays of the answer.
func TestOpenOfAnything(t *testing.T) {
	for at := range 4 * 4 * 4 * 4 * 4 * 4 {
		b := make([]byte, 10)
		for i := 4; i < len(b); i++ {
			b[i] = "\x00\x01\x02\xff"[at%4]
			at /= 4
		}
		b = withSum(b)
		got, e := Open(b, len(b))
		again, _ := Seal(got, len(b))
		if same := bytes.Equal(again, b); same != (e == api.OK) || !same && (e != api.ErrForm || got != nil) {
			t.Fatalf("Open(%x) = %x %d", b, got, int(e))
		}
	}
}

// P2.4
func TestWhatIsSealedIsOpened(t *testing.T) {
	for size := 8; size < 60; size++ {
		for n := range size - 7 {
			sealAndOpen(t, many(n, uint32(size)), size)
			sealAndOpen(t, make([]byte, n), size)
			sealAndOpen(t, bytes.Repeat([]byte{0xff}, n), size)
		}
	}
	for _, c := range []struct{ n, size int }{
		{0, 1024}, {255, 1024}, {256, 1024}, {1016, 1024}, {65527, 65535}, {0, 65536}, {65527, 65536}, {65528, 65536},
	} {
		sealAndOpen(t, many(c.n, 5), c.size)
	}
}

func sealAndOpen(t *testing.T, b []byte, size int) {
	t.Helper()
	sealed, e := Seal(b, size)
	if len(sealed) != size || e != api.OK {
		t.Fatalf("Seal of %d bytes in %d: %d bytes, %d", len(b), size, len(sealed), int(e))
	}
	if got, e := Open(sealed, size); !bytes.Equal(got, b) || e != api.OK {
		t.Fatalf("Open of %d bytes in %d: %d bytes, %d", len(b), size, len(got), int(e))
	}
}

// P2.4: each other value of each byte.
func TestWhatWasChangedIsNotOpened(t *testing.T) {
	for _, c := range []struct{ n, size int }{{0, 8}, {0, 12}, {4, 12}, {20, 40}} {
		sealed, _ := Seal(many(c.n, 9), c.size)
		for i := range sealed {
			for range 255 {
				sealed[i]++
				if got, e := Open(sealed, c.size); got != nil || e != api.ErrSum {
					t.Fatalf("%d bytes in %d, the byte %d changed: %x %d", c.n, c.size, i, got, int(e))
				}
			}
			sealed[i]++
		}
	}
}

// P2.4: a bit anywhere in a block, and in the greatest size.
func TestWhatWasChangedInMuchIsNotOpened(t *testing.T) {
	for _, c := range []struct{ n, size, gap int }{{1000, 1024, 1}, {65000, 65536, 997}} {
		sealed, _ := Seal(many(c.n, 9), c.size)
		for i := 0; i < c.size; i += c.gap {
			bit := byte(1) << (i % 8)
			sealed[i] ^= bit
			if got, e := Open(sealed, c.size); got != nil || e != api.ErrSum {
				t.Fatalf("%d bytes in %d, the byte %d changed: %d bytes, %d", c.n, c.size, i, len(got), int(e))
			}
			sealed[i] ^= bit
		}
	}
}

// Rule 3: an argument is not changed, and an answer shares nothing with it, nor does its spare room.
func TestAnswersAreNew(t *testing.T) {
	room := []byte("abcdefgh")
	sealed, _ := Seal(room[:3], 16)
	kept := bytes.Clone(sealed)
	clear(room)
	if !bytes.Equal(sealed, kept) {
		t.Errorf("%x", sealed)
	}
	body, _ := Open(sealed, 16)
	spoil(body)
	if !bytes.Equal(sealed, kept) {
		t.Errorf("%x", sealed)
	}
	body, _ = Open(sealed, 16)
	clear(sealed)
	if string(body) != "abc" {
		t.Errorf("%q", body)
	}
	empty, _ := Seal(nil, 16)
	none, _ := Open(empty, 16)
	spoil(none)
	if _, e := Open(empty, 16); e != api.OK {
		t.Error(int(e))
	}
	first, _ := Seal([]byte("abc"), 16)
	spoil(first)
	if second, _ := Seal([]byte("abc"), 16); !bytes.Equal(second, kept) {
		t.Errorf("%x", second)
	}
}

// Rule 3
func TestArgumentsAreNotChanged(t *testing.T) {
	// The spare room would hold what is sealed.
	full := []byte("\x00abc\xffrest of the room")
	Of(full[:5])
	Update(9, full[:5])
	Seal(full[:5], 16)
	Seal(full[:5], 8)
	Open(full[:8], 8)
	if string(full) != "\x00abc\xffrest of the room" {
		t.Errorf("%x", full)
	}
	sealed, _ := Seal(full[:5], 16)
	kept := bytes.Clone(sealed)
	Open(sealed, 16)
	if !bytes.Equal(sealed, kept) {
		t.Errorf("%x", sealed)
	}
}

// spoil writes over a list and its spare room.
func spoil(b []byte) {
	b = b[:cap(b)]
	for i := range b {
		b[i] ^= 0xa5
	}
}
