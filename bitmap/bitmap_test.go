package bitmap

import (
	"bytes"
	"fmt"
	"math"
	"slices"
	"testing"

	"fascicle/api"
	"fascicle/ordkey"
)

// rule makes numbers by a short rule, which differ from one seed to the next.
func rule(seed uint32) func() int {
	return func() int {
		seed = seed*1664525 + 1013904223
		return int(seed >> 16)
	}
}

// is asks for an answer.
func is(t *testing.T, what string, got, want api.Errno) {
	t.Helper()
	if got != want {
		t.Errorf("%s: %d, want %d", what, int(got), int(want))
	}
}

// of lays a map's words as the chapter tells them, without the package's functions.
func of(size int, in ...int) Map {
	m := Map{Size: size, Words: make([]uint64, (size+63)/64)}
	for _, n := range in {
		m.Words[n/64] |= 1 << (n % 64)
	}
	return m
}

// full lays a map that has all numbers.
func full(size int) Map {
	m := of(size)
	for n := range size {
		m.Words[n/64] |= 1 << (n % 64)
	}
	return m
}

// mixed lays a map whose runs are about as long as told.
func mixed(size, run int, seed uint32) Map {
	next := rule(seed)
	m := of(size)
	on := next()%2 == 0
	for n := range size {
		if next()%run == 0 {
			on = !on
		}
		if on {
			m.Words[n/64] |= 1 << (n % 64)
		}
	}
	return m
}

// members tells the numbers in a map, rising, by the chapter's words.
func members(m Map) []int {
	var in []int
	for n := range m.Size {
		if m.Words[n/64]>>(n%64)&1 == 1 {
			in = append(in, n)
		}
	}
	return in
}

// laid tells what Put is to lay, number by number.
func laid(m Map) []byte {
	b := ordkey.PutSmall(uint64(m.Size))
	on, run := false, 0
	for n := range m.Size {
		if (m.Words[n/64]>>(n%64)&1 == 1) != on {
			b = append(b, ordkey.PutSmall(uint64(run))...)
			on, run = !on, 0
		}
		run++
	}
	if m.Size > 0 {
		b = append(b, ordkey.PutSmall(uint64(run))...)
	}
	return b
}

// copyOf tells a map of its own.
func copyOf(m Map) Map {
	return Map{Size: m.Size, Words: slices.Clone(m.Words)}
}

// short tells a map in few letters.
func short(m Map) string {
	if len(m.Words) < 4 {
		return fmt.Sprintf("%d %x", m.Size, m.Words)
	}
	return fmt.Sprintf("%d %x.. (%d words)", m.Size, m.Words[:3], len(m.Words))
}

// same asks for a map, field by field.
func same(t *testing.T, what string, got, want Map) {
	t.Helper()
	if got.Size != want.Size || !slices.Equal(got.Words, want.Words) {
		t.Errorf("%s = %s, want %s", what, short(got), short(want))
	}
}

// found asks for a number and true, or for 0 and false where none is wanted (below 0).
func found(t *testing.T, what string, n int, ok bool, want int) {
	t.Helper()
	if n != max(want, 0) || ok != (want >= 0) {
		t.Errorf("%s = %d, %t; want %d", what, n, ok, want)
	}
}

// puts asks for the bytes of a map.
func puts(t *testing.T, m Map, want []byte) {
	t.Helper()
	if b, e := Put(m); !bytes.Equal(b, want) || e != api.OK {
		t.Errorf("Put(%s) = %x, %d; want %x", short(m), b, int(e), want)
	}
}

// gets asks for the map of bytes.
func gets(t *testing.T, b []byte, want Map) {
	t.Helper()
	m, e := Get(b)
	is(t, fmt.Sprintf("Get(%x)", b), e, api.OK)
	same(t, fmt.Sprintf("Get(%x)", b), m, want)
}

// getFails asks for ErrForm of bytes, and for no map.
func getFails(t *testing.T, b []byte) {
	t.Helper()
	if m, e := Get(b); m.Size != 0 || m.Words != nil || e != api.ErrForm {
		t.Errorf("Get(%x) = %s, %d; want ErrForm", b, short(m), int(e))
	}
}

// lay lays numbers, one behind the other.
func lay(numbers ...uint64) []byte {
	var b []byte
	for _, n := range numbers {
		b = append(b, ordkey.PutSmall(n)...)
	}
	return b
}

// edges are the sizes at which something changes.
func edges() []int {
	return []int{0, 1, 2, 5, 62, 63, 64, 65, 127, 128, 129, 130, 192, 512, 4031, 4032, 4033, 4095, 4096}
}

// goodMaps are maps of all sizes at the edges: empty, full, of first and last numbers, of short and long runs.
func goodMaps() []Map {
	maps := []Map{{}, {Size: 0, Words: []uint64{}}}
	for _, size := range edges() {
		maps = append(maps, of(size), full(size))
		if size == 0 {
			continue
		}
		maps = append(maps, of(size, 0), of(size, size-1), of(size, 0, size-1), of(size, size/2))
		for _, run := range []int{1, 2, 9, 150} {
			maps = append(maps, mixed(size, run, uint32(size*run)))
		}
	}
	return maps
}

// wrongMaps are none.
func wrongMaps() []Map {
	maps := []Map{
		{-1, nil}, {-1, make([]uint64, 1)}, {-63, nil}, {-64, nil}, {-65, nil}, {math.MinInt, nil}, {math.MinInt, make([]uint64, 1)},
		{4097, nil}, {4097, make([]uint64, 64)}, {4097, make([]uint64, 65)}, {4160, make([]uint64, 65)}, {8192, make([]uint64, 128)},
		// Sums with 63 that wrap round.
		{math.MaxInt, nil}, {math.MaxInt, make([]uint64, 64)}, {math.MaxInt - 62, nil}, {math.MaxInt - 63, nil},
		{3, []uint64{8}}, {3, []uint64{1 << 63}}, {3, []uint64{7, 7}}, {1, []uint64{2}}, {63, []uint64{1 << 63}}, {0, []uint64{1}},
		{65, []uint64{0, 2}}, {65, []uint64{5, 1 << 63}}, {127, []uint64{0, 1 << 63}}, {129, []uint64{0, 0, 2}},
	}
	for _, size := range edges() {
		words := (size + 63) / 64
		maps = append(maps, Map{size, make([]uint64, words+1)})
		if words > 0 {
			maps = append(maps, Map{size, make([]uint64, words-1)}, Map{size, nil})
		}
		if size%64 > 0 {
			next, last := of(size), full(size)
			next.Words[words-1] |= 1 << (size % 64)
			last.Words[words-1] |= 1 << 63
			maps = append(maps, next, last)
		}
	}
	return slices.DeleteFunc(maps, func(m Map) bool { return m.Size == 0 && len(m.Words) == 0 })
}

// numbers are some to ask a map for, below 0, at its edges and behind them.
func numbers(size int) []int {
	return []int{math.MinInt, math.MinInt + 1, -65, -64, -63, -1, 0, 1, 2, 3, 31, 62, 63, 64, 65, 66, 127, 128, 129, size / 2, size - 65, size - 64, size - 2, size - 1, size, size + 1, size + 63, size + 64, 4095, 4096, 4097, 1 << 32, 1 << 62, math.MaxInt - 1, math.MaxInt}
}

// P5.1
func TestNew(t *testing.T) {
	for size := -130; size <= 4300; size++ {
		m, e := New(size)
		if size < 0 || size > 4096 {
			if m.Size != 0 || m.Words != nil || e != api.ErrArg {
				t.Errorf("New(%d) = %s, %d", size, short(m), int(e))
			}
			continue
		}
		is(t, "New", e, api.OK)
		same(t, fmt.Sprintf("New(%d)", size), m, of(size))
		is(t, "Check", Check(m), api.OK)
	}
	for _, size := range []int{math.MinInt, math.MinInt + 1, -1 << 32, 8192, 1 << 32, math.MaxInt - 63, math.MaxInt - 62, math.MaxInt} {
		if m, e := New(size); m.Size != 0 || m.Words != nil || e != api.ErrArg {
			t.Errorf("New(%d) = %s, %d", size, short(m), int(e))
		}
	}
}

// P5.1: how many words the sizes at the edges have.
func TestNewWords(t *testing.T) {
	for size, want := range map[int]int{0: 0, 1: 1, 63: 1, 64: 1, 65: 2, 128: 2, 129: 3, 130: 3, 512: 8, 4032: 63, 4033: 64, 4096: 64} {
		if m, e := New(size); len(m.Words) != want || m.Size != size || e != api.OK {
			t.Errorf("New(%d) = %s, %d", size, short(m), int(e))
		}
	}
}

// P5.1
func TestCheck(t *testing.T) {
	for _, m := range goodMaps() {
		if e := Check(m); e != api.OK {
			t.Errorf("Check(%s) = %d", short(m), int(e))
		}
	}
	for _, m := range wrongMaps() {
		if e := Check(m); e != api.ErrForm {
			t.Errorf("Check(%s) = %d", short(m), int(e))
		}
	}
}

// P5.1: each bit of the last word, of each size that has two words, and each count of words.
func TestCheckBits(t *testing.T) {
	for size := 65; size <= 128; size++ {
		for bit := range 64 {
			want := api.OK
			if 64+bit >= size {
				want = api.ErrForm
			}
			is(t, fmt.Sprintf("Check of size %d, bit %d", size, 64+bit), Check(Map{size, []uint64{1, 1 << bit}}), want)
		}
		for words := range 5 {
			want := api.ErrForm
			if words == 2 {
				want = api.OK
			}
			is(t, fmt.Sprintf("Check of size %d, %d words", size, words), Check(Map{size, make([]uint64, words)}), want)
		}
	}
}

// P5.1: what lies in the spare room of Words is none of the map's.
func TestSpareRoom(t *testing.T) {
	room := []uint64{5, math.MaxUint64, math.MaxUint64}
	m := Map{Size: 3, Words: room[:1]}
	is(t, "Check", Check(m), api.OK)
	puts(t, m, lay(3, 0, 1, 1, 1))
	same(t, "Either", Either(m, of(130)), of(130, 0, 2))
	same(t, "Both", Both(m, full(130)), of(130, 0, 2))
	same(t, "Set", Set(m, 1, true), of(3, 0, 1, 2))
	if !slices.Equal(room, []uint64{5, math.MaxUint64, math.MaxUint64}) {
		t.Error(room)
	}
}

// P5.2: Has, at each number.
func TestHas(t *testing.T) {
	for _, m := range goodMaps() {
		in := members(m)
		for n := -70; n < m.Size+140; n++ {
			if _, want := slices.BinarySearch(in, n); Has(m, n) != want {
				t.Errorf("Has(%s, %d) is not %t", short(m), n, want)
			}
		}
		for _, n := range numbers(m.Size) {
			if _, want := slices.BinarySearch(in, n); Has(m, n) != want {
				t.Errorf("Has(%s, %d) is not %t", short(m), n, want)
			}
		}
	}
}

// P5.2: Set changes one number's bit, and that alone.
func TestSet(t *testing.T) {
	for _, m := range goodMaps() {
		for _, n := range numbers(m.Size) {
			with, out := copyOf(m), copyOf(m)
			if 0 <= n && n < m.Size {
				with.Words[n/64] |= 1 << (n % 64)
				out.Words[n/64] = with.Words[n/64] - 1<<(n%64)
			}
			same(t, fmt.Sprintf("Set(%s, %d, true)", short(m), n), Set(m, n, true), with)
			same(t, fmt.Sprintf("Set(%s, %d, false)", short(m), n), Set(m, n, false), out)
		}
	}
}

// P5.2: numbers that are put in and taken out again, one after the other, in an order of their own.
func TestSetAll(t *testing.T) {
	for _, size := range []int{0, 1, 63, 64, 65, 300} {
		m := of(size)
		// 17 and 11 have no common divisor with any of these sizes, so each number comes once.
		for i := range size {
			m = Set(m, i*17%size, true)
			if len(members(m)) != i+1 {
				t.Fatalf("size %d: %d numbers behind %d", size, len(members(m)), i+1)
			}
		}
		same(t, "all are in", m, full(size))
		for i := range size {
			m = Set(m, i*11%size, false)
			if len(members(m)) != size-i-1 {
				t.Fatalf("size %d: %d numbers behind %d that were taken out", size, len(members(m)), i+1)
			}
		}
		same(t, "none is in", m, of(size))
	}
}

// next tells what Next is to tell, number by number; below 0 is none.
func next(m Map, in []int, from int, on bool) int {
	for n := max(from, 0); n < m.Size; n++ {
		if _, has := slices.BinarySearch(in, n); has == on {
			return n
		}
	}
	return -1
}

// P5.2
func TestNext(t *testing.T) {
	for _, m := range goodMaps() {
		in := members(m)
		froms := numbers(m.Size)
		if m.Size < 600 {
			for from := -3; from < m.Size+70; from++ {
				froms = append(froms, from)
			}
		}
		for _, from := range froms {
			for _, on := range []bool{false, true} {
				n, ok := Next(m, from, on)
				found(t, fmt.Sprintf("Next(%s, %d, %t)", short(m), from, on), n, ok, next(m, in, from, on))
			}
		}
	}
}

// P5.2: none that is in an empty map, none that is not in a full one, whatever its size; words between are passed over.
func TestNextOfNone(t *testing.T) {
	for size := range 200 {
		n, ok := Next(of(size), 0, true)
		found(t, "Next of an empty map", n, ok, -1)
		n, ok = Next(full(size), 0, false)
		found(t, "Next of a full map", n, ok, -1)
		n, ok = Next(of(size), -5, false)
		found(t, "Next of an empty map", n, ok, min(size, 1)-1)
		n, ok = Next(full(size), -5, true)
		found(t, "Next of a full map", n, ok, min(size, 1)-1)
		n, ok = Next(full(size), size, true)
		found(t, "Next from Size on", n, ok, -1)
		n, ok = Next(of(size), size, false)
		found(t, "Next from Size on", n, ok, -1)
	}
	last := of(4096, 4095)
	n, ok := Next(last, 0, true)
	found(t, "Next of the last one", n, ok, 4095)
	n, ok = Next(Set(full(4096), 4095, false), 0, false)
	found(t, "Next of the last one", n, ok, 4095)
	n, ok = Next(last, 4095, false)
	found(t, "Next behind the last one", n, ok, -1)
}

// P5.3
func TestRank(t *testing.T) {
	for _, m := range goodMaps() {
		in := members(m)
		for _, n := range append(numbers(m.Size), 100, 200, 300, 1000, 2048, 4000) {
			want, _ := slices.BinarySearch(in, n)
			if got := Rank(m, n); got != want {
				t.Errorf("Rank(%s, %d) = %d, want %d", short(m), n, got, want)
			}
		}
	}
	m := mixed(200, 3, 8)
	count := 0
	for n := range 300 {
		if got := Rank(m, n); got != count {
			t.Errorf("Rank(%d) = %d, want %d", n, got, count)
		}
		if slices.Contains(members(m), n) {
			count++
		}
	}
}

// P5.3
func TestSelect(t *testing.T) {
	for _, m := range goodMaps() {
		in := members(m)
		for k, want := range in {
			if n, ok := Select(m, k); n != want || !ok {
				t.Errorf("Select(%s, %d) = %d, %t; want %d", short(m), k, n, ok, want)
			}
		}
		for _, k := range []int{len(in), len(in) + 1, m.Size + 1, m.Size + 64, 4097, 1 << 32, math.MaxInt, -1, -2, -64, math.MinInt} {
			n, ok := Select(m, k)
			found(t, fmt.Sprintf("Select(%s, %d)", short(m), k), n, ok, -1)
		}
	}
	n, ok := Select(full(64), 64)
	found(t, "Select at Size", n, ok, -1)
	n, ok = Select(full(65), 64)
	found(t, "Select of the last one", n, ok, 64)
}

// The chapter's example.
func TestExample(t *testing.T) {
	m, e := New(5)
	is(t, "New", e, api.OK)
	m = Set(Set(m, 2, true), 3, true)
	same(t, "2 and 3 in it", m, Map{5, []uint64{0xc}})
	puts(t, m, []byte{1, 5, 1, 2, 1, 2, 1, 1})
	gets(t, []byte{1, 5, 1, 2, 1, 2, 1, 1}, m)
	if Rank(m, 4) != 2 {
		t.Error(Rank(m, 4))
	}
	n, ok := Select(m, 1)
	found(t, "Select(1)", n, ok, 3)
}

// mixes tells what is in both maps, and what is in one of them, number by number.
func mixes(a, b Map) (Map, Map) {
	size := max(a.Size, b.Size)
	both, either := of(size), of(size)
	has := func(m Map, n int) bool { return n < m.Size && m.Words[n/64]>>(n%64)&1 == 1 }
	for n := range size {
		if has(a, n) && has(b, n) {
			both.Words[n/64] |= 1 << (n % 64)
		}
		if has(a, n) || has(b, n) {
			either.Words[n/64] |= 1 << (n % 64)
		}
	}
	return both, either
}

// P5.4: pairs of maps, of like and unlike sizes.
func TestBothAndEither(t *testing.T) {
	maps := goodMaps()
	for i, a := range maps {
		for j, b := range maps {
			// Some of the long ones are enough.
			if max(a.Size, b.Size) > 600 && (i+j)%5 > 0 {
				continue
			}
			both, either := mixes(a, b)
			if got := Both(a, b); got.Size != both.Size || !slices.Equal(got.Words, both.Words) {
				t.Errorf("Both(%s, %s) = %s, want %s", short(a), short(b), short(got), short(both))
			}
			if got := Either(a, b); got.Size != either.Size || !slices.Equal(got.Words, either.Words) {
				t.Errorf("Either(%s, %s) = %s, want %s", short(a), short(b), short(got), short(either))
			}
		}
	}
}

// P5.4: some by hand.
func TestBothAndEitherOfUnlikeSizes(t *testing.T) {
	a, b := of(5, 0, 2, 4), of(130, 2, 3, 4, 129)
	same(t, "Both", Both(a, b), of(130, 2, 4))
	same(t, "Both, turned", Both(b, a), of(130, 2, 4))
	same(t, "Either", Either(a, b), of(130, 0, 2, 3, 4, 129))
	same(t, "Either, turned", Either(b, a), of(130, 0, 2, 3, 4, 129))
	same(t, "Both of nothing", Both(Map{}, b), of(130))
	same(t, "Either of nothing", Either(Map{}, b), b)
	same(t, "Both of two of size 0", Both(Map{}, Map{}), Map{})
	same(t, "Either of two of size 0", Either(Map{}, Map{}), Map{})
	same(t, "Both of sizes in one word", Both(full(3), full(60)), of(60, 0, 1, 2))
	same(t, "Either of sizes in one word", Either(full(3), of(60)), of(60, 0, 1, 2))
}

// P5.4: an empty map where Check refuses one, on either side, or both.
func TestBothAndEitherOfWrongMaps(t *testing.T) {
	for _, w := range wrongMaps() {
		for _, m := range []Map{{}, of(5, 1), full(64), full(4096), w} {
			for _, got := range []Map{Both(w, m), Both(m, w), Either(w, m), Either(m, w)} {
				same(t, "of "+short(w)+" and "+short(m), got, Map{})
			}
		}
	}
}

// P5.5: bytes written by hand.
func TestPut(t *testing.T) {
	for _, c := range []struct {
		m    Map
		want []byte
	}{
		{Map{}, []byte{0}},
		{Map{Words: []uint64{}}, []byte{0}},
		{of(1), []byte{1, 1, 1, 1}},
		{of(1, 0), []byte{1, 1, 0, 1, 1}},
		{of(5), []byte{1, 5, 1, 5}},
		{full(5), []byte{1, 5, 0, 1, 5}},
		{of(5, 0), []byte{1, 5, 0, 1, 1, 1, 4}},
		{of(5, 4), []byte{1, 5, 1, 4, 1, 1}},
		{of(5, 0, 2, 4), []byte{1, 5, 0, 1, 1, 1, 1, 1, 1, 1, 1, 1, 1}},
		{of(64), []byte{1, 64, 1, 64}},
		{full(64), []byte{1, 64, 0, 1, 64}},
		{full(65), []byte{1, 65, 0, 1, 65}},
		{of(65, 64), []byte{1, 65, 1, 64, 1, 1}},
		{of(256), []byte{2, 1, 0, 2, 1, 0}},
		{of(256, 255), []byte{2, 1, 0, 1, 255, 1, 1}},
		{of(4096), []byte{2, 16, 0, 2, 16, 0}},
		{full(4096), []byte{2, 16, 0, 0, 2, 16, 0}},
		{of(130, 0, 63, 64, 65, 129), []byte{1, 130, 0, 1, 1, 1, 62, 1, 3, 1, 63, 1, 1}},
	} {
		puts(t, c.m, c.want)
		gets(t, c.want, c.m)
	}
}

// P5.5, P5.6: what is put is as the chapter says, and is got.
func TestPutAndGet(t *testing.T) {
	for _, m := range goodMaps() {
		want := laid(m)
		puts(t, m, want)
		gets(t, want, m)
	}
	for seed := range 300 {
		m := mixed(seed*13%700, 1+seed%40, uint32(seed))
		want := laid(m)
		puts(t, m, want)
		gets(t, want, m)
	}
}

// P5.5, P5.6: all maps of small sizes; no two are laid alike.
func TestPutAndGetOfAllSmallMaps(t *testing.T) {
	seen := map[string]int{}
	for size := range 12 {
		words := 1 << size
		for w := range words {
			m := Map{Size: size, Words: []uint64{uint64(w)}}
			if size == 0 {
				m.Words = nil
			}
			b, e := Put(m)
			is(t, "Put", e, api.OK)
			seen[string(b)]++
			if seen[string(b)] > 1 {
				t.Errorf("%x is laid twice", b)
			}
			gets(t, b, m)
		}
	}
}

// P5.5: Put tells Check's error, and no bytes.
func TestPutOfWrongMaps(t *testing.T) {
	for _, m := range wrongMaps() {
		if b, e := Put(m); b != nil || e != api.ErrForm {
			t.Errorf("Put(%s) = %x, %d", short(m), b, int(e))
		}
	}
}

// P5.5: bytes that are those of no map.
func TestGetFaults(t *testing.T) {
	for _, b := range [][]byte{
		nil,
		{},
		// Numbers that are cut off, or not as PutSmall writes them.
		{1}, {2}, {2, 1}, {9}, {255}, {9, 1, 1, 1, 1, 1, 1, 1, 1, 1},
		{1, 0}, {2, 0, 5}, {2, 0, 5, 1, 5}, {3, 0, 1, 0, 2, 1, 0}, {8, 0, 0, 0, 0, 0, 0, 0, 5, 1, 5},
		{1, 5, 1}, {1, 5, 2, 5}, {1, 5, 9, 5}, {1, 5, 255}, {1, 5, 2, 0, 5}, {1, 5, 8, 0, 0, 0, 0, 0, 0, 0, 5}, {1, 5, 3, 0, 0, 5},
		{1, 5, 1, 0, 1, 5}, {1, 5, 1, 2, 2, 0, 3}, {1, 5, 1, 2, 1}, {1, 5, 1, 2, 9},
		// Sizes that no map has.
		lay(4097, 4097), lay(4097), lay(8192), lay(65536, 65536), lay(1 << 40), lay(1<<40 + 1), lay(1<<63, 1<<63), lay(math.MaxUint64), lay(math.MaxUint64, math.MaxUint64),
		// No runs, too few, too many.
		lay(5), lay(1), lay(4096), lay(5, 4), lay(5, 0), lay(5, 0, 4), lay(5, 2, 2), lay(5, 1, 1, 1, 1), lay(4096, 4095), lay(65, 64),
		lay(5, 5, 1), lay(5, 2, 3, 1), lay(5, 0, 5, 1), lay(5, 5, 5), lay(5, 2, 3, 5),
		lay(0, 0), lay(0, 1), lay(0, 0, 0), lay(0, 5),
		// Runs that end behind Size, also where the sum wraps round.
		lay(5, 6), lay(5, 0, 6), lay(5, 2, 4), lay(5, 2, 2, 2), lay(5, 4097), lay(5, 1<<40), lay(5, 1<<40+1), lay(5, 1<<63), lay(5, math.MaxUint64),
		lay(5, 1, math.MaxUint64), lay(5, 3, math.MaxUint64-1), lay(5, 2, math.MaxUint64, 4), lay(5, 6, math.MaxUint64), lay(5, 1<<63, 1<<63, 5), lay(5, 1<<63, 1<<63+5), lay(4096, 4097), lay(64, 65), lay(5, 1<<32+5), lay(1<<32+5, 5),
		// Runs of length 0 where none may be.
		lay(5, 0, 0), lay(5, 0, 0, 5), lay(5, 0, 0, 0, 5), lay(5, 2, 0, 3), lay(5, 2, 0), lay(5, 2, 1, 0, 2), lay(5, 2, 3, 0), lay(5, 5, 0), lay(5, 0, 5, 0), lay(5, 5, 0, 0), lay(5, 0, 2, 0, 3),
	} {
		getFails(t, b)
	}
}

// P5.5: one byte too few, one too many, at either end, and bytes that are cut off anywhere.
func TestGetOfCutBytes(t *testing.T) {
	for _, m := range goodMaps() {
		b := laid(m)
		if len(b) > 400 {
			b = b[:len(b):len(b)]
			getFails(t, b[:len(b)-1])
			getFails(t, b[1:])
			getFails(t, append(b, 0))
			continue
		}
		for n := range b {
			getFails(t, b[:n])
		}
		for more := range 256 {
			getFails(t, append(slices.Clone(b), byte(more)))
		}
		getFails(t, append(slices.Clone(b), lay(1)...))
		getFails(t, append(slices.Clone(b), b...))
	}
}

// each tells all texts of letters up to a length.
func each(letters []byte, most int, tell func(b []byte)) {
	var extend func(b []byte)
	extend = func(b []byte) {
		tell(b)
		if len(b) == most {
			return
		}
		for _, c := range letters {
			extend(append(b[:len(b):len(b)], c))
		}
	}
	extend(nil)
}

// P5.5: of all bytes up to a length just those are got that are put of some map.
func TestGetOfAllShortBytes(t *testing.T) {
	good := map[string]Map{}
	for size := range 8 {
		for w := range 1 << size {
			m := of(size)
			for i := range m.Words {
				m.Words[i] = uint64(w)
			}
			good[string(laid(m))] = m
		}
	}
	// Of sizes of two bytes there is room for one run alone.
	for high := 1; high < 8; high++ {
		for low := range 8 {
			size := 256*high + low
			good[string(laid(of(size)))] = of(size)
			good[string(laid(full(size)))] = full(size)
		}
	}
	got := 0
	each([]byte{0, 1, 2, 3, 4, 5, 6, 7}, 7, func(b []byte) {
		m, e := Get(b)
		want, ok := good[string(b)]
		switch {
		case !ok && (e != api.ErrForm || m.Size != 0 || m.Words != nil):
			t.Errorf("Get(%x) = %s, %d; want ErrForm", b, short(m), int(e))
		case ok && (e != api.OK || m.Size != want.Size || !slices.Equal(m.Words, want.Words)):
			t.Errorf("Get(%x) = %s, %d; want %s", b, short(m), int(e), short(want))
		case ok:
			got++
		}
	})
	want := 0
	for b := range good {
		if len(b) <= 7 {
			want++
		}
	}
	if got != want {
		t.Errorf("%d maps were got, want %d", got, want)
	}
}

// P5.5: each byte changed to each other one: what is got is laid so.
func TestGetOfChangedBytes(t *testing.T) {
	for _, m := range []Map{of(5, 2, 3), full(65), mixed(130, 9, 1), mixed(700, 90, 2), mixed(4096, 900, 3)} {
		b := laid(m)
		for i := range b {
			for c := range 256 {
				x := slices.Clone(b)
				x[i] = byte(c)
				y, e := Get(x)
				if e != api.OK {
					getFails(t, x)
					continue
				}
				if Check(y) != api.OK || !bytes.Equal(laid(y), x) {
					t.Errorf("Get(%x) = %s", x, short(y))
				}
			}
		}
	}
}

// P5.5: Same asks for the fields alone, also of what Check refuses.
func TestSame(t *testing.T) {
	maps := append(goodMaps(), wrongMaps()...)
	for i, a := range maps {
		if !Same(a, copyOf(a)) {
			t.Errorf("Same(%s, itself) is false", short(a))
		}
		for _, b := range maps[i:] {
			want := a.Size == b.Size && slices.Equal(a.Words, b.Words)
			if Same(a, b) != want || Same(b, a) != want {
				t.Errorf("Same(%s, %s) is not %t", short(a), short(b), want)
			}
		}
	}
}

// P5.5: maps that differ in one thing.
func TestSameOfUnlikeMaps(t *testing.T) {
	for _, c := range []struct {
		a, b Map
		want bool
	}{
		{Map{}, Map{0, []uint64{}}, true},
		{of(5, 1), of(5, 1), true},
		{of(5), of(6), false},
		{of(5, 1), of(6, 1), false},
		{of(63), of(64), false},
		{of(5, 1), of(5, 2), false},
		{of(5, 1), of(5), false},
		{of(65, 64), of(65), false},
		{of(130, 129), of(130, 128), false},
		{of(0), of(1), false},
		{Map{-1, nil}, Map{-1, nil}, true},
		{Map{-1, nil}, Map{-2, nil}, false},
		{Map{3, []uint64{8}}, Map{3, []uint64{8}}, true},
		{Map{3, []uint64{8}}, Map{3, []uint64{0}}, false},
		{Map{3, []uint64{0}}, Map{3, nil}, false},
		{Map{3, []uint64{0}}, Map{3, []uint64{0, 0}}, false},
		{Map{9999, make([]uint64, 2)}, Map{9999, make([]uint64, 2)}, true},
	} {
		if Same(c.a, c.b) != c.want || Same(c.b, c.a) != c.want {
			t.Errorf("Same(%s, %s) is not %t", short(c.a), short(c.b), c.want)
		}
	}
}

// P5.6: Select of k is where Rank is k, and the other way round.
func TestRankAndSelect(t *testing.T) {
	for _, m := range goodMaps() {
		count := Rank(m, m.Size)
		for k := range count {
			n, ok := Select(m, k)
			if !ok || !Has(m, n) || Rank(m, n) != k || Rank(m, n+1) != k+1 {
				t.Fatalf("%s: Select(%d) = %d, %t, where Rank is %d", short(m), k, n, ok, Rank(m, n))
			}
		}
		if _, ok := Select(m, count); ok {
			t.Errorf("%s: Select(%d) is there", short(m), count)
		}
		for n, ok := Next(m, 0, true); ok; n, ok = Next(m, n+1, true) {
			if x, there := Select(m, Rank(m, n)); x != n || !there {
				t.Fatalf("%s: Select of Rank(%d) is %d", short(m), n, x)
			}
		}
	}
}

// P5.2, P5.3: what Check refuses, in the functions of one map.
func TestWrongMaps(t *testing.T) {
	for _, m := range wrongMaps() {
		kept := copyOf(m)
		for _, n := range append(numbers(3), numbers(65)...) {
			if Has(m, n) || Rank(m, n) != 0 {
				t.Errorf("Has, Rank(%s, %d) = %t, %d", short(m), n, Has(m, n), Rank(m, n))
			}
			x, ok := Select(m, n)
			found(t, "Select of "+short(m), x, ok, -1)
			for _, on := range []bool{false, true} {
				x, ok = Next(m, n, on)
				found(t, "Next of "+short(m), x, ok, -1)
				same(t, "Set of "+short(m), Set(m, n, on), kept)
			}
		}
		same(t, "what was given", m, kept)
	}
}

// spoil changes all that a map's words have, and their spare room.
func spoil(m Map) {
	all := m.Words[:cap(m.Words)]
	for i := range all {
		all[i] = ^all[i]
	}
}

// Rule 3: no function changes a map that it is given.
func TestArgumentsStay(t *testing.T) {
	for _, m := range append(goodMaps(), wrongMaps()...) {
		kept := copyOf(m)
		other := mixed(300, 4, 7)
		also := copyOf(other)
		for _, n := range []int{math.MinInt, -1, 0, 1, 2, 63, 64, m.Size - 1, m.Size, math.MaxInt} {
			Has(m, n)
			Set(m, n, true)
			Set(m, n, false)
			Next(m, n, true)
			Next(m, n, false)
			Rank(m, n)
			Select(m, n)
		}
		Check(m)
		Both(m, other)
		Both(other, m)
		Either(m, other)
		Either(other, m)
		Put(m)
		Same(m, other)
		same(t, "what was given", m, kept)
		same(t, "what was given beside it", other, also)
	}
	for _, b := range [][]byte{lay(5, 2, 2, 1), lay(5, 2, 2, 2), laid(mixed(300, 4, 7))} {
		kept := slices.Clone(b)
		Get(b)
		if !bytes.Equal(b, kept) {
			t.Errorf("%x was changed to %x", kept, b)
		}
	}
}

// Rule 3: an answer shares nothing with what was given, nor does its spare room.
func TestAnswersAreNew(t *testing.T) {
	for _, m := range append(goodMaps(), wrongMaps()...) {
		room := append(slices.Clone(m.Words), 1, 2, 3)
		given := Map{m.Size, room[:len(m.Words)]}
		kept := slices.Clone(room)
		for _, n := range []int{-1, 0, m.Size - 1, m.Size} {
			spoil(Set(given, n, true))
			spoil(Set(given, n, false))
		}
		for _, x := range []Map{given, {}, of(5, 1), full(4096)} {
			spoil(Both(given, x))
			spoil(Both(x, given))
			spoil(Either(given, x))
			spoil(Either(x, given))
		}
		if !slices.Equal(room, kept) {
			t.Errorf("%s was changed by what was done with an answer", short(m))
		}
		answer := Set(given, 0, true)
		want := copyOf(answer)
		spoil(given)
		same(t, "an answer", answer, want)
	}
}

// Rule 4: what is done with an answer changes no later one.
func TestAnswersAreAlike(t *testing.T) {
	for range 3 {
		m, _ := New(130)
		same(t, "New", m, of(130))
		spoil(m)
		b := lay(5, 2, 2, 1)
		x, e := Get(b)
		is(t, "Get", e, api.OK)
		same(t, "Get", x, of(5, 2, 3))
		spoil(x)
		clear(b)
		p, e := Put(of(5, 2, 3))
		is(t, "Put", e, api.OK)
		if !bytes.Equal(p, lay(5, 2, 2, 1)) {
			t.Errorf("%x", p)
		}
		clear(p[:cap(p)])
	}
}

// The runs may be left at any place, and are told anew from the first one on.
func TestRuns(t *testing.T) {
	m := of(10, 0, 1, 4, 9)
	want := []int{0, 2, 2, 1, 4, 1}
	if got := slices.Collect(m.runs()); !slices.Equal(got, want) {
		t.Errorf("%v, want %v", got, want)
	}
	for stop := range want {
		var got []int
		for n := range m.runs() {
			got = append(got, n)
			if len(got) > stop {
				break
			}
		}
		if !slices.Equal(got, want[:stop+1]) {
			t.Errorf("%v, want %v", got, want[:stop+1])
		}
	}
}

// P5.1 to P5.6: long scripts held against a list of numbers.
func TestScripts(t *testing.T) {
	for seed := range 40 {
		next := rule(uint32(seed))
		size := []int{1, 5, 63, 64, 65, 128, 200, 512}[seed%8]
		m, e := New(size)
		is(t, "New", e, api.OK)
		has := make([]bool, size)
		for range 300 {
			n, on := next()%(size+6)-3, next()%2 == 0
			m = Set(m, n, on)
			if 0 <= n && n < size {
				has[n] = on
			}
			at := next() % (size + 2)
			held(t, m, has, at)
		}
		b, e := Put(m)
		is(t, "Put", e, api.OK)
		gets(t, b, m)
	}
}

// held holds a map against a list, asked at a number.
func held(t *testing.T, m Map, has []bool, at int) {
	t.Helper()
	rank, after, gap := 0, -1, -1
	for n, on := range has {
		switch {
		case n < at && on:
			rank++
		case n >= at && on && after < 0:
			after = n
		case n >= at && !on && gap < 0:
			gap = n
		}
	}
	if Check(m) != api.OK || Has(m, at) != (at < len(has) && has[at]) || Rank(m, at) != rank {
		t.Fatalf("%s at %d: %d, %t, %d", short(m), at, int(Check(m)), Has(m, at), Rank(m, at))
	}
	n, ok := Next(m, at, true)
	found(t, "Next", n, ok, after)
	n, ok = Select(m, rank)
	found(t, "Select", n, ok, after)
	n, ok = Next(m, at, false)
	found(t, "Next of one that is not in", n, ok, gap)
}
