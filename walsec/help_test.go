package walsec

import (
	"bytes"
	"fmt"
	"math/big"
	"slices"
	"strings"
	"testing"

	"fascicle/api"
)

const maxEpoch = 1 << 40 // the greatest epoch

// rule makes numbers by a short rule, which differ from one seed to the next.
func rule(seed uint32) func() int {
	return func() int {
		seed = seed*1664525 + 1013904223
		return int(seed >> 16)
	}
}

// text makes a text of any bytes, by a short rule.
func text(n int, seed uint32) string {
	next := rule(seed)
	b := make([]byte, n)
	for i := range b {
		b[i] = byte(next())
	}
	return string(b)
}

// of makes texts of some lengths.
func of(lengths ...int) []string {
	var l []string
	for i, n := range lengths {
		l = append(l, text(n, uint32(100+7*i)))
	}
	return l
}

// times makes as many texts of a length.
func times(count, n int) []string {
	return of(slices.Repeat([]int{n}, count)...)
}

// stamp lays epoch times 256 and a place in eight bytes, the highest first; one below 0 as a number without a sign.
func stamp(epoch, at int) []byte {
	n := big.NewInt(int64(epoch))
	n.Mul(n, big.NewInt(256)).Add(n, big.NewInt(int64(at)))
	n.Mod(n, big.NewInt(0).Lsh(big.NewInt(1), 64))
	return n.FillBytes(make([]byte, 8))
}

// part lays texts one behind the other.
func part(l ...string) []byte {
	var b []byte
	for _, s := range l {
		b = append(append(b, byte(len(s))), s...)
	}
	return b
}

// between lays a sector of bytes at its ends, a number of used ones, and a part with zeros behind it.
func between(first, last []byte, used int, part []byte) []byte {
	zeros := make([]byte, 239-len(part))
	return slices.Concat(first, []byte{byte(used)}, part, zeros, last)
}

// sectorOf lays a sector as the chapter tells it, without the package's functions.
func sectorOf(epoch, at int, l ...string) []byte {
	p := part(l...)
	return between(stamp(epoch, at), stamp(epoch, at), len(p), p)
}

// parted tells the texts sector by sector, as the chapter's words say.
func parted(l []string) [][]string {
	var sectors [][]string
	for _, s := range l {
		last := len(sectors) - 1
		if last < 0 || len(part(sectors[last]...))+1+len(s) > 239 {
			sectors = append(sectors, []string{s})
			continue
		}
		sectors[last] = append(sectors[last], s)
	}
	return sectors
}

// logOf lays the sectors of texts, as the chapter's words say.
func logOf(epoch, from int, l []string) [][]byte {
	var sectors [][]byte
	for i, x := range parted(l) {
		sectors = append(sectors, sectorOf(epoch, from+i, x...))
	}
	return sectors
}

// read tells what Read is to tell, as the chapter's words say.
func read(b []byte, epoch, at int) ([]string, bool) {
	if len(b) != 256 || epoch < 1 || epoch > maxEpoch || at < 0 || at > 255 {
		return nil, false
	}
	if !bytes.Equal(b[:8], stamp(epoch, at)) || !bytes.Equal(b[248:], stamp(epoch, at)) {
		return nil, false
	}
	used, l, i := int(b[8]), []string(nil), 0
	for i < used && used <= 239 {
		n := int(b[9+i])
		if i+1+n > used {
			return nil, false
		}
		l = append(l, string(b[9+i+1:9+i+1+n]))
		i += 1 + n
	}
	for ; i < 239; i++ {
		if b[9+i] != 0 {
			return nil, false
		}
	}
	return l, len(l) > 0
}

// scan tells what Scan is to tell, as the chapter's words say.
func scan(l [][]byte, epoch int) ([]string, int) {
	var all []string
	n := 0
	for n < len(l) && n < 256 {
		x, ok := read(l[n], epoch, n)
		if !ok {
			break
		}
		all = append(all, x...)
		n++
	}
	return all, n
}

// brief tells texts by their lengths and beginnings.
func brief(l []string) string {
	var s []string
	for _, x := range l {
		s = append(s, fmt.Sprintf("%d:%.4x", len(x), x))
	}
	if len(s) > 12 {
		s = append(s[:12], fmt.Sprint("and so on: ", len(l)))
	}
	return strings.Join(s, " ")
}

// same tells whether sectors have the same bytes.
func same(a, b [][]byte) bool {
	return slices.EqualFunc(a, b, bytes.Equal)
}

// copyOf tells sectors of their own.
func copyOf(l [][]byte) [][]byte {
	var c [][]byte
	for _, b := range l {
		c = append(c, bytes.Clone(b))
	}
	return c
}

// with tells sectors of which one is another.
func with(l [][]byte, i int, b []byte) [][]byte {
	c := copyOf(l)
	c[i] = b
	return c
}

// changed tells a sector of which one byte is another.
func changed(b []byte, at int, x byte) []byte {
	c := bytes.Clone(b)
	c[at] = x
	return c
}

// torn tells a sector of the first n bytes of one, and the last ones of another.
func torn(n int, fresh, old []byte) []byte {
	return slices.Concat(fresh[:n], old[n:])
}

// packs asks for the sectors of texts.
func packs(t *testing.T, epoch, from int, l []string) {
	t.Helper()
	got, e := Pack(epoch, from, l)
	if e != api.OK {
		t.Errorf("Pack(%d, %d, %s): %d", epoch, from, brief(l), int(e))
	}
	if want := logOf(epoch, from, l); !same(got, want) {
		t.Errorf("Pack(%d, %d, %s) = %x, want %x", epoch, from, brief(l), got, want)
	}
}

// packFails asks for an error, and no sectors.
func packFails(t *testing.T, epoch, from int, l []string, want api.Errno) {
	t.Helper()
	if got, e := Pack(epoch, from, l); len(got) != 0 || e != want {
		t.Errorf("Pack(%d, %d, %s) = %d sectors, %d; want %d", epoch, from, brief(l), len(got), int(e), int(want))
	}
}

// parts asks for how many sectors texts go into.
func parts(t *testing.T, l []string, want int) {
	t.Helper()
	if n := Parts(l); n != want {
		t.Errorf("Parts(%s) = %d, want %d", brief(l), n, want)
	}
}

// reads asks for the texts of a sector.
func reads(t *testing.T, what string, b []byte, epoch, at int, want ...string) {
	t.Helper()
	if l, ok := Read(b, epoch, at); !slices.Equal(l, want) || !ok {
		t.Errorf("%s: Read(%d, %d) = %s, %t; want %s", what, epoch, at, brief(l), ok, brief(want))
	}
}

// readsNone asks for no texts.
func readsNone(t *testing.T, what string, b []byte, epoch, at int) {
	t.Helper()
	if l, ok := Read(b, epoch, at); len(l) != 0 || ok {
		t.Errorf("%s: Read(%d, %d) = %s, %t", what, epoch, at, brief(l), ok)
	}
}

// readsAsTheWordsSay asks for what the chapter's words tell of a sector.
func readsAsTheWordsSay(t *testing.T, what string, b []byte, epoch, at int) {
	t.Helper()
	if l, ok := read(b, epoch, at); ok {
		reads(t, what, b, epoch, at, l...)
	} else {
		readsNone(t, what, b, epoch, at)
	}
}

// scans asks for the texts of sectors, and how many these are.
func scans(t *testing.T, what string, l [][]byte, epoch int, want []string, sectors int) {
	t.Helper()
	if got, n := Scan(l, epoch); !slices.Equal(got, want) || n != sectors {
		t.Errorf("%s: Scan(%d) = %s, %d; want %s, %d", what, epoch, brief(got), n, brief(want), sectors)
	}
}
