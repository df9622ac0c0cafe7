package store

import (
	"bytes"
	"maps"
	"math/big"
	"slices"
	"testing"

	"fascicle/api"
	"fascicle/crcb"
	"fascicle/sector"
)

// plain is a store as the chapter's words tell it: nothing but sets and bytes.
type plain struct {
	log, count int
	used       map[int]bool
	counts     map[int]bool
	body       string
	gen        int
	place      int
	bad        bool
	blocks     map[int]string // what was written to each block
	torn       map[int]bool   // blocks of which nobody knows what they have
}

// fresh tells a store that was formatted upon a fresh disk.
func fresh(log, count int) *plain {
	return &plain{log: log, count: count, used: map[int]bool{}, counts: map[int]bool{}, gen: 1, blocks: map[int]string{}, torn: map[int]bool{}}
}

// room tells how many blocks are in neither map, and the lowest of them.
func (p *plain) room() (int, int) {
	room, lowest := 0, 0
	for n := p.count - 1; n >= 0; n-- {
		if !p.used[n] && !p.counts[n] {
			room, lowest = room+1, n
		}
	}
	return room, lowest
}

// looks tells what the store tells of itself.
func (p *plain) looks() looks {
	room, _ := p.room()
	return looks{body: p.body, size: p.count, room: room, used: slices.Sorted(maps.Keys(p.used)), gen: p.gen, first: 8, log: p.log, bad: p.bad}
}

// alloc tells what Alloc is to tell.
func (p *plain) alloc() (int, api.Errno) {
	room, lowest := p.room()
	if room == 0 {
		return 0, api.ErrFull
	}
	p.used[lowest] = true
	return lowest, api.OK
}

// write tells what Write is to tell.
func (p *plain) write(n int, body string) api.Errno {
	switch {
	case !p.used[n]:
		return api.ErrNone
	case p.counts[n]:
		return api.ErrState
	case len(body) > 1016:
		return api.ErrTooBig
	}
	p.blocks[n] = body
	delete(p.torn, n)
	return api.OK
}

// read tells what Read is to tell.
func (p *plain) read(n int) (string, api.Errno) {
	b, written := p.blocks[n]
	switch {
	case !p.used[n]:
		return "", api.ErrNone
	case !written:
		return "", api.ErrSum
	}
	return b, api.OK
}

// free tells what Free is to tell.
func (p *plain) free(n int) api.Errno {
	if !p.used[n] {
		return api.ErrNone
	}
	delete(p.used, n)
	return api.OK
}

// commit tells what Commit is to tell, by the greatest generation that was seen.
func (p *plain) commit(body string, seen int) api.Errno {
	if len(body) > 700 {
		return api.ErrTooBig
	}
	p.counts, p.body, p.gen, p.place = maps.Clone(p.used), body, max(p.gen, seen)+1, 1-p.place
	return api.OK
}

// forget does what Forget does.
func (p *plain) forget() {
	p.used = maps.Clone(p.counts)
}

// clone tells one of its own.
func (p *plain) clone() *plain {
	q := *p
	q.used, q.counts, q.blocks, q.torn = maps.Clone(p.used), maps.Clone(p.counts), maps.Clone(p.blocks), maps.Clone(p.torn)
	return &q
}

// slot tells what the slot has of which this is the last Commit.
func (p *plain) slot() []byte {
	return slotOf(p.gen, laid(p.log, p.count, []byte(p.body), slices.Sorted(maps.Keys(p.counts))...))
}

// reopen does what a loss of power and Open do.
func (p *plain) reopen() {
	p.forget()
	p.bad = false
	for n := range p.count {
		if !p.counts[n] {
			p.torn[n] = true
		}
	}
}

// step does one call of a script, on a store and on a plain one, unless the disk fails within it; it tells the plain one that a Commit under way would make.
func step(t *testing.T, d *sector.Disk, s *Store, p *plain, next func() int) *plain {
	t.Helper()
	n := next()%(p.count+2) - 1
	body := string(many([]int{0, 1, 10, 600, 700, 701, 1016, 1017}[next()%8], uint32(next())))
	var after *plain
	q := p.clone()
	var got, want api.Errno
	switch next() % 16 {
	case 0, 1, 2, 3:
		var k, m int
		k, want = q.alloc()
		if m, got = s.Alloc(); m != k {
			t.Errorf("Alloc = %d, want %d", m, k)
		}
	case 4, 5, 6, 7:
		want, got = q.write(n, body), s.Write(n, []byte(body))
	case 8, 9:
		want, got = q.free(n), s.Free(n)
	case 10, 11:
		if q.used[n] && q.torn[n] {
			s.Read(n)
			break
		}
		var a, b string
		a, want = q.read(n)
		if b, got = readText(s, n); a != b {
			t.Errorf("Read(%d) = %d bytes, want %d", n, len(b), len(a))
		}
	case 12, 13, 14:
		want = q.commit(body, greatest(t, d))
		after = q
		got = s.Commit([]byte(body))
	default:
		q.forget()
		got = s.Forget()
	}
	if d.Off() {
		is(t, "a call under way", got, api.ErrDown)
		p.bad = true
		looksLike(t, "under way", s, p.looks())
		return after
	}
	is(t, "a call", got, want)
	if want == api.OK {
		*p = *q
	}
	looksLike(t, "behind a call", s, p.looks())
	return nil
}

// readText tells a block's body as a text.
func readText(s *Store, n int) (string, api.Errno) {
	b, e := s.Read(n)
	return string(b), e
}

// greatest tells the greatest generation at either end of a slot's sector.
func greatest(t *testing.T, d *sector.Disk) int {
	t.Helper()
	most := 0
	for n := range 8 {
		b := raw(t, d, n, 1)
		for _, end := range [][]byte{b[:8], b[248:]} {
			if g := big.NewInt(0).SetBytes(end); g.Cmp(big.NewInt(maxGen)) <= 0 {
				most = max(most, int(g.Int64()))
			}
		}
	}
	return most
}

// P7.2, P7.3, P7.4, P7.5: long scripts upon a disk that does not fail.
func TestScripts(t *testing.T) {
	for seed := range uint32(60) {
		next := rule(seed)
		count, log := 4+next()%8, next()%20
		d := sector.New(8 + log + 4*count + next()%4)
		s, e := Format(d, log)
		must(t, "Format", e)
		p := fresh(log, count)
		for range 200 {
			step(t, d, s, p, next)
			if next()%40 == 0 {
				s = open(t, d)
				p.forget()
			}
			if t.Failed() {
				t.Fatal("the script ", seed)
			}
		}
	}
}

// blocksOf tells what the sectors of those blocks have that count.
func blocksOf(t *testing.T, d *sector.Disk, p *plain) map[int]string {
	t.Helper()
	l := map[int]string{}
	for n := range p.counts {
		l[n] = string(raw(t, d, 8+p.log+4*n, 4))
	}
	return l
}

// unwritten asks that no sector waits of a block that counts, nor of the slot that does.
func unwritten(t *testing.T, d *sector.Disk, p *plain) {
	t.Helper()
	for _, n := range d.Waits() {
		if n/4 == p.place || n >= 8+p.log && p.counts[(n-8-p.log)/4] {
			t.Errorf("the sector %d counts, and was written", n)
		}
		if n >= 8 && n < 8+p.log {
			t.Errorf("the sector %d is the log's, and was written", n)
		}
	}
}

// found opens a disk behind a loss of power: it is to have what p tells with those blocks; or after, if that is there, and its slot is whole. It tells which.
func found(t *testing.T, d *sector.Disk, p, after *plain, kept, blocks map[int]string) (*Store, *plain) {
	t.Helper()
	if after != nil && bytes.Equal(raw(t, d, 4*after.place, 4), after.slot()) {
		p, kept = after, blocks
	}
	p = p.clone()
	p.reopen()
	s, e := Open(d)
	must(t, "Open behind a loss of power", e)
	looksLike(t, "opened", s, p.looks())
	if !maps.Equal(blocksOf(t, d, p), kept) {
		t.Error("a block that counts is not as it was")
	}
	for n, b := range kept {
		if want, e := crcb.Open([]byte(b), 1024); e == api.OK {
			reads(t, s, n, want)
		} else {
			readFails(t, s, n, e)
		}
	}
	return s, p
}

// P7.6: long scripts upon a disk that fails, at any call; each time it is opened again, and goes on from there.
func TestScriptsThatFail(t *testing.T) {
	for seed := range uint32(150) {
		next := rule(seed)
		count, log := 4+next()%8, next()%20
		d := sector.New(8 + log + 4*count)
		s, e := Format(d, log)
		must(t, "Format", e)
		p := fresh(log, count)
		for range 8 {
			var after *plain
			var blocks map[int]string
			kept := blocksOf(t, d, p)
			if next()%8 > 0 {
				must(t, "Break", d.Break(next()%60, next()%2 == 0))
			}
			for range 40 {
				gen := p.gen
				if after = step(t, d, s, p, next); d.Off() {
					break
				}
				unwritten(t, d, p)
				if p.gen > gen {
					kept = blocksOf(t, d, p)
				}
			}
			unwritten(t, d, p)
			var fates []byte
			for range 40 {
				fates = append(fates, byte(next()))
			}
			if next()%3 == 0 {
				fates = allKept()
			}
			if after != nil {
				blocks = blocksOf(t, powered(d, allKept()), after)
			}
			d.Power(fates)
			s, p = found(t, d, p, after, kept, blocks)
			if t.Failed() {
				t.Fatal("the script ", seed)
			}
		}
	}
}

// fatesOf tells all fates of four sectors that are each lost, kept, or torn behind n bytes.
func fatesOf(n int) [][]byte {
	var l [][]byte
	for c := range 81 {
		var f []byte
		for range 4 {
			f = append(f, [][]byte{{0}, {2}, {3, byte(n)}}[c%3]...)
			c /= 3
		}
		l = append(l, f)
	}
	return l
}

// cut is a store whose third Commit fails at one of its calls: of a disk, what the plain one has without it, and with it.
func cut(t *testing.T, after int, done bool) (*sector.Disk, *plain, *plain) {
	t.Helper()
	d, s := mixed(t)
	must(t, "Commit", s.Commit(many(600, 1)))
	must(t, "Free", s.Free(0))
	for _, n := range []int{2, 3} {
		allocs(t, s, n)
		must(t, "Write", s.Write(n, many(900+n, uint32(n))))
	}
	p := fresh(5, 8)
	p.body, p.gen, p.counts = string(many(600, 1)), 3, map[int]bool{0: true, 1: true, 4: true, 5: true}
	q := p.clone()
	q.body, q.gen, q.place, q.counts = string(many(650, 2)), 4, 1, map[int]bool{1: true, 2: true, 3: true, 4: true, 5: true}
	must(t, "Break", d.Break(after, done))
	is(t, "Commit", s.Commit([]byte(q.body)), api.ErrDown)
	return d, p, q
}

// P7.6: a Commit is cut off at each of its calls, done or not, and what waits is lost, kept, or torn at many places.
func TestCutCommits(t *testing.T) {
	for after := range 6 {
		for _, done := range []bool{false, true} {
			d, p, q := cut(t, after, done)
			kept, blocks := blocksOf(t, powered(d, nil), p), blocksOf(t, powered(d, allKept()), q)
			for _, n := range []int{0, 1, 7, 8, 9, 100, 248, 249, 255} {
				for _, fates := range fatesOf(n) {
					// Twice, for the eight sectors of two blocks may wait.
					f := powered(d, slices.Concat(fates, fates))
					s, r := found(t, f, p, q, kept, blocks)
					goesOn(t, f, s, r)
					if t.Failed() {
						t.Fatal(after, done, fates)
					}
				}
			}
		}
	}
}

// goesOn asks a store that was opened behind a loss of power for a further Commit, of a generation above all that was seen.
func goesOn(t *testing.T, d *sector.Disk, s *Store, p *plain) {
	t.Helper()
	n, want := p.alloc()
	allocs(t, s, n)
	is(t, "Write", s.Write(n, []byte("next")), want)
	is(t, "Free", s.Free(1), p.free(1))
	want = p.commit("next", greatest(t, d))
	is(t, "Commit", s.Commit([]byte("next")), want)
	looksLike(t, "a further Commit", s, p.looks())
	o := open(t, d)
	looksLike(t, "opened", o, p.looks())
	reads(t, o, n, []byte("next"))
}

// P7.6: a cut off Commit is followed by one that is cut off, too, so that a slot has sectors of three writings.
func TestCommitsThatAreCutTwice(t *testing.T) {
	for after := range 6 {
		d, p, q := cut(t, 1+after%5, after%2 == 0)
		kept, blocks := blocksOf(t, powered(d, nil), p), blocksOf(t, powered(d, allKept()), q)
		for i, fates := range fatesOf(8 + 16*after) {
			f := powered(d, fates)
			s, r := found(t, f, p, q, kept, blocks)
			was := blocksOf(t, f, r)
			x := r.clone()
			must(t, "Free", s.Free(5))
			x.free(5)
			x.commit("twice", greatest(t, f))
			must(t, "Break", f.Break(i%6, i%2 == 0))
			is(t, "Commit", s.Commit([]byte("twice")), api.ErrDown)
			will := blocksOf(t, powered(f, allKept()), x)
			for k, fates := range fatesOf(i) {
				// Not all pairs of fates, so that the test ends soon.
				if (i+k)%6 > 0 {
					continue
				}
				g := powered(f, fates)
				o, _ := found(t, g, r, x, was, will)
				if e := o.Commit(nil); e != api.OK || o.Gen() <= x.gen && bytes.Equal(raw(t, g, 4*x.place, 4), x.slot()) {
					t.Error("a further Commit", int(e), o.Gen())
				}
				if t.Failed() {
					t.Fatal(after, i, fates)
				}
			}
		}
	}
}

// P7.6: a block that was freed, and that a Commit has left out, is written anew without harm to any.
func TestBlocksAreChangedBesideThemselves(t *testing.T) {
	d, s := format(t, 24, 0)
	// One block is used at a time, by turns the first two.
	for i := range 20 {
		n, e := s.Alloc()
		must(t, "Alloc", e)
		must(t, "Write", s.Write(n, many(1000, uint32(i))))
		if i > 0 {
			must(t, "Free", s.Free(1-n))
			reads(t, open(t, powered(d, allKept())), 1-n, many(1000, uint32(i-1)))
			reads(t, open(t, powered(d, nil)), 1-n, many(1000, uint32(i-1)))
		}
		must(t, "Commit", s.Commit([]byte{byte(i)}))
		o := open(t, powered(d, nil))
		looksLike(t, "opened", o, looks{body: string([]byte{byte(i)}), size: 4, room: 3, used: []int{i % 2}, gen: i + 2, first: 8})
		reads(t, o, i%2, many(1000, uint32(i)))
	}
}

// powered tells a disk of its own behind a loss of power.
func powered(d *sector.Disk, fates []byte) *sector.Disk {
	f := d.Fork()
	f.Power(fates)
	return f
}
