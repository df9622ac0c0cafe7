package wal

import (
	"fmt"
	"slices"
	"testing"

	"fascicle/api"
	"fascicle/sector"
)

// plain is a log as the chapter's words tell it.
type plain struct {
	count, epoch   int
	records, waits []string
	written        int
	closed, bad    bool
}

// looks tells what the log tells of itself.
func (p *plain) looks() looks {
	left := p.count - p.written
	if p.closed {
		left = 0
	}
	return looks{records: p.records, waits: p.waits, epoch: p.epoch, left: left, closed: p.closed, bad: p.bad}
}

// add tells what Add is to tell.
func (p *plain) add(s string) api.Errno {
	waits := append(slices.Clone(p.waits), s)
	switch {
	case p.bad || p.closed:
		return api.ErrState
	case len(s) > 238:
		return api.ErrTooBig
	case len(parted(waits)) > p.count-p.written:
		return api.ErrFull
	}
	p.waits = waits
	return api.OK
}

// sync tells what Sync is to tell, of a disk that does not fail.
func (p *plain) sync() api.Errno {
	if p.bad || p.closed {
		return api.ErrState
	}
	p.written += len(parted(p.waits))
	p.records, p.waits = slices.Concat(p.records, p.waits), nil
	return api.OK
}

// restart tells what Restart is to tell.
func (p *plain) restart(epoch int) api.Errno {
	switch {
	case p.bad:
		return api.ErrState
	case epoch <= p.epoch:
		return api.ErrOrder
	case epoch > maxEpoch:
		return api.ErrRange
	}
	*p = plain{count: p.count, epoch: epoch}
	return api.OK
}

// lengths are those of a script's texts.
func lengths() []int {
	return []int{0, 1, 2, 20, 60, 100, 118, 119, 120, 200, 236, 237, 238, 239}
}

// ring is where a log stands on its disk.
type ring struct {
	first, count int
}

// has tells what the ring's sectors have.
func (r ring) has(t *testing.T, d *sector.Disk) [][]byte {
	t.Helper()
	return whole(t, d)[r.first : r.first+r.count]
}

// found opens a ring behind a loss of power: it is to have a beginning of what was added, at least what was synced, and what the sectors say.
func (r ring) found(t *testing.T, what string, d *sector.Disk, p *plain) *Log {
	t.Helper()
	was := lookAt(t, d)
	l := open(t, d, r.first, r.count, p.epoch)
	told, all := l.Records(), slices.Concat(p.records, p.waits)
	if len(told) < len(p.records) || len(told) > len(all) || !slices.Equal(told, all[:len(told)]) {
		t.Errorf("%s: %s; synced %s, waiting %s", what, brief(told), brief(p.records), brief(p.waits))
	}
	looksLike(t, what, l, looks{records: scan(r.has(t, d), p.epoch), epoch: p.epoch, closed: true})
	untouched(t, what, d, was)
	return l
}

// goesOn asks a log that was opened behind a loss of power for a further epoch, which has nothing of what was there.
func (r ring) goesOn(t *testing.T, what string, d *sector.Disk, l *Log) {
	t.Helper()
	epoch := l.Epoch() + 1
	must(t, "Restart", l.Restart(epoch))
	looksLike(t, what, l, looks{epoch: epoch, left: r.count})
	looksLike(t, what, open(t, d, r.first, r.count, epoch), looks{epoch: epoch, closed: true})
	add(t, l, "next")
	must(t, "Sync", l.Sync())
	looksLike(t, what, open(t, d, r.first, r.count, epoch), looks{records: []string{"next"}, epoch: epoch, closed: true})
}

// elder makes disks whose rings have logs of elder epochs, or none.
func (r ring) elder(t *testing.T, epoch int, texts []string) []*sector.Disk {
	t.Helper()
	disks := []*sector.Disk{sector.New(r.first + r.count)}
	for _, back := range []int{1, 2, 256, 257} {
		// The same texts as those to come, and others.
		for _, l := range [][]string{texts, times(r.count, 238)} {
			d := sector.New(r.first + r.count)
			x := begin(t, d, r.first, r.count, epoch-back)
			add(t, x, l...)
			must(t, "Sync", x.Sync())
			disks = append(disks, d)
		}
	}
	// One over the other, so that the ring has sectors of three epochs.
	d := sector.New(r.first + r.count)
	x := begin(t, d, r.first, r.count, epoch-3)
	for i, l := range [][]string{times(r.count, 238), times(3, 237), times(1, 100)} {
		add(t, x, l...)
		must(t, "Sync", x.Sync())
		must(t, "Restart", x.Restart(epoch-2+i))
	}
	return append(disks, d)
}

// fatesOf tells all fates of three sectors that are each lost, kept, or torn behind n bytes.
func fatesOf(n int) [][]byte {
	var l [][]byte
	for c := range 27 {
		var f []byte
		for range 3 {
			f = append(f, [][]byte{{0}, {2}, {3, byte(n)}}[c%3]...)
			c /= 3
		}
		l = append(l, f)
	}
	return l
}

// P10.6: the power fails ahead of a Sync, within it at each call, done or not, and behind it; what waits is lost, kept, or torn at many places.
func TestCutSyncs(t *testing.T) {
	r := ring{first: 2, count: 6}
	first, more := []string{"a", text(230, 5), "b", "c"}, []string{text(100, 1), text(100, 2), text(238, 3), "", "d"}
	for _, epoch := range []int{300, 0x0102030405} {
		for i, old := range r.elder(t, epoch, slices.Concat(first, more)) {
			for after := -1; after <= 4; after++ {
				for _, done := range []bool{false, true} {
					what := fmt.Sprintf("the epoch %d, the elder ring %d, the call %d, done %t", epoch, i, after, done)
					d, p := r.cut(t, old.Fork(), epoch, first, more, after, done)
					r.fates(t, what, d, p)
					if t.Failed() {
						t.Fatal(what)
					}
				}
			}
		}
	}
}

// cut makes a log whose second Sync fails at one of its calls (-1: it is not begun; behind the last one: it is done).
func (r ring) cut(t *testing.T, d *sector.Disk, epoch int, first, more []string, after int, done bool) (*sector.Disk, *plain) {
	t.Helper()
	l, p := begin(t, d, r.first, r.count, epoch), &plain{count: r.count, epoch: epoch}
	add(t, l, first...)
	p.waits = first
	must(t, "Sync", l.Sync())
	p.sync()
	add(t, l, more...)
	p.waits = more
	calls := len(parted(more)) + 1
	switch {
	case after < 0:
	case after < calls:
		must(t, "Break", d.Break(after, done))
		is(t, "Sync", l.Sync(), api.ErrDown)
		p.bad = true
	default:
		must(t, "Sync", l.Sync())
		p.sync()
	}
	looksLike(t, "cut", l, p.looks())
	return d, p
}

// fates asks for what is found behind many losses of power.
func (r ring) fates(t *testing.T, what string, d *sector.Disk, p *plain) {
	t.Helper()
	for _, n := range []int{0, 1, 5, 6, 7, 8, 9, 10, 11, 100, 247, 248, 249, 254, 255} {
		for _, fates := range fatesOf(n) {
			f := powered(d, fates)
			l := r.found(t, what, f, p)
			r.goesOn(t, what, f, l)
		}
	}
}

// P10.6: of a Sync that has done all but the disk's, just the sectors up to the first one that is not whole are told.
func TestFates(t *testing.T) {
	r := ring{first: 1, count: 4}
	d := sector.New(5)
	l := begin(t, d, 1, 4, 3)
	add(t, l, "a")
	must(t, "Sync", l.Sync())
	texts := times(3, 200)
	add(t, l, texts...)
	must(t, "Break", d.Break(3, false))
	is(t, "Sync", l.Sync(), api.ErrDown)
	for _, c := range []struct {
		fates []byte
		want  int
	}{
		{nil, 0}, {[]byte{2}, 1}, {[]byte{2, 2}, 2}, {[]byte{2, 2, 2}, 3}, {[]byte{0, 2, 2}, 0}, {[]byte{2, 1, 2}, 1}, {[]byte{2, 2, 0}, 2},
		{[]byte{3, 255, 2, 2}, 0}, {[]byte{2, 3, 100, 2}, 1}, {[]byte{2, 2, 3, 248}, 2},
	} {
		f := powered(d, c.fates)
		want := append([]string{"a"}, texts[:c.want]...)
		looksLike(t, fmt.Sprint(c.fates), open(t, f, 1, 4, 3), looks{records: want, epoch: 3, closed: true})
		r.goesOn(t, fmt.Sprint(c.fates), f, open(t, f, 1, 4, 3))
	}
}

// rounds does a script of adds, syncs and restarts, till the disk fails: it tells what the log has then.
func rounds(t *testing.T, l *Log, p *plain) {
	t.Helper()
	for round := range 4 {
		for i := range 3 {
			for _, s := range times(1+(round+i)%3, 60+70*i) {
				is(t, "Add", l.Add(s), p.add(s))
			}
			if e := l.Sync(); e != api.OK {
				is(t, "Sync", e, api.ErrDown)
				p.bad = true
				looksLike(t, "bad", l, p.looks())
				return
			}
			p.sync()
			looksLike(t, "synced", l, p.looks())
		}
		epoch := l.Epoch() + 1 + 255*(round%2)
		is(t, "Restart", l.Restart(epoch), p.restart(epoch))
	}
}

// P10.6: the power fails at each call of a script with epochs that rise, twice, one behind the other.
func TestEachCall(t *testing.T) {
	r := ring{first: 1, count: 7}
	for _, done := range []bool{false, true} {
		for after := range 60 {
			for seed := range uint32(6) {
				d := sector.New(8)
				l, p := begin(t, d, 1, 7, 9), &plain{count: 7, epoch: 9}
				must(t, "Break", d.Break(after, done))
				rounds(t, l, p)
				d.Power([]byte(text(20, 100*seed+uint32(after))))
				what := fmt.Sprintf("the call %d, done %t, the seed %d", after, done, seed)
				l = r.found(t, what, d, p)
				must(t, "Restart", l.Restart(p.epoch+1))
				p = &plain{count: 7, epoch: p.epoch + 1}
				must(t, "Break", d.Break((5*after+int(seed))%45, !done))
				rounds(t, l, p)
				d.Power([]byte(text(20, 200*seed+uint32(after))))
				l = r.found(t, what+", twice", d, p)
				r.goesOn(t, what, d, l)
				if t.Failed() {
					t.Fatal(what)
				}
			}
		}
	}
}

// step does one call of a script, on a log and on a plain one, unless the disk fails within it.
func step(t *testing.T, d *sector.Disk, l *Log, p *plain, next func() int) {
	t.Helper()
	switch next() % 8 {
	case 0, 1:
		got := l.Sync()
		if d.Off() && len(p.waits) > 0 && !p.bad {
			is(t, "Sync of a disk that fails", got, api.ErrDown)
			p.bad = true
			break
		}
		is(t, "Sync", got, p.sync())
	case 2:
		epoch := p.epoch - 2 + next()%9
		if next()%3 > 0 {
			epoch = p.epoch
		}
		is(t, "Restart", l.Restart(epoch), p.restart(epoch))
	default:
		s := text(lengths()[next()%len(lengths())], uint32(next()))
		is(t, "Add", l.Add(s), p.add(s))
	}
	looksLike(t, "behind a call", l, p.looks())
}

// P10.1 to P10.6: long scripts upon a disk whose power fails at any call; each time the ring is opened again, and a further epoch goes on from there. Each now and then a fork upon a disk of its own takes over.
func TestScripts(t *testing.T) {
	for seed := range uint32(400) {
		next := rule(seed)
		r := ring{first: next() % 3, count: []int{0, 1, 2, 3, 5, 8, 13}[next()%7]}
		d := sector.New(r.first + r.count + next()%2)
		p := &plain{count: r.count, epoch: []int{3, 250, 1 << 33, maxEpoch - 400}[next()%4]}
		l := begin(t, d, r.first, r.count, p.epoch)
		for range 8 {
			if next()%4 > 0 {
				must(t, "Break", d.Break(next()%(2*r.count+2), next()%2 == 0))
			}
			for range next() % 50 {
				step(t, d, l, p, next)
				if next()%16 == 0 {
					elder := l
					l = l.Fork(d.Fork())
					d = d.Fork()
					l = l.Fork(d)
					elder.Add("elder")
				}
			}
			d.Power([]byte(text(40, uint32(next()))))
			l = r.found(t, fmt.Sprint("the script ", seed), d, p)
			closed := &plain{count: r.count, epoch: p.epoch, records: l.Records(), closed: true}
			for range next() % 5 {
				step(t, d, l, closed, next)
			}
			p = closed
			if p.closed && next()%2 == 0 {
				is(t, "Restart", l.Restart(p.epoch+1), p.restart(p.epoch+1))
			} else if p.closed {
				p = &plain{count: r.count, epoch: p.epoch + 1 + next()%3}
				l = begin(t, d, r.first, r.count, p.epoch)
			}
			if t.Failed() {
				t.Fatal("the script ", seed)
			}
		}
	}
}
