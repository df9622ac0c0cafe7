package visible

import (
	"math"
	"slices"
	"testing"

	"fascicle/api"
	"fascicle/stack"
)

// Example 1 of the chapter: 1 at 5, 2 at 8 Gone, and 3 pending.
func TestExample(t *testing.T) {
	s := of(at(1, 5, "a"), goneAt(2, 8), waits(3, "c"))
	for _, c := range []struct {
		me, at int
		value  string
		ok     bool
	}{{0, 7, "a", true}, {0, 9, "", false}, {3, 7, "c", true}} {
		if v, ok := Read(s, c.me, c.at); v != c.value || ok != c.ok {
			t.Errorf("%d at %d: %q, %t; want %q, %t", c.me, c.at, v, ok, c.value, c.ok)
		}
	}
}

// P13.1: nothing is seen where there is nothing.
func TestSeesOfNoVersion(t *testing.T) {
	for _, s := range []api.Stack{{}, of(), keyed("a key that is longer than it may be")} {
		for _, me := range append(append(low(), high()...), 0, 1, maxNum) {
			for _, at := range append(append(low(), high()...), 0, 1, maxNum) {
				sees(t, s, me, at, -1)
			}
		}
	}
}

// P13.1: what is pending is seen by its own transaction alone, whatever the time.
func TestSeesPending(t *testing.T) {
	s := of(waits(0, "zero"), waits(1, "a"), goes(2), waits(3, ""), waits(maxNum, "z"))
	for _, at := range append(append(low(), high()...), 0, 1, 9, maxNum) {
		sees(t, s, 0, at, 0)
		sees(t, s, 1, at, 1)
		sees(t, s, 2, at, 2)
		sees(t, s, 3, at, 3)
		sees(t, s, maxNum, at, 4)
		for _, me := range append(append(low(), high()...), 4, maxNum-1) {
			sees(t, s, me, at, -1)
		}
	}
}

// P13.1: of several pending versions of one transaction the first one is seen.
func TestSeesFirstPending(t *testing.T) {
	s := of(at(1, 5, "a"), waits(1, "b"), waits(2, "c"), goes(1), goes(3), waits(3, "d"), waits(2, "e"))
	for _, at := range []int{-1, 0, 4, 5, 6, maxNum} {
		sees(t, s, 1, at, 1)
		sees(t, s, 2, at, 2)
		sees(t, s, 3, at, 4)
	}
	sees(t, s, 4, 4, -1)
	sees(t, s, 4, 5, 0)
}

// P13.1: who is below 0 is nobody, and has no pending version, even if the stack has one of that number.
func TestSeesAsNobody(t *testing.T) {
	s := of(at(1, 5, "a"), waits(-1, "b"), waits(0, "c"), waits(math.MinInt, "d"), at(-1, 7, "e"))
	for _, me := range low() {
		sees(t, s, me, -1, -1)
		sees(t, s, me, 0, -1)
		sees(t, s, me, 4, -1)
		sees(t, s, me, 5, 0)
		sees(t, s, me, 6, 0)
		sees(t, s, me, 7, 4)
	}
	sees(t, s, 0, 6, 2)
}

// P13.1: what committed is seen from its time on, until the next one; who wrote it has no part in it.
func TestSeesCommitted(t *testing.T) {
	s := of(at(4, 1, "a"), at(2, 3, "b"), goneAt(3, 6), at(1, 9, ""), at(5, maxNum, "e"), waits(6, "f"), goes(7))
	for _, me := range []int{math.MinInt, -1, 0, 1, 2, 3, 4, 5, 8, maxNum, math.MaxInt} {
		for at, want := range []int{-1, 0, 0, 1, 1, 1, 2, 2, 2, 3, 3} {
			sees(t, s, me, at, want)
		}
		for _, at := range low() {
			sees(t, s, me, at, -1)
		}
		sees(t, s, me, maxNum-1, 3)
		sees(t, s, me, maxNum, 4)
		for _, at := range high() {
			sees(t, s, me, at, 4)
		}
	}
	for _, at := range []int{-1, 0, 1, 9, maxNum} {
		sees(t, s, 6, at, 5)
		sees(t, s, 7, at, 6)
	}
}

// P13.1: ahead of the first time nothing is seen.
func TestSeesAheadOfTheFirst(t *testing.T) {
	s := of(at(1, 5, "a"), goneAt(2, 8))
	for _, at := range append(low(), 0, 1, 4) {
		sees(t, s, 1, at, -1)
		sees(t, s, -1, at, -1)
	}
	sees(t, s, 1, 5, 0)
	sees(t, s, 1, 7, 0)
	sees(t, s, 1, 8, 1)
	sees(t, s, 1, 9, 1)
}

// P13.1: of those with the same greatest time the last one is seen.
func TestSeesLastOfTheSameTime(t *testing.T) {
	s := of(at(1, 5, "a"), at(2, 5, "b"), at(3, 5, "c"), goneAt(4, 8), at(5, 8, "d"), at(6, 9, "e"), goneAt(7, 9))
	for _, me := range []int{-1, 0, 1, 6} {
		sees(t, s, me, 4, -1)
		sees(t, s, me, 5, 2)
		sees(t, s, me, 7, 2)
		sees(t, s, me, 8, 4)
		sees(t, s, me, 9, 6)
		sees(t, s, me, 10, 6)
	}
}

// P13.1: a stack that may not be is seen by the same words: the greatest time counts, not the place.
func TestSeesWhatMayNotBe(t *testing.T) {
	falls := of(at(1, 9, "a"), at(2, 5, "b"), at(3, 7, "c"), at(4, 7, "d"), goneAt(5, 2))
	for at, want := range []int{-1, -1, 4, 4, 4, 1, 1, 3, 3, 0, 0} {
		sees(t, falls, 0, at, want)
	}
	ahead := of(waits(1, "a"), at(2, 5, "b"), waits(3, "c"), at(4, 3, "d"))
	sees(t, ahead, 1, 9, 0)
	sees(t, ahead, 3, 9, 2)
	sees(t, ahead, 2, 9, 1)
	sees(t, ahead, 2, 4, 3)
	sees(t, ahead, 2, 2, -1)
	below := of(at(1, -1, "a"), at(2, math.MinInt, "b"), at(3, 1, "c"), at(4, -5, "d"))
	for _, at := range append(low(), 0) {
		for _, me := range []int{-1, 0, 1, 2, 4} {
			sees(t, below, me, at, -1)
		}
	}
	sees(t, below, 1, 1, 2)
	sees(t, of(at(1, math.MaxInt, "a"), at(2, maxNum+1, "b")), 3, math.MaxInt, 0)
	sees(t, of(at(1, math.MaxInt, "a"), at(2, maxNum+1, "b")), 3, math.MaxInt-1, 1)
	sees(t, of(api.Version{Txn: 1, TS: 5, Gone: true, Value: "a"}, api.Version{Txn: 2, Gone: true, Value: "b"}), 1, 5, 0)
	sees(t, of(api.Version{Txn: 1, TS: 5, Gone: true, Value: "a"}, api.Version{Txn: 2, Gone: true, Value: "b"}), 2, 5, 1)
}

// P13.1: also behind eight versions one is found.
func TestSeesOfMany(t *testing.T) {
	var l []api.Version
	for i := range 300 {
		l = append(l, at(i, i+1, string(rune('a'+i%26))))
	}
	l = append(l, waits(300, "x"), goes(301))
	for _, when := range []int{1, 7, 8, 9, 10, 256, 300} {
		sees(t, of(l...), 5, when, when-1)
	}
	sees(t, of(l...), 5, 301, 299)
	sees(t, of(l...), 300, 4, 300)
	sees(t, of(l...), 301, 4, 301)
}

// P13.1: a value that is empty is one; what is Gone is none.
func TestReadsEmptyValues(t *testing.T) {
	s := of(at(1, 5, ""), goneAt(2, 7), waits(3, ""), goes(4))
	if v, ok := Read(s, 0, 6); v != "" || !ok {
		t.Errorf("an empty value: %q, %t", v, ok)
	}
	if v, ok := Read(s, 0, 7); v != "" || ok {
		t.Errorf("one that is gone: %q, %t", v, ok)
	}
	if v, ok := Read(s, 3, 0); v != "" || !ok {
		t.Errorf("an empty value that waits: %q, %t", v, ok)
	}
	if v, ok := Read(s, 4, 5); v != "" || ok {
		t.Errorf("what waits to be gone: %q, %t", v, ok)
	}
}

// P13.2: newer is what another one committed above a time.
func TestNewer(t *testing.T) {
	s := of(at(1, 3, "a"), goneAt(2, 6), at(3, 9, "c"), waits(4, "d"), goes(5))
	for _, me := range []int{math.MinInt, -1, 0, 1, 2, 4, 5, 6, maxNum, math.MaxInt} {
		for _, at := range []int{0, 1, 2, 3, 5, 6, 7, 8} {
			newer(t, s, me, at, true)
		}
		for _, at := range append(high(), 9, 10, maxNum) {
			newer(t, s, me, at, false)
		}
	}
	newer(t, s, 3, 0, true)
	newer(t, s, 3, 5, true)
	newer(t, s, 3, 6, false)
	newer(t, s, 3, 8, false)
	newer(t, s, 3, 9, false)
}

// P13.2: one that stands ahead counts as the last one does; one's own never does.
func TestNewerAnywhere(t *testing.T) {
	s := of(at(1, 9, "a"), at(2, 3, "b"), at(2, 12, "c"), at(2, 4, "d"))
	newer(t, s, 2, 8, true)
	newer(t, s, 2, 9, false)
	newer(t, s, 1, 11, true)
	newer(t, s, 1, 12, false)
	own := of(at(2, 3, "a"), goneAt(2, 6), at(2, maxNum, "b"), waits(2, "c"))
	for _, at := range append(append(low(), high()...), 0, 1, 6, maxNum) {
		newer(t, own, 2, at, false)
	}
	newer(t, own, 1, maxNum-1, true)
	newer(t, own, 1, maxNum, false)
}

// P13.2: what is pending has not committed, at no time that there is; its time 0 is above those below 0.
func TestNewerOfPending(t *testing.T) {
	s := of(waits(1, "a"), goes(2))
	for _, at := range append(high(), 0, 1, 9, maxNum) {
		for _, me := range []int{-1, 0, 1, 2, 3} {
			newer(t, s, me, at, false)
		}
	}
	for _, when := range low() {
		newer(t, s, 1, when, true)
		newer(t, of(waits(1, "a")), 1, when, false)
		newer(t, of(at(1, when, "a")), 2, when, false)
	}
	newer(t, of(), 1, math.MinInt, false)
	newer(t, api.Stack{}, 1, 0, false)
	newer(t, of(at(1, -4, "a")), 2, -5, true)
	newer(t, of(at(1, -4, "a")), 2, -4, false)
	newer(t, of(at(1, math.MaxInt, "a")), 2, math.MaxInt-1, true)
	newer(t, of(at(1, math.MaxInt, "a")), 2, math.MaxInt, false)
}

// P13.2: there is room for who has a pending version, or where there are fewer than eight.
func TestRoom(t *testing.T) {
	for n := range 12 {
		var l []api.Version
		for i := range n {
			l = append(l, at(i, i+1, "a"))
		}
		for _, me := range []int{math.MinInt, -1, 0, 1, 5, 7, 50, math.MaxInt} {
			room(t, of(l...), me, n < 8)
		}
		for i := range n {
			with := slices.Clone(l)
			with[i] = waits(50, "b")
			room(t, of(with...), 50, true)
			room(t, of(with...), i, n < 8)
			room(t, of(with...), 51, n < 8)
			with[i] = goes(0)
			room(t, of(with...), 0, true)
			room(t, of(with...), -1, n < 8)
			with[i] = waits(-1, "b")
			room(t, of(with...), -1, n < 8)
			with[i] = at(50, -3, "b")
			room(t, of(with...), 50, n < 8)
		}
	}
	room(t, api.Stack{}, 1, true)
}

// P13.2: eight that are pending leave room for those whose they are alone.
func TestRoomOfPending(t *testing.T) {
	var l []api.Version
	for i := range 8 {
		l = append(l, waits(10+i, "a"))
	}
	for me := range 30 {
		room(t, of(l...), me, 10 <= me && me < 18)
		room(t, of(l[1:]...), me, true)
	}
}

// P13.3: settled is what has at most one version up to a time, and not a Gone one alone.
func TestSettled(t *testing.T) {
	for _, c := range []struct {
		s    api.Stack
		want []bool // at the times from 0 on
	}{
		{of(), []bool{true, true, true}},
		{of(at(1, 1, "a")), []bool{true, true, true}},
		{of(at(1, 1, "")), []bool{true, true, true}},
		{of(at(1, 2, "a")), []bool{true, true, true, true}},
		{of(goneAt(1, 1)), []bool{true, false, false}},
		{of(goneAt(1, 2)), []bool{true, true, false, false}},
		{of(goneAt(1, 1), waits(2, "b")), []bool{true, true, true}},
		{of(goneAt(1, 1), goes(2)), []bool{true, true, true}},
		{of(goneAt(1, 1), at(2, 3, "b")), []bool{true, true, true, false, false}},
		{of(goneAt(1, 1), goneAt(2, 3)), []bool{true, true, true, false, false}},
		{of(at(1, 1, "a"), at(2, 3, "b")), []bool{true, true, true, false, false}},
		{of(at(1, 2, "a"), at(2, 2, "b")), []bool{true, true, false, false}},
		{of(at(1, 1, "a"), at(2, 2, "b"), at(3, 3, "c"), waits(4, "d")), []bool{true, true, false, false, false}},
		{of(at(1, 3, "a"), at(2, 1, "b")), []bool{true, true, true, false, false}},
		{of(at(1, 3, "a"), goneAt(2, 1)), []bool{true, true, true, false, false}},
		{of(waits(1, "a"), goneAt(2, 1)), []bool{true, true, true}},
		{of(at(1, -1, "a"), goneAt(2, 1)), []bool{true, true, true}},
		{of(goes(1)), []bool{true, true, true}},
		{of(waits(1, "a")), []bool{true, true, true}},
		{of(waits(1, "a"), goes(2), waits(3, "b")), []bool{true, true, true}},
		{of(goneAt(1, -1)), []bool{true, true, true}},
	} {
		for at, want := range c.want {
			settled(t, c.s, at, want)
		}
		for _, at := range low() {
			settled(t, c.s, at, true)
		}
		for _, at := range append(high(), maxNum) {
			settled(t, c.s, at, c.want[len(c.want)-1])
		}
	}
}

// P13.3: at the greatest times, too.
func TestSettledAtBounds(t *testing.T) {
	settled(t, of(goneAt(1, maxNum)), maxNum-1, true)
	settled(t, of(goneAt(1, maxNum)), maxNum, false)
	settled(t, of(goneAt(1, math.MaxInt)), math.MaxInt-1, true)
	settled(t, of(goneAt(1, math.MaxInt)), math.MaxInt, false)
	settled(t, of(at(1, 1, "a"), at(2, maxNum, "b")), maxNum-1, true)
	settled(t, of(at(1, 1, "a"), at(2, maxNum, "b")), maxNum, false)
}

// P13.4: of each stack that is read its key and its value, as they stand.
func TestScan(t *testing.T) {
	s := of(at(1, 5, "a"), goneAt(2, 8), waits(3, "c"))
	l := []api.Stack{s, keyed("x"), keyed("y", at(1, 5, "d")), keyed("", at(1, 6, "")), keyed("y", at(2, 7, "e"), goes(3)), keyed("b", goneAt(2, 3))}
	y, none, yy := api.Pair{Key: "y", Value: "d"}, api.Pair{}, api.Pair{Key: "y", Value: "e"}
	scans(t, nil, 0, 9)
	scans(t, []api.Stack{}, 3, 9)
	scans(t, []api.Stack{{}}, 3, 9)
	for _, at := range append(low(), 0, 4) {
		scans(t, l, 0, at)
		scans(t, l, 3, at, api.Pair{Key: "k", Value: "c"})
	}
	scans(t, l, 0, 5, api.Pair{Key: "k", Value: "a"}, y)
	scans(t, l, 0, 6, api.Pair{Key: "k", Value: "a"}, y, none)
	scans(t, l, -1, 7, api.Pair{Key: "k", Value: "a"}, y, none, yy)
	scans(t, l, 0, 8, y, none, yy)
	scans(t, l, 3, 8, api.Pair{Key: "k", Value: "c"}, y, none)
	for _, at := range append(high(), 9, maxNum) {
		scans(t, l, 1, at, y, none, yy)
	}
}

// P13.4: two stacks with the same key are two, and keys that do not rise, or are too long, stay as they are.
func TestScanKeys(t *testing.T) {
	long := "a key that is longer than it may be"
	l := []api.Stack{keyed("z", at(1, 5, "1")), keyed("a", at(1, 5, "2")), keyed("z", at(1, 5, "1")), keyed(long, at(1, 5, "3")), keyed("a", at(1, 6, "4"))}
	scans(t, l, 0, 5, api.Pair{Key: "z", Value: "1"}, api.Pair{Key: "a", Value: "2"}, api.Pair{Key: "z", Value: "1"}, api.Pair{Key: long, Value: "3"})
	scans(t, l, 0, 6, api.Pair{Key: "z", Value: "1"}, api.Pair{Key: "a", Value: "2"}, api.Pair{Key: "z", Value: "1"}, api.Pair{Key: long, Value: "3"}, api.Pair{Key: "a", Value: "4"})
}

// P13.1 to P13.4: of all short lists, in whatever order, the functions tell what the words say.
func TestAllShortLists(t *testing.T) {
	kinds := []api.Version{waits(1, "a"), goes(2), waits(0, "b"), waits(-1, "c"), at(1, 1, "d"), at(2, 2, "e"), goneAt(2, 3), at(-1, 3, ""), goneAt(3, 1), at(1, -1, "f")}
	mes, ats := []int{-2, -1, 0, 1, 2, 3}, []int{-2, -1, 0, 1, 2, 3, 4}
	lists(kinds, 4, func(l []api.Version) { allAsTheWordsSay(t, of(l...), mes, ats) })
}

// P13.1 to P13.4: of longer lists, and many together, too.
func TestLongLists(t *testing.T) {
	next := rule(13)
	for range 4000 {
		var all []api.Stack
		for range next(4) {
			var l []api.Version
			for range 5 + next(7) {
				v := api.Version{Txn: next(8) - 1, TS: next(9) * next(4), Gone: next(3) == 0}
				if !v.Gone {
					v.Value = string(rune('a' + next(26)))
				}
				l = append(l, v)
			}
			all = append(all, keyed(string(rune('a'+next(5))), l...))
			allAsTheWordsSay(t, of(l...), []int{-1, 0, next(8)}, []int{next(26) - 1, next(10)})
		}
		me, at := next(8)-1, next(26)-1
		if got, want := Scan(all, me, at), plainScan(all, me, at); !slices.Equal(got, want) {
			t.Fatalf("Scan of %s, %d at %d: %q, want %q", names(all), me, at, got, want)
		}
	}
}

// written are stacks that may be, as scripts of writes, commits and aborts leave them.
func written(tell func(s api.Stack, clock int)) {
	for seed := range uint32(400) {
		next := rule(seed)
		s, clock := of(), 0
		for range 30 {
			switch txn := next(5); next(6) {
			case 0, 1:
				s = stack.Write(s, api.Version{Txn: txn, Value: string(rune('a' + next(26)))})
			case 2:
				s = stack.Write(s, api.Version{Txn: txn, Gone: true})
			case 3, 4:
				clock += next(3)
				s = stack.Commit(s, txn, clock)
			case 5:
				s = stack.Abort(s, txn)
				if next(3) == 0 {
					s = stack.Prune(s, next(clock+1))
				}
			}
			tell(s, clock)
		}
	}
}

// P13.5: what others have not committed, or committed later, is not seen: without it the answers are the same.
func TestOthersAreNotSeen(t *testing.T) {
	written(func(s api.Stack, clock int) {
		for me := -1; me < 6; me++ {
			for at := -1; at < clock+2; at++ {
				less := slices.DeleteFunc(slices.Clone(s.List), func(v api.Version) bool {
					return v.TS > max(at, 0) || v.TS == 0 && v.Txn != me
				})
				v, ok := Read(s, me, at)
				w, is := Read(of(less...), me, at)
				if v != w || ok != is {
					t.Fatalf("%s, %d at %d: %q, %t; without what others did %q, %t", name(s), me, at, v, ok, w, is)
				}
				if i := Which(s, me, at); i >= 0 && !slices.Contains(less, s.List[i]) {
					t.Fatalf("%s, %d at %d: %d is seen", name(s), me, at, i)
				}
			}
		}
	})
}

// P13.5: pruning up to a time changes nothing that is seen from then on, and leaves a stack settled up to then.
func TestPruned(t *testing.T) {
	written(func(s api.Stack, clock int) {
		for upTo := -1; upTo < clock+3; upTo++ {
			seenAlike(t, s, upTo, clock+4)
		}
	})
}

// P13.5: of all short stacks that may be, too.
func TestPrunedShortStacks(t *testing.T) {
	kinds := []api.Version{waits(1, "a"), goes(2), at(1, 1, "b"), goneAt(2, 1), at(2, 2, "c"), goneAt(1, 2), at(3, 4, "d"), goneAt(3, 4)}
	count := 0
	lists(kinds, 4, func(l []api.Version) {
		if stack.Check(of(l...)) != api.OK {
			return
		}
		count++
		for upTo := -1; upTo < 6; upTo++ {
			seenAlike(t, of(l...), upTo, 6)
		}
	})
	if count < 300 {
		t.Errorf("of the lists %d may be", count)
	}
}

// seenAlike asks that pruning up to a time changes nothing that is seen from then on up to another one.
func seenAlike(t *testing.T, s api.Stack, upTo, most int) {
	t.Helper()
	left := stack.Prune(s, upTo)
	if !Settled(left, upTo) {
		t.Fatalf("%s pruned up to %d: %s is not settled", name(s), upTo, name(left))
	}
	for me := -1; me < 6; me++ {
		for at := max(upTo, 0); at < most; at++ {
			v, ok := Read(s, me, at)
			w, is := Read(left, me, at)
			if v != w || ok != is {
				t.Fatalf("%s, %d at %d: %q, %t; pruned up to %d %q, %t", name(s), me, at, v, ok, upTo, w, is)
			}
			if !slices.Equal(Scan([]api.Stack{s}, me, at), Scan([]api.Stack{left}, me, at)) {
				t.Fatalf("%s, %d at %d: pruned up to %d it is scanned otherwise", name(s), me, at, upTo)
			}
			sameVersion(t, s, left, me, at, upTo)
		}
	}
}

// sameVersion asks that one version is seen in both; a Gone one may have become none.
func sameVersion(t *testing.T, s, left api.Stack, me, at, upTo int) {
	t.Helper()
	i, j := Which(s, me, at), Which(left, me, at)
	pruned := i >= 0 && s.List[i].Gone && 1 <= s.List[i].TS && s.List[i].TS <= upTo
	switch {
	case (i < 0 || pruned) && j < 0:
	case i >= 0 && j >= 0 && s.List[i] == left.List[j]:
	default:
		t.Fatalf("%s, %d at %d: %d is seen; pruned up to %d %s, %d", name(s), me, at, i, upTo, name(left), j)
	}
}
