package stack

import (
	"bytes"
	"fmt"
	"math"
	"slices"
	"strings"
	"testing"

	"fascicle/api"
)

// The chapter's example.
func TestExample(t *testing.T) {
	s := Write(api.Stack{}, waits(1, "v"))
	looks(t, "written", s, api.Stack{List: []api.Version{waits(1, "v")}})
	s = Commit(s, 1, 5)
	looks(t, "committed", s, api.Stack{List: []api.Version{at(1, 5, "v")}})
	s = Write(s, goes(2))
	looks(t, "gone", s, api.Stack{List: []api.Version{at(1, 5, "v"), goes(2)}})
	s = Commit(s, 2, 9)
	looks(t, "committed, too", s, api.Stack{List: []api.Version{at(1, 5, "v"), goneAt(2, 9)}})
	looks(t, "pruned", Prune(s, 9), api.Stack{})
}

// P11.1: a stack that may be is OK.
func TestCheckTakes(t *testing.T) {
	full := []api.Version{at(0, 1, "a"), goneAt(1, 1), at(0, 1, ""), at(2, 2, "b"), goneAt(3, maxNum), waits(0, "c"), goes(3), waits(maxNum, text(24, 1))}
	for i, s := range []api.Stack{
		{},
		{List: []api.Version{}},
		{Key: "k"},
		{Key: text(16, 2)},
		{Key: strings.Repeat("\x00", 16), List: full},
		of(waits(0, "")),
		of(goes(0)),
		of(waits(0, text(24, 3))),
		of(at(0, 1, "")),
		of(goneAt(maxNum, maxNum)),
		of(waits(maxNum, "")),
		of(full...),
		of(at(1, 5, "a"), at(1, 5, "a")),
		of(at(1, 5, "a"), at(2, 5, "b"), waits(1, "c"), waits(2, "d")),
		of(waits(2, "d"), waits(1, "c"), waits(0, "e")),
	} {
		is(t, fmt.Sprintf("stack %d, %s", i, name(s)), Check(s), api.OK)
	}
	for _, n := range numbers() {
		is(t, fmt.Sprintf("Txn %d", n), Check(of(waits(n, "a"))), api.OK)
		is(t, fmt.Sprintf("Txn %d, committed", n), Check(of(at(n, 1, "a"))), api.OK)
		is(t, fmt.Sprintf("TS %d", n), Check(of(at(1, n, "a"))), api.OK)
	}
	for n := range 9 {
		l := make([]api.Version, n)
		for i := range l {
			l[i] = waits(n-i, "a")
		}
		is(t, fmt.Sprintf("%d versions", n), Check(of(l...)), api.OK)
	}
}

// P11.1: each error, just behind its bound.
func TestCheckRefuses(t *testing.T) {
	nine := make([]api.Version, 9)
	for i := range nine {
		nine[i] = at(i, i+1, "a")
	}
	for i, c := range []struct {
		s api.Stack
		e api.Errno
	}{
		{api.Stack{Key: text(17, 1)}, api.ErrTooBig},
		{api.Stack{Key: strings.Repeat("k", 1000)}, api.ErrTooBig},
		{of(nine...), api.ErrFull},
		{of(slices.Repeat(nine, 4)...), api.ErrFull},
		{of(waits(1, text(25, 1))), api.ErrTooBig},
		{of(at(1, 1, text(25, 1))), api.ErrTooBig},
		{of(at(1, 1, "a"), waits(1, text(2500, 1))), api.ErrTooBig},
		{of(api.Version{Gone: true, Value: "a"}), api.ErrForm},
		{of(api.Version{Gone: true, Value: "\x00"}), api.ErrForm},
		{of(api.Version{TS: 3, Gone: true, Value: text(24, 2)}), api.ErrForm},
		{of(at(1, 1, "a"), waits(1, "a"), api.Version{Gone: true, Value: "a"}), api.ErrForm},
		{of(at(1, 2, "a"), at(1, 1, "a")), api.ErrOrder},
		{of(at(1, 1, "a"), at(1, 3, "a"), at(1, 2, "a")), api.ErrOrder},
		{of(at(1, 2, "a"), at(1, 3, "a"), at(1, 1, "a")), api.ErrOrder},
		{of(at(1, maxNum, "a"), at(1, maxNum-1, "a")), api.ErrOrder},
		{of(waits(1, "a"), at(1, 1, "a")), api.ErrOrder},
		{of(at(1, 1, "a"), waits(1, "a"), at(1, 1, "a")), api.ErrOrder},
		{of(waits(1, "a"), waits(2, "a"), at(3, maxNum, "a")), api.ErrOrder},
		{of(waits(1, "a"), waits(1, "a")), api.ErrOrder},
		{of(waits(0, "a"), goes(0)), api.ErrOrder},
		{of(waits(1, "a"), waits(2, "b"), waits(1, "c")), api.ErrOrder},
		{of(at(4, 4, "a"), waits(1, "a"), waits(2, "b"), waits(3, "c"), waits(2, "c")), api.ErrOrder},
	} {
		is(t, fmt.Sprintf("stack %d, %s", i, name(c.s)), Check(c.s), c.e)
	}
	for _, n := range beyond() {
		for _, s := range []api.Stack{of(waits(n, "a")), of(at(n, 1, "a")), of(at(1, n, "a")), of(at(n, n, "")), of(at(1, 1, ""), goes(n)), of(goneAt(0, 0), goneAt(1, n))} {
			is(t, name(s), Check(s), api.ErrRange)
		}
	}
}

// P11.1: of two errors the one that is named first is told, wherever the versions stand.
func TestCheckOrder(t *testing.T) {
	long, form, far := waits(1, text(25, 1)), api.Version{Gone: true, Value: "a"}, at(1, -1, "a")
	key := text(17, 1)
	nine := slices.Repeat([]api.Version{far}, 9)
	for i, c := range []struct {
		s api.Stack
		e api.Errno
	}{
		// The key and how many versions there are come ahead of all versions.
		{api.Stack{Key: key, List: nine}, api.ErrTooBig},
		{api.Stack{Key: key, List: []api.Version{form}}, api.ErrTooBig},
		{api.Stack{Key: key, List: []api.Version{far}}, api.ErrTooBig},
		{api.Stack{Key: key, List: []api.Version{waits(1, ""), waits(1, "")}}, api.ErrTooBig},
		{of(slices.Repeat([]api.Version{long}, 9)...), api.ErrFull},
		{of(slices.Repeat([]api.Version{form}, 9)...), api.ErrFull},
		{of(nine...), api.ErrFull},
		// Of one version.
		{of(api.Version{Gone: true, Value: text(25, 1)}), api.ErrTooBig},
		{of(api.Version{Txn: -1, Value: text(25, 1)}), api.ErrTooBig},
		{of(api.Version{TS: maxNum + 1, Value: text(25, 1)}), api.ErrTooBig},
		{of(api.Version{Txn: -1, Gone: true, Value: "a"}), api.ErrForm},
		{of(api.Version{TS: maxNum + 1, Gone: true, Value: "a"}), api.ErrForm},
		// Of two versions that of the one ahead.
		{of(long, form), api.ErrTooBig},
		{of(form, long), api.ErrForm},
		{of(far, long), api.ErrRange},
		{of(far, form), api.ErrRange},
		{of(form, far), api.ErrForm},
		{of(long, far), api.ErrTooBig},
		// How they stand comes behind what each one is.
		{of(at(1, 2, ""), at(1, 1, text(25, 1))), api.ErrTooBig},
		{of(waits(1, ""), api.Version{Txn: 1, Gone: true, Value: "a"}), api.ErrForm},
		{of(waits(1, ""), at(1, -1, "")), api.ErrRange},
		{of(at(1, 2, ""), at(1, 1, ""), long), api.ErrTooBig},
		{of(waits(1, ""), waits(1, ""), form), api.ErrForm},
		{of(waits(1, ""), at(1, 1, ""), far), api.ErrRange},
	} {
		is(t, fmt.Sprintf("stack %d, %s", i, name(c.s)), Check(c.s), c.e)
	}
}

// P11.2: a version stands in the place of the pending one of its transaction, or is the last one, if there is room.
func TestWrite(t *testing.T) {
	full := of(at(1, 1, "a"), at(2, 2, "b"), at(3, 3, "c"), waits(1, "d"), waits(2, "e"), waits(3, "f"), goes(4), waits(0, "g"))
	over := of(append(slices.Clone(full.List), waits(9, "h"))...)
	for i, c := range []struct {
		s    api.Stack
		v    api.Version
		want api.Stack
	}{
		{api.Stack{}, waits(0, ""), api.Stack{List: []api.Version{waits(0, "")}}},
		{of(), waits(7, "a"), of(waits(7, "a"))},
		{of(), goes(7), of(goes(7))},
		// A time that comes with it counts for nothing.
		{of(), at(7, 5, "a"), of(waits(7, "a"))},
		{of(), at(7, -5, "a"), of(waits(7, "a"))},
		{of(waits(7, "a")), goneAt(7, maxNum), of(goes(7))},
		// In its place, beside others.
		{of(waits(7, "a")), waits(7, "b"), of(waits(7, "b"))},
		{of(waits(7, "a")), goes(7), of(goes(7))},
		{of(goes(7)), waits(7, ""), of(waits(7, ""))},
		{of(waits(6, "a"), waits(7, "b"), waits(8, "c")), waits(7, "d"), of(waits(6, "a"), waits(7, "d"), waits(8, "c"))},
		{of(waits(6, "a"), waits(7, "b"), waits(8, "c")), waits(6, "d"), of(waits(6, "d"), waits(7, "b"), waits(8, "c"))},
		{of(waits(6, "a"), waits(8, "c")), waits(7, "d"), of(waits(6, "a"), waits(8, "c"), waits(7, "d"))},
		// What has committed is no pending one.
		{of(at(7, 3, "a")), waits(7, "d"), of(at(7, 3, "a"), waits(7, "d"))},
		{of(at(7, 3, "a"), waits(7, "b")), waits(7, "d"), of(at(7, 3, "a"), waits(7, "d"))},
		// A full one.
		{of(full.List[:7]...), waits(8, "z"), of(append(slices.Clone(full.List[:7]), waits(8, "z"))...)},
		{full, waits(8, "z"), full},
		{full, at(8, 4, "z"), full},
		{full, waits(2, "z"), of(at(1, 1, "a"), at(2, 2, "b"), at(3, 3, "c"), waits(1, "d"), waits(2, "z"), waits(3, "f"), goes(4), waits(0, "g"))},
		{full, goes(0), of(at(1, 1, "a"), at(2, 2, "b"), at(3, 3, "c"), waits(1, "d"), waits(2, "e"), waits(3, "f"), goes(4), goes(0))},
		// Stacks and versions that may not be.
		{over, waits(8, "z"), over},
		{over, waits(9, "z"), of(append(slices.Clone(full.List), waits(9, "z"))...)},
		{of(waits(7, "a"), waits(7, "b")), waits(7, "c"), of(waits(7, "c"), waits(7, "b"))},
		{of(waits(-7, "a"), at(1, 1, "")), waits(-7, "c"), of(waits(-7, "c"), at(1, 1, ""))},
		{of(waits(7, "a")), api.Version{Txn: 8, Gone: true, Value: "b"}, of(waits(7, "a"), api.Version{Txn: 8, Gone: true, Value: "b"})},
		{of(), waits(math.MinInt, text(300, 1)), of(waits(math.MinInt, text(300, 1)))},
	} {
		what := fmt.Sprintf("write %d, of %v into %s", i, c.v, name(c.s))
		answers(t, what, c.s, c.want, func(s api.Stack) api.Stack { return Write(s, c.v) })
	}
}

// P11.3: the first pending version gets its time, and the place that it has by it.
func TestCommit(t *testing.T) {
	three := of(at(1, 3, "a"), goneAt(2, 5), at(3, 5, "c"), at(4, 8, "d"), waits(5, "e"), waits(6, "f"), goes(7))
	for i, c := range []struct {
		s       api.Stack
		txn, ts int
		want    api.Stack
	}{
		{api.Stack{}, 1, 5, api.Stack{}},
		{of(), 1, 5, of()},
		{of(waits(1, "v")), 1, 1, of(at(1, 1, "v"))},
		{of(waits(1, "v")), 1, maxNum, of(at(1, maxNum, "v"))},
		{of(goes(0)), 0, 7, of(goneAt(0, 7))},
		// No time: nothing.
		{of(waits(1, "v")), 1, 0, of(waits(1, "v"))},
		{of(waits(1, "v")), 1, -1, of(waits(1, "v"))},
		{of(waits(2, "w"), waits(1, "v")), 1, math.MinInt, of(waits(2, "w"), waits(1, "v"))},
		// None pending: nothing.
		{three, 4, 9, three},
		{three, 8, 9, three},
		{three, 0, 9, three},
		{three, -1, 9, three},
		// Below, equal to, between and above the times that are there.
		{three, 6, 2, of(at(6, 2, "f"), at(1, 3, "a"), goneAt(2, 5), at(3, 5, "c"), at(4, 8, "d"), waits(5, "e"), goes(7))},
		{three, 6, 3, of(at(1, 3, "a"), at(6, 3, "f"), goneAt(2, 5), at(3, 5, "c"), at(4, 8, "d"), waits(5, "e"), goes(7))},
		{three, 6, 4, of(at(1, 3, "a"), at(6, 4, "f"), goneAt(2, 5), at(3, 5, "c"), at(4, 8, "d"), waits(5, "e"), goes(7))},
		{three, 5, 5, of(at(1, 3, "a"), goneAt(2, 5), at(3, 5, "c"), at(5, 5, "e"), at(4, 8, "d"), waits(6, "f"), goes(7))},
		{three, 5, 7, of(at(1, 3, "a"), goneAt(2, 5), at(3, 5, "c"), at(5, 7, "e"), at(4, 8, "d"), waits(6, "f"), goes(7))},
		{three, 5, 8, of(at(1, 3, "a"), goneAt(2, 5), at(3, 5, "c"), at(4, 8, "d"), at(5, 8, "e"), waits(6, "f"), goes(7))},
		{three, 7, 9, of(at(1, 3, "a"), goneAt(2, 5), at(3, 5, "c"), at(4, 8, "d"), goneAt(7, 9), waits(5, "e"), waits(6, "f"))},
		{three, 7, 1, of(goneAt(7, 1), at(1, 3, "a"), goneAt(2, 5), at(3, 5, "c"), at(4, 8, "d"), waits(5, "e"), waits(6, "f"))},
		// One of its own that has committed stays.
		{of(at(1, 3, "a"), waits(1, "b")), 1, 3, of(at(1, 3, "a"), at(1, 3, "b"))},
		{of(at(1, 3, "a"), waits(1, "b")), 1, 2, of(at(1, 2, "b"), at(1, 3, "a"))},
		// Stacks that may not be.
		{of(waits(1, "a"), waits(1, "b")), 1, 4, of(at(1, 4, "a"), waits(1, "b"))},
		{of(waits(2, "x"), waits(1, "a"), waits(1, "b")), 1, 4, of(at(1, 4, "a"), waits(2, "x"), waits(1, "b"))},
		{of(waits(1, "a"), at(2, 3, "b"), waits(3, "c")), 1, 4, of(at(2, 3, "b"), at(1, 4, "a"), waits(3, "c"))},
		{of(at(2, 9, "b"), at(2, 3, "b"), waits(1, "a")), 1, 4, of(at(2, 9, "b"), at(2, 3, "b"), at(1, 4, "a"))},
		{of(at(2, 3, "b"), at(2, 9, "b"), waits(1, "a"), at(2, 4, "c"), at(2, 5, "c")), 1, 4, of(at(2, 3, "b"), at(2, 9, "b"), at(2, 4, "c"), at(1, 4, "a"), at(2, 5, "c"))},
		{of(at(2, -3, "b"), waits(1, "a")), 1, 4, of(at(2, -3, "b"), at(1, 4, "a"))},
		{of(at(2, 3, "b"), waits(1, "a")), 1, math.MaxInt, of(at(2, 3, "b"), at(1, math.MaxInt, "a"))},
		{of(waits(-1, "a")), -1, 4, of(at(-1, 4, "a"))},
	} {
		what := fmt.Sprintf("commit %d, of %d at %d in %s", i, c.txn, c.ts, name(c.s))
		answers(t, what, c.s, c.want, func(s api.Stack) api.Stack { return Commit(s, c.txn, c.ts) })
	}
}

// P11.4: all pending versions of a transaction go, and no others.
func TestAbort(t *testing.T) {
	some := of(at(1, 3, "a"), goneAt(2, 5), waits(2, "b"), waits(1, "c"), goes(3))
	for i, c := range []struct {
		s    api.Stack
		txn  int
		want api.Stack
	}{
		{api.Stack{}, 0, api.Stack{}},
		{of(), 1, of()},
		{of(waits(0, "")), 0, of()},
		{of(goes(9)), 9, of()},
		{some, 0, some},
		{some, 4, some},
		{some, -1, some},
		{some, 1, of(at(1, 3, "a"), goneAt(2, 5), waits(2, "b"), goes(3))},
		{some, 2, of(at(1, 3, "a"), goneAt(2, 5), waits(1, "c"), goes(3))},
		{some, 3, of(at(1, 3, "a"), goneAt(2, 5), waits(2, "b"), waits(1, "c"))},
		{of(at(1, 3, "a"), at(1, 4, "b")), 1, of(at(1, 3, "a"), at(1, 4, "b"))},
		// Stacks that may not be.
		{of(waits(1, "a"), waits(2, "b"), waits(1, "c"), at(1, 3, ""), waits(1, "d")), 1, of(waits(2, "b"), at(1, 3, ""))},
		{of(waits(1, "a"), goes(1), waits(1, "c")), 1, of()},
		{of(waits(-1, "a"), at(-1, -1, "b")), -1, of(at(-1, -1, "b"))},
		{of(slices.Repeat([]api.Version{waits(1, "a"), waits(2, "b")}, 9)...), 1, of(slices.Repeat([]api.Version{waits(2, "b")}, 9)...)},
	} {
		what := fmt.Sprintf("abort %d, of %d in %s", i, c.txn, name(c.s))
		answers(t, what, c.s, c.want, func(s api.Stack) api.Stack { return Abort(s, c.txn) })
	}
}

// P11.4: of what committed up to a time the last one alone stays, and that, too, goes, if it is Gone.
func TestPrune(t *testing.T) {
	some := of(at(1, 3, "a"), goneAt(2, 5), at(3, 5, "b"), goneAt(4, 8), at(5, 9, "c"), waits(2, "d"), goes(3))
	for i, c := range []struct {
		s    api.Stack
		ts   int
		want api.Stack
	}{
		{api.Stack{}, 5, api.Stack{}},
		{of(), maxNum, of()},
		{some, math.MinInt, some},
		{some, -1, some},
		{some, 0, some},
		{some, 2, some},
		{some, 3, some},
		{some, 4, some},
		{some, 5, of(at(3, 5, "b"), goneAt(4, 8), at(5, 9, "c"), waits(2, "d"), goes(3))},
		{some, 7, of(at(3, 5, "b"), goneAt(4, 8), at(5, 9, "c"), waits(2, "d"), goes(3))},
		{some, 8, of(at(5, 9, "c"), waits(2, "d"), goes(3))},
		{some, 9, of(at(5, 9, "c"), waits(2, "d"), goes(3))},
		{some, maxNum, of(at(5, 9, "c"), waits(2, "d"), goes(3))},
		{some, math.MaxInt, of(at(5, 9, "c"), waits(2, "d"), goes(3))},
		// Gone, or not, and nothing else.
		{of(at(1, 1, "a")), 1, of(at(1, 1, "a"))},
		{of(at(1, 1, "")), 9, of(at(1, 1, ""))},
		{of(goneAt(1, 1)), 1, of()},
		{of(goneAt(1, 2)), 1, of(goneAt(1, 2))},
		{of(at(1, 1, "a"), goneAt(2, 2)), 1, of(at(1, 1, "a"), goneAt(2, 2))},
		{of(at(1, 1, "a"), goneAt(2, 2)), 2, of()},
		{of(goneAt(1, 1), at(2, 2, "a")), 2, of(at(2, 2, "a"))},
		{of(goneAt(1, 1), at(2, 2, "a")), 1, of(at(2, 2, "a"))},
		// Of two of one time the last one counts.
		{of(at(1, 4, "a"), at(2, 4, "b")), 4, of(at(2, 4, "b"))},
		{of(at(1, 4, "a"), goneAt(2, 4)), 4, of()},
		{of(goneAt(1, 4), at(2, 4, "b")), 4, of(at(2, 4, "b"))},
		// Pending ones stay, Gone or not.
		{of(goes(1)), maxNum, of(goes(1))},
		{of(waits(2, "a"), goes(1)), 1, of(waits(2, "a"), goes(1))},
		{of(goneAt(7, 1), goes(1)), 1, of(goes(1))},
		// Stacks that may not be.
		{of(at(1, 9, "a"), at(2, 4, "b"), at(3, 6, "c"), at(4, 3, "d")), 6, of(at(1, 9, "a"), at(4, 3, "d"))},
		{of(at(3, 6, "c"), waits(1, "a"), goneAt(4, 3), at(1, 9, "a")), 6, of(waits(1, "a"), at(1, 9, "a"))},
		{of(at(1, -1, "a"), goneAt(2, -9), goneAt(1, 1)), 5, of(at(1, -1, "a"), goneAt(2, -9))},
		{of(at(1, math.MaxInt, "a"), at(1, math.MaxInt, "b")), math.MaxInt, of(at(1, math.MaxInt, "b"))},
	} {
		what := fmt.Sprintf("prune %d, up to %d of %s", i, c.ts, name(c.s))
		answers(t, what, c.s, c.want, func(s api.Stack) api.Stack { return Prune(s, c.ts) })
	}
}

// P11.5: the first pending version, or zero and false.
func TestPending(t *testing.T) {
	some := of(at(1, 3, "a"), goneAt(2, 5), at(4, 6, "z"), waits(2, "b"), waits(1, "c"), goes(3), waits(0, ""))
	for i, c := range []struct {
		s    api.Stack
		txn  int
		want api.Version
		ok   bool
	}{
		{api.Stack{}, 0, api.Version{}, false},
		{of(), 1, api.Version{}, false},
		{of(at(1, 3, "a")), 1, api.Version{}, false},
		{of(at(0, 3, "a")), 0, api.Version{}, false},
		{some, 1, waits(1, "c"), true},
		{some, 2, waits(2, "b"), true},
		{some, 3, goes(3), true},
		{some, 0, waits(0, ""), true},
		{some, 4, api.Version{}, false},
		{some, -1, api.Version{}, false},
		{some, math.MaxInt, api.Version{}, false},
		{of(waits(maxNum, "m")), maxNum, waits(maxNum, "m"), true},
		// Stacks that may not be.
		{of(waits(2, "a"), waits(1, "b"), waits(1, "c"), goes(1)), 1, waits(1, "b"), true},
		{of(at(1, -1, "a"), waits(-1, "b")), -1, waits(-1, "b"), true},
		{of(api.Version{Txn: 4, Gone: true, Value: text(30, 1)}), 4, api.Version{Txn: 4, Gone: true, Value: text(30, 1)}, true},
	} {
		given := roomy(c.s)
		v, ok := Pending(given, c.txn)
		if v != c.want || ok != c.ok {
			t.Errorf("pending %d, of %d in %s: %v, %t, want %v, %t", i, c.txn, name(c.s), v, ok, c.want, c.ok)
		}
		looks(t, "what Pending was given", given, c.s)
	}
}

// P11.2 to P11.5: of all short lists, in whatever order, each call answers what the words tell.
func TestAllShortLists(t *testing.T) {
	kinds := []api.Version{waits(1, "a"), waits(2, "b"), goes(1), at(1, 3, "c"), goneAt(2, 3), at(2, 5, "d"), goneAt(1, 5)}
	for _, l := range lists(kinds, 4) {
		s := of(l...)
		ahead := name(s)
		if got, want := Check(s), plainCheck(s); got != want {
			t.Fatalf("Check of %s: %d, want %d", ahead, int(got), int(want))
		}
		for txn := range 4 {
			looks(t, fmt.Sprintf("Write of %d into %s", txn, ahead), Write(s, at(txn, txn, "w")), plainWrite(s, at(txn, txn, "w")))
			looks(t, fmt.Sprintf("Abort of %d in %s", txn, ahead), Abort(s, txn), plainAbort(s, txn))
			v, ok := Pending(s, txn)
			if want, is := plainPending(s, txn); v != want || ok != is {
				t.Fatalf("Pending of %d in %s: %v, %t, want %v, %t", txn, ahead, v, ok, want, is)
			}
			for ts := range 7 {
				looks(t, fmt.Sprintf("Commit of %d at %d in %s", txn, ts, ahead), Commit(s, txn, ts), plainCommit(s, txn, ts))
			}
		}
		for ts := range 7 {
			looks(t, fmt.Sprintf("Prune up to %d of %s", ts, ahead), Prune(s, ts), plainPrune(s, ts))
		}
		looks(t, "behind all calls", s, of(l...))
		if t.Failed() {
			t.FailNow()
		}
	}
}

// P11.6: a stack is laid as the chapter tells it.
func TestPut(t *testing.T) {
	for i, c := range []struct {
		s    api.Stack
		want string
	}{
		{api.Stack{}, "\x00\x01\x00"},
		{of(), "k\x00\x01\x00"},
		{api.Stack{Key: "a\x00b"}, "a\x00\xffb\x00\x01\x00"},
		{of(waits(0, "")), "k\x00\x01\x01\x01\x00\x00\x00\x00\x01"},
		{of(goes(1)), "k\x00\x01\x01\x01\x01\x01\x00\x01\x00\x01"},
		{of(at(258, 7, "v\x00")), "k\x00\x01\x01\x01\x02\x01\x02\x01\x07\x00v\x00\xff\x00\x01"},
		{of(goneAt(0, maxNum), waits(maxNum, "w")), "k\x00\x01\x01\x02\x00\x06\x01\x00\x00\x00\x00\x00\x01\x00\x01\x06\x01\x00\x00\x00\x00\x00\x00\x00w\x00\x01"},
	} {
		b, e := Put(c.s)
		if string(b) != c.want || e != api.OK {
			t.Errorf("put %d, of %s: %x, %d, want %x", i, name(c.s), b, int(e), c.want)
		}
		if laid(c.s) != c.want {
			t.Errorf("put %d: the tests lay %x, want %x", i, laid(c.s), c.want)
		}
	}
}

// P11.6: what may not be is not laid: Check's error is told.
func TestPutRefuses(t *testing.T) {
	for _, s := range badStacks() {
		e := plainCheck(s)
		if e == api.OK {
			t.Fatalf("%s may be", name(s))
		}
		b, got := Put(s)
		is(t, "Put of "+name(s), got, e)
		if b != nil {
			t.Errorf("Put of %s: bytes %x beside an error", name(s), b)
		}
	}
}

// badStacks are some that may not be.
func badStacks() []api.Stack {
	nine := make([]api.Version, 9)
	for i := range nine {
		nine[i] = at(i, i+1, "a")
	}
	return []api.Stack{
		{Key: text(17, 1)},
		{Key: text(17, 1), List: nine},
		of(nine...),
		of(slices.Repeat(nine, 29)...),
		of(waits(1, text(25, 1))),
		of(at(1, 1, "a"), at(2, 2, strings.Repeat("\x00", 25)), waits(1, "b")),
		of(api.Version{Gone: true, Value: "a"}),
		of(at(1, 1, "a"), api.Version{TS: 2, Gone: true, Value: "\x00"}),
		of(waits(maxNum+1, "a")),
		of(at(1, maxNum+1, "a")),
		of(waits(math.MaxInt, "a")),
		of(at(math.MaxInt, math.MaxInt, "a")),
		of(at(1, 2, "a"), at(2, 1, "b")),
		of(waits(1, "a"), at(2, 1, "b")),
		of(waits(1, "a"), waits(1, "b")),
		of(at(1, 1, "a"), waits(3, "a"), waits(2, "c"), waits(3, "b")),
	}
}

// goodStacks are some that may be.
func goodStacks() []api.Stack {
	all := []api.Stack{
		{},
		of(),
		{Key: text(16, 4)},
		{Key: strings.Repeat("\x00", 16)},
		{Key: "\x01\x00\x01\xff\x00\xff"},
		of(waits(0, "")),
		of(goes(0)),
		of(waits(1, text(24, 5))),
		of(waits(1, strings.Repeat("\x00", 24))),
		of(waits(1, "\x00\x01"), goes(2), waits(0, "\x01")),
		of(at(1, 3, "a"), at(1, 3, "a"), goneAt(2, 3), at(3, 4, "\x01\x02"), waits(1, "b"), goes(2)),
		{Key: text(16, 6), List: []api.Version{at(1, 1, text(24, 1)), at(2, 2, text(24, 2)), at(3, 3, text(24, 3)), goneAt(4, 4), at(5, 5, text(24, 5)), at(6, maxNum, text(24, 6)), waits(maxNum, text(24, 7)), waits(8, text(24, 8))}},
	}
	for _, n := range numbers() {
		all = append(all, of(at(n, 1, "n"), goneAt(maxNum, max(n, 1)), waits(n, "m")))
	}
	return all
}

// P11.6, P11.7: what is put is got; bytes and answers are new.
func TestPutGet(t *testing.T) {
	for _, s := range goodStacks() {
		given := roomy(s)
		b, e := Put(given)
		if e != api.OK || string(b) != laid(s) {
			t.Errorf("Put of %s: %x, %d, want %x", name(s), b, int(e), laid(s))
			continue
		}
		looks(t, "what Put was given", given, s)
		ahead := bytes.Clone(b)
		got, e := Get(b)
		is(t, "Get of "+name(s), e, api.OK)
		looks(t, "Get", got, s)
		if !bytes.Equal(b, ahead) {
			t.Errorf("Get changed %x to %x", ahead, b)
		}
		for i := range b {
			b[i] = '!'
		}
		looks(t, "Get, once the bytes were changed", got, s)
		// The answers of two calls have nothing in common.
		one, _ := Put(s)
		two, _ := Put(s)
		copy(one, "!!!!")
		if string(two) != laid(s) {
			t.Errorf("two Puts of %s share memory", name(s))
		}
	}
}

// refuses asks that bytes are none of a stack.
func refuses(t *testing.T, what, b string) {
	t.Helper()
	s, e := Get([]byte(b))
	if e != api.ErrForm || s.Key != "" || s.List != nil {
		t.Errorf("%s, %x: %s, %d, want an ErrForm alone", what, b, name(s), int(e))
	}
}

// P11.6: bytes that are cut short, or have more behind them, are none of a stack.
func TestGetLengths(t *testing.T) {
	refuses(t, "nothing", "")
	for _, s := range goodStacks() {
		b := laid(s)
		for n := range len(b) {
			refuses(t, fmt.Sprintf("%s, cut behind %d", name(s), n), b[:n])
		}
		for more := range 256 {
			refuses(t, name(s)+" and a byte", b+string([]byte{byte(more)}))
		}
		refuses(t, name(s)+" twice", b+b)
		refuses(t, name(s)+" and a version", b+laidVersion(waits(5, "a")))
		refuses(t, name(s)+" behind a byte", "\x00"+b)
	}
}

// P11.6: bytes, one of which is another one, are those of another stack that may be, or of none.
func TestGetOneByte(t *testing.T) {
	others := 0
	for _, s := range goodStacks() {
		ahead := laid(s)
		for i := range len(ahead) {
			for x := range 256 {
				b := []byte(ahead)
				if b[i] == byte(x) {
					continue
				}
				b[i] = byte(x)
				got, e := Get(b)
				switch {
				case e == api.ErrForm:
					looks(t, "beside an ErrForm", got, api.Stack{})
				case e != api.OK || plainCheck(got) != api.OK || laid(got) != string(b):
					t.Fatalf("Get of %x: %s, %d", b, name(got), int(e))
				default:
					others++
				}
			}
		}
	}
	if others < 1000 {
		t.Errorf("%d other stacks only", others)
	}
}

// P11.6: numbers that are laid otherwise, and marks that are none, are not read.
func TestGetNumbers(t *testing.T) {
	for _, c := range []struct{ what, b string }{
		{"a count with a nought ahead", "k\x00\x01\x02\x00\x01" + laidVersion(waits(1, "a"))},
		{"a count of nothing in a byte", "k\x00\x01\x01\x00"},
		{"a count that is one short", "k\x00\x01\x01\x01" + laidVersion(at(1, 1, "a")) + laidVersion(waits(1, "a"))},
		{"a count that is one more", "k\x00\x01\x01\x02" + laidVersion(waits(1, "a"))},
		{"a count of none", "k\x00\x01\x00" + laidVersion(waits(1, "a"))},
		{"a count of very many", "k\x00\x01\x08\xff\xff\xff\xff\xff\xff\xff\xff" + laidVersion(waits(1, "a"))},
		{"a count of MaxNum", "k\x00\x01" + small(maxNum) + laidVersion(waits(1, "a"))},
		{"a count of more bytes than a number has", "k\x00\x01\x09\x00\x00\x00\x00\x00\x00\x00\x00\x01" + laidVersion(waits(1, "a"))},
		{"a Txn with a nought ahead", "k\x00\x01\x01\x01\x02\x00\x07\x00\x00a\x00\x01"},
		{"a Txn 0 in a byte", "k\x00\x01\x01\x01\x01\x00\x00\x00a\x00\x01"},
		{"a Txn above MaxNum", "k\x00\x01\x01\x01\x06\x01\x00\x00\x00\x00\x01\x00\x00a\x00\x01"},
		{"a Txn of 64 bits", "k\x00\x01\x01\x01\x08\xff\xff\xff\xff\xff\xff\xff\xff\x00\x00a\x00\x01"},
		{"a TS with a nought ahead", "k\x00\x01\x01\x01\x01\x07\x02\x00\x07\x00a\x00\x01"},
		{"a TS 0 in a byte", "k\x00\x01\x01\x01\x01\x07\x01\x00\x00a\x00\x01"},
		{"a TS above MaxNum", "k\x00\x01\x01\x01\x01\x07\x06\x01\x00\x00\x00\x00\x01\x00a\x00\x01"},
		{"a mark 2", "k\x00\x01\x01\x01\x01\x07\x01\x07\x02a\x00\x01"},
		{"a mark 2 without a value", "k\x00\x01\x01\x01\x01\x07\x01\x07\x02\x00\x01"},
		{"a mark ff", "k\x00\x01\x01\x01\x01\x07\x01\x07\xff\x00\x01"},
		{"no mark", "k\x00\x01\x01\x01\x01\x07\x01\x07"},
		{"a key without an end", "kkkk"},
		{"a key with a 00 02", "k\x00\x02\x00\x01\x00"},
		{"a value with a 00 00", "k\x00\x01\x01\x01\x01\x07\x01\x07\x00a\x00\x00\x00\x01"},
		{"a value without an end", "k\x00\x01\x01\x01\x01\x07\x01\x07\x00aaaa"},
		{"many noughts", strings.Repeat("\x00", 5000)},
		{"many ones", strings.Repeat("\x01", 5000)},
		{"a long key", strings.Repeat("k", 5000) + "\x00\x01\x00"},
	} {
		refuses(t, c.what, c.b)
	}
	for x := range 256 {
		if x > 1 {
			refuses(t, "a mark", "k\x00\x01\x01\x01\x01\x07\x01\x07"+string([]byte{byte(x)})+"\x00\x01")
		}
	}
}

// P11.6: stacks that may not be are not read.
func TestGetRefuses(t *testing.T) {
	for _, s := range badStacks() {
		refuses(t, name(s), laid(s))
	}
}

// P11.6: all short bytes of few values are those of a stack, or none, as laying it anew tells.
func TestGetShortBytes(t *testing.T) {
	values := []byte{0, 1, 2, 255}
	found := 0
	var all func(b []byte)
	all = func(b []byte) {
		s, e := Get(b)
		switch {
		case e == api.OK && plainCheck(s) == api.OK && laid(s) == string(b):
			found++
		case e != api.ErrForm || s.Key != "" || len(s.List) > 0:
			t.Fatalf("Get of %x: %s, %d", b, name(s), int(e))
		}
		if len(b) == 9 {
			return
		}
		for _, x := range values {
			all(append(slices.Clone(b), x))
		}
	}
	all(nil)
	// Keys that are laid in at most 6 bytes, without versions; and the two shortest versions, for the shortest key.
	want := 2
	for n := range 7 {
		want += count(n, values)
	}
	if found != want {
		t.Errorf("%d of them are those of stacks, want %d", found, want)
	}
}

// count tells how many keys, of bytes of these values, are laid in n bytes, but for their end and the number of versions.
func count(n int, values []byte) int {
	switch {
	case n < 0:
		return 0
	case n == 0:
		return 1
	}
	// A byte that is not 0, or a 0 in two bytes.
	return (len(values)-1)*count(n-1, values) + count(n-2, values)
}

// P11.6: two stacks are the same, if they are so in all fields.
func TestSame(t *testing.T) {
	base := of(at(1, 3, "a"), goneAt(2, 5), waits(3, "b"))
	change := func(f func(s *api.Stack)) api.Stack {
		s := roomy(base)
		f(&s)
		return s
	}
	parted := []api.Stack{
		{},
		of(),
		change(func(s *api.Stack) { s.Key = "" }),
		change(func(s *api.Stack) { s.Key = "l" }),
		change(func(s *api.Stack) { s.Key = "k\x00" }),
		change(func(s *api.Stack) { s.List[0].Txn = 2 }),
		change(func(s *api.Stack) { s.List[0].TS = 4 }),
		change(func(s *api.Stack) { s.List[0].Gone = true }),
		change(func(s *api.Stack) { s.List[0].Value = "b" }),
		change(func(s *api.Stack) { s.List[0].Value = "" }),
		change(func(s *api.Stack) { s.List[1].Gone = false }),
		change(func(s *api.Stack) { s.List[2].Txn = -3 }),
		change(func(s *api.Stack) { s.List[2].TS = 6 }),
		change(func(s *api.Stack) { s.List[2].Value = "b\x00" }),
		change(func(s *api.Stack) { s.List = s.List[:2] }),
		change(func(s *api.Stack) { s.List = s.List[1:] }),
		change(func(s *api.Stack) { s.List = append(s.List, waits(3, "b")) }),
		change(func(s *api.Stack) { s.List[0], s.List[1] = s.List[1], s.List[0] }),
	}
	parted = append(parted, base)
	for i, a := range parted {
		for j, b := range parted {
			if Same(a, b) != (i == j) {
				t.Errorf("Same of %s and %s: %t", name(a), name(b), i != j)
			}
			if !Same(roomy(a), a) || !Same(a, roomy(a)) {
				t.Errorf("%s is not the same as itself", name(a))
			}
		}
	}
	if !Same(api.Stack{List: []api.Version{}}, api.Stack{}) || !Same(of(), api.Stack{Key: "k", List: []api.Version{}}) {
		t.Error("an empty list and nil are not the same")
	}
}

// P11.7: by whatever calls, a stack that may be still may be, is what the words tell, and what is put of it is got.
func TestScripts(t *testing.T) {
	full, most := 0, 0
	for seed := range uint32(60) {
		next := rule(seed)
		s := api.Stack{Key: text(next(17), seed)}
		for range 300 {
			ahead := s
			txn, ts := next(10), next(12)
			var want api.Stack
			switch what := next(12); {
			case what < 6:
				v := api.Version{Txn: txn, TS: ts, Gone: next(4) == 0}
				if !v.Gone {
					v.Value = text(next(25), seed)
				}
				s, want = Write(s, v), plainWrite(ahead, v)
			case what < 9:
				s, want = Commit(s, txn, ts), plainCommit(ahead, txn, ts)
			case what < 11:
				s, want = Abort(s, txn), plainAbort(ahead, txn)
			case next(4) == 0:
				s, want = Prune(s, ts), plainPrune(ahead, ts)
			default:
				want = ahead
			}
			looks(t, fmt.Sprintf("script %d, behind %s", seed, name(ahead)), s, want)
			if e := plainCheck(s); e != api.OK || Check(s) != api.OK {
				t.Fatalf("script %d: %s may not be: %d, %d", seed, name(s), int(e), int(Check(s)))
			}
			b, e := Put(s)
			got, f := Get(b)
			if e != api.OK || f != api.OK || !Same(got, s) || name(got) != name(s) {
				t.Fatalf("script %d: %s was put, and %s got (%d, %d)", seed, name(s), name(got), int(e), int(f))
			}
			if most = max(most, len(s.List)); len(s.List) == 8 {
				full++
			}
		}
	}
	if full < 100 || most != 8 {
		t.Errorf("%d full stacks, at most %d versions: the scripts show too little", full, most)
	}
}

// P11.7: at the bounds, too: times and numbers up to MaxNum, and the longest texts.
func TestKeptAtBounds(t *testing.T) {
	for _, s := range goodStacks() {
		for _, n := range numbers() {
			for what, after := range map[string]api.Stack{
				"Write":       Write(s, waits(n, text(24, 9))),
				"Write, Gone": Write(s, goneAt(n, n)),
				"Commit":      Commit(Write(s, waits(n, "c")), n, max(n, 1)),
				"Commit late": Commit(Write(s, waits(n, "c")), n, maxNum),
				"Commit soon": Commit(Write(s, waits(n, "c")), n, 1),
				"Abort":       Abort(s, n),
				"Prune":       Prune(s, n),
			} {
				is(t, fmt.Sprintf("%s of %d in %s", what, n, name(s)), Check(after), api.OK)
			}
		}
	}
}
