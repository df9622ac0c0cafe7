package msg

import (
	"fmt"
	"math"
	"slices"
	"strings"
	"testing"

	"fascicle/api"
	"fascicle/stack"
)

// The chapter's examples.
func TestExample(t *testing.T) {
	l := []api.Msg{{Kind: api.Writes, Key: "k", Txn: 1, Value: "v"}, {Kind: api.Commits, Txn: 1, TS: 5}}
	looks(t, "the fold", Fold(api.Stack{Key: "k"}, l), api.Stack{Key: "k", List: []api.Version{{Txn: 1, TS: 5, Value: "v"}}})
	if b, e := Put(api.Msg{Kind: api.Aborts, Txn: 3}); string(b) != "\x02\x01\x03" || e != api.OK {
		t.Errorf("Put = %x, %d", b, int(e))
	}
}

// P12.1: the kinds up to Prunes, and those above it, whatever else is wrong.
func TestCheckKinds(t *testing.T) {
	long := strings.Repeat("x", 40)
	for kind := range 256 {
		k := uint8(kind)
		switch k {
		case 0, 2, 3:
			checks(t, api.Msg{Kind: k}, api.OK)
		case 1:
			checks(t, api.Msg{Kind: k}, api.ErrRange)
			checks(t, api.Msg{Kind: k, TS: 1}, api.OK)
		default:
			checks(t, api.Msg{Kind: k}, api.ErrKind)
			checks(t, api.Msg{Kind: k, Key: "k", Txn: 1, TS: 2, Value: "v"}, api.ErrKind)
			checks(t, api.Msg{Kind: k, Gone: true, Value: "v"}, api.ErrKind)
			checks(t, api.Msg{Kind: k, Txn: -1, TS: maxNum + 1}, api.ErrKind)
			checks(t, api.Msg{Kind: k, Key: long, Txn: -1, TS: maxNum + 1, Gone: true, Value: long}, api.ErrKind)
		}
	}
}

// P12.1, P12.4: what may be is laid as the words say, and got.
func TestGoodMessages(t *testing.T) {
	for _, m := range goodMsgs() {
		checks(t, m, api.OK)
	}
}

// field is one of a message's, with values of it that are not zero: some that may be, and some that may not, where a kind has it.
type field struct {
	name  string
	kinds string // which have it
	good  []func(*api.Msg)
	wrong []func(*api.Msg)
}

// setNumber makes functions that set a number.
func setNumber(of func(*api.Msg) *int, l ...int) []func(*api.Msg) {
	var set []func(*api.Msg)
	for _, n := range l {
		set = append(set, func(m *api.Msg) { *of(m) = n })
	}
	return set
}

// setText makes functions that set a text.
func setText(of func(*api.Msg) *string, l ...string) []func(*api.Msg) {
	var set []func(*api.Msg)
	for _, s := range l {
		set = append(set, func(m *api.Msg) { *of(m) = s })
	}
	return set
}

// fields are all but the kind.
func fields() []field {
	txn := func(m *api.Msg) *int { return &m.Txn }
	ts := func(m *api.Msg) *int { return &m.TS }
	key := func(m *api.Msg) *string { return &m.Key }
	value := func(m *api.Msg) *string { return &m.Value }
	set := []func(*api.Msg){func(m *api.Msg) { m.Gone = true }}
	return []field{
		{"Txn", "\x00\x01\x02", setNumber(txn, numbers()[1:]...), setNumber(txn, beyond()...)},
		{"TS", "\x01\x03", setNumber(ts, numbers()[1:]...), setNumber(ts, beyond()...)},
		{"Key", "\x00", setText(key, texts(16)[1:]...), setText(key, many(17, 1), many(18, 2), many(300, 3))},
		{"Gone", "\x00", set, nil},
		{"Value", "\x00", setText(value, texts(24)[1:]...), setText(value, many(25, 1), many(26, 2), many(300, 3))},
	}
}

// P12.1: each field that a kind has not, not zero, whether the value may be elsewhere or not; each that it has.
func TestCheckFields(t *testing.T) {
	for kind := range uint8(4) {
		for _, f := range fields() {
			has := strings.IndexByte(f.kinds, kind) >= 0
			for i, set := range append(f.good, f.wrong...) {
				m := api.Msg{Kind: kind}
				if kind == 1 {
					m.TS = 7 // of this kind 0 is wrong, too
				}
				set(&m)
				want := api.OK
				switch {
				case !has:
					want = api.ErrForm
				case i >= len(f.good) && (f.name == "Txn" || f.name == "TS"):
					want = api.ErrRange
				case i >= len(f.good):
					want = api.ErrTooBig
				}
				checks(t, m, want)
			}
		}
	}
}

// P12.1: a Gone message with a Value.
func TestCheckGone(t *testing.T) {
	for _, value := range []string{"v", "\x00", "\xff", many(24, 1), many(25, 2), many(300, 3)} {
		m := gone("k", 1)
		m.Value = value
		checks(t, m, api.ErrForm)
		m.Gone = false
		want := api.OK
		if len(value) > 24 {
			want = api.ErrTooBig
		}
		checks(t, m, want)
	}
	checks(t, gone("k", 1), api.OK)
	checks(t, gone("", 0), api.OK)
}

// P12.1: -1, 0, 2^40 and 2^40 + 1, and others.
func TestCheckRange(t *testing.T) {
	for _, n := range numbers() {
		for _, m := range []api.Msg{wrote("k", n, "v"), gone("", n), commits(n, 1), aborts(n), prunes(n)} {
			checks(t, m, api.OK)
		}
		want := api.OK
		if n == 0 {
			want = api.ErrRange
		}
		for _, txn := range []int{0, 1, maxNum} {
			checks(t, commits(txn, n), want)
		}
	}
	for _, n := range beyond() {
		for _, m := range []api.Msg{wrote("k", n, "v"), gone("", n), commits(n, 1), commits(n, 0), commits(0, n), commits(n, n), commits(maxNum, n), aborts(n), prunes(n)} {
			checks(t, m, api.ErrRange)
		}
	}
}

// P12.1: the lengths count bytes, of any kind, not those that they take when laid.
func TestCheckSizes(t *testing.T) {
	for _, fill := range []func(n int) string{
		func(n int) string { return strings.Repeat("\x00", n) },
		func(n int) string { return strings.Repeat("\xff", n) },
		func(n int) string { return strings.Repeat("a", n) },
		func(n int) string { return many(n, uint32(n)) },
	} {
		for n := range 40 {
			key, value := api.OK, api.OK
			if n > 16 {
				key = api.ErrTooBig
			}
			if n > 24 {
				value = api.ErrTooBig
			}
			checks(t, wrote(fill(n), 3, ""), key)
			checks(t, gone(fill(n), 3), key)
			checks(t, wrote("", 3, fill(n)), value)
			checks(t, wrote(fill(16), maxNum, fill(n)), value)
			checks(t, wrote(fill(n), 0, fill(24)), key)
		}
	}
	checks(t, wrote(strings.Repeat("x", 1<<20), 0, ""), api.ErrTooBig)
	checks(t, wrote("", 0, strings.Repeat("x", 1<<20)), api.ErrTooBig)
}

// P12.1: of two errors the one that is named first, by hand.
func TestCheckOrder(t *testing.T) {
	key, value := many(17, 1), many(25, 1)
	for _, c := range []struct {
		m    api.Msg
		want api.Errno
	}{
		{api.Msg{Kind: 4, TS: 1, Gone: true, Value: "v"}, api.ErrKind},
		{api.Msg{Kind: 4, Txn: -1}, api.ErrKind},
		{api.Msg{Kind: 4, Key: key}, api.ErrKind},
		{api.Msg{Kind: 255, Value: value}, api.ErrKind},
		{api.Msg{Kind: api.Writes, TS: 1, Txn: -1}, api.ErrForm},
		{api.Msg{Kind: api.Writes, TS: -1}, api.ErrForm},
		{api.Msg{Kind: api.Writes, TS: maxNum + 1}, api.ErrForm},
		{api.Msg{Kind: api.Writes, TS: 1, Key: key}, api.ErrForm},
		{api.Msg{Kind: api.Writes, Gone: true, Value: "v", Txn: -1}, api.ErrForm},
		{api.Msg{Kind: api.Writes, Gone: true, Value: value}, api.ErrForm},
		{api.Msg{Kind: api.Writes, Gone: true, Value: "v", Key: key}, api.ErrForm},
		{api.Msg{Kind: api.Commits, Key: "k"}, api.ErrForm},
		{api.Msg{Kind: api.Commits, Key: key}, api.ErrForm},
		{api.Msg{Kind: api.Commits, Gone: true}, api.ErrForm},
		{api.Msg{Kind: api.Commits, Txn: -1, Value: value}, api.ErrForm},
		{api.Msg{Kind: api.Aborts, Txn: -1, TS: -1}, api.ErrForm},
		{api.Msg{Kind: api.Aborts, Txn: maxNum + 1, Key: key}, api.ErrForm},
		{api.Msg{Kind: api.Prunes, Txn: -1, TS: -1}, api.ErrForm},
		{api.Msg{Kind: api.Prunes, TS: maxNum + 1, Value: value}, api.ErrForm},
		{api.Msg{Kind: api.Writes, Txn: -1, Key: key}, api.ErrRange},
		{api.Msg{Kind: api.Writes, Txn: maxNum + 1, Value: value}, api.ErrRange},
		{api.Msg{Kind: api.Writes, Txn: -1, Gone: true, Key: key}, api.ErrRange},
		{api.Msg{Kind: api.Writes, Key: key, Value: value}, api.ErrTooBig},
	} {
		checks(t, c.m, c.want)
	}
}

// P12.1, P12.4: all mixes of values of the fields, so that of several errors the one counts that is named first.
func TestMixes(t *testing.T) {
	seen := map[api.Errno]int{}
	for _, kind := range []uint8{0, 1, 2, 3, 4, 5, 255} {
		for _, txn := range []int{-1, 0, 7, maxNum, maxNum + 1} {
			for _, ts := range []int{-1, 0, 7, maxNum, maxNum + 1} {
				for _, key := range []string{"", "k", many(16, 1), many(17, 1)} {
					for _, value := range []string{"", "v", many(24, 2), many(25, 2)} {
						for _, gone := range []bool{false, true} {
							m := api.Msg{Kind: kind, Key: key, Txn: txn, TS: ts, Gone: gone, Value: value}
							checks(t, m, fault(m))
							seen[fault(m)]++
						}
					}
				}
			}
		}
	}
	if len(seen) != 5 {
		t.Errorf("the mixes have other errors than all: %v", seen)
	}
}

// P12.1: by the kind alone.
func TestWide(t *testing.T) {
	for kind := range 256 {
		want := kind == 1 || kind == 2 || kind == 3
		for _, m := range []api.Msg{
			{}, {TS: 1}, {Txn: 1}, {Key: "k"}, {Key: "k", Txn: 2, Value: "v"}, {Gone: true}, {Txn: -1, TS: -1}, {Key: many(17, 1), Txn: math.MinInt, TS: math.MaxInt, Gone: true, Value: many(25, 1)},
		} {
			m.Kind = uint8(kind)
			if Wide(m) != want {
				t.Errorf("Wide %s = %t", name(m), Wide(m))
			}
		}
	}
}

// full has as many versions as may be.
func full() api.Stack {
	return of(at(1, 1, "a"), at(2, 2, "b"), at(3, 3, "c"), waits(1, "d"), waits(2, "e"), waits(3, "f"), goes(4), waits(0, "g"))
}

// P12.2: a write.
func TestApplyWrites(t *testing.T) {
	// Stacks that it changes.
	applies(t, of(), wrote("k", 7, "v"), of(waits(7, "v")))
	applies(t, of(), gone("k", 7), of(goes(7)))
	applies(t, of(), wrote("k", 0, ""), of(waits(0, "")))
	applies(t, of(), wrote("k", maxNum, many(24, 1)), of(waits(maxNum, many(24, 1))))
	applies(t, api.Stack{}, wrote("", 7, "v"), api.Stack{List: []api.Version{waits(7, "v")}})
	applies(t, api.Stack{Key: "a\x00"}, wrote("a\x00", 7, "v"), api.Stack{Key: "a\x00", List: []api.Version{waits(7, "v")}})
	applies(t, of(waits(6, "a"), waits(7, "b"), waits(8, "c")), wrote("k", 7, "v"), of(waits(6, "a"), waits(7, "v"), waits(8, "c")))
	applies(t, of(waits(6, "a"), goes(7)), wrote("k", 7, "v"), of(waits(6, "a"), waits(7, "v")))
	applies(t, of(waits(6, "a"), waits(7, "b")), gone("k", 6), of(goes(6), waits(7, "b")))
	applies(t, of(at(7, 3, "a")), wrote("k", 7, "v"), of(at(7, 3, "a"), waits(7, "v")))
	applies(t, of(at(1, 1, "a"), waits(6, "b")), wrote("k", 7, "v"), of(at(1, 1, "a"), waits(6, "b"), waits(7, "v")))
	change := full()
	change.List[4] = goes(2)
	applies(t, full(), gone("k", 2), change)
	// Stacks that it leaves.
	applies(t, full(), wrote("k", 8, "z"), full())
	applies(t, of(waits(7, "v")), wrote("k", 7, "v"), of(waits(7, "v")))
}

// P12.2: a commit.
func TestApplyCommits(t *testing.T) {
	three := of(at(1, 3, "a"), goneAt(2, 5), at(3, 5, "c"), at(4, 8, "d"), waits(5, "e"), waits(6, "f"), goes(7))
	// Stacks that it changes.
	applies(t, of(waits(1, "v")), commits(1, 1), of(at(1, 1, "v")))
	applies(t, of(goes(0)), commits(0, maxNum), of(goneAt(0, maxNum)))
	applies(t, three, commits(6, 5), of(at(1, 3, "a"), goneAt(2, 5), at(3, 5, "c"), at(6, 5, "f"), at(4, 8, "d"), waits(5, "e"), goes(7)))
	applies(t, three, commits(7, 9), of(at(1, 3, "a"), goneAt(2, 5), at(3, 5, "c"), at(4, 8, "d"), goneAt(7, 9), waits(5, "e"), waits(6, "f")))
	// Stacks of any key.
	for _, key := range []string{"", "a", "\x00", many(16, 1), many(17, 1)} {
		applies(t, api.Stack{Key: key, List: []api.Version{waits(1, "v")}}, commits(1, 4), api.Stack{Key: key, List: []api.Version{at(1, 4, "v")}})
	}
	// Stacks that it leaves.
	applies(t, of(), commits(1, 4), of())
	applies(t, three, commits(4, 9), three)
	applies(t, three, commits(0, 9), three)
}

// P12.2: an abort.
func TestApplyAborts(t *testing.T) {
	some := of(at(1, 3, "a"), goneAt(2, 5), waits(2, "b"), waits(1, "c"), goes(3))
	// Stacks that it changes.
	applies(t, of(waits(0, "v")), aborts(0), of())
	applies(t, some, aborts(1), of(at(1, 3, "a"), goneAt(2, 5), waits(2, "b"), goes(3)))
	applies(t, some, aborts(3), of(at(1, 3, "a"), goneAt(2, 5), waits(2, "b"), waits(1, "c")))
	applies(t, of(waits(1, "a"), goes(1), at(1, 2, "b")), aborts(1), of(at(1, 2, "b")))
	// Stacks of any key.
	for _, key := range []string{"", "a", "\x00", many(16, 1), many(17, 1)} {
		applies(t, api.Stack{Key: key, List: []api.Version{waits(1, "v"), goes(2)}}, aborts(1), api.Stack{Key: key, List: []api.Version{goes(2)}})
	}
	// Stacks that it leaves.
	applies(t, of(), aborts(1), of())
	applies(t, some, aborts(4), some)
	applies(t, some, aborts(0), some)
	applies(t, of(at(1, 3, "a"), goneAt(1, 4)), aborts(1), of(at(1, 3, "a"), goneAt(1, 4)))
}

// P12.2: a pruning.
func TestApplyPrunes(t *testing.T) {
	some := of(at(1, 3, "a"), goneAt(2, 5), at(3, 5, "b"), goneAt(4, 8), at(5, 9, "c"), waits(2, "d"), goes(3))
	// Stacks that it changes.
	applies(t, some, prunes(5), of(at(3, 5, "b"), goneAt(4, 8), at(5, 9, "c"), waits(2, "d"), goes(3)))
	applies(t, some, prunes(8), of(at(5, 9, "c"), waits(2, "d"), goes(3)))
	applies(t, some, prunes(maxNum), of(at(5, 9, "c"), waits(2, "d"), goes(3)))
	applies(t, of(goneAt(1, 1)), prunes(1), of())
	// Stacks of any key.
	for _, key := range []string{"", "a", "\x00", many(16, 1), many(17, 1)} {
		applies(t, api.Stack{Key: key, List: []api.Version{at(1, 1, "v"), at(2, 2, "w")}}, prunes(2), api.Stack{Key: key, List: []api.Version{at(2, 2, "w")}})
	}
	// Stacks that it leaves.
	applies(t, of(), prunes(5), of())
	applies(t, some, prunes(0), some)
	applies(t, some, prunes(4), some)
	applies(t, of(goneAt(1, 2), waits(1, "a"), goes(2)), prunes(1), of(goneAt(1, 2), waits(1, "a"), goes(2)))
}

// P12.2, P12.5: what is about another key changes nothing.
func TestApplyOtherKeys(t *testing.T) {
	keys := []string{"", "\x00", "k", "k\x00", "kk", "K", "l", "\xff", many(16, 1), many(15, 1), many(17, 1)}
	for _, key := range keys {
		for _, other := range keys {
			if key == other {
				continue
			}
			s := api.Stack{Key: key, List: []api.Version{at(1, 3, "a"), waits(2, "b")}}
			applies(t, s, wrote(other, 2, "v"), s)
			applies(t, s, wrote(other, 9, ""), s)
			applies(t, s, gone(other, 2), s)
			applies(t, api.Stack{Key: key}, gone(other, 2), api.Stack{Key: key})
		}
	}
}

// refused are messages that Check refuses, each of which would change the stack of k that changed tells, if it were done.
func refused() []api.Msg {
	return []api.Msg{
		{Kind: 4, Key: "k", Txn: 2, Value: "v"},
		{Kind: 255, Key: "k", Txn: 9, TS: 9},
		{Kind: 4, Key: "k", Txn: 2, TS: 9},
		{Kind: api.Writes, Key: "k", Txn: 2, TS: 9, Value: "v"},
		{Kind: api.Writes, Key: "k", Txn: 9, TS: -1, Value: "v"},
		{Kind: api.Writes, Key: "k", Txn: 2, Gone: true, Value: "v"},
		{Kind: api.Writes, Key: "k", Txn: -1, Value: "v"},
		{Kind: api.Writes, Key: "k", Txn: maxNum + 1, Gone: true},
		{Kind: api.Writes, Key: "k", Txn: 2, Value: many(25, 1)},
		{Kind: api.Commits, Key: "k", Txn: 2, TS: 9},
		{Kind: api.Commits, Txn: 2, TS: 9, Gone: true},
		{Kind: api.Commits, Txn: 2, TS: 9, Value: "v"},
		{Kind: api.Commits, Txn: 2, TS: maxNum + 1},
		{Kind: api.Commits, Txn: -1, TS: 9},
		{Kind: api.Commits, Txn: 2},
		{Kind: api.Aborts, Key: "k", Txn: 2},
		{Kind: api.Aborts, Txn: 2, TS: 9},
		{Kind: api.Aborts, Txn: 2, Gone: true},
		{Kind: api.Aborts, Txn: 2, Value: "v"},
		{Kind: api.Aborts, Txn: -1},
		{Kind: api.Aborts, Txn: maxNum + 1},
		{Kind: api.Prunes, Key: "k", TS: 9},
		{Kind: api.Prunes, Txn: 2, TS: 9},
		{Kind: api.Prunes, TS: 9, Gone: true},
		{Kind: api.Prunes, TS: 9, Value: "v"},
		{Kind: api.Prunes, TS: maxNum + 1},
		{Kind: api.Prunes, TS: math.MaxInt},
	}
}

// changed is a stack of k that each kind of message finds something to do in.
func changed() api.Stack {
	return of(at(1, 3, "a"), at(1, 5, "b"), waits(2, "c"), waits(-1, "d"), waits(maxNum+1, "e"))
}

// P12.2: what Check refuses changes nothing.
func TestApplyRefused(t *testing.T) {
	for _, m := range refused() {
		if fault(m) == api.OK {
			t.Fatalf("%s may be", name(m))
		}
		applies(t, changed(), m, changed())
		applies(t, of(), m, of())
	}
	// The same ones, so that they may be.
	applies(t, changed(), wrote("k", 2, "v"), of(at(1, 3, "a"), at(1, 5, "b"), waits(2, "v"), waits(-1, "d"), waits(maxNum+1, "e")))
	applies(t, changed(), commits(2, 9), of(at(1, 3, "a"), at(1, 5, "b"), at(2, 9, "c"), waits(-1, "d"), waits(maxNum+1, "e")))
	applies(t, changed(), aborts(2), of(at(1, 3, "a"), at(1, 5, "b"), waits(-1, "d"), waits(maxNum+1, "e")))
	applies(t, changed(), prunes(9), of(at(1, 5, "b"), waits(2, "c"), waits(-1, "d"), waits(maxNum+1, "e")))
	// A key that is too long: no stack of it is written.
	s := api.Stack{Key: many(17, 1), List: []api.Version{waits(2, "c")}}
	applies(t, s, wrote(s.Key, 2, "v"), s)
	applies(t, s, gone(s.Key, 3), s)
}

// mixes are messages of all kinds, about three keys, few transactions and few times; some that may not be, too.
func mixes() []api.Msg {
	l := []api.Msg{{Kind: 7, Key: "k", Txn: 1, Value: "y"}, {Kind: 1, Txn: 1}, {Kind: 2, Key: "k", Txn: 1}, {Kind: 0, Key: "k", Txn: 1, TS: 3}}
	for _, key := range []string{"k", "", "kk"} {
		for txn := range 3 {
			l = append(l, wrote(key, txn, "w"), gone(key, txn))
		}
	}
	for txn := range 3 {
		l = append(l, aborts(txn), commits(txn, 4), commits(txn, 6))
	}
	return append(l, prunes(0), prunes(3), prunes(5), prunes(6))
}

// P12.2: all mixes of messages and short stacks, in whatever order, are as the words say.
func TestApplyMixes(t *testing.T) {
	kinds := []api.Version{waits(1, "a"), waits(2, "b"), goes(1), at(1, 3, "c"), goneAt(2, 3), at(2, 5, "d"), goneAt(1, 5)}
	letters := ""
	for i := range kinds {
		letters += string([]byte{byte(i)})
	}
	each(letters, 3, func(which string) {
		s := of()
		for i := range len(which) {
			s.List = append(s.List, kinds[which[i]])
		}
		for _, m := range mixes() {
			looks(t, "Apply of "+name(m)+" to "+shape(s), Apply(s, m), plainApply(s, m))
		}
	})
	for _, m := range mixes() {
		applies(t, full(), m, plainApply(full(), m))
	}
}

// P12.2: of no message, of one, of several, in order.
func TestFold(t *testing.T) {
	folds(t, api.Stack{}, nil, api.Stack{})
	folds(t, of(), []api.Msg{}, of())
	folds(t, full(), nil, full())
	folds(t, changed(), []api.Msg{}, changed())
	folds(t, of(), []api.Msg{wrote("k", 1, "v")}, of(waits(1, "v")))
	folds(t, of(at(1, 3, "a")), []api.Msg{wrote("l", 1, "v")}, of(at(1, 3, "a")))
	folds(t, of(), []api.Msg{wrote("k", 1, "v"), commits(1, 5)}, of(at(1, 5, "v")))
	folds(t, of(), []api.Msg{commits(1, 5), wrote("k", 1, "v")}, of(waits(1, "v")))
	folds(t, of(), []api.Msg{wrote("k", 1, "v"), aborts(1)}, of())
	folds(t, of(), []api.Msg{aborts(1), wrote("k", 1, "v")}, of(waits(1, "v")))
	folds(t, of(), []api.Msg{wrote("k", 1, "v"), wrote("k", 1, "w"), gone("k", 2), commits(2, 9), commits(1, 7)}, of(at(1, 7, "w"), goneAt(2, 9)))
	folds(t, of(), []api.Msg{wrote("k", 1, "v"), commits(1, 5), wrote("k", 2, "w"), commits(2, 6), prunes(5)}, of(at(1, 5, "v"), at(2, 6, "w")))
	folds(t, of(), []api.Msg{wrote("k", 1, "v"), commits(1, 5), wrote("k", 2, "w"), commits(2, 6), prunes(6)}, of(at(2, 6, "w")))
	folds(t, of(), []api.Msg{wrote("k", 1, "v"), commits(1, 5), prunes(5), gone("k", 2), commits(2, 6), prunes(6)}, of())
	folds(t, of(), []api.Msg{wrote("j", 1, "x"), wrote("k", 1, "v"), wrote("l", 1, "y"), commits(1, 5), wrote("", 1, "z")}, of(at(1, 5, "v")))
	folds(t, api.Stack{}, []api.Msg{wrote("k", 1, "x"), wrote("", 1, "z"), commits(1, 5)}, api.Stack{List: []api.Version{at(1, 5, "z")}})
	// Of nine writes the last one finds no room, till there is some.
	var nine []api.Msg
	for i := range 9 {
		nine = append(nine, wrote("k", i, "v"))
	}
	eight := of(waits(0, "v"), waits(1, "v"), waits(2, "v"), waits(3, "v"), waits(4, "v"), waits(5, "v"), waits(6, "v"), waits(7, "v"))
	folds(t, of(), nine, eight)
	eight.List[3] = waits(8, "v")
	eight.List = slices.Concat(eight.List[:3], eight.List[4:], eight.List[3:4])
	folds(t, of(), slices.Concat(nine[:8], []api.Msg{aborts(3)}, nine[8:]), eight)
	// What Check refuses changes nothing, between others.
	for _, m := range refused() {
		folds(t, of(), []api.Msg{m, wrote("k", 2, "v"), m, commits(2, 9), m}, of(at(2, 9, "v")))
	}
}

// script makes messages of a rule, about the key k and others.
func script(next func(int) int, n int) []api.Msg {
	var l []api.Msg
	for range n {
		key, txn, ts := []string{"k", "k", "k", "", "kk"}[next(5)], next(6), next(30)
		switch next(9) {
		case 0, 1, 2:
			l = append(l, wrote(key, txn, many(next(4), uint32(txn))))
		case 3:
			l = append(l, gone(key, txn))
		case 4, 5:
			l = append(l, commits(txn, ts))
		case 6:
			l = append(l, aborts(txn))
		case 7:
			l = append(l, prunes(ts))
		default:
			l = append(l, refused()[next(len(refused()))])
		}
	}
	return l
}

// P12.2, P12.5: at once, and in parts, one behind the other, wherever they are cut; without what is about other keys.
func TestFoldInParts(t *testing.T) {
	others, left := 0, 0
	for seed := range uint32(200) {
		next := rule(seed)
		s := of()
		if seed%2 == 1 {
			s = full()
		}
		l := script(next, next(40))
		want := plainFold(s, l)
		folds(t, s, l, want)
		for cut := range len(l) + 1 {
			looks(t, fmt.Sprintf("script %d, cut behind %d", seed, cut), Fold(Fold(s, l[:cut]), l[cut:]), want)
		}
		one := s
		for _, m := range l {
			one = Apply(one, m)
		}
		looks(t, fmt.Sprintf("script %d, one by one", seed), one, want)
		about := For(l, s.Key)
		folds(t, s, about, want)
		others += len(l) - len(about)
		left += len(want.List)
		if stack.Check(want) != api.OK {
			t.Errorf("script %d: %s may not be", seed, shape(want))
		}
	}
	if others < 100 || left < 100 {
		t.Errorf("%d about other keys, %d versions left: the scripts show too little", others, left)
	}
}

// P12.3: messages about a key.
func TestFor(t *testing.T) {
	b1, a1, b2, none := wrote("b", 1, "x"), wrote("a", 1, "y"), gone("b", 2), wrote("", 3, "z")
	c, d, p := commits(1, 4), aborts(2), prunes(4)
	l := []api.Msg{c, b1, a1, d, b2, none, b1, p}
	for _, x := range []struct {
		l    []api.Msg
		key  string
		want []api.Msg
	}{
		{nil, "", nil},
		{nil, "k", nil},
		{[]api.Msg{}, "k", nil},
		{l, "a", []api.Msg{c, a1, d, p}},
		{l, "b", []api.Msg{c, b1, d, b2, b1, p}},
		// The empty key is a key as others are, and no message's but its own.
		{l, "", []api.Msg{c, d, none, p}},
		{[]api.Msg{b1, a1}, "", nil},
		{[]api.Msg{none}, "", []api.Msg{none}},
		{[]api.Msg{none}, "a", nil},
		// A key that no message is about.
		{l, "c", []api.Msg{c, d, p}},
		{[]api.Msg{b1, a1, b2, none}, "c", nil},
		{l, "b\x00", []api.Msg{c, d, p}},
		{l, "B", []api.Msg{c, d, p}},
		{l, many(300, 1), []api.Msg{c, d, p}},
		// Wide ones before, between and behind; or nothing but them.
		{[]api.Msg{p, b1}, "b", []api.Msg{p, b1}},
		{[]api.Msg{b1, d, b2}, "b", []api.Msg{b1, d, b2}},
		{[]api.Msg{b1, c}, "b", []api.Msg{b1, c}},
		{[]api.Msg{p, p, c, d, c}, "b", []api.Msg{p, p, c, d, c}},
		{[]api.Msg{p, p, c, d, c}, "", []api.Msg{p, p, c, d, c}},
	} {
		picks(t, x.l, x.key, x.want)
	}
}

// P12.3: messages that may not be are about keys as others are.
func TestForOfWrongMessages(t *testing.T) {
	l := []api.Msg{
		{Kind: 9, Key: "k", Txn: -1}, {Kind: 9}, {Kind: 4, Key: "l"},
		{Kind: api.Commits, Key: "l"}, {Kind: api.Aborts, Key: "k", TS: 5}, {Kind: api.Prunes, Txn: -3, Key: "x"},
		{Kind: api.Writes, Key: "k", TS: 4}, {Kind: api.Writes, Key: many(17, 1)}, {Kind: api.Writes, Key: "k", Gone: true, Value: many(25, 1)},
	}
	picks(t, l, "k", []api.Msg{l[0], l[3], l[4], l[5], l[6], l[8]})
	picks(t, l, "l", []api.Msg{l[2], l[3], l[4], l[5]})
	picks(t, l, "", []api.Msg{l[1], l[3], l[4], l[5]})
	picks(t, l, "x", []api.Msg{l[3], l[4], l[5]})
	picks(t, l, many(17, 1), []api.Msg{l[3], l[4], l[5], l[7]})
	for kind := range 256 {
		m := api.Msg{Kind: uint8(kind), Key: "k", Txn: 1}
		picks(t, []api.Msg{m}, "k", []api.Msg{m})
		var want []api.Msg
		if kind >= 1 && kind <= 3 {
			want = []api.Msg{m}
		}
		picks(t, []api.Msg{m}, "l", want)
		picks(t, []api.Msg{m}, "", want)
	}
}

// P12.3: which keys are written.
func TestKeys(t *testing.T) {
	var l []api.Msg
	for _, key := range []string{"d", "b", "", "b\x00", "c", "a", "b", "\xff\xff", "bb", "\x00", "c"} {
		l = append(l, wrote(key, 1, "v"), commits(1, 5), gone(key, 2))
	}
	writes(t, nil, "", "")
	writes(t, []api.Msg{}, "a", "b")
	writes(t, l, "", "", "", "\x00", "a", "b", "b\x00", "bb", "c", "d", "\xff\xff")
	// lo empty.
	writes(t, l, "", "b", "", "\x00", "a")
	writes(t, l, "", "\x00", "")
	// hi empty.
	writes(t, l, "b\x00", "", "b\x00", "bb", "c", "d", "\xff\xff")
	writes(t, l, "\xff\xff", "", "\xff\xff")
	writes(t, l, "\xff\xff\x00", "")
	// Keys that are lo, and hi.
	writes(t, l, "b", "c", "b", "b\x00", "bb")
	writes(t, l, "b", "b\x00", "b")
	writes(t, l, "b\x00", "bb", "b\x00")
	writes(t, l, "\x00", "a", "\x00")
	// Keys that are neither.
	writes(t, l, "aa", "bz", "b", "b\x00", "bb")
	writes(t, l, "e", "\xff", []string{}...)
	writes(t, l, "e", "\xff\xff\x00", "\xff\xff")
	// lo at hi, and above it.
	writes(t, l, "b", "b")
	writes(t, l, "a", "a")
	writes(t, l, "c", "b")
	writes(t, l, "\xff\xff", "\x00")
	writes(t, l, "\x00", "\x00")
	// The same one, written twice, and by two.
	writes(t, []api.Msg{wrote("k", 1, "v"), wrote("k", 1, "v"), gone("k", 2), wrote("k", 3, "w")}, "", "", "k")
	writes(t, []api.Msg{wrote("", 1, "v"), wrote("", 2, "v")}, "", "", "")
	writes(t, []api.Msg{wrote("", 1, "v")}, "a", "")
	writes(t, []api.Msg{wrote("", 1, "v")}, "", "a", "")
}

// P12.3: keys of messages that are no Writes are not told; those of Writes that may not be are.
func TestKeysOfWrongMessages(t *testing.T) {
	var l []api.Msg
	for kind := 1; kind < 256; kind++ {
		l = append(l, api.Msg{Kind: uint8(kind), Key: "k", Txn: 1, TS: 1, Value: "v"}, api.Msg{Kind: uint8(kind)})
	}
	writes(t, l, "", "")
	writes(t, l, "k", "l")
	writes(t, append(l, wrote("l", 1, "")), "", "", "l")
	long := many(17, 1)
	writes(t, append(l, api.Msg{Key: "m", TS: 5}, api.Msg{Key: "a", Txn: -1}, wrote("b", 1, many(25, 1)), api.Msg{Key: "c", Gone: true, Value: "v"}), "", "", "a", "b", "c", "m")
	writes(t, append(l, wrote(long, 1, "")), long, "", long)
	writes(t, append(l, wrote(long, 1, "")), "", long)
}

// P12.3: all short lists, and all bounds of few texts, are as the words say.
func TestKeysAndForMixes(t *testing.T) {
	some := []api.Msg{wrote("", 1, "v"), wrote("b", 1, "v"), gone("ab", 2), wrote("a", 1, "v"), wrote("b", 3, "w"), commits(1, 2), {Kind: 8, Key: "a"}, {Kind: 2, Key: "b"}}
	bounds := []string{"", "\x00", "a", "a\x00", "ab", "b", "ba", "\xff"}
	letters := ""
	for i := range some {
		letters += string([]byte{byte(i)})
	}
	each(letters, 3, func(which string) {
		var l []api.Msg
		for i := range len(which) {
			l = append(l, some[which[i]])
		}
		for _, lo := range bounds {
			picks(t, l, lo, plainFor(l, lo))
			for _, hi := range bounds {
				writes(t, l, lo, hi, plainKeys(l, lo, hi)...)
			}
		}
	})
	next := rule(8)
	for range 50 {
		var l []api.Msg
		for range next(300) {
			l = append(l, api.Msg{Kind: uint8(next(8) / 5), Key: many(next(3), uint32(next(40))), Txn: next(3)})
		}
		for range 20 {
			lo, hi := many(next(3), uint32(next(40))), many(next(3), uint32(next(40)))
			writes(t, l, lo, hi, plainKeys(l, lo, hi)...)
			picks(t, l, lo, plainFor(l, lo))
		}
	}
}

// P12.4, with the words on a message's bytes: of each kind, by hand.
func TestPut(t *testing.T) {
	for _, c := range []struct {
		m    api.Msg
		want string
	}{
		{api.Msg{}, "\x00\x00\x01\x00\x00\x00\x01"},
		{wrote("k", 1, "v"), "\x00k\x00\x01\x01\x01\x00v\x00\x01"},
		{wrote("\x00", 300, "\x00\x01\xff"), "\x00\x00\xff\x00\x01\x02\x01\x2c\x00\x00\xff\x01\xff\x00\x01"},
		{wrote("ab", maxNum, ""), "\x00ab\x00\x01\x06\x01\x00\x00\x00\x00\x00\x00\x00\x01"},
		{gone("", 0), "\x00\x00\x01\x00\x01\x00\x01"},
		{gone("ab", 2), "\x00ab\x00\x01\x01\x02\x01\x00\x01"},
		{commits(0, 1), "\x01\x00\x01\x01"},
		{commits(1, 2), "\x01\x01\x01\x01\x02"},
		{commits(255, 1<<16), "\x01\x01\xff\x03\x01\x00\x00"},
		{commits(maxNum, maxNum), "\x01\x06\x01\x00\x00\x00\x00\x00\x06\x01\x00\x00\x00\x00\x00"},
		{aborts(0), "\x02\x00"},
		{aborts(7), "\x02\x01\x07"},
		{aborts(maxNum - 1), "\x02\x05\xff\xff\xff\xff\xff"},
		{prunes(0), "\x03\x00"},
		{prunes(256), "\x03\x02\x01\x00"},
		{prunes(maxNum), "\x03\x06\x01\x00\x00\x00\x00\x00"},
	} {
		if laid(c.m) != c.want {
			t.Errorf("the test lays %s as %x, not as %x", name(c.m), laid(c.m), c.want)
		}
		checks(t, c.m, api.OK)
	}
}

// P12.4: what may not be is neither laid, nor has it bytes, nor is it read.
func TestWrongMessages(t *testing.T) {
	for _, m := range append(refused(), wrote(many(17, 1), 1, "v"), gone(strings.Repeat("\x00", 17), 1), wrote("k", 1, strings.Repeat("\xff", 25)), wrote(many(17, 2), 1, many(25, 2))) {
		checks(t, m, fault(m))
		if fault(m) == api.OK {
			t.Errorf("%s may be", name(m))
		}
	}
	for what, l := range map[string][]string{
		"nothing":                      {""},
		"a kind alone":                 {"\x00", "\x01", "\x02", "\x03"},
		"a kind above Prunes":          {"\x04", "\x04\x00", "\x04\x00\x00", "\x05\x00", "\x7f\x00", "\x80\x00", "\xff", "\xff\x00\x00", "\x04\x00\x01\x00\x00\x00\x01", "\x04\x01\x01\x01\x01"},
		"a Commits with the TS 0":      {"\x01\x00\x00", "\x01\x01\x01\x00", "\x01\x06\x01\x00\x00\x00\x00\x00\x00", "\x01\x00\x00\x01\x01"},
		"a number too few":             {"\x01\x00", "\x01\x01\x01", "\x01\x06\x01\x00\x00\x00\x00\x00"},
		"a number that is cut":         {"\x02\x01", "\x03\x02\x01", "\x01\x01\x01\x02\x01", "\x01\x00\x05\x01\x01\x01\x01", "\x00k\x00\x01\x01"},
		"a nought ahead":               {"\x02\x01\x00", "\x03\x01\x00", "\x03\x02\x00\x01", "\x01\x01\x00\x01\x01", "\x01\x00\x02\x00\x05", "\x01\x00\x01\x00", "\x00\x00\x01\x01\x00\x00\x00\x01", "\x00\x00\x01\x02\x00\x07\x00\x00\x01", "\x03\x08\x00\x00\x00\x00\x00\x00\x00\x01"},
		"more than eight bytes":        {"\x02\x09\x01\x01\x01\x01\x01\x01\x01\x01\x01", "\x03\xff", "\x01\x00\x09", "\x00\x00\x01\x09\x00\x00\x01"},
		"2^40 + 1":                     {"\x02\x06\x01\x00\x00\x00\x00\x01", "\x03\x06\x01\x00\x00\x00\x00\x01", "\x01\x06\x01\x00\x00\x00\x00\x01\x01\x01", "\x01\x00\x06\x01\x00\x00\x00\x00\x01", "\x00\x00\x01\x06\x01\x00\x00\x00\x00\x01\x00\x00\x01"},
		"far beyond 2^40":              {"\x02\x06\x02\x00\x00\x00\x00\x00", "\x03\x07\x01\x00\x00\x00\x00\x00\x00", "\x03\x08\x80\x00\x00\x00\x00\x00\x00\x00", "\x02\x08\xff\xff\xff\xff\xff\xff\xff\xff", "\x01\x00\x08\xff\xff\xff\xff\xff\xff\xff\xff"},
		"a text of other marks":        {"\x00\x00\x02\x00\x00\x00\x01", "\x00\x00\x00\x00\x00\x00\x01", "\x00a\x00\xfe\x00\x01\x00\x00\x00\x01", "\x00\x00\x01\x00\x00\x00\x02", "\x00\x00\x01\x00\x00v\x00\x00\x00\x01"},
		"a key that has no end":        {"\x00k", "\x00k\x00", "\x00k\x00\xff", "\x00k\x00\xff\x00"},
		"a key alone":                  {"\x00\x00\x01", "\x00k\x00\x01"},
		"a key and a transaction":      {"\x00\x00\x01\x00", "\x00k\x00\x01\x01\x07"},
		"a value too few":              {"\x00k\x00\x01\x00\x00", "\x00k\x00\x01\x00\x01", "\x00k\x00\x01\x01\x07\x01"},
		"a value that has no end":      {"\x00k\x00\x01\x00\x00v", "\x00k\x00\x01\x00\x00v\x00", "\x00k\x00\x01\x00\x01\x00", "\x00k\x00\x01\x00\x00v\x00\xff"},
		"neither 0 nor 1 for Gone":     {"\x00\x00\x01\x00\x02\x00\x01", "\x00\x00\x01\x00\xff\x00\x01", "\x00\x00\x01\x00\x80v\x00\x01"},
		"Gone with a value":            {"\x00\x00\x01\x00\x01v\x00\x01", "\x00k\x00\x01\x00\x01\x00\xff\x00\x01"},
		"a key of 17":                  {"\x00" + text(many(17, 1)) + "\x00\x00\x00\x01", "\x00" + text(strings.Repeat("\x00", 17)) + "\x00\x01\x00\x01", "\x00" + text(many(60, 1)) + "\x00\x00\x00\x01"},
		"a value of 25":                {"\x00\x00\x01\x00\x00" + text(many(25, 1)), "\x00\x00\x01\x00\x00" + text(strings.Repeat("\x00", 25)), "\x00\x00\x01\x00\x00" + text(many(70, 1))},
		"a message behind one that is": {"\x04\x02\x00", "\x01\x00\x00\x02\x00", "\x09\x03\x00"},
	} {
		for _, s := range l {
			refuses(t, what, s)
			asTheWordsSay(t, s)
		}
	}
	if m, n, e := Get(nil); m != (api.Msg{}) || n != 0 || e != api.ErrForm {
		t.Errorf("Get(nil) = %s, %d, %d", name(m), n, int(e))
	}
}

// P12.4: bytes that are cut short are none of a message.
func TestGetOfCutBytes(t *testing.T) {
	for _, m := range goodMsgs() {
		s := laid(m)
		for n := range len(s) {
			refuses(t, "cut", s[:n])
		}
	}
}

// P12.4, P12.5: whatever follows, what is put is got.
func TestGetWhateverFollows(t *testing.T) {
	great := strings.Repeat("x", 1<<16)
	for _, m := range []api.Msg{
		wrote("", 0, ""), wrote("k", 1, "v"), gone("k", 1), commits(0, 1), commits(1, 2), aborts(0), aborts(1), prunes(0), prunes(2),
		wrote(many(16, 1), maxNum, many(24, 2)), wrote(strings.Repeat("\x00", 16), maxNum, strings.Repeat("\x00", 24)), gone(strings.Repeat("\x00", 16), maxNum),
		commits(maxNum, maxNum), aborts(maxNum), prunes(maxNum),
	} {
		for x := range 256 {
			for _, y := range []string{"", "\x00", "\x01", "\xff"} {
				gets(t, laid(m), string([]byte{byte(x)})+y, m)
			}
		}
		for _, behind := range []string{great, strings.Repeat("\x00", 1<<16), strings.Repeat("\x00\x01", 1<<15), strings.Repeat("\xff", 1<<16)} {
			gets(t, laid(m), behind, m)
		}
	}
}

// P12.4: great inputs end, too.
func TestGetOfGreatBytes(t *testing.T) {
	great := strings.Repeat("x", 1<<20)
	for _, s := range []string{
		great, "\x00" + great, "\x00" + great + "\x00\x01\x00\x00\x00\x01", "\x00\x00\x01\x00\x00" + great + "\x00\x01", "\x00\x00\x01\x00\x01" + great,
		strings.Repeat("\x00", 1<<20), strings.Repeat("\x01\x00", 1<<19), strings.Repeat("\xff", 1<<20), "\x00" + strings.Repeat("\x00\xff", 1<<19) + "\x00\x01\x00\x00\x00\x01",
	} {
		refuses(t, "great bytes", s)
	}
}

// P12.4: each byte for Gone.
func TestGetOfMarks(t *testing.T) {
	for x := range 256 {
		mark := string([]byte{byte(x)})
		for _, value := range []string{"", "v"} {
			s := "\x00k\x00\x01\x01\x07" + mark + text(value)
			switch {
			case x == 0:
				gets(t, s, "\x01", wrote("k", 7, value))
			case x == 1 && value == "":
				gets(t, s, "\x00", gone("k", 7))
			default:
				refuses(t, "a mark", s)
			}
		}
	}
}

// P12.4: each kind, ahead of bytes that others have.
func TestGetOfKinds(t *testing.T) {
	for kind := 4; kind < 256; kind++ {
		for _, m := range []api.Msg{wrote("", 0, ""), wrote("k", 1, "v"), gone("k", 1), commits(1, 2), aborts(1), prunes(2)} {
			refuses(t, "a kind", string([]byte{byte(kind)})+laid(m)[1:])
			refuses(t, "a kind", string([]byte{byte(kind)})+laid(m))
		}
	}
}

// P12.4: all short bytes of some letters, behind each kind.
func TestGetOfAllShortBytes(t *testing.T) {
	good := [6]int{}
	for kind := range len(good) {
		each("\x00\x01\x02\xffk", 6, func(s string) {
			if asTheWordsSay(t, string([]byte{byte(kind)})+s) {
				good[kind]++
			}
		})
	}
	for kind, n := range good {
		if (n == 0) != (kind > 3) {
			t.Errorf("of kind %d there are %d", kind, n)
		}
	}
	// Longer ones, of the letters that make texts, behind a key and a transaction.
	written := 0
	each("\x00\x01\xffv", 7, func(s string) {
		if asTheWordsSay(t, "\x00k\x00\x01\x00"+s) {
			written++
		}
	})
	if written < 100 {
		t.Errorf("there are but %d", written)
	}
}

// P12.4: messages of which one byte is another, is left out, or stands twice.
func TestGetOfChangedBytes(t *testing.T) {
	for _, m := range []api.Msg{
		wrote("", 0, ""), wrote("k\x00", 300, "\x00v\x01"), wrote(many(16, 1), maxNum, many(24, 2)), wrote(strings.Repeat("\x00", 16), 1, strings.Repeat("\x00", 24)), gone("\x00\xff", 3), gone(many(15, 3), maxNum-1),
		commits(0, 1), commits(1, 256), commits(maxNum, 1<<16), commits(maxNum-1, maxNum), aborts(0), aborts(1), aborts(maxNum), prunes(0), prunes(1), prunes(maxNum),
	} {
		s := laid(m)
		for i := range len(s) {
			for x := range 256 {
				for _, behind := range []string{"", "\x00\x01"} {
					asTheWordsSay(t, s[:i]+string([]byte{byte(x)})+s[i+1:]+behind)
					asTheWordsSay(t, s[:i]+string([]byte{byte(x)})+s[i:]+behind)
				}
			}
			asTheWordsSay(t, s[:i]+s[i+1:])
		}
	}
}

// P12.4: pieces of messages in any order.
func TestGetOfPieces(t *testing.T) {
	next := rule(5)
	pieces := []string{"\x00", "\x01", "\x02", "\x03", "\x04", small(0), small(7), small(256), small(maxNum), small(maxNum + 1), "\x02\x00\x01", text(""), text("k"), text("\x00"), text(many(16, 1)), text(many(17, 1)), text(many(24, 2)), text(many(25, 2)), "\x00\xff", "\x00\x02"}
	good := 0
	for range 200000 {
		s := ""
		for range 1 + next(6) {
			s += pieces[next(len(pieces))]
		}
		if asTheWordsSay(t, s) {
			good++
		}
	}
	if good < 1000 {
		t.Errorf("there are but %d messages", good)
	}
}

// P12.4, P12.5: messages that are laid one behind the other are read so.
func TestMessagesInARow(t *testing.T) {
	next := rule(3)
	good := goodMsgs()
	for range 100 {
		var l []api.Msg
		for range next(60) {
			l = append(l, good[next(len(good))])
		}
		readsRow(t, l)
	}
	// A long row, too, of all.
	readsRow(t, slices.Repeat(good, 12))
}

// readsRow lays messages one behind the other, and asks that they are read so.
func readsRow(t *testing.T, l []api.Msg) {
	t.Helper()
	var row []byte
	size := 0
	for _, m := range l {
		b, e := Put(m)
		is(t, "Put "+name(m), e, api.OK)
		row = append(row, b...)
		size += Size(m)
	}
	if size != len(row) {
		t.Errorf("the sizes are %d, the row is %d", size, len(row))
	}
	for i, want := range l {
		m, n, e := Get(row)
		if m != want || n != len(laid(want)) || e != api.OK {
			t.Fatalf("of %d the one at %d is read as %s, %d, %d; want %s", len(l), i, name(m), n, int(e), name(want))
		}
		row = row[n:]
	}
	if len(row) > 0 {
		t.Errorf("%d bytes are left", len(row))
	}
}

// P12.5: no message begins another one's bytes.
func TestNoneBeginsAnother(t *testing.T) {
	var all []string
	for _, m := range append(goodMsgs(), wrote("a", 0, "v"), wrote("aa", 0, "v"), wrote("a\x00", 0, "vv"), gone("a", 0), commits(1, 1), commits(1, 257), aborts(257), prunes(257)) {
		b, e := Put(m)
		is(t, name(m), e, api.OK)
		all = append(all, string(b))
	}
	// Sorted, all that begin with one stand behind it.
	slices.Sort(all)
	all = slices.Compact(all)
	for i := range len(all) - 1 {
		if strings.HasPrefix(all[i+1], all[i]) {
			t.Errorf("%x begins %x", all[i], all[i+1])
		}
	}
	// None was lost by having another one's bytes.
	who := map[string]api.Msg{}
	for _, m := range goodMsgs() {
		b, _ := Put(m)
		if old, ok := who[string(b)]; ok && old != m {
			t.Errorf("%s and %s have the bytes %x", name(old), name(m), b)
		}
		who[string(b)] = m
	}
}

// Rule 3: bytes that are handed in are not changed, nor kept; those that are told are new.
func TestBytesAreNew(t *testing.T) {
	for _, m := range append(goodMsgs()[:60], wrote(many(16, 1), maxNum, many(24, 1)), wrote("k", 3, "v"), gone("k", 3), aborts(1)) {
		for _, s := range []string{laid(m), laid(m) + "\x00", laid(m)[1:]} {
			room := []byte(s + "\x0b\x16\x21")
			Get(room[:len(s)])
			if string(room) != s+"\x0b\x16\x21" {
				t.Errorf("Get changed %x to %x", s, room)
			}
		}
		given := []byte(laid(m))
		got, _, _ := Get(given)
		for i := range given {
			given[i] ^= 0x5a
		}
		if got != m {
			t.Errorf("Get tells %s with the bytes that it was given", name(m))
		}
		one, _ := Put(m)
		two, _ := Put(m)
		one = one[:cap(one)]
		for i := range one {
			one[i] ^= 0x5a
		}
		if string(two) != laid(m) {
			t.Errorf("two answers of Put %s share bytes", name(m))
		}
	}
}

// Rule 3: two answers of one call share nothing.
func TestAnswersAreNew(t *testing.T) {
	l := []api.Msg{wrote("k", 1, "v"), commits(2, 5), wrote("l", 1, "w")}
	one, two := For(l, "k"), For(l, "k")
	spoilMsgs(one)
	if !slices.Equal(two, []api.Msg{l[0], l[1]}) {
		t.Errorf("two answers of For share memory: %s", names(two))
	}
	first, second := Keys(l, "", ""), Keys(l, "", "")
	first[0], first[1] = "x", "y"
	if !slices.Equal(second, []string{"k", "l"}) {
		t.Errorf("two answers of Keys share memory: %q", second)
	}
	s := of(at(1, 3, "a"), waits(2, "b"))
	for _, m := range []api.Msg{wrote("k", 1, "v"), wrote("l", 1, "v"), commits(2, 5), commits(9, 5), aborts(9), prunes(1), {Kind: 9, Key: "k"}} {
		want := plainApply(s, m)
		a, b := Apply(s, m), Apply(s, m)
		c, d := Fold(s, []api.Msg{m, m}), Fold(s, []api.Msg{m, m})
		spoilVersions(a.List)
		spoilVersions(c.List)
		looks(t, "another answer of Apply of "+name(m), b, want)
		looks(t, "another answer of Fold of "+name(m), d, want)
		looks(t, "what was given", s, of(at(1, 3, "a"), waits(2, "b")))
	}
}

// Rule 4: what was asked ahead has no part in an answer.
func TestAnswersAreAlike(t *testing.T) {
	for range 3 {
		checks(t, wrote("key", 9, "value"), api.OK)
		checks(t, wrote(many(17, 1), 9, "value"), api.ErrTooBig)
		checks(t, commits(9, 0), api.ErrRange)
		checks(t, commits(9, 1), api.OK)
		refuses(t, "cut", "\x00key\x00\x01\x01\x09")
		gets(t, "\x02\x00", "\x00", aborts(0))
		applies(t, of(), wrote("k", 1, "v"), of(waits(1, "v")))
		applies(t, of(), wrote("l", 1, "v"), of())
		folds(t, of(), []api.Msg{wrote("k", 1, "v"), aborts(1)}, of())
		writes(t, []api.Msg{wrote("b", 1, "v"), wrote("a", 1, "v")}, "", "", "a", "b")
		writes(t, nil, "", "")
		picks(t, []api.Msg{wrote("b", 1, "v"), prunes(1)}, "a", []api.Msg{prunes(1)})
		picks(t, nil, "a", nil)
	}
}
