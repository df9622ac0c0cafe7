package leaf

import (
	"fmt"
	"math"
	"slices"
	"strings"
	"testing"

	"fascicle/api"
	"fascicle/msg"
	"fascicle/stack"
)

// The chapter's example.
func TestExample(t *testing.T) {
	l := Apply(Leaf{}, api.Msg{Kind: api.Writes, Key: "b", Txn: 1, Value: "y"})
	l = Apply(l, api.Msg{Kind: api.Writes, Key: "a", Txn: 1, Value: "x"})
	a := api.Stack{Key: "a", List: []api.Version{{Txn: 1, Value: "x"}}}
	b := api.Stack{Key: "b", List: []api.Version{{Txn: 1, Value: "y"}}}
	looks(t, "behind both", l.Stacks, []api.Stack{a, b})
	first, others, key := Split(l)
	looks(t, "the first part", first.Stacks, []api.Stack{a})
	looks(t, "the other part", others.Stacks, []api.Stack{b})
	if key != "b" {
		t.Errorf("parted at %q", key)
	}
}

// eight has as many versions as a stack may have.
func eight(key string) api.Stack {
	return of(key, at(1, 1, "a"), at(2, 2, "b"), goneAt(3, 3), at(1, 9, "c"), waits(1, "d"), waits(2, "e"), goes(4), waits(0, "g"))
}

// P14.1, P14.6: leaves that may be.
func TestGoodLeaves(t *testing.T) {
	for _, l := range []Leaf{
		{}, {Stacks: []api.Stack{}},
		keysOf(""), keysOf("a"), keysOf("a", "b"), keysOf("", "\x00", "\x00\x00", "\x01", "a", "a\x00", "aa", "b", "\xff", "\xff\xff"),
		leafOf(of("a", goes(0))), leafOf(of("a", waits(maxNum, many(24, 1))), of("b", goneAt(0, maxNum))),
		leafOf(eight("k")), leafOf(keyed("a"), eight("b"), keyed("c")),
		keysOf(strings.Repeat("\x00", 16), strings.Repeat("a", 16), many(16, 3)+""),
	} {
		slices.SortFunc(l.Stacks, func(a, b api.Stack) int { return strings.Compare(a.Key, b.Key) })
		checks(t, "a leaf that may be", l, api.OK)
	}
}

// badStacks are stacks, each with an error of stack's Check.
func badStacks() []struct {
	what string
	s    api.Stack
	want api.Errno
} {
	nine := eight("m")
	nine.List = append(nine.List, waits(9, "z"))
	return []struct {
		what string
		s    api.Stack
		want api.Errno
	}{
		{"a key of 17", keyed(strings.Repeat("m", 17)), api.ErrTooBig},
		{"a key of 17, and no versions", of(strings.Repeat("m", 17)), api.ErrTooBig},
		{"nine versions", nine, api.ErrFull},
		{"a value of 25", of("m", waits(1, strings.Repeat("v", 25))), api.ErrTooBig},
		{"a gone one with a value", of("m", api.Version{Gone: true, Value: "v"}), api.ErrForm},
		{"a Txn below 0", of("m", waits(-1, "v")), api.ErrRange},
		{"a Txn above 2^40", of("m", waits(maxNum+1, "v")), api.ErrRange},
		{"a TS below 0", of("m", at(1, -1, "v")), api.ErrRange},
		{"a TS above 2^40", of("m", at(1, maxNum+1, "v")), api.ErrRange},
		{"a pending one ahead", of("m", waits(1, "v"), at(2, 3, "w")), api.ErrOrder},
		{"times that fall", of("m", at(1, 4, "v"), at(2, 3, "w")), api.ErrOrder},
		{"two pending ones of one", of("m", waits(1, "v"), waits(1, "w")), api.ErrOrder},
	}
}

// P14.1: each error of stack's Check, wherever the stack stands, and whatever else is wrong.
func TestCheckStacks(t *testing.T) {
	for _, c := range badStacks() {
		is(t, c.what, stack.Check(c.s), c.want)
		for _, l := range []Leaf{
			leafOf(c.s), leafOf(keyed("a"), c.s), leafOf(c.s, keyed("z")), leafOf(keyed("a"), c.s, keyed("z")),
			// A stack without versions, keys that do not rise, one key twice, too many bytes.
			leafOf(of("a"), c.s), leafOf(c.s, of("z")), leafOf(keyed("z"), c.s, keyed("a")), leafOf(keyed("z"), keyed("z"), c.s), leafOf(c.s, c.s),
			leafOf(append(filled(2000).Stacks, c.s)...), leafOf(append([]api.Stack{c.s, of("")}, filled(1500).Stacks...)...),
		} {
			checks(t, c.what, l, c.want)
		}
	}
}

// P14.1: of several stacks with errors the first one's is told.
func TestCheckTheFirstStack(t *testing.T) {
	for _, a := range badStacks() {
		for _, b := range badStacks() {
			checks(t, a.what+", and "+b.what, leafOf(keyed("a"), a.s, keyed("n"), b.s), a.want)
		}
	}
}

// P14.1: a stack without versions.
func TestCheckStacksWithoutVersions(t *testing.T) {
	for _, l := range []Leaf{
		leafOf(of("")), leafOf(of("a")), leafOf(of("a"), keyed("b")), leafOf(keyed("a"), of("b")), leafOf(keyed("a"), of("b"), keyed("c")), leafOf(of("a"), of("b")),
		leafOf(api.Stack{Key: "a", List: []api.Version{}}),
		// Keys that do not rise, one key twice, too many bytes.
		leafOf(keyed("b"), of("a")), leafOf(of("b"), keyed("a")), leafOf(keyed("a"), of("a")), leafOf(keyed("b"), keyed("a"), of("c")),
		leafOf(append(filled(1500).Stacks, of("x"))...), leafOf(append(filled(1500).Stacks, of(""))...),
	} {
		checks(t, "without versions", l, api.ErrForm)
	}
}

// P14.1: keys that do not rise, and one key twice.
func TestCheckOrder(t *testing.T) {
	for _, keys := range [][]string{
		{"b", "a"}, {"a", "a"}, {"", ""}, {"a", ""}, {"a\x00", "a"}, {"aa", "a"}, {"\xff", "a"}, {"\x80", "\x7f"}, {"b", "B"},
		{"a", "b", "b"}, {"a", "a", "b"}, {"a", "b", "a"}, {"b", "a", "c"}, {"a", "c", "b"}, {"a", "b", "c", "e", "d"}, {"c", "b", "a"},
	} {
		checks(t, "keys", keysOf(keys...), api.ErrOrder)
	}
	same := leafOf(of("a", waits(1, "v")), of("a", waits(2, "w")))
	checks(t, "other versions of one key", same, api.ErrOrder)
	// Too many bytes, too.
	great := filled(1500).Stacks
	checks(t, "a great leaf", leafOf(append(slices.Clone(great), great[0])...), api.ErrOrder)
	checks(t, "a great leaf", leafOf(append(slices.Clone(great), great[len(great)-1])...), api.ErrOrder)
	each([]string{"", "a", "ab", "b"}, 4, func(keys []string) {
		l := keysOf(keys...)
		checks(t, "keys", l, plainCheck(l))
	})
}

// P14.1: up to 1016 bytes.
func TestCheckTooBig(t *testing.T) {
	for n := 900; n < 1200; n++ {
		l := filled(n)
		if len(laid(l)) != n {
			t.Fatalf("the test fills %d bytes, not %d", len(laid(l)), n)
		}
		want := api.OK
		if n > nodeSize {
			want = api.ErrTooBig
		}
		checks(t, fmt.Sprint(n, " bytes"), l, want)
	}
	// Of two great stacks, and of many of the smallest ones.
	checks(t, "a great stack", leafOf(greatest('a')), api.OK)
	checks(t, "two great stacks", leafOf(greatest('a'), greatest('b')), api.ErrTooBig)
	least, count := Leaf{}, 0
	for ; len(laid(least)) <= nodeSize; count++ {
		checks(t, "small stacks", least, api.OK)
		least.Stacks = append(least.Stacks, of(string([]byte{byte(1 + count)}), goes(0)))
	}
	checks(t, "one small stack too many", least, api.ErrTooBig)
	if count != 85 {
		t.Errorf("there are %d small stacks in too great a leaf", count)
	}
}

// P14.1: mixes of stacks, so that of several errors the one counts that is named first.
func TestMixes(t *testing.T) {
	great := of("c")
	for i := range 8 {
		great.List = append(great.List, waits(i, strings.Repeat("\x00", 24)))
	}
	another := of("d", great.List...)
	last := of("e", great.List...)
	kinds := []api.Stack{keyed("a"), keyed("b"), of("b"), great, another, last, of("c", waits(-1, "")), keyed(strings.Repeat("d", 17))}
	seen := map[api.Errno]int{}
	each(kinds, 4, func(s []api.Stack) {
		l := leafOf(s...)
		is(t, "Check "+name(s), Check(l), plainCheck(l))
		if Size(l) != len(laid(l)) {
			t.Errorf("Size %s = %d, want %d", name(s), Size(l), len(laid(l)))
		}
		seen[plainCheck(l)]++
	})
	if len(seen) != 5 {
		t.Errorf("the mixes have other errors than all: %v", seen)
	}
}

// long makes a stack of 243 bytes, and of one more for each byte of its key.
func long(n int) api.Stack {
	s := of(strings.Repeat("k", n))
	for i := range 8 {
		s.List = append(s.List, waits(i, strings.Repeat("v", 24)))
	}
	return s
}

// P14.1: by hand.
func TestSize(t *testing.T) {
	for _, c := range []struct {
		what string
		l    Leaf
		want int
	}{
		{"no stacks", Leaf{}, 1},
		{"one without a key, or versions", leafOf(of("")), 2 + 2 + 2 + 1},
		{"one without versions", leafOf(of("k")), 2 + 2 + 3 + 1},
		{"one of one version", leafOf(of("k", waits(0, ""))), 2 + 2 + 3 + 2 + 5},
		{"one with all that has bytes", leafOf(of("k\x00", at(1, 256, "v\x00"))), 2 + 2 + 5 + 2 + 2 + 3 + 1 + 5},
		{"two", leafOf(of("k", waits(0, "")), of("l", goes(1))), 2 + 2 + 3 + 2 + 5 + 2 + 3 + 2 + 6},
		{"one that stack refuses", leafOf(of("k", waits(-1, "v"))), 2 + 1},
		{"one that stack refuses beside another", leafOf(of("k", waits(-1, "v")), of("l", waits(0, ""))), 2 + 1 + 2 + 3 + 2 + 5},
		{"a key that is too long", leafOf(keyed(strings.Repeat("k", 17)), keyed(strings.Repeat("l", 300))), 2 + 1 + 1},
		{"one of 255 bytes", leafOf(long(12)), 2 + 2 + 255},
		{"one of 256 bytes", leafOf(long(13)), 2 + 3 + 256},
	} {
		if n := Size(c.l); n != c.want {
			t.Errorf("Size of %s = %d, want %d", c.what, n, c.want)
		}
	}
	// Keys that do not rise, and many stacks, count as they are.
	for n := range 400 {
		l := Leaf{Stacks: slices.Repeat([]api.Stack{of("k", waits(0, ""))}, n)}
		want := len(small(n)) + 12*n
		if Size(l) != want {
			t.Errorf("Size of %d stacks = %d, want %d", n, Size(l), want)
		}
	}
	for n := range 17 {
		checks(t, "a stack of about 256 bytes", leafOf(long(n)), api.OK)
	}
}

// P14.2: a key that is there, and keys below all, between two and above all.
func TestFind(t *testing.T) {
	for n := range 9 {
		var l Leaf
		for i := range n {
			l.Stacks = append(l.Stacks, eight(string([]byte{byte('b' + 2*i)})))
		}
		for i := range 2*n + 3 {
			key := string([]byte{byte('a' + i)})
			want, ok := plainFind(l, key)
			if ok != (i%2 == 1 && i < 2*n) {
				t.Errorf("the test looks for %q in %s", key, name(l.Stacks))
			}
			finds(t, l, key, want, ok)
			finds(t, l, key+"\x00", api.Stack{Key: key + "\x00"}, false)
		}
		finds(t, l, "", api.Stack{}, false)
		finds(t, l, strings.Repeat("c", 300), api.Stack{Key: strings.Repeat("c", 300)}, false)
		finds(t, l, "\xff", api.Stack{Key: "\xff"}, false)
	}
	l := keysOf("", "\x00", "a", "a\x00", "aa", "\xff")
	for _, s := range l.Stacks {
		finds(t, l, s.Key, s, true)
	}
	finds(t, leafOf(of("a"), keyed("b")), "a", of("a"), true)
	// A full leaf, by each of its keys.
	full := filled(nodeSize)
	for _, s := range full.Stacks {
		finds(t, full, s.Key, s, true)
	}
}

// P14.2: keys that do not rise, and one key that two stacks have: the first one is found.
func TestFindInAnyLeaf(t *testing.T) {
	kinds := []string{"b", "d", "f", "h"}
	each(kinds, 4, func(keys []string) {
		l := keysOf(keys...)
		for i := range l.Stacks {
			l.Stacks[i].List[0].Txn = i // so that each one is another
		}
		for _, key := range []string{"", "a", "b", "c", "d", "e", "f", "g", "h", "i"} {
			want, ok := plainFind(l, key)
			finds(t, l, key, want, ok)
		}
	})
	bad := leafOf(keyed(strings.Repeat("k", 17)), of("a", waits(-1, "v")), of("a"))
	finds(t, bad, "a", of("a", waits(-1, "v")), true)
	finds(t, bad, strings.Repeat("k", 17), bad.Stacks[0], true)
}

// P14.2: every sort of bounds, by hand.
func TestRangeByHand(t *testing.T) {
	l := keysOf("b", "d", "f")
	for _, c := range []struct {
		lo, hi string
		want   []api.Stack
	}{
		{"", "", l.Stacks},
		{"a", "", l.Stacks},
		{"b", "", l.Stacks},
		{"c", "", l.Stacks[1:]},
		{"f", "", l.Stacks[2:]},
		{"f\x00", "", nil},
		{"g", "", nil},
		{"", "a", nil},
		{"", "b", nil},
		{"", "b\x00", l.Stacks[:1]},
		{"", "d", l.Stacks[:1]},
		{"", "g", l.Stacks},
		{"b", "d", l.Stacks[:1]},
		{"b", "f", l.Stacks[:2]},
		{"c", "e", l.Stacks[1:2]},
		{"d", "d\x00", l.Stacks[1:2]},
		{"d", "d", nil},
		{"b\x00", "d", nil},
		{"c", "d", nil},
		{"f", "b", nil},
		{"e", "c", nil},
		{"z", "a", nil},
	} {
		ranges(t, l, c.lo, c.hi, c.want)
	}
	ranges(t, Leaf{}, "", "", nil)
	ranges(t, leafOf(of("")), "", "", []api.Stack{of("")})
}

// P14.2: every leaf of up to four keys, in whatever order, in all bounds.
func TestRangeOfAnyLeaf(t *testing.T) {
	bounds := []string{"", "a", "b", "b\x00", "c", "\xff"}
	each([]string{"", "a", "b", "c"}, 4, func(keys []string) {
		l := keysOf(keys...)
		for _, lo := range bounds {
			for _, hi := range bounds {
				ranges(t, l, lo, hi, plainRange(l.Stacks, lo, hi))
			}
		}
	})
}

// some is a leaf of which each kind of message finds something to change.
func some() Leaf {
	return leafOf(
		of("b", at(1, 3, "v"), waits(7, "w")),
		of("d", goes(7)),
		of("f", at(1, 3, "a"), goneAt(2, 5), waits(7, "b"), waits(8, "c")),
	)
}

// P14.3: new keys below all, between two and above all.
func TestApplyOfNewKeys(t *testing.T) {
	l := some()
	b, d, f := l.Stacks[0], l.Stacks[1], l.Stacks[2]
	applies(t, Leaf{}, wrote("k", 1, "v"), of("k", waits(1, "v")))
	applies(t, Leaf{}, gone("", 0), of("", goes(0)))
	applies(t, l, wrote("", 9, "v"), of("", waits(9, "v")), b, d, f)
	applies(t, l, wrote("a", 9, "v"), of("a", waits(9, "v")), b, d, f)
	applies(t, l, wrote("b\x00", 9, "v"), b, of("b\x00", waits(9, "v")), d, f)
	applies(t, l, gone("c", 9), b, of("c", goes(9)), d, f)
	applies(t, l, wrote("e", maxNum, many(24, 1)), b, d, of("e", waits(maxNum, many(24, 1))), f)
	applies(t, l, wrote("g", 0, ""), b, d, f, of("g", waits(0, "")))
	applies(t, l, gone(strings.Repeat("\xff", 16), 7), b, d, f, of(strings.Repeat("\xff", 16), goes(7)))
}

// P14.3: a key that is there.
func TestApplyOfKeys(t *testing.T) {
	l := some()
	b, d, f := l.Stacks[0], l.Stacks[1], l.Stacks[2]
	applies(t, l, wrote("b", 9, "z"), of("b", at(1, 3, "v"), waits(7, "w"), waits(9, "z")), d, f)
	applies(t, l, gone("b", 7), of("b", at(1, 3, "v"), goes(7)), d, f)
	applies(t, l, wrote("d", 7, "z"), b, of("d", waits(7, "z")), f)
	applies(t, l, wrote("f", 8, "z"), b, d, of("f", at(1, 3, "a"), goneAt(2, 5), waits(7, "b"), waits(8, "z")))
	applies(t, leafOf(eight("k")), wrote("k", 9, "z"), eight("k"))
	applies(t, leafOf(eight("k")), wrote("l", 9, "z"), eight("k"), of("l", waits(9, "z")))
}

// P14.3: wide messages, to all stacks; those without versions go.
func TestApplyOfWideMessages(t *testing.T) {
	l := some()
	b, d, f := l.Stacks[0], l.Stacks[1], l.Stacks[2]
	applies(t, l, commits(7, 4),
		of("b", at(1, 3, "v"), at(7, 4, "w")),
		of("d", goneAt(7, 4)),
		of("f", at(1, 3, "a"), at(7, 4, "b"), goneAt(2, 5), waits(8, "c")))
	applies(t, l, commits(9, 4), b, d, f)
	applies(t, l, aborts(7), of("b", at(1, 3, "v")), of("f", at(1, 3, "a"), goneAt(2, 5), waits(8, "c")))
	applies(t, l, aborts(1), b, d, f)
	applies(t, l, prunes(5), b, d, of("f", waits(7, "b"), waits(8, "c")))
	applies(t, l, prunes(2), b, d, f)
	applies(t, leafOf(of("a", goneAt(1, 3)), of("b", goneAt(1, 4))), prunes(3), of("b", goneAt(1, 4)))
	applies(t, leafOf(of("a", goneAt(1, 3)), of("b", goneAt(1, 3))), prunes(3))
	applies(t, leafOf(of("a", waits(1, "v")), of("b", goes(1))), aborts(1))
	for _, m := range []api.Msg{commits(1, 1), aborts(1), prunes(1), {Kind: 9}} {
		applies(t, Leaf{}, m)
	}
}

// P14.3: messages that msg's Check refuses change nothing, nor make a stack.
func TestApplyOfBadMessages(t *testing.T) {
	l := some()
	for _, m := range badMsgs() {
		if msg.Check(m) == api.OK {
			t.Errorf("%s may be", told(m))
		}
		applies(t, l, m, l.Stacks...)
		applies(t, Leaf{}, m)
		// Stacks that have no versions go all the same.
		applies(t, leafOf(of("a"), keyed("b"), of("n")), m, keyed("b"))
	}
}

// P14.3: stacks without versions go, whatever the message is, but for one that it writes.
func TestApplyToStacksWithoutVersions(t *testing.T) {
	l := leafOf(of("a"), keyed("b"), of("c"), keyed("d"), of("e"))
	for _, m := range []api.Msg{commits(1, 5), aborts(9), prunes(0), wrote("b", 1, ""), {Kind: 7}} {
		applies(t, l, m, plainApply(l.Stacks, m)...)
		if n := len(plainApply(l.Stacks, m)); n != 2 {
			t.Errorf("of %s %d are left", told(m), n)
		}
	}
	applies(t, l, wrote("c", 3, "v"), keyed("b"), of("c", waits(3, "v")), keyed("d"))
	applies(t, l, gone("a", 3), of("a", goes(3)), keyed("b"), keyed("d"))
	applies(t, l, wrote("cc", 3, "v"), keyed("b"), of("cc", waits(3, "v")), keyed("d"))
	applies(t, leafOf(of("a")), aborts(1))
}

// P14.3: leaves of whatever keys, held against the words.
func TestApplyToAnyLeaf(t *testing.T) {
	kinds := []api.Stack{of("a"), of("b", waits(1, "v")), of("b", goneAt(2, 3)), of("c", waits(2, "w"), waits(-1, "x")), eight("d")}
	ms := append(badMsgs()[:8], wrote("", 1, "n"), wrote("a", 1, "n"), wrote("aa", 2, "n"), wrote("b", 1, "n"), gone("c", 2), gone("cc", 1), wrote("d", 1, "n"), wrote("d", 9, "n"), wrote("e", 9, "n"), commits(1, 4), commits(2, maxNum), aborts(1), aborts(2), prunes(3), prunes(0))
	each(kinds, 3, func(l []api.Stack) {
		for _, m := range ms {
			applies(t, leafOf(l...), m, plainApply(l, m)...)
		}
	})
}

// P14.4: by hand.
func TestOverByHand(t *testing.T) {
	l := some().Stacks
	b, d, f := l[0], l[1], l[2]
	// No messages.
	overs(t, l, nil, "", "", b, d, f)
	overs(t, l, []api.Msg{}, "c", "", d, f)
	overs(t, l, nil, "c", "f", d)
	overs(t, l, nil, "f", "b")
	overs(t, l, nil, "g", "")
	overs(t, nil, nil, "", "")
	overs(t, []api.Stack{of("a"), keyed("b")}, nil, "", "", keyed("b"))
	// Several keys, within bounds and beyond them.
	m := []api.Msg{wrote("a", 9, "1"), wrote("c", 9, "2"), gone("b", 9), wrote("f", 9, "3"), wrote("c", 8, "4"), wrote("g", 9, "5"), wrote("c", 9, "6")}
	c := of("c", waits(9, "6"), waits(8, "4"))
	b9 := of("b", at(1, 3, "v"), waits(7, "w"), goes(9))
	f9 := of("f", at(1, 3, "a"), goneAt(2, 5), waits(7, "b"), waits(8, "c"), waits(9, "3"))
	overs(t, l, m, "", "", of("a", waits(9, "1")), b9, c, d, f9, of("g", waits(9, "5")))
	overs(t, l, m, "b", "f", b9, c, d)
	overs(t, l, m, "c", "", c, d, f9, of("g", waits(9, "5")))
	overs(t, l, m, "c", "c\x00", c)
	overs(t, l, m, "", "b", of("a", waits(9, "1")))
	overs(t, l, m, "b\x00", "c")
	overs(t, l, m, "d", "d")
	overs(t, l, m, "f", "c")
	overs(t, nil, m, "", "c", of("a", waits(9, "1")), of("b", goes(9)))
}

// P14.4: wide messages, and keys that a later message gives up.
func TestOverWide(t *testing.T) {
	l := some().Stacks
	d := l[1]
	overs(t, l, []api.Msg{commits(7, 4), prunes(4)}, "a", "e", of("b", at(7, 4, "w")))
	overs(t, l, []api.Msg{aborts(7), prunes(5)}, "", "", of("b", at(1, 3, "v")), of("f", waits(8, "c")))
	overs(t, l, []api.Msg{wrote("c", 9, "v"), aborts(9)}, "b\x00", "f", d)
	overs(t, l, []api.Msg{wrote("c", 9, "v"), aborts(9), wrote("c", 9, "w")}, "c", "f", of("c", waits(9, "w")), d)
	overs(t, l, []api.Msg{aborts(9), wrote("c", 9, "v")}, "c", "f", of("c", waits(9, "v")), d)
	overs(t, l, []api.Msg{gone("c", 9), commits(9, 6), prunes(6)}, "c", "f", d)
	overs(t, l, []api.Msg{gone("c", 9), commits(9, 6), prunes(5)}, "c", "f", of("c", goneAt(9, 6)), d)
	overs(t, l, []api.Msg{prunes(6), gone("c", 9), commits(9, 6)}, "c", "f", of("c", goneAt(9, 6)), d)
	overs(t, nil, []api.Msg{wrote("a", 1, "v"), wrote("b", 2, "w"), commits(2, 3), aborts(1)}, "", "", of("b", at(2, 3, "w")))
	overs(t, nil, []api.Msg{commits(1, 3), aborts(1), prunes(3)}, "", "")
	// What msg's Check refuses makes no stack, and changes none.
	overs(t, l, badMsgs(), "", "", l...)
	overs(t, nil, badMsgs(), "", "")
	overs(t, nil, append(badMsgs(), wrote("n", 2, "v")), "", "", of("n", waits(2, "v")))
}

// P14.4: all short lists of some messages, over some stacks, in all bounds, against the words.
func TestOverMixes(t *testing.T) {
	ms := []api.Msg{wrote("a", 1, "1"), wrote("b", 2, "2"), gone("b", 1), gone("ab", 2), commits(1, 4), aborts(2), prunes(4), {Kind: 0, Key: "a", Txn: -1}, {Kind: 5, Key: "b"}}
	leaves := [][]api.Stack{nil, {of("a", waits(1, "v"))}, {of("ab", at(3, 2, "v")), of("b", goneAt(3, 3))}, {of("", waits(2, "x")), of("a"), of("b", waits(2, "y")), of("c", waits(1, "z"))}}
	bounds := []string{"", "a", "b", "b\x00"}
	each(ms, 3, func(m []api.Msg) {
		for _, l := range leaves {
			for _, lo := range bounds {
				for _, hi := range bounds {
					overs(t, l, m, lo, hi, plainOver(l, m, lo, hi)...)
				}
			}
		}
	})
}

// P14.3, P14.4: one by one, or at once: all is the same.
func TestOverIsApplyOfEach(t *testing.T) {
	next := rule(9)
	for range 300 {
		l := anyLeaf(next)
		var m []api.Msg
		done := l
		for range next(40) {
			m = append(m, anyMsg(next))
			done = Apply(done, m[len(m)-1])
		}
		overs(t, l.Stacks, m, "", "", done.Stacks...)
		lo, hi := many(next(3), uint32(next(200))), many(next(3), uint32(next(200)))
		overs(t, l.Stacks, m, lo, hi, plainRange(done.Stacks, lo, hi)...)
		overs(t, l.Stacks, m, lo, "", plainOver(l.Stacks, m, lo, "")...)
	}
}

// P14.4: what is no rising list ends, too, and what it is given stays.
func TestOverOfOtherStacks(t *testing.T) {
	m := []api.Msg{wrote("b", 1, "n"), wrote("e", 2, "n"), commits(2, 5)}
	each([]string{"", "a", "b", "c"}, 4, func(keys []string) {
		given := roomy(keysOf(keys...).Stacks)
		ahead := whole(given)
		got := Over(given, m, "", "c")
		if whole(given) != ahead {
			t.Errorf("Over changed %s", name(given))
		}
		apart(t, "Over", given, got)
	})
}

// P14.5: of no stack and of one.
func TestSplitOfFew(t *testing.T) {
	splits(t, Leaf{}, 0, "")
	splits(t, leafOf(), 0, "")
	splits(t, keysOf(""), 1, "")
	splits(t, keysOf("a"), 1, "")
	splits(t, leafOf(of("a")), 1, "")
	splits(t, leafOf(eight("k")), 1, "")
	splits(t, leafOf(of("a", waits(-1, "v"))), 1, "")
}

// P14.5: by hand.
func TestSplitByHand(t *testing.T) {
	splits(t, keysOf("a", "b"), 1, "b")
	splits(t, leafOf(eight("a"), keyed("b")), 1, "b")
	splits(t, leafOf(keyed("a"), eight("b")), 1, "b")
	splits(t, keysOf("a", "b", "c"), 1, "b") // 1 and 2, as good as 2 and 1
	splits(t, keysOf("a", "b", "c", "d"), 2, "c")
	splits(t, keysOf("a", "b", "c", "d", "e"), 2, "c")
	splits(t, leafOf(eight("a"), keyed("b"), keyed("c"), keyed("d")), 1, "b")
	splits(t, leafOf(keyed("a"), keyed("b"), keyed("c"), eight("d")), 3, "d")
	splits(t, leafOf(keyed("a"), eight("b"), keyed("c")), 1, "b")
	splits(t, leafOf(keyed("a"), eight("b"), keyed("c"), keyed("d")), 2, "c")
	splits(t, leafOf(keyed("a"), keyed("b"), eight("c"), keyed("d")), 2, "c")
	splits(t, leafOf(eight("a"), keyed("b"), keyed("c"), eight("d")), 2, "c")
	// Of 20, 20, 20, 40, 20: 60 and 60.
	splits(t, leafOf(sized("a", 20), sized("b", 20), sized("c", 20), sized("d", 40), sized("e", 20)), 3, sized("d", 40).Key)
	// Of 20, 41, 20: behind the first one 61, behind the second one 61.
	splits(t, leafOf(sized("a", 20), sized("b", 41), sized("c", 20)), 1, sized("b", 41).Key)
	// A byte less in front, and the second place is better; a byte less behind, and the first one is.
	splits(t, leafOf(sized("a", 19), sized("b", 41), sized("c", 20)), 2, sized("c", 20).Key)
	splits(t, leafOf(sized("a", 20), sized("b", 41), sized("c", 19)), 1, sized("b", 41).Key)
	// Equal parts: the bytes that tell how many bytes a stack has count, too.
	splits(t, leafOf(sized("a", 30), sized("b", 30), sized("c", 30), sized("d", 30)), 2, sized("c", 30).Key)
}

// P14.5: stacks that stack refuses count as ones without bytes, of keys that do not rise the parts are as they stand.
func TestSplitOfBadLeaves(t *testing.T) {
	bad := func(key string) api.Stack { return of(key, waits(-1, "v")) }
	splits(t, leafOf(bad("a"), bad("b")), 1, "b")
	splits(t, leafOf(bad("a"), bad("b"), bad("c"), bad("d")), 2, "c")
	splits(t, leafOf(bad("a"), bad("b"), bad("c"), keyed("d")), 3, "d")
	splits(t, leafOf(keyed("a"), bad("b"), bad("c"), bad("d")), 1, "b")
	splits(t, leafOf(keyed("a"), bad("b"), keyed("c")), 1, "b")
	splits(t, leafOf(keyed("d"), keyed("c"), keyed("b"), keyed("a")), 2, "b")
	splits(t, keysOf("a", "a"), 1, "a")
	splits(t, leafOf(of("a"), of("b")), 1, "b")
	splits(t, leafOf(keyed(""), keyed("")), 1, "")
}

// P14.5: all lists of up to five of some sizes, against the words.
func TestSplitOfAllSizes(t *testing.T) {
	kinds := []api.Stack{sized("a", 13), sized("b", 14), sized("c", 27), eight("d"), of("e", waits(-1, ""))}
	each(kinds, 5, func(l []api.Stack) {
		first := plainSplit(l)
		key := ""
		if first < len(l) {
			key = l[first].Key
		}
		a, b, sep := Split(leafOf(l...))
		if len(a.Stacks) != first || len(b.Stacks) != len(l)-first || sep != key {
			t.Errorf("Split of %s: %d and %d, at %q; want %d, at %q", name(l), len(a.Stacks), len(b.Stacks), sep, first, key)
		}
	})
	next := rule(4)
	for range 60 {
		var l []api.Stack
		for i := range 2 + next(40) {
			l = append(l, anyStack(next, fmt.Sprintf("%03d", i)))
		}
		first := plainSplit(l)
		splits(t, leafOf(l...), first, l[first].Key)
	}
}

// P14.5: whatever stands where.
func TestJoin(t *testing.T) {
	leaves := []Leaf{{}, keysOf("a"), keysOf("b", "c"), leafOf(of("a")), leafOf(eight("k"), keyed("a")), leafOf(of("m", waits(-1, "v"))), filled(nodeSize)}
	for _, a := range leaves {
		for _, b := range leaves {
			joins(t, a, b)
		}
	}
	l := keysOf("a", "b")
	both := Join(l, l)
	looks(t, "a leaf joined to itself", both.Stacks, []api.Stack{keyed("a"), keyed("b"), keyed("a"), keyed("b")})
	apart(t, "a leaf joined to itself", both.Stacks, l.Stacks)
}

// P14.6: by hand.
func TestPut(t *testing.T) {
	for _, c := range []struct {
		l    Leaf
		want string
	}{
		{Leaf{}, "\x00"},
		{leafOf(of("", waits(0, ""))), "\x01\x01\x01\x09\x00\x01\x01\x01\x00\x00\x00\x00\x01"},
		{leafOf(of("a", waits(1, "v"))), "\x01\x01\x01\x0ca\x00\x01\x01\x01\x01\x01\x00\x00v\x00\x01"},
		{leafOf(of("a", at(1, 300, "v"), goes(2)), of("b\x00", goneAt(3, 4))), "\x01\x02" + "\x01\x14a\x00\x01\x01\x02\x01\x01\x02\x01\x2c\x00v\x00\x01\x01\x02\x00\x01\x00\x01" + "\x01\x0eb\x00\xff\x00\x01\x01\x01\x01\x03\x01\x04\x01\x00\x01"},
	} {
		if laid(c.l) != c.want {
			t.Errorf("the test lays %s as %x, not as %x", name(c.l.Stacks), laid(c.l), c.want)
		}
		checks(t, "by hand", c.l, api.OK)
	}
}

// P14.6: leaves of a short rule, among them great ones.
func TestPutAndGet(t *testing.T) {
	next := rule(2)
	stacks := 0
	for range 500 {
		l := anyLeaf(next)
		checks(t, "some leaf", l, api.OK)
		stacks += len(l.Stacks)
	}
	if stacks < 2000 {
		t.Errorf("there are but %d stacks", stacks)
	}
}

// P14.6: bytes that are cut short, and bytes with one more behind.
func TestGetOfCutAndLongerBytes(t *testing.T) {
	for _, l := range []Leaf{{}, keysOf(""), keysOf("a"), keysOf("a", "b", "c"), some(), leafOf(eight("k")), filled(nodeSize)} {
		s := laid(l)
		gets(t, s, l)
		for n := range len(s) {
			refuses(t, "cut", s[:n])
		}
		for x := range 256 {
			refuses(t, "one more", s+string([]byte{byte(x)}))
			refuses(t, "one more ahead", string([]byte{byte(x)})+s)
		}
		refuses(t, "twice", s+s)
	}
	if l, e := Get(nil); l.Stacks != nil || e != api.ErrForm {
		t.Errorf("Get(nil) = %s, %d", name(l.Stacks), int(e))
	}
}

// P14.6: counts and lengths that do not fit, and stacks' bytes that are none.
func TestWrongBytes(t *testing.T) {
	a, b := keyed("a"), keyed("b")
	one := part(a)
	for what, l := range map[string][]string{
		"nothing":                     {""},
		"a count too few":             {parts(0, a), parts(1, a, b), parts(2, a, b, keyed("c"))},
		"a count too many":            {parts(1), parts(2, a), parts(3, a, b), parts(256), parts(256, a), parts(maxNum, a), "\x06\x01\x00\x00\x00\x00\x01" + one, "\x08\xff\xff\xff\xff\xff\xff\xff\xff" + one, "\x08\x80\x00\x00\x00\x00\x00\x00\x00"},
		"a count of other bytes":      {"\x01\x00", "\x02\x00\x01" + one, "\x09" + one, "\xff", "\x01", "\x02\x01", "\x08\x00\x00\x00\x00\x00\x00\x00\x01" + one},
		"a length too small":          {"\x01\x01" + small(len(one)-3) + one[2:], "\x01\x01\x01\x01" + one[2:], "\x01\x01\x00" + one[2:], "\x01\x02" + small(len(one)-3) + one[2:] + part(b)},
		"a length too great":          {"\x01\x01" + small(len(one)-1) + one[2:], "\x01\x02" + small(len(one)-1) + one[2:] + part(b), "\x01\x01" + small(maxNum) + one[2:], "\x01\x01\x08\xff\xff\xff\xff\xff\xff\xff\xff" + one[2:], "\x01\x01\x08\x7f\xff\xff\xff\xff\xff\xff\xff" + one[2:], "\x01\x01\x08\x80\x00\x00\x00\x00\x00\x00\x00" + one[2:]},
		"a length of other bytes":     {"\x01\x01\x02\x00" + one[1:], "\x01\x01\x09" + one, "\x01\x01\xff", "\x01\x01", "\x01\x01\x01", "\x01\x01\x02\x01"},
		"both as one":                 {"\x01\x01" + small(len(one)*2-2) + one[2:] + part(b), "\x01\x02" + small(len(one)*2-2) + one[2:] + part(b)},
		"a stack without bytes":       {"\x01\x01\x00", "\x01\x02" + one + "\x00", "\x01\x02\x00" + one, "\x01\x02\x00\x00"},
		"bytes of no stack":           {"\x01\x01\x01\x00", "\x01\x01\x02\x00\x00", "\x01\x01\x03abc", "\x01\x01" + small(len(one)) + one[2:] + "\x00\x00", "\x01\x01" + small(len(one)-3) + one[2:len(one)-1], "\x01\x01" + small(300) + strings.Repeat("x", 300)},
		"a stack that may not be":     {parts(1, keyed(strings.Repeat("k", 17))), parts(1, of("k", waits(1, strings.Repeat("v", 25)))), parts(1, of("k", waits(maxNum+1, "v"))), parts(1, of("k", waits(1, "v"), at(2, 3, "w"))), parts(1, of("k", api.Version{Gone: true, Value: "v"})), parts(1, of("k", append(eight("k").List, goes(9))...))},
		"a stack without versions":    {parts(1, of("a")), parts(2, of("a"), b), parts(2, a, of("b")), parts(1, of(""))},
		"keys that do not rise":       {parts(2, b, a), parts(2, a, a), parts(3, a, b, b), parts(3, a, keyed("c"), b), parts(2, keyed(""), keyed(""))},
		"a leaf that is too great":    {laid(filled(nodeSize + 1)), laid(filled(nodeSize + 2)), laid(filled(1100)), laid(filled(3000))},
		"behind the end of its bytes": {laid(some()) + "\x00", laid(some()) + part(keyed("z")), laid(Leaf{}) + "\x00", laid(Leaf{}) + laid(some())},
	} {
		for _, s := range l {
			refuses(t, what, s)
			asTheWordsSay(t, s)
		}
	}
}

// P14.6: great inputs end, too.
func TestGetOfGreatBytes(t *testing.T) {
	for _, s := range []string{
		strings.Repeat("x", 1<<20), strings.Repeat("\x00", 1<<20), strings.Repeat("\x01", 1<<20), strings.Repeat("\xff", 1<<20), strings.Repeat("\x00\x01", 1<<19),
		"\x03\x10\x00\x00" + strings.Repeat("\x00", 1<<20), "\x03\x01\x00\x00" + strings.Repeat(part(keyed("a")), 1<<16), "\x01\x01\x03\x10\x00\x00" + strings.Repeat("k", 1<<20),
	} {
		refuses(t, "great bytes", s)
	}
}

// P14.6: leaves of which one byte is another, is left out, or stands twice.
func TestGetOfChangedBytes(t *testing.T) {
	for _, l := range []Leaf{{}, keysOf(""), keysOf("a", "b"), some(), leafOf(eight("k"))} {
		s := laid(l)
		for i := range len(s) {
			for x := range 256 {
				asTheWordsSay(t, s[:i]+string([]byte{byte(x)})+s[i+1:])
				asTheWordsSay(t, s[:i]+string([]byte{byte(x)})+s[i:])
			}
			asTheWordsSay(t, s[:i]+s[i+1:])
		}
	}
}

// P14.6: pieces in any order.
func TestGetOfPieces(t *testing.T) {
	next := rule(5)
	pieces := []string{"\x00", "\x01\x01", "\x01\x02", "\x01\x03", part(keyed("a")), part(keyed("b")), part(keyed("c")), part(of("b", goes(1))), part(of("a")), part(eight("d")), "\x02\x00\x01"}
	good := 0
	for range 60000 {
		s := pieces[next(5)]
		for range next(4) {
			s += pieces[3+next(8)]
		}
		if asTheWordsSay(t, s) {
			good++
		}
	}
	if good < 500 {
		t.Errorf("there are but %d leaves", good)
	}
}

// P14.6: of each two leaves that differ in one field.
func TestSame(t *testing.T) {
	change := func(change func(l *Leaf)) Leaf {
		l := some()
		change(&l)
		return l
	}
	leaves := []Leaf{
		{}, some(),
		change(func(l *Leaf) { l.Stacks[0].Key = "a" }),
		change(func(l *Leaf) { l.Stacks[2].Key = "g" }),
		change(func(l *Leaf) { l.Stacks[0].List[0].Txn++ }),
		change(func(l *Leaf) { l.Stacks[0].List[1].Txn++ }),
		change(func(l *Leaf) { l.Stacks[0].List[0].TS++ }),
		change(func(l *Leaf) { l.Stacks[2].List[3].TS = 1 }),
		change(func(l *Leaf) { l.Stacks[1].List[0].Gone = false }),
		change(func(l *Leaf) { l.Stacks[0].List[0].Gone = true }),
		change(func(l *Leaf) { l.Stacks[0].List[0].Value = "" }),
		change(func(l *Leaf) { l.Stacks[2].List[3].Value = "cc" }),
		change(func(l *Leaf) { l.Stacks[0].List = l.Stacks[0].List[:1] }),
		change(func(l *Leaf) { l.Stacks[2].List = l.Stacks[2].List[:3] }),
		change(func(l *Leaf) { l.Stacks[1].List = nil }),
		change(func(l *Leaf) { l.Stacks[1].List = append(l.Stacks[1].List, waits(9, "")) }),
		change(func(l *Leaf) { l.Stacks = l.Stacks[:2] }),
		change(func(l *Leaf) { l.Stacks = l.Stacks[1:] }),
		change(func(l *Leaf) { l.Stacks = append(l.Stacks, of("g")) }),
		change(func(l *Leaf) { slices.Reverse(l.Stacks) }),
		leafOf(of("")), leafOf(of(""), of("")), leafOf(of("", api.Version{})),
		leafOf(of("k", api.Version{Txn: math.MinInt, TS: -1, Gone: true, Value: "v"})), leafOf(of("k", api.Version{Txn: math.MinInt, TS: -2, Gone: true, Value: "v"})),
	}
	for i, a := range leaves {
		for k, b := range leaves {
			x, y := Leaf{Stacks: roomy(a.Stacks)}, Leaf{Stacks: roomy(b.Stacks)}
			before, behind := whole(x.Stacks), whole(y.Stacks)
			if Same(x, y) != (i == k) {
				t.Errorf("Same of %s and %s = %t", name(a.Stacks), name(b.Stacks), i != k)
			}
			if whole(x.Stacks) != before || whole(y.Stacks) != behind {
				t.Errorf("Same changed %s or %s", name(a.Stacks), name(b.Stacks))
			}
		}
	}
	// An empty list and nil are the same.
	if !Same(Leaf{}, Leaf{Stacks: []api.Stack{}}) || !Same(leafOf(of("a")), leafOf(api.Stack{Key: "a", List: []api.Version{}})) {
		t.Error("nil is not the same as an empty list")
	}
}

// stillMayBe asks that a leaf to which a message was applied may be, but for its size, and is split into two that may be.
func stillMayBe(t *testing.T, l Leaf, m api.Msg) Leaf {
	t.Helper()
	done := Apply(l, m)
	what := fmt.Sprintf("behind %s: %s", told(m), name(done.Stacks))
	if e := Check(done); e != api.OK && (e != api.ErrTooBig || Size(done) <= nodeSize) {
		t.Fatalf("%s: %d", what, int(e))
	}
	a, b, key := Split(done)
	if Check(a) != api.OK || Check(b) != api.OK {
		t.Fatalf("%s: the parts have %d and %d, %d and %d bytes", what, int(Check(a)), int(Check(b)), Size(a), Size(b))
	}
	if !Same(Join(a, b), done) {
		t.Fatalf("%s: the parts are not the whole", what)
	}
	if len(done.Stacks) >= 2 && (len(a.Stacks) == 0 || len(b.Stacks) == 0 || a.Stacks[len(a.Stacks)-1].Key >= key || b.Stacks[0].Key != key) {
		t.Fatalf("%s: parted at %q", what, key)
	}
	return done
}

// P14.7: scripts, which part what has become too great, and go on with either part.
func TestLeavesThatMayBeStillMayBe(t *testing.T) {
	parted := 0
	for seed := range uint32(40) {
		next := rule(seed)
		l := anyLeaf(next)
		for range 200 {
			m := anyMsg(next)
			if next(3) > 0 {
				m = wrote(many(next(17), uint32(next(200))), next(6), many(next(25), uint32(next(1000))))
			}
			l = stillMayBe(t, l, m)
			if Size(l) > nodeSize {
				parted++
				a, b, _ := Split(l)
				l = []Leaf{a, b}[next(2)]
			}
		}
	}
	if parted < 100 {
		t.Errorf("but %d were parted", parted)
	}
}

// P14.7: full leaves at the edge: few great stacks, many small ones, each of which grows.
func TestFullLeavesAreParted(t *testing.T) {
	// All that wait in a leaf of small stacks commit at once.
	var small Leaf
	for i := range 84 {
		small.Stacks = append(small.Stacks, of(string([]byte{byte(1 + i)}), goes(0)))
	}
	is(t, "small stacks", Check(small), api.OK)
	if grown := stillMayBe(t, small, commits(0, maxNum)); Size(grown) != Size(small)+6*84 {
		t.Errorf("they have %d bytes, and had %d", Size(grown), Size(small))
	}
	// A great stack at either end, and small ones beside it, up to the edge.
	for _, key := range []byte{1, 0xff} {
		great := greatest(key)
		great.List[7].TS, great.List[7].Txn = 0, 0
		l := leafOf(great)
		for i := 0; len(laid(l)) <= nodeSize; i++ {
			l = Apply(l, gone(string([]byte{byte('A' + i)}), 0))
		}
		l = Apply(l, aborts(9))
		l.Stacks = slices.Delete(l.Stacks, 1, 2)
		is(t, "a great stack and small ones", Check(l), api.OK)
		stillMayBe(t, l, commits(0, maxNum))
		stillMayBe(t, l, wrote(strings.Repeat("\x00", 16), maxNum, strings.Repeat("\x00", 24)))
		stillMayBe(t, l, wrote(strings.Repeat("M", 16), maxNum, strings.Repeat("\x00", 24)))
	}
	// A full leaf to which each further key is written.
	full := filled(nodeSize)
	for x := range 256 {
		key := string([]byte{byte(x)}) + strings.Repeat("\x00", 15)
		grown := stillMayBe(t, full, wrote(key, maxNum, strings.Repeat("\x00", 24)))
		if Size(grown) <= nodeSize {
			t.Errorf("%q makes it no greater", key)
		}
	}
	// One stack alone is never too great.
	one := leafOf(greatest('a'))
	if Size(one) != 2+558 {
		t.Errorf("the greatest stack has %d bytes in a leaf", Size(one)-2)
	}
	stillMayBe(t, one, wrote(greatest('a').Key, 3, "v"))
	stillMayBe(t, one, wrote("z", 3, "v"))
}

// P14.7: parts joined are the whole, of any leaves, also of ones that may not be.
func TestPartsJoinedAreTheWhole(t *testing.T) {
	kinds := []api.Stack{of("a"), keyed("b"), of("b", waits(-1, "v")), eight("c"), of("")}
	each(kinds, 5, func(l []api.Stack) {
		a, b, _ := Split(leafOf(l...))
		looks(t, "joined", Join(a, b).Stacks, l)
	})
}

// Rule 3: bytes that are told are new, and so are two answers.
func TestAnswersAreNew(t *testing.T) {
	l := some()
	one, _ := Put(l)
	two, _ := Put(l)
	one = one[:cap(one)]
	for i := range one {
		one[i] ^= 0x5a
	}
	if string(two) != laid(l) {
		t.Error("two answers of Put share bytes")
	}
	m := wrote("c", 1, "v")
	for what, tell := range map[string]func() []api.Stack{
		"Range": func() []api.Stack { return Range(l, "b", "") },
		"Apply": func() []api.Stack { return Apply(l, m).Stacks },
		"Over":  func() []api.Stack { return Over(l.Stacks, []api.Msg{m}, "", "") },
		"Join":  func() []api.Stack { return Join(l, Leaf{}).Stacks },
		"Find":  func() []api.Stack { s, _ := Find(l, "f"); return []api.Stack{s} },
		"Split": func() []api.Stack { _, b, _ := Split(l); return b.Stacks },
	} {
		first, second := tell(), tell()
		want := deep(second)
		spoilStacks(first)
		looks(t, "another answer of "+what, second, want)
		looks(t, "what was given to "+what, l.Stacks, some().Stacks)
	}
}

// Rule 4: what was asked ahead has no part in an answer.
func TestAnswersAreAlike(t *testing.T) {
	for range 3 {
		checks(t, "some", some(), api.OK)
		checks(t, "keys", keysOf("b", "a"), api.ErrOrder)
		finds(t, keysOf("b", "a"), "a", keyed("a"), true)
		finds(t, some(), "a", api.Stack{Key: "a"}, false)
		applies(t, Leaf{}, wrote("a", 1, "v"), of("a", waits(1, "v")))
		applies(t, Leaf{}, aborts(1))
		overs(t, nil, []api.Msg{wrote("b", 1, "v"), wrote("a", 1, "v"), aborts(1)}, "", "")
		splits(t, keysOf("a", "b", "c"), 1, "b")
		refuses(t, "cut", "\x01\x01")
		gets(t, "\x00", Leaf{})
	}
}
