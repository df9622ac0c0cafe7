package leaf

import (
	"fmt"
	"math/big"
	"slices"
	"strings"
	"testing"

	"fascicle/api"
	"fascicle/msg"
	"fascicle/stack"
)

const (
	maxNum   = 1 << 40 // the greatest number of a transaction, and the greatest time
	nodeSize = 1016    // the most bytes of a leaf
)

// rule makes numbers by a short rule, which differ from one seed to the next.
func rule(seed uint32) func(below int) int {
	return func(below int) int {
		seed = seed*1664525 + 1013904223
		return int(seed>>16) % below
	}
}

// many makes a text of a short rule, of any bytes.
func many(n int, seed uint32) string {
	next := rule(seed)
	b := make([]byte, n)
	for i := range b {
		b[i] = byte(next(256))
	}
	return string(b)
}

// is asks for an answer.
func is(t *testing.T, what string, got, want api.Errno) {
	t.Helper()
	if got != want {
		t.Errorf("%s: %d, want %d", what, int(got), int(want))
	}
}

// wrote, gone, commits, aborts and prunes make messages.
func wrote(key string, txn int, value string) api.Msg {
	return api.Msg{Kind: 0, Key: key, Txn: txn, Value: value}
}

func gone(key string, txn int) api.Msg {
	return api.Msg{Kind: 0, Key: key, Txn: txn, Gone: true}
}

func commits(txn, ts int) api.Msg {
	return api.Msg{Kind: 1, Txn: txn, TS: ts}
}

func aborts(txn int) api.Msg {
	return api.Msg{Kind: 2, Txn: txn}
}

func prunes(ts int) api.Msg {
	return api.Msg{Kind: 3, TS: ts}
}

// at, waits, goneAt and goes make versions: committed ones and pending ones, with a value and without.
func at(txn, ts int, value string) api.Version {
	return api.Version{Txn: txn, TS: ts, Value: value}
}

func waits(txn int, value string) api.Version {
	return api.Version{Txn: txn, Value: value}
}

func goneAt(txn, ts int) api.Version {
	return api.Version{Txn: txn, TS: ts, Gone: true}
}

func goes(txn int) api.Version {
	return api.Version{Txn: txn, Gone: true}
}

// of makes a stack.
func of(key string, l ...api.Version) api.Stack {
	return api.Stack{Key: key, List: l}
}

// keyed makes a stack of a key, of one version that tells the key.
func keyed(key string) api.Stack {
	return of(key, at(1, 1, "v"+key))
}

// leafOf makes a leaf of stacks, and keysOf one of stacks of these keys, each with one version.
func leafOf(l ...api.Stack) Leaf {
	return Leaf{Stacks: l}
}

func keysOf(keys ...string) Leaf {
	var l Leaf
	for _, key := range keys {
		l.Stacks = append(l.Stacks, keyed(key))
	}
	return l
}

// shape tells a stack.
func shape(s api.Stack) string {
	all := []string{fmt.Sprintf("%d:%q", len(s.Key), s.Key)}
	for _, v := range s.List {
		all = append(all, fmt.Sprintf("{%d at %d, %t, %d:%q}", v.Txn, v.TS, v.Gone, len(v.Value), v.Value))
	}
	return strings.Join(all, " ")
}

// name tells stacks.
func name(l []api.Stack) string {
	var all []string
	for _, s := range l {
		all = append(all, shape(s))
	}
	return "[" + strings.Join(all, "; ") + "]"
}

// told tells messages.
func told(l ...api.Msg) string {
	var all []string
	for _, m := range l {
		all = append(all, fmt.Sprintf("{kind %d, %d:%q, %d, at %d, %t, %d:%q}", m.Kind, len(m.Key), m.Key, m.Txn, m.TS, m.Gone, len(m.Value), m.Value))
	}
	return "[" + strings.Join(all, " ") + "]"
}

// looks asks for stacks, field by field, without the package's functions.
func looks(t *testing.T, what string, got, want []api.Stack) {
	t.Helper()
	if name(got) != name(want) {
		t.Errorf("%s:\n got %s\nwant %s", what, name(got), name(want))
	}
}

// spoilVersions, spoilStacks and spoilMsgs write junk over a list, and over its spare room; of stacks also over the lists that they have.
func spoilVersions(l []api.Version) {
	l = l[:cap(l)]
	for i := range l {
		l[i] = api.Version{Txn: -77, TS: -78, Gone: true, Value: "junk"}
	}
}

func spoilStacks(l []api.Stack) {
	l = l[:cap(l)]
	for i := range l {
		spoilVersions(l[i].List)
		l[i] = api.Stack{Key: "junk", List: []api.Version{{Txn: -79}}}
	}
}

func spoilMsgs(l []api.Msg) {
	l = l[:cap(l)]
	for i := range l {
		l[i] = api.Msg{Kind: 77, Key: "junk", Txn: -77, TS: -78, Gone: true, Value: "junk"}
	}
}

// deep tells the same stacks in new memory.
func deep(l []api.Stack) []api.Stack {
	var all []api.Stack
	for _, s := range l {
		all = append(all, api.Stack{Key: s.Key, List: append([]api.Version(nil), s.List...)})
	}
	return all
}

// roomy tells the same stacks, in lists that have spare room with junk.
func roomy(l []api.Stack) []api.Stack {
	more := slices.Grow(slices.Clone(l), 3)
	spare := more[len(more):cap(more)]
	for i := range spare {
		spare[i] = of("junk", api.Version{Txn: -77})
	}
	for i, s := range l {
		list := slices.Grow(slices.Clone(s.List), 3)
		spoilVersions(list)
		copy(list, s.List)
		more[i] = api.Stack{Key: s.Key, List: list}
	}
	return more
}

// whole tells all that lies in the memory of stacks, spare room too.
func whole(l []api.Stack) string {
	var all []string
	for _, s := range l[:cap(l)] {
		all = append(all, shape(api.Stack{Key: s.Key, List: s.List[:cap(s.List)]})+fmt.Sprint(len(s.List)))
	}
	return strings.Join(all, "; ")
}

// apart asks that lists of stacks share nothing with one another, nor two stacks of one: each place in their memory, spare room too, is given a number of its own, which must stand there still when all have theirs.
func apart(t *testing.T, what string, lists ...[]api.Stack) {
	t.Helper()
	places := func(tell func(v *api.Version)) {
		for _, l := range lists {
			for _, s := range l[:cap(l)] {
				list := s.List[:cap(s.List)]
				for i := range list {
					tell(&list[i])
				}
			}
		}
	}
	n := 0
	places(func(v *api.Version) { *v, n = api.Version{Txn: n}, n+1 })
	n = 0
	places(func(v *api.Version) {
		if v.Txn != n {
			t.Errorf("%s: two stacks share versions", what)
		}
		n++
	})
	for i, l := range lists {
		l = l[:cap(l)]
		for k := range l {
			l[k] = of(fmt.Sprint(i))
		}
	}
	for i, l := range lists {
		for _, s := range l[:cap(l)] {
			if s.Key != fmt.Sprint(i) {
				t.Errorf("%s: two lists share stacks", what)
			}
		}
	}
}

// answers asks a call for the stacks that it tells, and that it changes nothing of what it is given, spare room too, nor shares memory with it.
func answers(t *testing.T, what string, l, want []api.Stack, call func(l []api.Stack) []api.Stack) {
	t.Helper()
	given := roomy(l)
	ahead := whole(given)
	got := call(given)
	looks(t, what, got, want)
	if whole(given) != ahead {
		t.Errorf("%s: what it was given, or its spare room, was changed:\n got %s\nwant %s", what, whole(given), ahead)
	}
	apart(t, what, given, got)
}

// finds asks Find for a stack, nothing but the key where there is none.
func finds(t *testing.T, l Leaf, key string, want api.Stack, ok bool) {
	t.Helper()
	what := fmt.Sprintf("Find %q in %s", key, name(l.Stacks))
	answers(t, what, l.Stacks, []api.Stack{want}, func(l []api.Stack) []api.Stack {
		got, there := Find(Leaf{Stacks: l}, key)
		if there != ok {
			t.Errorf("%s tells %t", what, there)
		}
		return []api.Stack{got}
	})
}

// ranges asks Range for stacks.
func ranges(t *testing.T, l Leaf, lo, hi string, want []api.Stack) {
	t.Helper()
	what := fmt.Sprintf("Range from %q to below %q of %s", lo, hi, name(l.Stacks))
	answers(t, what, l.Stacks, want, func(l []api.Stack) []api.Stack { return Range(Leaf{Stacks: l}, lo, hi) })
}

// applies asks Apply for what becomes of a leaf.
func applies(t *testing.T, l Leaf, m api.Msg, want ...api.Stack) {
	t.Helper()
	what := fmt.Sprintf("Apply of %s to %s", told(m), name(l.Stacks))
	answers(t, what, l.Stacks, want, func(l []api.Stack) []api.Stack { return Apply(Leaf{Stacks: l}, m).Stacks })
}

// overs asks Over for what becomes of stacks, and that it leaves the messages as they are.
func overs(t *testing.T, l []api.Stack, m []api.Msg, lo, hi string, want ...api.Stack) {
	t.Helper()
	what := fmt.Sprintf("Over of %s, from %q to below %q, and %s", told(m...), lo, hi, name(l))
	given := slices.Grow(slices.Clone(m), 3)
	spoilMsgs(given)
	copy(given, m)
	all := given[:cap(given)]
	ahead := slices.Clone(all)
	answers(t, what, l, want, func(l []api.Stack) []api.Stack { return Over(l, given, lo, hi) })
	if !slices.Equal(all, ahead) {
		t.Errorf("%s: the messages were changed to %s", what, told(all...))
	}
}

// splits asks Split for the parts of which the first one has as many stacks, and that parts joined are the whole.
func splits(t *testing.T, l Leaf, first int, key string) {
	t.Helper()
	what := "Split of " + name(l.Stacks)
	given := roomy(l.Stacks)
	ahead := whole(given)
	a, b, sep := Split(Leaf{Stacks: given})
	looks(t, what+": the first part", a.Stacks, l.Stacks[:first])
	looks(t, what+": the other part", b.Stacks, l.Stacks[first:])
	if sep != key {
		t.Errorf("%s: parted at %q, want %q", what, sep, key)
	}
	joins(t, a, b)
	if whole(given) != ahead {
		t.Errorf("%s: what it was given was changed", what)
	}
	apart(t, what, given, a.Stacks, b.Stacks)
}

// joins asks Join for the whole.
func joins(t *testing.T, a, b Leaf) {
	t.Helper()
	what := "Join of " + name(a.Stacks) + " and " + name(b.Stacks)
	one, two := roomy(a.Stacks), roomy(b.Stacks)
	before, behind := whole(one), whole(two)
	got := Join(Leaf{Stacks: one}, Leaf{Stacks: two})
	looks(t, what, got.Stacks, append(deep(a.Stacks), deep(b.Stacks)...))
	if whole(one) != before || whole(two) != behind {
		t.Errorf("%s: what it was given was changed", what)
	}
	apart(t, what, one, two, got.Stacks)
}

// checks asks for an error of a leaf in Check and Put, or, of none, that it is laid and got; and for its size.
func checks(t *testing.T, what string, l Leaf, want api.Errno) {
	t.Helper()
	what += " " + name(l.Stacks)
	given := Leaf{Stacks: roomy(l.Stacks)}
	ahead := whole(given.Stacks)
	is(t, "Check "+what, Check(given), want)
	if n := Size(given); n != len(laid(l)) {
		t.Errorf("Size %s = %d, want %d", what, n, len(laid(l)))
	}
	b, e := Put(given)
	if whole(given.Stacks) != ahead {
		t.Errorf("%s: what was given was changed", what)
	}
	if want != api.OK {
		if b != nil || e != want {
			t.Errorf("Put %s = %x, %d; want %d alone", what, b, int(e), int(want))
		}
		return
	}
	if string(b) != laid(l) || e != api.OK {
		t.Errorf("Put %s = %x, %d; want %x", what, b, int(e), laid(l))
	}
	gets(t, laid(l), l)
}

// gets asks for the leaf of bytes, which are left as they are, and not kept.
func gets(t *testing.T, s string, want Leaf) {
	t.Helper()
	room := []byte(s + "\x0b\x16\x21")
	got, e := Get(room[:len(s)])
	is(t, fmt.Sprintf("Get %x", s), e, api.OK)
	if string(room) != s+"\x0b\x16\x21" {
		t.Errorf("Get changed %x to %x", s, room)
	}
	for i := range room {
		room[i] ^= 0x5a
	}
	looks(t, fmt.Sprintf("Get %x", s), got.Stacks, want.Stacks)
	apart(t, fmt.Sprintf("Get %x", s), got.Stacks)
}

// refuses asks for ErrForm, and for nothing else; what stands behind the bytes' end in their memory has no part in it.
func refuses(t *testing.T, what, s string) {
	t.Helper()
	for _, behind := range []string{"", "\x00\x01\x00\x01\x00\x01", "\x01\x01\x01\x01\x01\x01\x01\x01\x01"} {
		if l, e := Get([]byte(s + behind)[:len(s)]); l.Stacks != nil || e != api.ErrForm {
			t.Errorf("%s: Get %x = %s, %d; want %d alone", what, s, name(l.Stacks), int(e), int(api.ErrForm))
		}
	}
}

// asTheWordsSay holds Get against parse; it tells whether there is a leaf.
func asTheWordsSay(t *testing.T, s string) bool {
	t.Helper()
	want, ok := parse(s)
	if !ok {
		refuses(t, "by the words", s)
		return false
	}
	if laid(want) != s {
		t.Errorf("%x is read as %s, whose bytes are %x", s, name(want.Stacks), laid(want))
	}
	gets(t, s, want)
	return true
}

// small lays a number as the document tells it, without ordkey.
func small(n int) string {
	b := big.NewInt(int64(n)).Bytes()
	return string([]byte{byte(len(b))}) + string(b)
}

// laidText lays a text as the document tells it.
func laidText(s string) string {
	return strings.ReplaceAll(s, "\x00", "\x00\xff") + "\x00\x01"
}

// bytesOf lays a stack as its chapter tells it, also one that may not be.
func bytesOf(s api.Stack) string {
	b := laidText(s.Key) + small(len(s.List))
	for _, v := range s.List {
		mark := "\x00"
		if v.Gone {
			mark = "\x01"
		}
		b += small(v.Txn) + small(v.TS) + mark + laidText(v.Value)
	}
	return b
}

// part lays a stack as it stands in a leaf: one that stack refuses without bytes.
func part(s api.Stack) string {
	if stack.Check(s) != api.OK {
		return "\x00"
	}
	b := bytesOf(s)
	return small(len(b)) + b
}

// laid lays a leaf as the chapter tells it, also one that may not be.
func laid(l Leaf) string {
	b := small(len(l.Stacks))
	for _, s := range l.Stacks {
		b += part(s)
	}
	return b
}

// parts lays stacks one behind the other, with a count of somebody's choice, and though stack refuses them.
func parts(count int, l ...api.Stack) string {
	b := small(count)
	for _, s := range l {
		b += small(len(bytesOf(s))) + bytesOf(s)
	}
	return b
}

// plainCheck tells what the words of P14.1 say, one error behind the other.
func plainCheck(l Leaf) api.Errno {
	var keys []string
	least := 8
	for _, s := range l.Stacks {
		if e := stack.Check(s); e != api.OK {
			return e
		}
		keys, least = append(keys, s.Key), min(least, len(s.List))
	}
	rising := slices.Compact(slices.Sorted(slices.Values(keys)))
	switch {
	case least == 0:
		return api.ErrForm
	case !slices.Equal(keys, rising):
		return api.ErrOrder
	case len(laid(l)) > nodeSize:
		return api.ErrTooBig
	}
	return api.OK
}

// plainFind tells what the words of P14.2 say.
func plainFind(l Leaf, key string) (api.Stack, bool) {
	for _, s := range l.Stacks {
		if s.Key == key {
			return s, true
		}
	}
	return api.Stack{Key: key}, false
}

// isWithin tells whether a key is from lo to below hi.
func isWithin(key, lo, hi string) bool {
	return strings.Compare(key, lo) >= 0 && (hi == "" || strings.Compare(key, hi) < 0)
}

// plainRange tells what the words of P14.2 say.
func plainRange(l []api.Stack, lo, hi string) []api.Stack {
	return slices.DeleteFunc(slices.Clone(l), func(s api.Stack) bool { return !isWithin(s.Key, lo, hi) })
}

// plainApply tells what the words of P14.3 say.
func plainApply(l []api.Stack, m api.Msg) []api.Stack {
	all, has, behind := []api.Stack{}, false, 0
	for i, s := range l {
		all = append(all, msg.Apply(s, m))
		has = has || s.Key == m.Key
		if s.Key < m.Key {
			behind = i + 1
		}
	}
	if m.Kind == 0 && !has && msg.Check(m) == api.OK {
		v := api.Version{Txn: m.Txn, Gone: m.Gone, Value: m.Value}
		all = append(all[:behind:behind], append([]api.Stack{of(m.Key, v)}, all[behind:]...)...)
	}
	return slices.DeleteFunc(all, func(s api.Stack) bool { return len(s.List) == 0 })
}

// plainOver tells what the words of P14.4 say, of rising stacks.
func plainOver(l []api.Stack, m []api.Msg, lo, hi string) []api.Stack {
	by := map[string]api.Stack{}
	var keys []string
	for _, key := range msg.Keys(m, lo, hi) {
		by[key] = api.Stack{Key: key}
	}
	for _, s := range plainRange(l, lo, hi) {
		by[s.Key] = s
	}
	for key := range by {
		keys = append(keys, key)
	}
	slices.Sort(keys)
	var left []api.Stack
	for _, key := range keys {
		if s := msg.Fold(by[key], m); len(s.List) > 0 {
			left = append(left, s)
		}
	}
	return left
}

// plainSplit tells what the words of P14.5 say: how many stacks the first part has.
func plainSplit(l []api.Stack) int {
	weigh := func(l []api.Stack) int {
		n := 0
		for _, s := range l {
			n += len(part(s))
		}
		return n
	}
	var greater []int
	for i := 1; i < len(l); i++ {
		greater = append(greater, max(weigh(l[:i]), weigh(l[i:])))
	}
	if len(greater) == 0 {
		return len(l)
	}
	return 1 + slices.Index(greater, slices.Min(greater))
}

// takeSmall reads a number as the document tells it, and what stands behind it.
func takeSmall(s string) (int, string, bool) {
	if s == "" || s[0] > 8 || len(s)-1 < int(s[0]) {
		return 0, "", false
	}
	b := s[1 : 1+s[0]]
	n := big.NewInt(0).SetBytes([]byte(b))
	if strings.HasPrefix(b, "\x00") || n.Cmp(big.NewInt(maxNum)) > 0 {
		return 0, "", false
	}
	return int(n.Int64()), s[1+len(b):], true
}

// parse tells the leaf whose bytes these are, as the words tell it.
func parse(s string) (Leaf, bool) {
	var l Leaf
	count, s, ok := takeSmall(s)
	for ok && len(l.Stacks) < count {
		n := 0
		if n, s, ok = takeSmall(s); !ok || n > len(s) {
			return Leaf{}, false
		}
		one, e := stack.Get([]byte(s[:n]))
		if e != api.OK {
			return Leaf{}, false
		}
		l.Stacks, s = append(l.Stacks, one), s[n:]
	}
	if !ok || s != "" || plainCheck(l) != api.OK {
		return Leaf{}, false
	}
	return l, true
}

// sized makes a stack of one version that has just so many bytes in a leaf: from 11 on and one more for each byte of the key; where a value has no room for all of them the key is longer.
func sized(key string, n int) api.Stack {
	s := of(key, waits(0, ""))
	n -= len(part(s))
	value := min(n, 24)
	s.List[0].Value = strings.Repeat("v", value)
	s.Key += strings.Repeat("k", n-value)
	return s
}

// filled makes a leaf of stacks of whose bytes there are just so many, all but the last ones alike.
func filled(n int) Leaf {
	var l Leaf
	n -= len(small(255)) // as long as there are from 1 to 255 stacks
	for i := 0; n > 0; i++ {
		step := min(n, 30)
		if left := n - step; 0 < left && left < 13 {
			step = n - 13
		}
		l.Stacks = append(l.Stacks, sized(fmt.Sprintf("%02d", i), step))
		n -= step
	}
	return l
}

// greatest makes a stack of nearly as many bytes as one may have: 558 in a leaf.
func greatest(first byte) api.Stack {
	s := of(string([]byte{first}) + strings.Repeat("\x00", 15))
	for range 8 {
		s.List = append(s.List, at(maxNum, maxNum, strings.Repeat("\x00", 24)))
	}
	return s
}

// anyStack makes a stack that may be, of a short rule, with a version at least.
func anyStack(next func(int) int, key string) api.Stack {
	s := of(key)
	for range 1 + next(1+next(8)) {
		v := api.Version{Txn: next(6), Gone: next(4) == 0}
		if !v.Gone {
			v.Value = many(next(25), uint32(next(1000)))
		}
		s = stack.Write(s, v)
		if next(3) > 0 {
			s = stack.Commit(s, v.Txn, 1+next(300))
		}
	}
	return s
}

// anyLeaf makes a leaf that may be, of a short rule.
func anyLeaf(next func(int) int) Leaf {
	var l Leaf
	var keys []string
	for range next(20) {
		keys = append(keys, many(next(4), uint32(next(200))))
	}
	slices.Sort(keys)
	for _, key := range slices.Compact(keys) {
		more := leafOf(append(slices.Clone(l.Stacks), anyStack(next, key))...)
		if len(laid(more)) <= nodeSize {
			l = more
		}
	}
	return l
}

// anyMsg makes a message that may be, of a short rule.
func anyMsg(next func(int) int) api.Msg {
	switch next(6) {
	case 0:
		return commits(next(6), 1+next(300))
	case 1:
		return aborts(next(6))
	case 2:
		return prunes(next(300))
	case 3:
		return gone(many(next(4), uint32(next(200))), next(6))
	}
	return wrote(many(next(4), uint32(next(200))), next(6), many(next(25), uint32(next(1000))))
}

// badMsgs are messages that msg's Check refuses.
func badMsgs() []api.Msg {
	return []api.Msg{
		{Kind: 4}, {Kind: 4, Key: "b"}, {Kind: 255, Key: "n", Txn: 7, Value: "v"}, {Kind: 4, Txn: 7, TS: 9},
		{Kind: 0, Key: "n", Txn: 7, TS: 1}, {Kind: 0, Key: "b", Txn: 7, TS: -1}, {Kind: 0, Key: "n", Gone: true, Value: "v"}, {Kind: 0, Key: "n", Txn: -1}, {Kind: 0, Key: "b", Txn: maxNum + 1}, {Kind: 0, Key: strings.Repeat("n", 17)}, {Kind: 0, Key: "n", Value: many(25, 1)}, {Kind: 0, Key: many(17, 1), Value: many(25, 1)},
		{Kind: 1, Key: "b", Txn: 7, TS: 9}, {Kind: 1, Txn: 7}, {Kind: 1, Txn: 7, TS: -1}, {Kind: 1, Txn: 7, TS: maxNum + 1}, {Kind: 1, Txn: 7, TS: 9, Gone: true},
		{Kind: 2, Key: "b", Txn: 7}, {Kind: 2, Txn: 7, TS: 1}, {Kind: 2, Txn: -1}, {Kind: 2, Txn: 7, Value: "v"},
		{Kind: 3, Key: "n", TS: 9}, {Kind: 3, Txn: 7, TS: 9}, {Kind: 3, TS: -1}, {Kind: 3, TS: maxNum + 1},
	}
}

// each tells all lists of at most most of these.
func each[E any](kinds []E, most int, tell func(l []E)) {
	tell(nil)
	if most == 0 {
		return
	}
	for _, k := range kinds {
		each(kinds, most-1, func(l []E) { tell(append([]E{k}, l...)) })
	}
}
