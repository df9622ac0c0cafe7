package stack

import (
	"fmt"
	"math"
	"math/big"
	"slices"
	"strings"
	"testing"

	"fascicle/api"
)

const maxNum = 1 << 40 // the greatest number of a transaction, and the greatest time

// rule makes numbers by a short rule, which differ from one seed to the next.
func rule(seed uint32) func(below int) int {
	return func(below int) int {
		seed = seed*1664525 + 1013904223
		return int(seed>>16) % below
	}
}

// text makes a text of a short rule, of any bytes.
func text(n int, seed uint32) string {
	next := rule(seed)
	b := make([]byte, n)
	for i := range b {
		b[i] = byte(next(256))
	}
	return string(b)
}

// is asks for an answer.
func is(t *testing.T, what string, got, want api.Errno) {
	t.Helper()
	if got != want {
		t.Errorf("%s: %d, want %d", what, int(got), int(want))
	}
}

// at, waits, goneAt and goes make versions: committed ones and pending ones, with a value and without.
func at(txn, ts int, value string) api.Version {
	return api.Version{Txn: txn, TS: ts, Value: value}
}

func waits(txn int, value string) api.Version {
	return api.Version{Txn: txn, Value: value}
}

func goneAt(txn, ts int) api.Version {
	return api.Version{Txn: txn, TS: ts, Gone: true}
}

func goes(txn int) api.Version {
	return api.Version{Txn: txn, Gone: true}
}

// of makes a stack of the key k.
func of(l ...api.Version) api.Stack {
	return api.Stack{Key: "k", List: l}
}

// name tells a stack.
func name(s api.Stack) string {
	all := []string{fmt.Sprintf("%d:%q", len(s.Key), s.Key)}
	for _, v := range s.List {
		all = append(all, fmt.Sprintf("{%d at %d, %t, %d:%q}", v.Txn, v.TS, v.Gone, len(v.Value), v.Value))
	}
	return strings.Join(all, " ")
}

// looks asks for a stack, field by field, without the package's functions.
func looks(t *testing.T, what string, got, want api.Stack) {
	t.Helper()
	if name(got) != name(want) {
		t.Errorf("%s:\n got %s\nwant %s", what, name(got), name(want))
	}
}

// junk is what no test expects anywhere.
func junk() api.Version {
	return api.Version{Txn: -77, TS: -78, Gone: true, Value: "junk"}
}

// spoil writes junk over a list, and over its spare room.
func spoil(l []api.Version) {
	l = l[:cap(l)]
	for i := range l {
		l[i] = junk()
	}
}

// roomy is the same stack, whose list has spare room with junk.
func roomy(s api.Stack) api.Stack {
	l := slices.Grow(slices.Clone(s.List), 3)
	spoil(l)
	copy(l, s.List)
	return api.Stack{Key: s.Key, List: l}
}

// answers asks a call for its answer, and that it changes nothing of what it is given, spare room too, nor shares memory with it.
func answers(t *testing.T, what string, s, want api.Stack, call func(api.Stack) api.Stack) {
	t.Helper()
	given := roomy(s)
	whole := given.List[:cap(given.List)]
	ahead := slices.Clone(whole)
	got := call(given)
	looks(t, what, got, want)
	if !slices.Equal(whole, ahead) {
		t.Errorf("%s: what it was given, or its spare room, was changed: %v, was %v", what, whole, ahead)
	}
	kept := api.Stack{Key: got.Key, List: slices.Clone(got.List)}
	spoil(given.List)
	looks(t, what+": the answer, once the argument was changed", got, kept)
	copy(whole, ahead)
	spoil(got.List)
	if !slices.Equal(whole, ahead) {
		t.Errorf("%s: the answer shares memory with what it was given", what)
	}
}

// small lays a number as the document tells it, without ordkey.
func small(n int) string {
	b := big.NewInt(int64(n)).Bytes()
	return string([]byte{byte(len(b))}) + string(b)
}

// laidText lays a text as the document tells it, without ordkey.
func laidText(s string) string {
	return strings.ReplaceAll(s, "\x00", "\x00\xff") + "\x00\x01"
}

// laidVersion lays a version as the chapter tells it; one that may not be, too.
func laidVersion(v api.Version) string {
	mark := "\x00"
	if v.Gone {
		mark = "\x01"
	}
	return small(v.Txn) + small(v.TS) + mark + laidText(v.Value)
}

// laid lays a stack as the chapter tells it; one that may not be, too.
func laid(s api.Stack) string {
	b := laidText(s.Key) + small(len(s.List))
	for _, v := range s.List {
		b += laidVersion(v)
	}
	return b
}

// numbers are some that a version may have, rising.
func numbers() []int {
	return []int{0, 1, 2, 127, 128, 255, 256, 258, 1<<16 - 1, 1 << 16, 1<<32 - 1, 1 << 32, 0xff00ff00ff, maxNum - 256, maxNum - 1, maxNum}
}

// beyond are numbers that no version may have.
func beyond() []int {
	return []int{-1, -2, -256, -maxNum, math.MinInt, math.MinInt + 1, maxNum + 1, maxNum + 2, maxNum + 256, 2 * maxNum, 1 << 48, math.MaxInt - 1, math.MaxInt}
}

// plainCheck tells what the chapter's words tell of a stack.
func plainCheck(s api.Stack) api.Errno {
	if len(s.Key) > 16 {
		return api.ErrTooBig
	}
	if len(s.List) > 8 {
		return api.ErrFull
	}
	for _, v := range s.List {
		if len(v.Value) > 24 {
			return api.ErrTooBig
		}
		if v.Gone && len(v.Value) > 0 {
			return api.ErrForm
		}
		if v.Txn < 0 || v.TS < 0 || v.Txn > maxNum || v.TS > maxNum {
			return api.ErrRange
		}
	}
	// Sorted stably by the words' order, with pending ones at the end of time, it is as it was.
	end := func(v api.Version) int {
		if v.TS == 0 {
			return math.MaxInt
		}
		return v.TS
	}
	sorted := slices.IsSortedFunc(s.List, func(a, b api.Version) int {
		switch {
		case end(a) < end(b):
			return -1
		case end(a) > end(b):
			return 1
		}
		return 0
	})
	who := map[int]int{}
	for _, v := range s.List {
		if v.TS == 0 {
			who[v.Txn]++
		}
	}
	for _, n := range who {
		sorted = sorted && n == 1
	}
	if !sorted {
		return api.ErrOrder
	}
	return api.OK
}

// firstWaiting tells the place of the first pending version of a transaction, or how many versions there are.
func firstWaiting(l []api.Version, txn int) int {
	n := 0
	for n < len(l) && (l[n].TS != 0 || l[n].Txn != txn) {
		n++
	}
	return n
}

// plainWrite, plainCommit, plainAbort and plainPrune tell what the chapter's words tell.
func plainWrite(s api.Stack, v api.Version) api.Stack {
	n := firstWaiting(s.List, v.Txn)
	v.TS = 0
	l := []api.Version{}
	l = append(l, s.List[:n]...)
	if n < len(s.List) {
		l = append(append(l, v), s.List[n+1:]...)
	} else if n < 8 {
		l = append(l, v)
	}
	return api.Stack{Key: s.Key, List: l}
}

func plainCommit(s api.Stack, txn, ts int) api.Stack {
	n := firstWaiting(s.List, txn)
	if n == len(s.List) || ts < 1 {
		return s
	}
	v := s.List[n]
	v.TS = ts
	l := []api.Version{}
	l = append(append(l, s.List[:n]...), s.List[n+1:]...)
	behind := len(l)
	for behind > 0 && (l[behind-1].TS == 0 || l[behind-1].TS > ts) {
		behind--
	}
	return api.Stack{Key: s.Key, List: append(append(slices.Clone(l[:behind]), v), l[behind:]...)}
}

func plainAbort(s api.Stack, txn int) api.Stack {
	l := slices.DeleteFunc(slices.Clone(s.List), func(v api.Version) bool { return v.TS == 0 && v.Txn == txn })
	return api.Stack{Key: s.Key, List: l}
}

func plainPrune(s api.Stack, ts int) api.Stack {
	l, kept := []api.Version{}, false
	for _, v := range slices.Backward(s.List) {
		if v.TS < 1 || v.TS > ts {
			l = append(l, v)
			continue
		}
		if !kept && !v.Gone {
			l = append(l, v)
		}
		kept = true
	}
	slices.Reverse(l)
	return api.Stack{Key: s.Key, List: l}
}

// plainPending tells what the chapter's words tell.
func plainPending(s api.Stack, txn int) (api.Version, bool) {
	n := firstWaiting(s.List, txn)
	if n == len(s.List) {
		return api.Version{}, false
	}
	return s.List[n], true
}

// lists are all lists of at most n of these versions.
func lists(kinds []api.Version, n int) [][]api.Version {
	all := [][]api.Version{nil}
	from := 0
	for range n {
		to := len(all)
		for _, l := range all[from:to] {
			for _, v := range kinds {
				all = append(all, append(slices.Clone(l), v))
			}
		}
		from = to
	}
	return all
}
