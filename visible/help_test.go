package visible

import (
	"fmt"
	"math"
	"slices"
	"strings"
	"testing"

	"fascicle/api"
)

const maxNum = 1 << 40 // the greatest number of a transaction, and the greatest time

// rule makes numbers by a short rule, which differ from one seed to the next.
func rule(seed uint32) func(below int) int {
	return func(below int) int {
		seed = seed*1664525 + 1013904223
		return int(seed>>16) % below
	}
}

// at, waits, goneAt and goes make versions: committed ones and pending ones, with a value and without.
func at(txn, ts int, value string) api.Version {
	return api.Version{Txn: txn, TS: ts, Value: value}
}

func waits(txn int, value string) api.Version {
	return api.Version{Txn: txn, Value: value}
}

func goneAt(txn, ts int) api.Version {
	return api.Version{Txn: txn, TS: ts, Gone: true}
}

func goes(txn int) api.Version {
	return api.Version{Txn: txn, Gone: true}
}

// of makes a stack of the key k.
func of(l ...api.Version) api.Stack {
	return api.Stack{Key: "k", List: l}
}

// keyed makes a stack of a key.
func keyed(key string, l ...api.Version) api.Stack {
	return api.Stack{Key: key, List: l}
}

// name tells a stack.
func name(s api.Stack) string {
	all := []string{fmt.Sprintf("%q:", s.Key)}
	for _, v := range s.List {
		all = append(all, fmt.Sprintf("{%d at %d, %t, %q}", v.Txn, v.TS, v.Gone, v.Value))
	}
	return strings.Join(all, " ")
}

// names tells stacks.
func names(l []api.Stack) string {
	var all []string
	for _, s := range l {
		all = append(all, name(s))
	}
	return "[" + strings.Join(all, "; ") + "]"
}

// junk is what no test expects anywhere.
func junk() api.Version {
	return api.Version{Txn: -77, TS: 1, Value: "junk"}
}

// roomy is the same stack, whose list has spare room with versions that would be seen.
func roomy(s api.Stack) api.Stack {
	l := slices.Grow(slices.Clone(s.List), 3)
	whole := l[:cap(l)]
	for i := range whole {
		whole[i] = junk()
	}
	copy(l, s.List)
	return api.Stack{Key: s.Key, List: l}
}

// unchanged asks that a call changes nothing of a stack, spare room too.
func unchanged(t *testing.T, what string, s api.Stack, call func(api.Stack)) {
	t.Helper()
	given := roomy(s)
	whole := given.List[:cap(given.List)]
	ahead := slices.Clone(whole)
	call(given)
	if !slices.Equal(whole, ahead) {
		t.Errorf("%s: what it was given, or its spare room, was changed: %v, was %v", what, whole, ahead)
	}
}

// sees asks for the place of the version that is seen, and for what is read there.
func sees(t *testing.T, s api.Stack, me, at, want int) {
	t.Helper()
	what := fmt.Sprintf("%s, %d at %d", name(s), me, at)
	unchanged(t, what, s, func(s api.Stack) {
		for range 2 {
			if got := Which(s, me, at); got != want {
				t.Errorf("Which of %s: %d, want %d", what, got, want)
			}
		}
		value, ok := "", false
		if want >= 0 && !s.List[want].Gone {
			value, ok = s.List[want].Value, true
		}
		for range 2 {
			if v, is := Read(s, me, at); v != value || is != ok {
				t.Errorf("Read of %s: %q, %t; want %q, %t", what, v, is, value, ok)
			}
		}
	})
}

// newer asks Newer for an answer.
func newer(t *testing.T, s api.Stack, me, at int, want bool) {
	t.Helper()
	what := fmt.Sprintf("Newer of %s, %d at %d", name(s), me, at)
	unchanged(t, what, s, func(s api.Stack) {
		for range 2 {
			if got := Newer(s, me, at); got != want {
				t.Errorf("%s: %t, want %t", what, got, want)
			}
		}
	})
}

// room asks Room for an answer.
func room(t *testing.T, s api.Stack, me int, want bool) {
	t.Helper()
	what := fmt.Sprintf("Room of %s, %d", name(s), me)
	unchanged(t, what, s, func(s api.Stack) {
		for range 2 {
			if got := Room(s, me); got != want {
				t.Errorf("%s: %t, want %t", what, got, want)
			}
		}
	})
}

// settled asks Settled for an answer.
func settled(t *testing.T, s api.Stack, at int, want bool) {
	t.Helper()
	what := fmt.Sprintf("Settled of %s, at %d", name(s), at)
	unchanged(t, what, s, func(s api.Stack) {
		for range 2 {
			if got := Settled(s, at); got != want {
				t.Errorf("%s: %t, want %t", what, got, want)
			}
		}
	})
}

// scans asks Scan for pairs, and that it changes nothing of what it is given, and tells new memory.
func scans(t *testing.T, l []api.Stack, me, at int, want ...api.Pair) {
	t.Helper()
	what := fmt.Sprintf("Scan of %s, %d at %d", names(l), me, at)
	given := make([]api.Stack, len(l), len(l)+2)
	for i, s := range l {
		given[i] = roomy(s)
	}
	whole := given[:cap(given)]
	for i := len(l); i < len(whole); i++ {
		whole[i] = keyed("junk", junk())
	}
	ahead := names(whole)
	first := Scan(given, me, at)
	if !slices.Equal(first, want) {
		t.Errorf("%s: %q, want %q", what, first, want)
	}
	spare := first[:cap(first)]
	for i := range spare {
		spare[i] = api.Pair{Key: "spoilt", Value: "spoilt"}
	}
	if again := Scan(given, me, at); !slices.Equal(again, want) {
		t.Errorf("%s, once its answer was changed: %q, want %q", what, again, want)
	}
	if names(whole) != ahead {
		t.Errorf("%s changed what it was given: %s", what, names(whole))
	}
	for i, s := range l {
		spareRoom := given[i].List[len(s.List):cap(given[i].List)]
		if slices.ContainsFunc(spareRoom, func(v api.Version) bool { return v != junk() }) {
			t.Errorf("%s changed the spare room of %s: %v", what, name(s), spareRoom)
		}
	}
}

// plainWhich tells what the words of P13.1 say, one after the other.
func plainWhich(s api.Stack, me, at int) int {
	for i, v := range s.List {
		if me >= 0 && v.Txn == me && v.TS == 0 {
			return i
		}
	}
	var times []int
	for _, v := range s.List {
		if v.TS >= 1 && v.TS <= at {
			times = append(times, v.TS)
		}
	}
	if len(times) == 0 {
		return -1
	}
	greatest := slices.Max(times)
	for i := len(s.List) - 1; ; i-- {
		if s.List[i].TS == greatest {
			return i
		}
	}
}

// plainNewer tells what the words of P13.2 say.
func plainNewer(s api.Stack, me, at int) bool {
	left := slices.DeleteFunc(slices.Clone(s.List), func(v api.Version) bool { return v.TS <= at })
	left = slices.DeleteFunc(left, func(v api.Version) bool { return v.Txn == me })
	return len(left) > 0
}

// plainRoom tells what the words of P13.2 say.
func plainRoom(s api.Stack, me int) bool {
	i := plainWhich(s, me, 0)
	return i >= 0 || len(s.List) < 8
}

// plainSettled tells what the words of P13.3 say.
func plainSettled(s api.Stack, at int) bool {
	upTo := slices.DeleteFunc(slices.Clone(s.List), func(v api.Version) bool { return v.TS < 1 || v.TS > at })
	switch {
	case len(upTo) > 1:
		return false
	case len(upTo) == 1 && len(s.List) == 1:
		return !upTo[0].Gone
	}
	return true
}

// plainScan tells what the words of P13.4 say.
func plainScan(l []api.Stack, me, at int) []api.Pair {
	var pairs []api.Pair
	for _, s := range l {
		if i := plainWhich(s, me, at); i >= 0 && !s.List[i].Gone {
			pairs = append(pairs, api.Pair{Key: s.Key, Value: s.List[i].Value})
		}
	}
	return pairs
}

// lists tells all lists of up to n versions of kinds.
func lists(kinds []api.Version, n int, tell func(l []api.Version)) {
	tell(nil)
	if n == 0 {
		return
	}
	for _, v := range kinds {
		lists(kinds, n-1, func(l []api.Version) { tell(append([]api.Version{v}, l...)) })
	}
}

// allAsTheWordsSay holds each function against its words, of one stack.
func allAsTheWordsSay(t *testing.T, s api.Stack, mes, ats []int) {
	t.Helper()
	for _, me := range mes {
		if got, want := Room(s, me), plainRoom(s, me); got != want {
			t.Fatalf("Room of %s, %d: %t, want %t", name(s), me, got, want)
		}
		for _, at := range ats {
			want := plainWhich(s, me, at)
			if got := Which(s, me, at); got != want {
				t.Fatalf("Which of %s, %d at %d: %d, want %d", name(s), me, at, got, want)
			}
			pairs := plainScan([]api.Stack{s}, me, at)
			v, ok := Read(s, me, at)
			if ok != (len(pairs) == 1) || ok && v != pairs[0].Value || !ok && v != "" {
				t.Fatalf("Read of %s, %d at %d: %q, %t; want %q", name(s), me, at, v, ok, pairs)
			}
			if got := Scan([]api.Stack{s}, me, at); !slices.Equal(got, pairs) {
				t.Fatalf("Scan of %s, %d at %d: %q, want %q", name(s), me, at, got, pairs)
			}
			if got, want := Newer(s, me, at), plainNewer(s, me, at); got != want {
				t.Fatalf("Newer of %s, %d at %d: %t, want %t", name(s), me, at, got, want)
			}
		}
	}
	for _, at := range ats {
		if got, want := Settled(s, at), plainSettled(s, at); got != want {
			t.Fatalf("Settled of %s, at %d: %t, want %t", name(s), at, got, want)
		}
	}
}

// low and high are times, and transactions, that none has.
func low() []int  { return []int{math.MinInt, math.MinInt + 1, -maxNum, -2, -1} }
func high() []int { return []int{maxNum + 1, math.MaxInt - 1, math.MaxInt} }
