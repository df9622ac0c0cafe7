package msg

import (
	"fmt"
	"math"
	"math/big"
	"slices"
	"strings"
	"testing"

	"fascicle/api"
	"fascicle/stack"
)

const maxNum = 1 << 40 // the greatest number of a transaction, and the greatest time

// rule makes numbers by a short rule, which differ from one seed to the next.
func rule(seed uint32) func(below int) int {
	return func(below int) int {
		seed = seed*1664525 + 1013904223
		return int(seed>>16) % below
	}
}

// many makes a text of a short rule, of any bytes.
func many(n int, seed uint32) string {
	next := rule(seed)
	b := make([]byte, n)
	for i := range b {
		b[i] = byte(next(256))
	}
	return string(b)
}

// is asks for an answer.
func is(t *testing.T, what string, got, want api.Errno) {
	t.Helper()
	if got != want {
		t.Errorf("%s: %d, want %d", what, int(got), int(want))
	}
}

// wrote, gone, commits, aborts and prunes make messages.
func wrote(key string, txn int, value string) api.Msg {
	return api.Msg{Kind: 0, Key: key, Txn: txn, Value: value}
}

func gone(key string, txn int) api.Msg {
	return api.Msg{Kind: 0, Key: key, Txn: txn, Gone: true}
}

func commits(txn, ts int) api.Msg {
	return api.Msg{Kind: 1, Txn: txn, TS: ts}
}

func aborts(txn int) api.Msg {
	return api.Msg{Kind: 2, Txn: txn}
}

func prunes(ts int) api.Msg {
	return api.Msg{Kind: 3, TS: ts}
}

// at, waits, goneAt and goes make versions: committed ones and pending ones, with a value and without.
func at(txn, ts int, value string) api.Version {
	return api.Version{Txn: txn, TS: ts, Value: value}
}

func waits(txn int, value string) api.Version {
	return api.Version{Txn: txn, Value: value}
}

func goneAt(txn, ts int) api.Version {
	return api.Version{Txn: txn, TS: ts, Gone: true}
}

func goes(txn int) api.Version {
	return api.Version{Txn: txn, Gone: true}
}

// of makes a stack of the key k.
func of(l ...api.Version) api.Stack {
	return api.Stack{Key: "k", List: l}
}

// name tells a message, with the lengths of its texts.
func name(m api.Msg) string {
	return fmt.Sprintf("{kind %d, %d:%q, %d, at %d, %t, %d:%q}", m.Kind, len(m.Key), m.Key, m.Txn, m.TS, m.Gone, len(m.Value), m.Value)
}

// names tells messages.
func names(l []api.Msg) string {
	var all []string
	for _, m := range l {
		all = append(all, name(m))
	}
	return "[" + strings.Join(all, " ") + "]"
}

// shape tells a stack.
func shape(s api.Stack) string {
	all := []string{fmt.Sprintf("%d:%q", len(s.Key), s.Key)}
	for _, v := range s.List {
		all = append(all, fmt.Sprintf("{%d at %d, %t, %d:%q}", v.Txn, v.TS, v.Gone, len(v.Value), v.Value))
	}
	return strings.Join(all, " ")
}

// looks asks for a stack, field by field.
func looks(t *testing.T, what string, got, want api.Stack) {
	t.Helper()
	if shape(got) != shape(want) {
		t.Errorf("%s:\n got %s\nwant %s", what, shape(got), shape(want))
	}
}

// spoilVersions and spoilMsgs write junk over a list, and over its spare room.
func spoilVersions(l []api.Version) {
	l = l[:cap(l)]
	for i := range l {
		l[i] = api.Version{Txn: -77, TS: -78, Gone: true, Value: "junk"}
	}
}

func spoilMsgs(l []api.Msg) {
	l = l[:cap(l)]
	for i := range l {
		l[i] = api.Msg{Kind: 77, Key: "junk", Txn: -77, TS: -78, Gone: true, Value: "junk"}
	}
}

// roomy is the same stack, whose list has spare room with junk.
func roomy(s api.Stack) api.Stack {
	l := slices.Grow(slices.Clone(s.List), 3)
	spoilVersions(l)
	copy(l, s.List)
	return api.Stack{Key: s.Key, List: l}
}

// roomyMsgs are the same messages, in a list that has spare room with junk.
func roomyMsgs(l []api.Msg) []api.Msg {
	more := slices.Grow(slices.Clone(l), 3)
	spoilMsgs(more)
	copy(more, l)
	return more
}

// becomes asks a call for what it makes of a stack, and that it changes nothing of what it is given, spare room too, nor shares memory with it.
func becomes(t *testing.T, what string, s, want api.Stack, call func(api.Stack) api.Stack) {
	t.Helper()
	given := roomy(s)
	whole := given.List[:cap(given.List)]
	ahead := slices.Clone(whole)
	got := call(given)
	looks(t, what, got, want)
	if !slices.Equal(whole, ahead) {
		t.Errorf("%s: what it was given, or its spare room, was changed: %v, was %v", what, whole, ahead)
	}
	kept := api.Stack{Key: got.Key, List: slices.Clone(got.List)}
	spoilVersions(given.List)
	looks(t, what+": the answer, once the argument was changed", got, kept)
	copy(whole, ahead)
	spoilVersions(got.List)
	if !slices.Equal(whole, ahead) {
		t.Errorf("%s: the answer shares memory with what it was given", what)
	}
}

// applies asks Apply, and Fold of the message alone, for what becomes of a stack.
func applies(t *testing.T, s api.Stack, m api.Msg, want api.Stack) {
	t.Helper()
	becomes(t, "Apply of "+name(m)+" to "+shape(s), s, want, func(s api.Stack) api.Stack { return Apply(s, m) })
	folds(t, s, []api.Msg{m}, want)
}

// folds asks Fold for what becomes of a stack.
func folds(t *testing.T, s api.Stack, l []api.Msg, want api.Stack) {
	t.Helper()
	what := "Fold of " + names(l) + " into " + shape(s)
	given := roomyMsgs(l)
	whole := given[:cap(given)]
	ahead := slices.Clone(whole)
	becomes(t, what, s, want, func(s api.Stack) api.Stack { return Fold(s, given) })
	if !slices.Equal(whole, ahead) {
		t.Errorf("%s changed the messages to %s", what, names(whole))
	}
}

// picks asks For for the messages about a key, and that it changes nothing, nor shares memory with what it is given.
func picks(t *testing.T, l []api.Msg, key string, want []api.Msg) {
	t.Helper()
	given := roomyMsgs(l)
	whole := given[:cap(given)]
	ahead := slices.Clone(whole)
	got := For(given, key)
	if !slices.Equal(got, want) {
		t.Errorf("For %q of %s:\n got %s\nwant %s", key, names(l), names(got), names(want))
	}
	if !slices.Equal(whole, ahead) {
		t.Errorf("For %q changed %s to %s", key, names(ahead), names(whole))
	}
	spoilMsgs(got)
	if !slices.Equal(whole, ahead) {
		t.Errorf("For %q shares memory with what it was given", key)
	}
}

// writes asks Keys for the keys that are written, and that it changes nothing.
func writes(t *testing.T, l []api.Msg, lo, hi string, want ...string) {
	t.Helper()
	given := roomyMsgs(l)
	whole := given[:cap(given)]
	ahead := slices.Clone(whole)
	got := Keys(given, lo, hi)
	if !slices.Equal(got, want) {
		t.Errorf("Keys from %q to below %q of %s:\n got %q\nwant %q", lo, hi, names(l), got, want)
	}
	spoil := got[:cap(got)]
	for i := range spoil {
		spoil[i] = "junk"
	}
	if !slices.Equal(whole, ahead) {
		t.Errorf("Keys from %q to below %q changed %s to %s", lo, hi, names(ahead), names(whole))
	}
}

// fault tells what the words of P12.1 say of a message, one error behind the other.
func fault(m api.Msg) api.Errno {
	bare := api.Msg{Kind: m.Kind} // what the kind has not is put back to zero
	switch m.Kind {
	case 0:
		bare.Key, bare.Txn, bare.Gone, bare.Value = m.Key, m.Txn, m.Gone, m.Value
	case 1:
		bare.Txn, bare.TS = m.Txn, m.TS
	case 2:
		bare.Txn = m.Txn
	case 3:
		bare.TS = m.TS
	default:
		return api.ErrKind
	}
	if bare != m || m.Gone && len(m.Value) > 0 {
		return api.ErrForm
	}
	for _, n := range []int{m.Txn, m.TS} {
		if n < 0 || n > maxNum {
			return api.ErrRange
		}
	}
	if m.Kind == 1 && m.TS == 0 {
		return api.ErrRange
	}
	if len(m.Key) > 16 || len(m.Value) > 24 {
		return api.ErrTooBig
	}
	return api.OK
}

// isAbout tells what the words say: whether a message is about a key.
func isAbout(m api.Msg, key string) bool {
	return m.Kind == 1 || m.Kind == 2 || m.Kind == 3 || m.Key == key
}

// plainApply tells what the words of P12.2 say, by stack's functions.
func plainApply(s api.Stack, m api.Msg) api.Stack {
	if !isAbout(m, s.Key) || fault(m) != api.OK {
		return s
	}
	return []api.Stack{
		stack.Write(s, api.Version{Txn: m.Txn, Gone: m.Gone, Value: m.Value}),
		stack.Commit(s, m.Txn, m.TS),
		stack.Abort(s, m.Txn),
		stack.Prune(s, m.TS),
	}[m.Kind]
}

// plainFold tells what the words of P12.2 say.
func plainFold(s api.Stack, l []api.Msg) api.Stack {
	for _, m := range l {
		s = plainApply(s, m)
	}
	return s
}

// plainFor tells what the words of P12.3 say.
func plainFor(l []api.Msg, key string) []api.Msg {
	return slices.DeleteFunc(slices.Clone(l), func(m api.Msg) bool { return !isAbout(m, key) })
}

// plainKeys tells what the words of P12.3 say: the least one that is not told yet, and so on.
func plainKeys(l []api.Msg, lo, hi string) []string {
	var told []string
	for {
		least, found := "", false
		for _, m := range l {
			ok := m.Kind == 0 && strings.Compare(m.Key, lo) >= 0 && (hi == "" || strings.Compare(m.Key, hi) < 0) && !slices.Contains(told, m.Key)
			if ok && (!found || strings.Compare(m.Key, least) < 0) {
				least, found = m.Key, true
			}
		}
		if !found {
			return told
		}
		told = append(told, least)
	}
}

// small lays a number as the document tells it, without ordkey.
func small(n int) string {
	b := big.NewInt(int64(n)).Bytes()
	return string([]byte{byte(len(b))}) + string(b)
}

// text lays a text as the document tells it.
func text(s string) string {
	return strings.ReplaceAll(s, "\x00", "\x00\xff") + "\x00\x01"
}

// laid lays a message as the chapter tells it; a wrong one, too, as far as its kind has bytes.
func laid(m api.Msg) string {
	kind, mark := string([]byte{m.Kind}), "\x00"
	if m.Gone {
		mark = "\x01"
	}
	switch m.Kind {
	case 0:
		return kind + text(m.Key) + small(m.Txn) + mark + text(m.Value)
	case 1:
		return kind + small(m.Txn) + small(m.TS)
	case 2:
		return kind + small(m.Txn)
	case 3:
		return kind + small(m.TS)
	}
	return kind
}

// numbers are some that a message may have, rising.
func numbers() []int {
	return []int{0, 1, 2, 127, 128, 255, 256, 258, 1<<16 - 1, 1 << 16, 1<<32 - 1, 1 << 32, 0xff00ff00ff, maxNum - 256, maxNum - 1, maxNum}
}

// beyond are numbers that no message may have.
func beyond() []int {
	return []int{-1, -2, -256, -maxNum, math.MinInt, math.MinInt + 1, maxNum + 1, maxNum + 2, maxNum + 256, 2 * maxNum, 1 << 48, math.MaxInt - 1, math.MaxInt}
}

// texts are some of at most so many bytes: short ones, full ones, and such as are laid longer.
func texts(most int) []string {
	l := []string{"", "k", "v\x00", "\x00", "\x00\x01", "\x00\xff", "\x01", "\xff", "\x00\x00", "\x80\xfe", "ab\xc3\x28"}
	for i, n := range []int{most - 1, most} {
		l = append(l, many(n, uint32(most+i)), strings.Repeat("\x00", n), strings.Repeat("\xff", n), strings.Repeat("k", n))
	}
	return l
}

// goodMsgs are messages that may be, each once.
func goodMsgs() []api.Msg {
	var l []api.Msg
	for _, n := range numbers() {
		for _, ts := range numbers()[1:] {
			l = append(l, commits(n, ts))
		}
		l = append(l, aborts(n), prunes(n))
	}
	for _, n := range []int{0, 1, 256, maxNum} {
		for _, key := range texts(16) {
			l = append(l, gone(key, n))
			for _, value := range texts(24) {
				l = append(l, wrote(key, n, value))
			}
		}
	}
	return l
}

// checks asks for an error of a message in Check, Put and Size, or, of none, that it is laid and got.
func checks(t *testing.T, m api.Msg, want api.Errno) {
	t.Helper()
	is(t, "Check "+name(m), Check(m), want)
	b, e := Put(m)
	if want != api.OK {
		if b != nil || e != want || Size(m) != 0 {
			t.Errorf("Put %s = %x, %d, Size %d; want %d alone", name(m), b, int(e), Size(m), int(want))
		}
		return
	}
	if string(b) != laid(m) || e != api.OK {
		t.Errorf("Put %s = %x, %d; want %x", name(m), b, int(e), laid(m))
	}
	if Size(m) != len(laid(m)) {
		t.Errorf("Size %s = %d; want %d", name(m), Size(m), len(laid(m)))
	}
	for _, behind := range []string{"", "\x00", "\x01", "\xff", "\x00\x01", laid(m)} {
		gets(t, laid(m), behind, m)
	}
}

// gets asks for the message of bytes, behind which stand others.
func gets(t *testing.T, s, behind string, want api.Msg) {
	t.Helper()
	if m, n, e := Get([]byte(s + behind)); m != want || n != len(s) || e != api.OK {
		t.Errorf("Get %x, and behind it %x = %s, %d, %d; want %s, %d", s, behind, name(m), n, int(e), name(want), len(s))
	}
}

// refuses asks for ErrForm, and for nothing else; what stands behind the bytes' end in their memory has no part in it.
func refuses(t *testing.T, what, s string) {
	t.Helper()
	for _, behind := range []string{"", "\x00\x01\x00\x01\x00\x01", "\x01\x01\x01\x01\x01\x01\x01\x01\x01"} {
		if m, n, e := Get([]byte(s + behind)[:len(s)]); m != (api.Msg{}) || n != 0 || e != api.ErrForm {
			t.Errorf("%s: Get %x = %s, %d, %d; want %d alone", what, s, name(m), n, int(e), int(api.ErrForm))
		}
	}
}

// takeSmall reads a number as the document tells it, and what stands behind it.
func takeSmall(s string) (int, string, bool) {
	if s == "" || s[0] > 8 || len(s)-1 < int(s[0]) {
		return 0, "", false
	}
	b := s[1 : 1+s[0]]
	if strings.HasPrefix(b, "\x00") {
		return 0, "", false
	}
	n := big.NewInt(0).SetBytes([]byte(b))
	if n.Cmp(big.NewInt(maxNum)) > 0 {
		return 0, "", false
	}
	return int(n.Int64()), s[1+len(b):], true
}

// takeText reads a text of at most so many bytes, and what stands behind it.
func takeText(s string, most int) (string, string, bool) {
	text := ""
	for {
		part, rest, ok := strings.Cut(s, "\x00")
		if !ok || rest == "" {
			return "", "", false
		}
		text, s = text+part, rest[1:]
		switch rest[0] {
		case 0xff:
			text += "\x00"
		case 0x01:
			return text, s, len(text) <= most
		default:
			return "", "", false
		}
	}
}

// parse tells the message with whose bytes these begin, and what stands behind it, as the words tell it.
func parse(s string) (m api.Msg, rest string, ok bool) {
	if s == "" {
		return m, "", false
	}
	m.Kind, s = s[0], s[1:]
	switch m.Kind {
	case 0:
		if m.Key, s, ok = takeText(s, 16); !ok {
			return m, "", false
		}
		if m.Txn, s, ok = takeSmall(s); !ok || s == "" || s[0] > 1 {
			return m, "", false
		}
		m.Gone = s[0] == 1
		m.Value, s, ok = takeText(s[1:], 24)
		return m, s, ok && !(m.Gone && m.Value != "")
	case 1:
		if m.Txn, s, ok = takeSmall(s); !ok {
			return m, "", false
		}
		m.TS, s, ok = takeSmall(s)
		return m, s, ok && m.TS != 0
	case 2:
		m.Txn, s, ok = takeSmall(s)
		return m, s, ok
	case 3:
		m.TS, s, ok = takeSmall(s)
		return m, s, ok
	}
	return m, "", false
}

// asTheWordsSay holds Get against parse; it tells whether there is a message.
func asTheWordsSay(t *testing.T, s string) bool {
	t.Helper()
	m, rest, ok := parse(s)
	got, n, e := Get([]byte(s))
	switch {
	case ok && (got != m || n != len(s)-len(rest) || e != api.OK):
		t.Errorf("Get %x = %s, %d, %d; want %s, %d", s, name(got), n, int(e), name(m), len(s)-len(rest))
	case !ok && (got != (api.Msg{}) || n != 0 || e != api.ErrForm):
		t.Errorf("Get %x = %s, %d, %d; want %d alone", s, name(got), n, int(e), int(api.ErrForm))
	case ok && laid(m) != s[:n]:
		t.Errorf("%x is read as %s, whose bytes are %x", s, name(m), laid(m))
	}
	return ok
}

// each tells all texts of at most most letters.
func each(letters string, most int, tell func(s string)) {
	tell("")
	if most == 0 {
		return
	}
	for i := range len(letters) {
		each(letters, most-1, func(s string) { tell(letters[i:i+1] + s) })
	}
}
