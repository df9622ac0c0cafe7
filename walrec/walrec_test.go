package walrec

import (
	"bytes"
	"fmt"
	"math"
	"math/big"
	"slices"
	"strings"
	"testing"

	"fascicle/api"
)

const maxNum = 1 << 40 // the greatest number of a transaction, and the greatest time

// rule makes numbers by a short rule, which differ from one seed to the next.
func rule(seed uint32) func() int {
	return func() int {
		seed = seed*1664525 + 1013904223
		return int(seed >> 16)
	}
}

// many makes a text of a short rule, of any bytes.
func many(n int, seed uint32) string {
	next := rule(seed)
	b := make([]byte, n)
	for i := range b {
		b[i] = byte(next())
	}
	return string(b)
}

// is asks for an answer.
func is(t *testing.T, what string, got, want api.Errno) {
	t.Helper()
	if got != want {
		t.Errorf("%s: %d, want %d", what, int(got), int(want))
	}
}

// name tells a record, with the lengths of its texts.
func name(r api.Rec) string {
	return fmt.Sprintf("{kind %d, %d, %d, %d:%q, %t, %d:%q}", r.Kind, r.Txn, r.TS, len(r.Key), r.Key, r.Gone, len(r.Value), r.Value)
}

// names tells records.
func names(l []api.Rec) string {
	var all []string
	for _, r := range l {
		all = append(all, name(r))
	}
	return strings.Join(all, " ")
}

// small lays a number as the document tells it, without the package's functions.
func small(n int) string {
	b := big.NewInt(int64(n)).Bytes()
	return string([]byte{byte(len(b))}) + string(b)
}

// text lays a text as the document tells it.
func text(s string) string {
	return strings.ReplaceAll(s, "\x00", "\x00\xff") + "\x00\x01"
}

// laid lays a record as the chapter tells it; a wrong one, too, as far as its kind has bytes.
func laid(r api.Rec) string {
	kind, mark := string([]byte{r.Kind}), "\x00"
	if r.Gone {
		mark = "\x01"
	}
	switch r.Kind {
	case 0, 2:
		return kind + small(r.Txn) + small(r.TS)
	case 1:
		return kind + small(r.Txn) + text(r.Key) + mark + text(r.Value)
	case 3:
		return kind + small(r.Txn)
	case 4:
		return kind + small(r.TS)
	}
	return kind
}

// begun, wrote, gone, committed, aborted and marked make records.
func begun(txn, ts int) api.Rec {
	return api.Rec{Kind: 0, Txn: txn, TS: ts}
}

func wrote(txn int, key, value string) api.Rec {
	return api.Rec{Kind: 1, Txn: txn, Key: key, Value: value}
}

func gone(txn int, key string) api.Rec {
	return api.Rec{Kind: 1, Txn: txn, Key: key, Gone: true}
}

func committed(txn, ts int) api.Rec {
	return api.Rec{Kind: 2, Txn: txn, TS: ts}
}

func aborted(txn int) api.Rec {
	return api.Rec{Kind: 3, Txn: txn}
}

func marked(ts int) api.Rec {
	return api.Rec{Kind: 4, TS: ts}
}

// numbers are some that a record may have.
func numbers() []int {
	return []int{0, 1, 2, 127, 128, 255, 256, 258, 1<<16 - 1, 1 << 16, 1<<32 - 1, 1 << 32, 0xff00ff00ff, maxNum - 256, maxNum - 1, maxNum}
}

// beyond are numbers that no record may have.
func beyond() []int {
	return []int{-1, -2, -256, -maxNum, math.MinInt, math.MinInt + 1, maxNum + 1, maxNum + 2, maxNum + 256, 2 * maxNum, 1 << 48, math.MaxInt - 1, math.MaxInt}
}

// texts are some of at most so many bytes: short ones, full ones, and such as are laid longer.
func texts(most int) []string {
	l := []string{"", "k", "v\x00", "\x00", "\x00\x01", "\x00\xff", "\x01", "\xff", "\x00\x00", "\x80\xfe", "ab\xc3\x28"}
	for i, n := range []int{most - 1, most} {
		l = append(l, many(n, uint32(most+i)), strings.Repeat("\x00", n), strings.Repeat("\xff", n), strings.Repeat("k", n))
	}
	return l
}

// goodRecs are records that may be, each once.
func goodRecs() []api.Rec {
	var l []api.Rec
	for _, n := range numbers() {
		for _, m := range numbers() {
			l = append(l, begun(n, m), committed(n, m))
		}
		l = append(l, aborted(n), marked(n))
	}
	for _, n := range []int{0, 1, 256, maxNum} {
		for _, key := range texts(16) {
			l = append(l, gone(n, key))
			for _, value := range texts(24) {
				l = append(l, wrote(n, key, value))
			}
		}
	}
	return l
}

// checks asks for an error of a record in Check, Put and All, or, of none, that it is laid and got.
func checks(t *testing.T, r api.Rec, want api.Errno) {
	t.Helper()
	is(t, "Check "+name(r), Check(r), want)
	if want != api.OK {
		fails(t, r, want)
		return
	}
	b, e := Put(r)
	if string(b) != laid(r) || e != api.OK {
		t.Errorf("Put %s = %x, %d; want %x", name(r), b, int(e), laid(r))
	}
	all, e := All([]api.Rec{r})
	if len(all) != 1 || string(all[0]) != laid(r) || e != api.OK {
		t.Errorf("All of %s = %x, %d; want %x", name(r), all, int(e), laid(r))
	}
	gets(t, laid(r), r)
}

// fails asks Put and All for an error, and for no bytes.
func fails(t *testing.T, r api.Rec, want api.Errno) {
	t.Helper()
	if b, e := Put(r); b != nil || e != want {
		t.Errorf("Put %s = %x, %d; want %d", name(r), b, int(e), int(want))
	}
	if all, e := All([]api.Rec{r}); all != nil || e != want {
		t.Errorf("All of %s = %x, %d; want %d", name(r), all, int(e), int(want))
	}
}

// gets asks for the record of bytes, behind which stand others that are not theirs.
func gets(t *testing.T, s string, want api.Rec) {
	t.Helper()
	if r, e := Get([]byte(s + "\x00\x01\xff")[:len(s)]); r != want || e != api.OK {
		t.Errorf("Get %x = %s, %d; want %s", s, name(r), int(e), name(want))
	}
}

// getFails asks for ErrForm, and for no record.
func getFails(t *testing.T, what, s string) {
	t.Helper()
	for _, behind := range []string{"", "\x00\x01\x00\x01\x00\x01", "\x01\x01\x01\x01\x01\x01\x01\x01\x01"} {
		if r, e := Get([]byte(s + behind)[:len(s)]); r != (api.Rec{}) || e != api.ErrForm {
			t.Errorf("%s: Get %x = %s, %d; want %d", what, s, name(r), int(e), int(api.ErrForm))
		}
	}
}

// The chapter's examples.
func TestExample(t *testing.T) {
	for _, c := range []struct {
		r    api.Rec
		want []byte
	}{
		{api.Rec{Kind: api.Committed, Txn: 3, TS: 258}, []byte{0x02, 0x01, 0x03, 0x02, 0x01, 0x02}},
		{api.Rec{Kind: api.Aborted, Txn: 0}, []byte{0x03, 0x00}},
	} {
		if b, e := Put(c.r); !bytes.Equal(b, c.want) || e != api.OK {
			t.Errorf("Put %s = %x, %d; want %x", name(c.r), b, int(e), c.want)
		}
		if r, e := Get(c.want); r != c.r || e != api.OK {
			t.Errorf("Get %x = %s, %d; want %s", c.want, name(r), int(e), name(c.r))
		}
	}
}

// P8.2, with the words on a record's bytes: of each kind, by hand.
func TestPut(t *testing.T) {
	for _, c := range []struct {
		r    api.Rec
		want string
	}{
		{api.Rec{}, "\x00\x00\x00"},
		{begun(1, 2), "\x00\x01\x01\x01\x02"},
		{begun(0, 256), "\x00\x00\x02\x01\x00"},
		{begun(maxNum, maxNum), "\x00\x06\x01\x00\x00\x00\x00\x00\x06\x01\x00\x00\x00\x00\x00"},
		{wrote(0, "", ""), "\x01\x00\x00\x01\x00\x00\x01"},
		{wrote(1, "k", "v"), "\x01\x01\x01k\x00\x01\x00v\x00\x01"},
		{wrote(300, "\x00", "\x00\x01\xff"), "\x01\x02\x01\x2c\x00\xff\x00\x01\x00\x00\xff\x01\xff\x00\x01"},
		{gone(0, ""), "\x01\x00\x00\x01\x01\x00\x01"},
		{gone(2, "ab"), "\x01\x01\x02ab\x00\x01\x01\x00\x01"},
		{committed(255, 1<<16), "\x02\x01\xff\x03\x01\x00\x00"},
		{aborted(7), "\x03\x01\x07"},
		{aborted(maxNum - 1), "\x03\x05\xff\xff\xff\xff\xff"},
		{marked(0), "\x04\x00"},
		{marked(maxNum), "\x04\x06\x01\x00\x00\x00\x00\x00"},
	} {
		if laid(c.r) != c.want {
			t.Errorf("the test lays %s as %x, not as %x", name(c.r), laid(c.r), c.want)
		}
		checks(t, c.r, api.OK)
	}
}

// P8.1 to P8.4: what may be is laid as the words say, and got.
func TestGoodRecords(t *testing.T) {
	for _, r := range goodRecs() {
		checks(t, r, api.OK)
	}
}

// P8.1: the kinds above Marked, whatever else is wrong.
func TestCheckKinds(t *testing.T) {
	long := strings.Repeat("x", 40)
	for kind := range 256 {
		r := api.Rec{Kind: uint8(kind)}
		if kind <= 4 {
			checks(t, r, api.OK)
			continue
		}
		checks(t, r, api.ErrKind)
		checks(t, api.Rec{Kind: uint8(kind), Txn: 1, TS: 2, Key: "k", Value: "v"}, api.ErrKind)
		checks(t, api.Rec{Kind: uint8(kind), Txn: -1, TS: maxNum + 1, Key: long, Gone: true, Value: long}, api.ErrKind)
	}
}

// field is one of a record's, with values of it that are not zero: some that may be, and some that may not, where a kind has it.
type field struct {
	name  string
	kinds string // which have it
	good  []func(*api.Rec)
	wrong []func(*api.Rec)
}

// setNumber makes functions that set a number.
func setNumber(of func(*api.Rec) *int, l ...int) []func(*api.Rec) {
	var set []func(*api.Rec)
	for _, n := range l {
		set = append(set, func(r *api.Rec) { *of(r) = n })
	}
	return set
}

// setText makes functions that set a text.
func setText(of func(*api.Rec) *string, l ...string) []func(*api.Rec) {
	var set []func(*api.Rec)
	for _, s := range l {
		set = append(set, func(r *api.Rec) { *of(r) = s })
	}
	return set
}

// fields are all but the kind.
func fields() []field {
	txn := func(r *api.Rec) *int { return &r.Txn }
	ts := func(r *api.Rec) *int { return &r.TS }
	key := func(r *api.Rec) *string { return &r.Key }
	value := func(r *api.Rec) *string { return &r.Value }
	set := []func(*api.Rec){func(r *api.Rec) { r.Gone = true }}
	return []field{
		{"Txn", "\x00\x01\x02\x03", setNumber(txn, numbers()[1:]...), setNumber(txn, beyond()...)},
		{"TS", "\x00\x02\x04", setNumber(ts, numbers()[1:]...), setNumber(ts, beyond()...)},
		{"Key", "\x01", setText(key, texts(16)[1:]...), setText(key, many(17, 1), many(18, 2), many(300, 3))},
		{"Gone", "\x01", set, nil},
		{"Value", "\x01", setText(value, texts(24)[1:]...), setText(value, many(25, 1), many(26, 2), many(300, 3))},
	}
}

// P8.1: each field that a kind has not, not zero, whether the value may be elsewhere or not; each that it has.
func TestCheckFields(t *testing.T) {
	for kind := range uint8(5) {
		for _, f := range fields() {
			has := strings.IndexByte(f.kinds, kind) >= 0
			for i, set := range append(f.good, f.wrong...) {
				r := api.Rec{Kind: kind}
				set(&r)
				want := api.OK
				switch {
				case !has:
					want = api.ErrForm
				case i >= len(f.good) && (f.name == "Txn" || f.name == "TS"):
					want = api.ErrRange
				case i >= len(f.good):
					want = api.ErrTooBig
				}
				checks(t, r, want)
			}
		}
	}
}

// P8.1: a Gone record with a Value.
func TestCheckGone(t *testing.T) {
	for _, value := range []string{"v", "\x00", "\xff", many(24, 1), many(25, 2), many(300, 3)} {
		r := gone(1, "k")
		r.Value = value
		checks(t, r, api.ErrForm)
		r.Gone = false
		want := api.OK
		if len(value) > 24 {
			want = api.ErrTooBig
		}
		checks(t, r, want)
	}
	checks(t, gone(1, "k"), api.OK)
	checks(t, gone(1, ""), api.OK)
}

// P8.1: -1, 0, 2^40 and 2^40 + 1, and others.
func TestCheckRange(t *testing.T) {
	for _, n := range numbers() {
		for _, r := range []api.Rec{begun(n, 0), begun(0, n), wrote(n, "k", "v"), gone(n, ""), committed(n, 0), committed(0, n), aborted(n), marked(n)} {
			checks(t, r, api.OK)
		}
	}
	for _, n := range beyond() {
		for _, r := range []api.Rec{begun(n, 0), begun(0, n), begun(n, n), wrote(n, "k", "v"), gone(n, ""), committed(n, 0), committed(0, n), committed(n, maxNum), aborted(n), marked(n)} {
			checks(t, r, api.ErrRange)
		}
	}
}

// P8.1: the lengths count bytes, of any kind, not those that they take when laid.
func TestCheckSizes(t *testing.T) {
	for _, fill := range []func(n int) string{
		func(n int) string { return strings.Repeat("\x00", n) },
		func(n int) string { return strings.Repeat("\xff", n) },
		func(n int) string { return strings.Repeat("a", n) },
		func(n int) string { return many(n, uint32(n)) },
	} {
		for n := range 40 {
			key, value := api.OK, api.OK
			if n > 16 {
				key = api.ErrTooBig
			}
			if n > 24 {
				value = api.ErrTooBig
			}
			checks(t, wrote(3, fill(n), ""), key)
			checks(t, gone(3, fill(n)), key)
			checks(t, wrote(3, "", fill(n)), value)
			checks(t, wrote(maxNum, fill(16), fill(n)), value)
			checks(t, wrote(0, fill(n), fill(24)), key)
		}
	}
	checks(t, wrote(0, "", strings.Repeat("x", 1<<20)), api.ErrTooBig)
}

// fault tells what the words of P8.1 say of a record, one error behind the other.
func fault(r api.Rec) api.Errno {
	bare := api.Rec{Kind: r.Kind} // what the kind has not is put back to zero
	switch r.Kind {
	case api.Begun, api.Committed:
		bare.Txn, bare.TS = r.Txn, r.TS
	case api.Wrote:
		bare.Txn, bare.Key, bare.Gone, bare.Value = r.Txn, r.Key, r.Gone, r.Value
	case api.Aborted:
		bare.Txn = r.Txn
	case api.Marked:
		bare.TS = r.TS
	default:
		return api.ErrKind
	}
	if bare != r || r.Gone && len(r.Value) > 0 {
		return api.ErrForm
	}
	for _, n := range []int{r.Txn, r.TS} {
		if n < 0 || n > maxNum {
			return api.ErrRange
		}
	}
	if len(r.Key) > 16 || len(r.Value) > 24 {
		return api.ErrTooBig
	}
	return api.OK
}

// P8.1, P8.2: all mixes of values of the fields, so that of several errors the one counts that is named first.
func TestMixes(t *testing.T) {
	seen := map[api.Errno]int{}
	for _, kind := range []uint8{0, 1, 2, 3, 4, 5, 255} {
		for _, txn := range []int{-1, 0, 7, maxNum, maxNum + 1} {
			for _, ts := range []int{-1, 0, 7, maxNum, maxNum + 1} {
				for _, key := range []string{"", "k", many(16, 1), many(17, 1)} {
					for _, value := range []string{"", "v", many(24, 2), many(25, 2)} {
						for _, gone := range []bool{false, true} {
							r := api.Rec{Kind: kind, Txn: txn, TS: ts, Key: key, Gone: gone, Value: value}
							checks(t, r, fault(r))
							seen[fault(r)]++
						}
					}
				}
			}
		}
	}
	if len(seen) != 5 {
		t.Errorf("the mixes have other errors than all: %v", seen)
	}
}

// P8.2: All tells each, in order, and of none nothing.
func TestAll(t *testing.T) {
	for _, l := range [][]api.Rec{nil, {}} {
		if all, e := All(l); len(all) != 0 || e != api.OK {
			t.Errorf("All of none = %x, %d", all, int(e))
		}
	}
	good := goodRecs()
	all, e := All(good)
	if len(all) != len(good) || e != api.OK {
		t.Fatalf("All of %d = %d, %d", len(good), len(all), int(e))
	}
	for i, r := range good {
		if string(all[i]) != laid(r) {
			t.Errorf("All: at %d %x, want %x", i, all[i], laid(r))
		}
	}
	twice, e := All([]api.Rec{marked(1), marked(1)})
	if len(twice) != 2 || string(twice[0]) != "\x04\x01\x01" || string(twice[1]) != "\x04\x01\x01" || e != api.OK {
		t.Errorf("All of one record twice = %x, %d", twice, int(e))
	}
}

// P8.2: the first error in the list ends All, and nothing is told.
func TestAllFaults(t *testing.T) {
	ok := marked(1)
	kind, form, far, big := api.Rec{Kind: 5}, api.Rec{Kind: api.Aborted, TS: 1}, aborted(-1), wrote(0, many(17, 1), "")
	for _, c := range []struct {
		l    []api.Rec
		want api.Errno
	}{
		{[]api.Rec{kind}, api.ErrKind},
		{[]api.Rec{ok, ok, form}, api.ErrForm},
		{[]api.Rec{far, ok, ok}, api.ErrRange},
		{[]api.Rec{ok, big, ok}, api.ErrTooBig},
		{[]api.Rec{big, far, form, kind}, api.ErrTooBig},
		{[]api.Rec{ok, far, form, kind, big}, api.ErrRange},
		{[]api.Rec{ok, ok, form, kind, big, far}, api.ErrForm},
		{[]api.Rec{kind, ok, big, far, form}, api.ErrKind},
		{append(goodRecs(), big, kind), api.ErrTooBig},
	} {
		if all, e := All(c.l); all != nil || e != c.want {
			t.Errorf("All of %d, the first %s = %d texts, %d; want %d", len(c.l), name(c.l[0]), len(all), int(e), int(c.want))
		}
	}
}

// P8.2: bytes that are no record's, by hand.
func TestGetFaults(t *testing.T) {
	for what, l := range map[string][]string{
		"none":                     {""},
		"a kind alone":             {"\x00", "\x01", "\x02", "\x03", "\x04"},
		"a kind above Marked":      {"\x05", "\x05\x00", "\x05\x00\x00", "\x06\x00", "\x7f\x00", "\x80\x00", "\xff", "\xff\x00\x00", "\x05\x00\x00\x01\x00\x00\x01"},
		"a number too few":         {"\x00\x00", "\x02\x01\x01", "\x00\x06\x01\x00\x00\x00\x00\x00"},
		"a number too many":        {"\x03\x00\x00", "\x04\x01\x01\x00", "\x00\x00\x00\x00", "\x02\x00\x00\x00"},
		"a number that is cut":     {"\x03\x01", "\x04\x02\x01", "\x00\x01\x01\x02\x01", "\x02\x00\x05\x01\x01\x01\x01", "\x01\x01"},
		"a nought ahead":           {"\x03\x01\x00", "\x04\x02\x00\x01", "\x00\x00\x01\x00", "\x00\x02\x00\x05\x00", "\x02\x01\x00\x01\x01", "\x01\x01\x00\x00\x01\x00\x00\x01", "\x04\x08\x00\x00\x00\x00\x00\x00\x00\x01"},
		"more than eight bytes":    {"\x03\x09\x01\x01\x01\x01\x01\x01\x01\x01\x01", "\x04\xff", "\x00\x00\x09", "\x01\x09\x00\x01\x00\x00\x01"},
		"2^40 + 1":                 {"\x03\x06\x01\x00\x00\x00\x00\x01", "\x04\x06\x01\x00\x00\x00\x00\x01", "\x00\x06\x01\x00\x00\x00\x00\x01\x00", "\x00\x00\x06\x01\x00\x00\x00\x00\x01", "\x02\x00\x06\x01\x00\x00\x00\x00\x01", "\x01\x06\x01\x00\x00\x00\x00\x01\x00\x01\x00\x00\x01"},
		"far beyond 2^40":          {"\x03\x06\x02\x00\x00\x00\x00\x00", "\x04\x07\x01\x00\x00\x00\x00\x00\x00", "\x04\x08\x80\x00\x00\x00\x00\x00\x00\x00", "\x03\x08\xff\xff\xff\xff\xff\xff\xff\xff"},
		"a text of other marks":    {"\x01\x00\x00\x02\x00\x00\x01", "\x01\x00\x00\x00\x00\x00\x01", "\x01\x00a\x00\xfe\x00\x01\x00\x00\x01", "\x01\x00\x00\x01\x00\x00\x02", "\x01\x00\x00\x01\x00v\x00\x00\x00\x01"},
		"a key that has no end":    {"\x01\x00", "\x01\x00k", "\x01\x00k\x00", "\x01\x00k\x00\xff", "\x01\x00k\x00\xff\x00"},
		"a key alone":              {"\x01\x00\x00\x01", "\x01\x00k\x00\x01"},
		"a value too few":          {"\x01\x00k\x00\x01\x00", "\x01\x00k\x00\x01\x01"},
		"a value that has no end":  {"\x01\x00k\x00\x01\x00v", "\x01\x00k\x00\x01\x00v\x00", "\x01\x00k\x00\x01\x01\x00"},
		"behind a value":           {"\x01\x00\x00\x01\x00\x00\x01\x00", "\x01\x00\x00\x01\x00v\x00\x01\x00\x01", "\x01\x00\x00\x01\x01\x00\x01\x00"},
		"neither 0 nor 1 for Gone": {"\x01\x00\x00\x01\x02\x00\x01", "\x01\x00\x00\x01\xff\x00\x01", "\x01\x00\x00\x01\x80v\x00\x01"},
		"Gone with a value":        {"\x01\x00\x00\x01\x01v\x00\x01", "\x01\x00k\x00\x01\x01\x00\xff\x00\x01"},
		"a key of 17":              {"\x01\x00" + text(many(17, 1)) + "\x00\x00\x01", "\x01\x00" + text(strings.Repeat("\x00", 17)) + "\x01\x00\x01", "\x01\x00" + text(many(60, 1)) + "\x00\x00\x01"},
		"a value of 25":            {"\x01\x00\x00\x01\x00" + text(many(25, 1)), "\x01\x00\x00\x01\x00" + text(strings.Repeat("\x00", 25)), "\x01\x00\x00\x01\x00" + text(many(70, 1))},
	} {
		for _, s := range l {
			getFails(t, what, s)
		}
	}
	if r, e := Get(nil); r != (api.Rec{}) || e != api.ErrForm {
		t.Errorf("Get(nil) = %s, %d", name(r), int(e))
	}
}

// P8.2: great inputs end, too.
func TestGetOfGreatBytes(t *testing.T) {
	great := strings.Repeat("x", 1<<20)
	for _, s := range []string{
		great, "\x00" + great, "\x01\x00" + great, "\x01\x00" + great + "\x00\x01\x00\x00\x01", "\x01\x00\x00\x01\x00" + great + "\x00\x01",
		"\x03\x00" + great, strings.Repeat("\x00", 1<<20), strings.Repeat("\x01\x00", 1<<19), strings.Repeat("\xff", 1<<20),
	} {
		if r, e := Get([]byte(s)); r != (api.Rec{}) || e != api.ErrForm {
			t.Errorf("Get of %d bytes, %x and so on = %s, %d", len(s), s[:8], name(r), int(e))
		}
	}
}

// P8.2: what is not just a record's bytes, but begins so, or is the beginning of one's.
func TestGetOfCutAndLongerBytes(t *testing.T) {
	for _, r := range goodRecs() {
		s := laid(r)
		for n := range len(s) {
			getFails(t, "cut", s[:n])
		}
		for _, more := range []string{"\x00", "\x01", "\xff", "\x00\x01", s} {
			getFails(t, "longer", s+more)
		}
	}
	for x := range 256 {
		for _, r := range []api.Rec{begun(1, 2), wrote(1, "k", "v"), gone(1, "k"), committed(1, 2), aborted(1), marked(2)} {
			getFails(t, "a byte more", laid(r)+string([]byte{byte(x)}))
		}
	}
}

// P8.2: each byte for Gone.
func TestGetOfMarks(t *testing.T) {
	for x := range 256 {
		mark := string([]byte{byte(x)})
		for _, value := range []string{"", "v"} {
			s := "\x01\x00k\x00\x01" + mark + text(value)
			switch {
			case x == 0:
				gets(t, s, wrote(0, "k", value))
			case x == 1 && value == "":
				gets(t, s, gone(0, "k"))
			default:
				getFails(t, "mark", s)
			}
		}
	}
}

// takeSmall reads a number as the document tells it, and what stands behind it.
func takeSmall(s string) (int, string, bool) {
	if s == "" || s[0] > 8 || len(s)-1 < int(s[0]) {
		return 0, "", false
	}
	b := s[1 : 1+s[0]]
	if strings.HasPrefix(b, "\x00") {
		return 0, "", false
	}
	n := big.NewInt(0).SetBytes([]byte(b))
	if n.Cmp(big.NewInt(maxNum)) > 0 {
		return 0, "", false
	}
	return int(n.Int64()), s[1+len(b):], true
}

// takeText reads a text of at most so many bytes, and what stands behind it.
func takeText(s string, most int) (string, string, bool) {
	text := ""
	for {
		part, rest, ok := strings.Cut(s, "\x00")
		if !ok || rest == "" {
			return "", "", false
		}
		text, s = text+part, rest[1:]
		switch rest[0] {
		case 0xff:
			text += "\x00"
		case 0x01:
			return text, s, len(text) <= most
		default:
			return "", "", false
		}
	}
}

// parse tells the record that just these bytes are, as the words tell it.
func parse(s string) (r api.Rec, ok bool) {
	if s == "" || s[0] > 4 {
		return r, false
	}
	r.Kind, s = s[0], s[1:]
	if r.Kind != 4 {
		if r.Txn, s, ok = takeSmall(s); !ok {
			return r, false
		}
	}
	switch r.Kind {
	case 0, 2, 4:
		r.TS, s, ok = takeSmall(s)
	case 1:
		if r.Key, s, ok = takeText(s, 16); !ok || s == "" || s[0] > 1 {
			return r, false
		}
		r.Gone = s[0] == 1
		r.Value, s, ok = takeText(s[1:], 24)
	}
	return r, ok && s == "" && !(r.Gone && r.Value != "")
}

// asTheWordsSay holds Get against parse; it tells whether there is a record.
func asTheWordsSay(t *testing.T, s string) bool {
	t.Helper()
	r, ok := parse(s)
	got, e := Get([]byte(s))
	switch {
	case ok && (got != r || e != api.OK):
		t.Errorf("Get %x = %s, %d; want %s", s, name(got), int(e), name(r))
	case !ok && (got != (api.Rec{}) || e != api.ErrForm):
		t.Errorf("Get %x = %s, %d; want %d", s, name(got), int(e), int(api.ErrForm))
	case ok && laid(r) != s:
		t.Errorf("%x is read as %s, whose bytes are %x", s, name(r), laid(r))
	}
	return ok
}

// each tells all texts of at most most letters.
func each(letters string, most int, tell func(s string)) {
	tell("")
	if most == 0 {
		return
	}
	for i := range len(letters) {
		each(letters, most-1, func(s string) { tell(letters[i:i+1] + s) })
	}
}

// P8.2: all short bytes of some letters, behind each kind.
func TestGetOfAllShortBytes(t *testing.T) {
	good := [6]int{}
	for kind := range len(good) {
		each("\x00\x01\x02\xffk", 6, func(s string) {
			if asTheWordsSay(t, string([]byte{byte(kind)})+s) {
				good[kind]++
			}
		})
	}
	for kind, n := range good {
		if (n == 0) != (kind > 4) {
			t.Errorf("of kind %d there are %d", kind, n)
		}
	}
	// Longer ones, of the letters that make texts, behind a number.
	wrote := 0
	each("\x00\x01\xffv", 8, func(s string) {
		if asTheWordsSay(t, "\x01\x00"+s) {
			wrote++
		}
	})
	if wrote < 100 {
		t.Errorf("there are but %d", wrote)
	}
}

// P8.2: records of which one byte is another, is left out, or stands twice.
func TestGetOfChangedBytes(t *testing.T) {
	for _, r := range []api.Rec{
		begun(1, 256), begun(0, maxNum), begun(maxNum, 1<<16), wrote(0, "", ""), wrote(300, "k\x00", "\x00v\x01"), wrote(maxNum, many(16, 1), many(24, 2)),
		gone(3, "\x00\xff"), gone(maxNum-1, many(15, 3)), committed(maxNum-1, 255), aborted(0), aborted(maxNum), marked(1), marked(maxNum),
	} {
		s := laid(r)
		for i := range len(s) {
			for x := range 256 {
				asTheWordsSay(t, s[:i]+string([]byte{byte(x)})+s[i+1:])
				asTheWordsSay(t, s[:i]+string([]byte{byte(x)})+s[i:])
			}
			asTheWordsSay(t, s[:i]+s[i+1:])
		}
	}
}

// P8.2: pieces of records in any order.
func TestGetOfPieces(t *testing.T) {
	next := rule(5)
	pieces := []string{"\x00", "\x01", "\x02", "\x03", "\x04", "\x05", small(0), small(7), small(256), small(maxNum), small(maxNum + 1), "\x02\x00\x01", text(""), text("k"), text("\x00"), text(many(16, 1)), text(many(17, 1)), text(many(24, 2)), text(many(25, 2)), "\x00\xff", "\x00\x02"}
	good := 0
	for range 200000 {
		s := ""
		for range 1 + next()%5 {
			s += pieces[next()%len(pieces)]
		}
		if asTheWordsSay(t, s) {
			good++
		}
	}
	if good < 1000 {
		t.Errorf("there are but %d records", good)
	}
}

// P8.4: unlike records have unlike bytes; none has more than 96.
func TestBytesPart(t *testing.T) {
	of := map[string]api.Rec{}
	most := 0
	for _, r := range goodRecs() {
		b, e := Put(r)
		is(t, name(r), e, api.OK)
		if old, ok := of[string(b)]; ok && old != r {
			t.Errorf("%s and %s have the bytes %x", name(old), name(r), b)
		}
		of[string(b)] = r
		if len(b) > 96 {
			t.Errorf("%s has %d bytes", name(r), len(b))
		}
		most = max(most, len(b))
	}
	// The longest one is among them: the kind, the greatest number, texts of zeros alone, and the mark.
	if want := 1 + 7 + (2*16 + 2) + 1 + (2*24 + 2); most != want {
		t.Errorf("the longest one has %d bytes, not %d", most, want)
	}
}

// P8.4: each byte in a key and in a value.
func TestEachByte(t *testing.T) {
	for x := range 256 {
		for y := range 256 {
			s := string([]byte{byte(x), byte(y)})
			checks(t, wrote(1, s, s[1:]+s), api.OK)
		}
	}
}

// lives asks for the transactions that are not over.
func lives(t *testing.T, l []api.Rec, want ...int) {
	t.Helper()
	if got := Live(l); !slices.Equal(got, want) {
		t.Errorf("Live of %s = %v, want %v", names(l), got, want)
	}
}

// P8.3
func TestLive(t *testing.T) {
	lives(t, nil)
	lives(t, []api.Rec{})
	// One is over, none is, all are.
	lives(t, []api.Rec{begun(1, 1), begun(2, 2), begun(3, 3)}, 1, 2, 3)
	lives(t, []api.Rec{begun(1, 1), begun(2, 2), begun(3, 3), committed(2, 4)}, 1, 3)
	lives(t, []api.Rec{begun(1, 1), begun(2, 2), begun(3, 3), aborted(1)}, 2, 3)
	lives(t, []api.Rec{begun(1, 1), begun(2, 2), begun(3, 3), aborted(1), committed(3, 4), aborted(2)})
	// Behind the end others may come.
	lives(t, []api.Rec{begun(1, 1), committed(1, 2), begun(1, 3)}, 1)
	lives(t, []api.Rec{begun(1, 1), aborted(1), wrote(1, "k", "v")}, 1)
	lives(t, []api.Rec{begun(1, 1), aborted(1), begun(2, 1), gone(1, "k"), committed(2, 3)}, 1)
	lives(t, []api.Rec{begun(1, 1), committed(1, 2), begun(1, 3), aborted(1)})
	lives(t, []api.Rec{begun(1, 1), committed(1, 2), begun(1, 3), committed(1, 4), wrote(1, "", "")}, 1)
	// What was written counts without a beginning; an end, too.
	lives(t, []api.Rec{wrote(5, "k", "v")}, 5)
	lives(t, []api.Rec{gone(5, "k")}, 5)
	lives(t, []api.Rec{committed(5, 1)})
	lives(t, []api.Rec{aborted(5)})
	lives(t, []api.Rec{committed(5, 1), aborted(5), committed(5, 2)})
	lives(t, []api.Rec{committed(5, 1), begun(5, 1)}, 5)
	// Rising, each once.
	lives(t, []api.Rec{begun(300, 1), begun(2, 2), wrote(2, "k", ""), begun(10, 3), wrote(300, "", ""), gone(2, "k"), begun(1, 4), begun(0, 5)}, 0, 1, 2, 10, 300)
	lives(t, []api.Rec{begun(maxNum, 1), begun(0, 1)}, 0, maxNum)
}

// P8.3: Marked ones are about nobody.
func TestLiveOfMarks(t *testing.T) {
	lives(t, []api.Rec{marked(5)})
	lives(t, []api.Rec{marked(5), begun(2, 1), marked(7)}, 2)
	lives(t, []api.Rec{begun(0, 1), marked(1)}, 0)
	lives(t, []api.Rec{begun(0, 1), aborted(0), marked(1)})
	// Nor is a wrong one, that has a Txn.
	wrong := api.Rec{Kind: api.Marked, Txn: 7, TS: 1}
	lives(t, []api.Rec{wrong})
	lives(t, []api.Rec{begun(7, 1), committed(7, 2), wrong})
	lives(t, []api.Rec{begun(7, 1), wrong}, 7)
}

// P8.3: of what Check refuses the kind and the Txn count as they are.
func TestLiveOfWrongRecords(t *testing.T) {
	lives(t, []api.Rec{begun(-3, 1), begun(math.MaxInt, 1), begun(math.MinInt, -1)}, math.MinInt, -3, math.MaxInt)
	lives(t, []api.Rec{begun(-3, 1), begun(maxNum+1, 1), aborted(-3)}, maxNum+1)
	lives(t, []api.Rec{{Kind: api.Wrote, Txn: 4, TS: 9, Key: many(99, 1), Gone: true, Value: "v"}}, 4)
	lives(t, []api.Rec{begun(4, 1), {Kind: api.Aborted, Txn: 4, TS: 9, Key: "k", Gone: true}})
	for _, kind := range []uint8{5, 6, 255} {
		lives(t, []api.Rec{{Kind: kind, Txn: 4}}, 4)
		lives(t, []api.Rec{{Kind: kind, Txn: 4}, aborted(4)})
		lives(t, []api.Rec{begun(4, 1), {Kind: kind, Txn: 4}, {Kind: kind, Txn: 3}}, 3, 4)
	}
}

// live tells what the words say, place by place.
func live(l []api.Rec) []int {
	var in []int
	for i, r := range l {
		over := func(x api.Rec) bool {
			return x.Txn == r.Txn && (x.Kind == api.Committed || x.Kind == api.Aborted)
		}
		if r.Kind != api.Marked && !slices.ContainsFunc(l[i:], over) && !slices.Contains(in, r.Txn) {
			in = append(in, r.Txn)
		}
	}
	slices.Sort(in)
	return in
}

// clock tells what the words say.
func clock(l []api.Rec, from int) int {
	times := []int{from}
	for _, r := range l {
		times = append(times, r.TS)
	}
	return slices.Max(times)
}

// P8.3: all short lists of some records.
func TestAllShortLists(t *testing.T) {
	recs := []api.Rec{begun(1, 4), begun(2, 9), wrote(1, "k", "v"), gone(2, "k"), committed(1, 6), committed(2, 3), aborted(1), aborted(2), marked(7), {Kind: 4, Txn: 1, TS: 2}}
	letters := ""
	for i := range recs {
		letters += string([]byte{byte(i)})
	}
	each(letters, 4, func(s string) {
		var l []api.Rec
		for i := range len(s) {
			l = append(l, recs[s[i]])
		}
		lives(t, l, live(l)...)
		clocks(t, l, 5, clock(l, 5))
	})
}

// P8.3: long lists of a rule.
func TestLongLists(t *testing.T) {
	next := rule(9)
	for n := range 300 {
		var l []api.Rec
		for range n {
			l = append(l, api.Rec{Kind: uint8(next() % 5), Txn: next() % (1 + n/4), TS: next() % 1000})
		}
		lives(t, l, live(l)...)
		from := next() % 1000
		clocks(t, l, from, clock(l, from))
	}
	// So many that a map of them is not in order by chance.
	var l []api.Rec
	var want []int
	for i := range 5000 {
		l = append(l, begun(4999-i, i))
		want = append(want, i)
	}
	lives(t, l, want...)
}

// clocks asks for the greatest time.
func clocks(t *testing.T, l []api.Rec, from, want int) {
	t.Helper()
	if got := Clock(l, from); got != want {
		t.Errorf("Clock of %s from %d = %d, want %d", names(l), from, got, want)
	}
}

// P8.3
func TestClock(t *testing.T) {
	for _, c := range []struct {
		l    []api.Rec
		from int
		want int
	}{
		{nil, 7, 7},
		{[]api.Rec{}, 0, 0},
		{nil, -5, -5},
		{nil, math.MinInt, math.MinInt},
		{nil, math.MaxInt, math.MaxInt},
		{[]api.Rec{begun(1, 9)}, 7, 9},
		{[]api.Rec{committed(1, 9)}, 7, 9},
		{[]api.Rec{marked(9)}, 7, 9},
		{[]api.Rec{marked(7)}, 7, 7},
		{[]api.Rec{marked(6)}, 7, 7},
		{[]api.Rec{marked(3), begun(1, 300), committed(1, 20)}, 7, 300},
		{[]api.Rec{committed(1, 20), begun(1, 3), marked(30)}, 7, 30},
		{[]api.Rec{marked(maxNum), begun(1, 1)}, 7, maxNum},
		// The numbers of transactions are no times; what has no time counts as 0.
		{[]api.Rec{aborted(50), wrote(60, "k", "v"), begun(70, 8)}, 7, 8},
		{[]api.Rec{aborted(50), wrote(60, "k", "v")}, 7, 7},
		{[]api.Rec{aborted(50)}, -7, 0},
		// All TS: also those of records that Check refuses.
		{[]api.Rec{{Kind: api.Wrote, TS: 11}}, 7, 11},
		{[]api.Rec{{Kind: api.Aborted, TS: 12}, {Kind: 9, TS: 13}}, 7, 13},
		{[]api.Rec{marked(maxNum + 1), marked(math.MaxInt)}, 7, math.MaxInt},
		{[]api.Rec{marked(-3), marked(-2)}, -7, -2},
		{[]api.Rec{marked(math.MinInt)}, -7, -7},
	} {
		clocks(t, c.l, c.from, c.want)
	}
}

// Rule 3: no function changes what it is given, nor its spare room.
func TestArgumentsStay(t *testing.T) {
	for _, r := range append(goodRecs()[:40], wrote(3, many(16, 1), many(24, 1)), gone(3, "k"), begun(9, 9)) {
		for _, s := range []string{laid(r), laid(r) + "\x00", laid(r)[1:]} {
			room := []byte(s + "\x0b\x16\x21")
			Get(room[:len(s)])
			if string(room) != s+"\x0b\x16\x21" {
				t.Errorf("Get changed %x to %x", s, room)
			}
		}
	}
	good := []api.Rec{begun(9, 1), begun(2, 2), wrote(9, "k", "v"), committed(9, 5), marked(3), aborted(1), gone(2, "k")}
	for _, l := range [][]api.Rec{good, append(slices.Clone(good), aborted(-1), begun(1, 1)), append(slices.Clone(good), api.Rec{Kind: 9, Txn: 1, TS: 77})} {
		room := append(slices.Clone(l), begun(7, 7), aborted(7))
		was := slices.Clone(room)
		given := room[:len(l)]
		All(given)
		Live(given)
		Clock(given, 4)
		for _, r := range given {
			Check(r)
			Put(r)
		}
		if !slices.Equal(room, was) {
			t.Errorf("%s was changed to %s", names(was), names(room))
		}
	}
}

// spoil writes over bytes and their spare room.
func spoil(b []byte) {
	b = b[:cap(b)]
	for i := range b {
		b[i] ^= 0x5a
	}
}

// Rule 3: an answer is new memory, and no two lists of it share any.
func TestAnswersAreNew(t *testing.T) {
	good := append(goodRecs(), begun(1, 1), begun(1, 1), gone(2, "k"))
	all, _ := All(good)
	for i, b := range all {
		if string(b) != laid(good[i]) {
			t.Fatalf("the bytes at %d share some with those ahead", i)
		}
		spoil(b)
	}
	for i := range slices.Backward(all) {
		spoil(all[i])
		if string(all[i]) != laid(good[i]) {
			t.Fatalf("the bytes at %d share some with those behind", i)
		}
	}
	for _, r := range good {
		b, _ := Put(r)
		again, _ := Put(r)
		spoil(b)
		if string(again) != laid(r) {
			t.Errorf("two answers of Put %s share bytes", name(r))
		}
		given := []byte(laid(r))
		got, _ := Get(given)
		spoil(given)
		if got != r {
			t.Errorf("Get tells %s with the bytes that it was given", name(r))
		}
	}
	l := []api.Rec{begun(1, 1), begun(2, 2), begun(3, 3)}
	one, two := Live(l), Live(l)
	one = one[:cap(one)]
	for i := range one {
		one[i] = 77
	}
	if !slices.Equal(two, []int{1, 2, 3}) {
		t.Errorf("two answers of Live share memory: %v", two)
	}
	lives(t, l, 1, 2, 3)
}

// Rule 4: what was asked ahead has no part in an answer.
func TestAnswersAreAlike(t *testing.T) {
	for range 3 {
		checks(t, wrote(9, "key", "value"), api.OK)
		checks(t, wrote(9, many(17, 1), "value"), api.ErrTooBig)
		checks(t, gone(9, "key"), api.OK)
		checks(t, begun(-1, 0), api.ErrRange)
		getFails(t, "cut", "\x01\x01\x09key\x00\x01")
		gets(t, "\x03\x00", aborted(0))
		lives(t, []api.Rec{begun(4, 1), begun(3, 2)}, 3, 4)
		lives(t, []api.Rec{begun(5, 1)}, 5)
		lives(t, nil)
		clocks(t, []api.Rec{marked(9)}, 1, 9)
		clocks(t, nil, 1, 1)
	}
}

// Theorem 3 leans on it: a log of records is read back, and tells the same of itself.
func TestLogsAreReadBack(t *testing.T) {
	next := rule(3)
	good := goodRecs()
	for range 200 {
		var l, back []api.Rec
		for range next() % 60 {
			l = append(l, good[next()%len(good)])
		}
		all, e := All(l)
		is(t, "All", e, api.OK)
		for _, b := range all {
			r, e := Get(b)
			is(t, "Get", e, api.OK)
			back = append(back, r)
		}
		if !slices.Equal(l, back) {
			t.Fatalf("%s is read back as %s", names(l), names(back))
		}
		lives(t, back, live(l)...)
		clocks(t, back, 5, clock(l, 5))
	}
}
