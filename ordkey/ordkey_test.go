package ordkey

import (
	"bytes"
	"math"
	"strings"
	"testing"

	"fascicle/api"
)

// words tells all texts of at most n of the alphabet's bytes.
func words(alphabet string, n int) []string {
	all, last := []string{""}, []string{""}
	for range n {
		var next []string
		for _, w := range last {
			for i := range len(alphabet) {
				next = append(next, w+alphabet[i:i+1])
			}
		}
		all, last = append(all, next...), next
	}
	return all
}

// fullOf makes bytes whose spare room holds something, so that a reading beyond their end shows.
func fullOf(s, spare string) []byte {
	return []byte(s + spare)[:len(s)]
}

// P1.1
func TestPutText(t *testing.T) {
	for s, want := range map[string]string{
		"":                 "\x00\x01",
		"a":                "a\x00\x01",
		"abc":              "abc\x00\x01",
		"a\x00":            "a\x00\xff\x00\x01",
		"\x00":             "\x00\xff\x00\x01",
		"\x00\x00":         "\x00\xff\x00\xff\x00\x01",
		"\x00\x01":         "\x00\xff\x01\x00\x01",
		"\x00\xff":         "\x00\xff\xff\x00\x01",
		"\x01":             "\x01\x00\x01",
		"\xff":             "\xff\x00\x01",
		"\xff\x00\x01\xfe": "\xff\x00\xff\x01\xfe\x00\x01",
	} {
		if b := PutText(s); string(b) != want {
			t.Errorf("PutText(%q) = %x, want %x", s, b, want)
		}
	}
}

// P1.1
func TestGetText(t *testing.T) {
	cases := []struct {
		b    string
		text string
		n    int
		err  api.Errno
	}{
		{"\x00\x01", "", 2, api.OK},
		{"a\x00\x01", "a", 3, api.OK},
		{"a\x00\x01rest", "a", 3, api.OK},
		{"a\x00\x01\x00\x02", "a", 3, api.OK},
		{"a\x00\x01\x00\x01", "a", 3, api.OK},
		{"a\x00\xff\x00\x01", "a\x00", 5, api.OK},
		{"\x00\xff\x01\x00\x01", "\x00\x01", 5, api.OK},
		{"\x00\xff\x00\xff\x00\x01", "\x00\x00", 6, api.OK},
		{"\xff\x01\xff\x00\x01", "\xff\x01\xff", 5, api.OK},
		{"", "", 0, api.ErrCut},
		{"a", "", 0, api.ErrCut},
		{"\x00", "", 0, api.ErrCut},
		{"a\x00", "", 0, api.ErrCut},
		{"a\x00\xff", "", 0, api.ErrCut},
		{"a\x00\xff\x01", "", 0, api.ErrCut},
		{"a\x00\xff\x00", "", 0, api.ErrCut},
		{"\x00\x00", "", 0, api.ErrForm},
		{"\x00\x00\x01", "", 0, api.ErrForm},
		{"\x00\x02", "", 0, api.ErrForm},
		{"\x00\xfe\x00\x01", "", 0, api.ErrForm},
		{"ab\x00c", "", 0, api.ErrForm},
		{"ab\x00\xff\x00c\x00\x01", "", 0, api.ErrForm},
	}
	for _, c := range cases {
		text, n, err := GetText(fullOf(c.b, "\xff\x00\x01"))
		if text != c.text || n != c.n || err != c.err {
			t.Errorf("GetText(%x) = %q %d %d, want %q %d %d", c.b, text, n, int(err), c.text, c.n, int(c.err))
		}
	}
	if _, _, err := GetText(nil); err != api.ErrCut {
		t.Errorf("GetText(nil): %d", int(err))
	}
}

// P1.1: every short input is either cut, or misformed, or begins with what PutText makes of its text.
func TestGetTextOfAnything(t *testing.T) {
	for _, s := range words("\x00\x01\x02\xff", 6) {
		text, n, err := GetText([]byte(s))
		if want := textFault(s); err != want {
			t.Fatalf("GetText(%x): %d, want %d", s, int(err), int(want))
		}
		if err != api.OK && (text != "" || n != 0) {
			t.Fatalf("GetText(%x) tells %q %d beside an error", s, text, n)
		}
		if err == api.OK && string(PutText(text)) != s[:n] {
			t.Fatalf("GetText(%x) = %q %d", s, text, n)
		}
	}
}

// textFault goes from one 00 to the next, as the document tells it.
func textFault(s string) api.Errno {
	for {
		at := strings.IndexByte(s, 0)
		if at < 0 || at+1 == len(s) {
			return api.ErrCut
		}
		switch s[at+1] {
		case 0x01:
			return api.OK
		case 0xff:
			s = s[at+2:]
		default:
			return api.ErrForm
		}
	}
}

// P1.2
func TestInt(t *testing.T) {
	for n, want := range map[int64]string{
		0:                  "\x80\x00\x00\x00\x00\x00\x00\x00",
		1:                  "\x80\x00\x00\x00\x00\x00\x00\x01",
		-1:                 "\x7f\xff\xff\xff\xff\xff\xff\xff",
		258:                "\x80\x00\x00\x00\x00\x00\x01\x02",
		0x0102030405060708: "\x81\x02\x03\x04\x05\x06\x07\x08",
		math.MinInt64:      "\x00\x00\x00\x00\x00\x00\x00\x00",
		math.MaxInt64:      "\xff\xff\xff\xff\xff\xff\xff\xff",
	} {
		b := PutInt(n)
		if string(b) != want {
			t.Errorf("PutInt(%d) = %x, want %x", n, b, want)
		}
		for _, rest := range []string{"", "\x00", "\xff\xff"} {
			if m, k, err := GetInt([]byte(want + rest)); m != n || k != 8 || err != api.OK {
				t.Errorf("GetInt(%x) = %d %d %d", want+rest, m, k, int(err))
			}
		}
	}
	for k := range 8 {
		b := fullOf(strings.Repeat("\xff", k), "\xff\xff\xff\xff\xff\xff\xff\xff")
		if m, n, err := GetInt(b); m != 0 || n != 0 || err != api.ErrCut {
			t.Errorf("GetInt of %d bytes: %d %d %d", k, m, n, int(err))
		}
	}
}

// P1.3
func TestPutSmall(t *testing.T) {
	for n, want := range map[uint64]string{
		0:                  "\x00",
		1:                  "\x01\x01",
		255:                "\x01\xff",
		256:                "\x02\x01\x00",
		258:                "\x02\x01\x02",
		1<<16 - 1:          "\x02\xff\xff",
		1 << 16:            "\x03\x01\x00\x00",
		1 << 40:            "\x06\x01\x00\x00\x00\x00\x00",
		1<<56 - 1:          "\x07\xff\xff\xff\xff\xff\xff\xff",
		1 << 56:            "\x08\x01\x00\x00\x00\x00\x00\x00\x00",
		0x0102030405060708: "\x08\x01\x02\x03\x04\x05\x06\x07\x08",
		math.MaxUint64:     "\x08\xff\xff\xff\xff\xff\xff\xff\xff",
	} {
		if b := PutSmall(n); string(b) != want {
			t.Errorf("PutSmall(%d) = %x, want %x", n, b, want)
		}
		for _, rest := range []string{"", "\x00", "\x09"} {
			if m, k, err := GetSmall([]byte(want + rest)); m != n || k != len(want) || err != api.OK {
				t.Errorf("GetSmall(%x) = %d %d %d", want+rest, m, k, int(err))
			}
		}
	}
}

// P1.3: where several errors apply, the one that is named first.
func TestGetSmallFaults(t *testing.T) {
	for s, want := range map[string]api.Errno{
		"":         api.ErrCut,
		"\x09":     api.ErrForm,
		"\xff":     api.ErrForm,
		"\x09\x00": api.ErrForm,
		"\x09\x01\x02\x03\x04\x05\x06\x07\x08\x09": api.ErrForm,
		"\x01":                                 api.ErrCut,
		"\x02\x01":                             api.ErrCut,
		"\x02\x00":                             api.ErrCut,
		"\x08\x01\x02\x03":                     api.ErrCut,
		"\x01\x00":                             api.ErrForm,
		"\x02\x00\x01":                         api.ErrForm,
		"\x02\x00\x00":                         api.ErrForm,
		"\x08\x00\x01\x01\x01\x01\x01\x01\x01": api.ErrForm,
	} {
		if m, n, err := GetSmall(fullOf(s, "\x01\x01\x01\x01\x01\x01\x01\x01")); m != 0 || n != 0 || err != want {
			t.Errorf("GetSmall(%x) = %d %d %d, want %d", s, m, n, int(err), int(want))
		}
	}
	if m, n, err := GetSmall([]byte{0, 0}); m != 0 || n != 1 || err != api.OK {
		t.Errorf("a 0 behind the byte of 0: %d %d %d", m, n, int(err))
	}
	for k := 9; k < 256; k++ {
		b := append([]byte{byte(k)}, bytes.Repeat([]byte{1}, 300)...)
		if _, _, err := GetSmall(b); err != api.ErrForm {
			t.Errorf("first byte %d: %d", k, int(err))
		}
	}
}

// P1.4
func TestCompare(t *testing.T) {
	for _, c := range []struct {
		a, b string
		want int
	}{
		{"", "", 0},
		{"", "\x00", -1},
		{"a", "", 1},
		{"a", "a", 0},
		{"a", "a\x00", -1},
		{"b", "ab", 1},
		{"\x7f", "\x80", -1},
		{"\xff", "\x00\xff", 1},
		{"ab\x01", "ab\x02", -1},
	} {
		if got := Compare([]byte(c.a), []byte(c.b)); got != c.want {
			t.Errorf("Compare(%x, %x) = %d, want %d", c.a, c.b, got, c.want)
		}
	}
	if Compare(nil, []byte{}) != 0 || Compare(nil, []byte{0}) != -1 {
		t.Error("nil is not as the empty list")
	}
	all := words("\x00\x01\x80\xff", 4)
	for _, a := range all {
		for _, b := range all {
			if got, want := Compare([]byte(a), []byte(b)), strings.Compare(a, b); got != want {
				t.Fatalf("Compare(%x, %x) = %d, want %d", a, b, got, want)
			}
		}
	}
}

// P1.4
func TestBehind(t *testing.T) {
	for s, want := range map[string]string{
		"a":            "b",
		"\x00":         "\x01",
		"\xfe":         "\xff",
		"ab":           "ac",
		"a\xff":        "b",
		"a\xff\xff":    "b",
		"\xffa":        "\xffb",
		"\xffa\xff":    "\xffb",
		"a\xffb\xff":   "a\xffc",
		"\xfe\xff\xff": "\xff",
	} {
		if got, ok := Behind([]byte(s)); string(got) != want || !ok {
			t.Errorf("Behind(%x) = %x %v, want %x", s, got, ok, want)
		}
	}
	for _, s := range []string{"", "\xff", "\xff\xff", strings.Repeat("\xff", 40)} {
		if got, ok := Behind([]byte(s)); len(got) != 0 || ok {
			t.Errorf("Behind(%x) = %x %v", s, got, ok)
		}
	}
	if got, ok := Behind(nil); len(got) != 0 || ok {
		t.Errorf("Behind(nil) = %x %v", got, ok)
	}
}

// P1.4: of all short bytes the answer is the least that stands behind all that begin so.
func TestBehindIsTheLeast(t *testing.T) {
	all := words("\x00\x01\xfe\xff", 4)
	for _, s := range words("\x00\xfe\xff", 3) {
		got, ok := Behind([]byte(s))
		for _, x := range all {
			behind := x > s && !strings.HasPrefix(x, s)
			if told := ok && x >= string(got); told != behind {
				t.Fatalf("Behind(%x) = %x %v, held against %x", s, got, ok, x)
			}
		}
	}
}

// P1.5
func TestReader(t *testing.T) {
	r := New([]byte("key\x00\x01\x02\x01\x02\x00\x01\x00\x00\xff\x00\x01"))
	if r.Left() != 15 || r.Done() != api.ErrForm {
		t.Error(r.Left(), int(r.Done()))
	}
	if s := r.Text(3); s != "key" || r.Left() != 10 {
		t.Errorf("%q %d", s, r.Left())
	}
	if n := r.Small(); n != 258 || r.Left() != 7 {
		t.Error(n, r.Left())
	}
	if s := r.Text(0); s != "" || r.Left() != 5 || r.Done() != api.ErrForm {
		t.Errorf("%q %d %d", s, r.Left(), int(r.Done()))
	}
	if n := r.Small(); n != 0 || r.Left() != 4 {
		t.Error(n, r.Left())
	}
	if s := r.Text(1); s != "\x00" || r.Left() != 0 || r.Done() != api.OK {
		t.Errorf("%q %d %d", s, r.Left(), int(r.Done()))
	}
	if n := r.Small(); n != 0 || r.Done() != api.ErrCut {
		t.Error(n, int(r.Done()))
	}
}

// P1.5
func TestReaderTextFaults(t *testing.T) {
	for _, c := range []struct {
		b    string
		most int
		want api.Errno
	}{
		{"", 9, api.ErrCut},
		{"abc", 1, api.ErrCut},
		{"abc\x00\x02", 1, api.ErrForm},
		{"abc\x00\x01", 2, api.ErrTooBig},
		{"\x00\xff\x00\x01", 0, api.ErrTooBig},
		{"\x00\x01", -1, api.ErrTooBig},
		{"a\x00\x01", math.MinInt, api.ErrTooBig},
	} {
		r := New([]byte(c.b))
		if s := r.Text(c.most); s != "" || r.Done() != c.want || r.Left() != len(c.b) {
			t.Errorf("Text(%d) of %x: %q, %d, %d left", c.most, c.b, s, int(r.Done()), r.Left())
		}
	}
	if s := New([]byte("ab\x00\x01")).Text(math.MaxInt); s != "ab" {
		t.Errorf("%q", s)
	}
	// What counts is the text, not the bytes that it takes.
	if r := New([]byte("\x00\xff\x00\xff\x00\x01")); r.Text(2) != "\x00\x00" || r.Done() != api.OK {
		t.Error(int(r.Done()))
	}
}

// P1.5
func TestReaderSmallFaults(t *testing.T) {
	for s, want := range map[string]api.Errno{
		"":                                     api.ErrCut,
		"\x09":                                 api.ErrForm,
		"\x02\x01":                             api.ErrCut,
		"\x01\x00":                             api.ErrForm,
		"\x06\x01\x00\x00\x00\x00\x01":         api.ErrRange,
		"\x08\xff\xff\xff\xff\xff\xff\xff\xff": api.ErrRange,
	} {
		r := New([]byte(s))
		if n := r.Small(); n != 0 || r.Done() != want || r.Left() != len(s) {
			t.Errorf("Small of %x: %d, %d, %d left", s, n, int(r.Done()), r.Left())
		}
	}
	if r := New(PutSmall(api.MaxNum)); r.Small() != api.MaxNum || r.Done() != api.OK {
		t.Error(int(r.Done()))
	}
}

// P1.5: behind an error nothing is told, nothing is taken off, and the error stays the first one.
func TestReaderKeepsTheFirstFault(t *testing.T) {
	r := New([]byte("ab\x00\x01\x01\x07"))
	if r.Text(1) != "" || r.Done() != api.ErrTooBig {
		t.Error(int(r.Done()))
	}
	if s := r.Text(2); s != "" || r.Left() != 6 || r.Done() != api.ErrTooBig {
		t.Errorf("%q %d %d", s, r.Left(), int(r.Done()))
	}
	if n := r.Small(); n != 0 || r.Left() != 6 || r.Done() != api.ErrTooBig {
		t.Error(n, r.Left(), int(r.Done()))
	}
	q := New([]byte("\x01\x00\x00\x01"))
	if q.Small() != 0 || q.Text(4) != "" || q.Small() != 0 || q.Left() != 4 || q.Done() != api.ErrForm {
		t.Error(q.Left(), int(q.Done()))
	}
	u := New([]byte("\x01\x05\x02"))
	if u.Small() != 5 || u.Small() != 0 || u.Left() != 1 || u.Done() != api.ErrCut {
		t.Error(u.Left(), int(u.Done()))
	}
}

// P1.5
func TestReaderOfNothing(t *testing.T) {
	var none *Reader
	if none.Text(4) != "" || none.Small() != 0 || none.Left() != 0 || none.Done() != api.ErrNil {
		t.Error("a nil reader tells something")
	}
	for _, b := range [][]byte{nil, {}} {
		if r := New(b); r == nil || r.Left() != 0 || r.Done() != api.OK {
			t.Error("a reader of no bytes")
		}
	}
}

// P1.5: the bytes are those of the time of New.
func TestReaderKeepsItsOwnBytes(t *testing.T) {
	b := []byte("ab\x00\x01\x01\x07")
	r := New(b)
	copy(b, "\x00\x02\x00\x02\x00\x02")
	if r.Text(2) != "ab" || r.Small() != 7 || r.Done() != api.OK {
		t.Error(int(r.Done()))
	}
	if string(b) != "\x00\x02\x00\x02\x00\x02" {
		t.Errorf("%x", b)
	}
}

// P1.6
func TestTextsKeepTheirOrder(t *testing.T) {
	all := words("\x00\x01\x02\xff", 3)
	for _, a := range all {
		for _, b := range all {
			standAsValues(t, strings.Compare(a, b), PutText(a), PutText(b))
		}
		if got, n, err := GetText(append(PutText(a), 0xff)); got != a || n != len(PutText(a)) || err != api.OK {
			t.Fatalf("%q was put, %q got", a, got)
		}
	}
}

// P1.6
func TestNumbersKeepTheirOrder(t *testing.T) {
	var all []uint64
	for k := range 64 {
		all = append(all, 1<<k-1, 1<<k, 1<<k+1, 3<<k, 0xa5<<k)
	}
	all = append(all, math.MaxUint64)
	for _, a := range all {
		for _, b := range all {
			standAsValues(t, sign(a < b, a > b), PutSmall(a), PutSmall(b))
			standAsValues(t, sign(int64(a) < int64(b), int64(a) > int64(b)), PutInt(int64(a)), PutInt(int64(b)))
		}
		if got, n, err := GetSmall(append(PutSmall(a), 0xff)); got != a || n != len(PutSmall(a)) || err != api.OK {
			t.Fatalf("%d was put, %d got", a, got)
		}
		if got, n, err := GetInt(append(PutInt(int64(a)), 0xff)); got != int64(a) || n != 8 || err != api.OK {
			t.Fatalf("%d was put, %d got", int64(a), got)
		}
	}
}

func sign(less, more bool) int {
	switch {
	case less:
		return -1
	case more:
		return 1
	}
	return 0
}

// standAsValues asks for the same order of the bytes, whatever stands behind them; values that are the same are left to what stands there.
func standAsValues(t *testing.T, want int, a, b []byte) {
	t.Helper()
	tails := []string{"", "\x00", "\x01", "\xff\xff"}
	for _, x := range tails {
		for _, y := range tails {
			held := want
			if want == 0 {
				held = strings.Compare(x, y)
			}
			if got := Compare(append(a[:len(a):len(a)], x...), append(b[:len(b):len(b)], y...)); got != held {
				t.Fatalf("%x %x against %x %x: %d, want %d", a, x, b, y, got, held)
			}
		}
	}
}

// Rule 3: an argument is not changed, and an answer shares nothing with it.
func TestAnswersAreNew(t *testing.T) {
	b := []byte("ab\xff\xff")
	got, _ := Behind(b)
	got = append(got[:cap(got)], 'x')
	for i := range got {
		got[i] = 'x'
	}
	if string(b) != "ab\xff\xff" {
		t.Errorf("%x", b)
	}
	in := []byte("a\x00\xff\x00\x01")
	text, _, _ := GetText(in)
	clear(in)
	if text != "a\x00" {
		t.Errorf("%q", text)
	}
	for _, put := range []func() []byte{
		func() []byte { return PutText("a") },
		func() []byte { return PutInt(7) },
		func() []byte { return PutSmall(7) },
		func() []byte { return PutSmall(0) },
	} {
		first := put()
		kept := string(first)
		clear(first)
		if string(put()) != kept {
			t.Errorf("%x", kept)
		}
	}
}
