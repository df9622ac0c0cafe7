// Package ordkey is layer 1: see shared/doc/01-ordkey.md.
package ordkey

import (
	"bytes"
	"cmp"

	"fascicle/api"
)

const (
	endMark  = 0x01    // behind a 00: the text ends
	zeroMark = 0xff    // behind a 00: the text has a byte 0
	signBit  = 1 << 63 // turned, so that numbers below 0 stand ahead
	intSize  = 8       // bytes of a number with a sign, and of a small one at most
)

// PutText lays a text.
func PutText(s string) []byte {
	var b []byte
	for i := range len(s) {
		b = append(b, s[i])
		if s[i] == 0 {
			b = append(b, zeroMark)
		}
	}
	return append(b, 0, endMark)
}

// GetText reads a text.
func GetText(b []byte) (string, int, api.Errno) {
	var text []byte
	zero := false
	for i := range len(b) {
		switch {
		case !zero && b[i] == 0:
			zero = true
		case !zero:
			text = append(text, b[i])
		case b[i] == zeroMark:
			text = append(text, 0)
			zero = false
		case b[i] == endMark:
			return string(text), i + 1, api.OK
		default:
			return "", 0, api.ErrForm
		}
	}
	return "", 0, api.ErrCut
}

// PutInt lays a number with a sign.
func PutInt(n int64) []byte {
	return appendHigh(nil, uint64(n)^signBit, intSize)
}

// GetInt reads a number with a sign.
func GetInt(b []byte) (int64, int, api.Errno) {
	if len(b) < intSize {
		return 0, 0, api.ErrCut
	}
	return int64(joinHigh(b[:intSize]) ^ signBit), intSize, api.OK
}

// PutSmall lays a number in few bytes.
func PutSmall(n uint64) []byte {
	k := width(n)
	return appendHigh([]byte{byte(k)}, n, k)
}

// GetSmall reads a number of few bytes.
func GetSmall(b []byte) (uint64, int, api.Errno) {
	if len(b) == 0 {
		return 0, 0, api.ErrCut
	}
	k := int(b[0])
	if k > intSize {
		return 0, 0, api.ErrForm
	}
	if len(b)-1 < k {
		return 0, 0, api.ErrCut
	}
	// A number has one form alone: else bytes would not stand as numbers do.
	if k > 0 && b[1] == 0 {
		return 0, 0, api.ErrForm
	}
	return joinHigh(b[1 : 1+k]), 1 + k, api.OK
}

// width tells how many bytes a number needs.
func width(n uint64) int {
	k := 0
	for n > 0 {
		n >>= 8
		k++
	}
	return k
}

// appendHigh lays the lowest k bytes of n behind b, the highest first.
func appendHigh(b []byte, n uint64, k int) []byte {
	for i := range k {
		b = append(b, byte(n>>(8*(k-1-i))))
	}
	return b
}

// joinHigh makes a number of bytes, the highest first.
func joinHigh(b []byte) uint64 {
	n := uint64(0)
	for i := range len(b) {
		n = n<<8 | uint64(b[i])
	}
	return n
}

// Compare tells how bytes stand.
func Compare(a, b []byte) int {
	for i := range min(len(a), len(b)) {
		if c := cmp.Compare(a[i], b[i]); c != 0 {
			return c
		}
	}
	return cmp.Compare(len(a), len(b))
}

// Behind tells the least bytes behind all that begin so.
func Behind(b []byte) ([]byte, bool) {
	for i := range len(b) {
		last := len(b) - 1 - i
		if b[last] != 0xff {
			next := bytes.Clone(b[:last+1])
			next[last]++
			return next, true
		}
	}
	return nil, false
}

// Reader takes texts and numbers off.
type Reader struct {
	left  []byte
	fault api.Errno // the first one
}

// New makes a reader.
func New(b []byte) *Reader {
	return &Reader{left: bytes.Clone(b)}
}

// Text takes a text off.
func (r *Reader) Text(most int) string {
	if r == nil || r.fault != api.OK {
		return ""
	}
	s, n, e := GetText(r.left)
	if e == api.OK && len(s) > most {
		e = api.ErrTooBig
	}
	if !r.take(n, e) {
		return ""
	}
	return s
}

// Small takes a number off.
func (r *Reader) Small() int {
	if r == nil || r.fault != api.OK {
		return 0
	}
	v, n, e := GetSmall(r.left)
	if e == api.OK && v > api.MaxNum {
		e = api.ErrRange
	}
	if !r.take(n, e) {
		return 0
	}
	return int(v)
}

// take takes n bytes off, or keeps the fault; it tells whether there was none.
func (r *Reader) take(n int, e api.Errno) bool {
	if e != api.OK {
		r.fault = e
		return false
	}
	r.left = r.left[n:]
	return true
}

// Left tells how many bytes are left.
func (r *Reader) Left() int {
	if r == nil {
		return 0
	}
	return len(r.left)
}

// Done tells the first error, or that bytes are left.
func (r *Reader) Done() api.Errno {
	switch {
	case r == nil:
		return api.ErrNil
	case r.fault == api.OK && len(r.left) > 0:
		return api.ErrForm
	}
	return r.fault
}
