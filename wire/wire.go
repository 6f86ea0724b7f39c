// Package wire is layer 1: numbers and texts as bytes. See shared/doc/01-wire.md.
package wire

import (
	"strings"

	"tusk/api"
)

const (
	group   = 7          // bits of a number in one byte
	more    = 1 << group // the highest bit: another byte follows
	longest = 9          // bytes of MaxInt, the longest number
)

// Int is a number's bytes; nothing, if n is below 0 or above MaxInt.
func Int(n int64) string {
	if n < 0 || n > api.MaxInt {
		return ""
	}
	var b []byte
	for n >= more {
		b = append(b, byte(n)|more)
		n >>= group
	}
	return string(append(b, byte(n)))
}

// GetInt is the number at the front of bytes, and in how many.
func GetInt(s string) (int64, int, api.Errno) {
	var n int64
	i := 0
next:
	if i == len(s) {
		return 0, 0, api.ErrShort
	}
	last := s[i]
	n |= int64(last&^more) << (group * i)
	i++
	if last >= more {
		// Refused here, ahead of a look at what follows: so n stays within 63 bits, and nine such bytes are out of range even where s ends.
		if i == longest {
			return 0, 0, api.ErrRange
		}
		goto next
	}
	if n > api.MaxInt {
		return 0, 0, api.ErrRange
	}
	if last == 0 && i > 1 {
		return 0, 0, api.ErrField
	}
	return n, i, api.OK
}

// Text is a text's bytes, with their count.
func Text(s string) string { return Int(int64(len(s))) + s }

// GetText is the text at the front of bytes, and in how many.
func GetText(s string) (string, int, api.Errno) {
	n, from, e := GetInt(s)
	if e != api.OK {
		return "", 0, e
	}
	if n > api.MaxText {
		return "", 0, api.ErrLong
	}
	if int(n) > len(s)-from {
		return "", 0, api.ErrShort
	}
	end := from + int(n)
	return s[from:end], end, api.OK
}

// List is texts' bytes, with their count.
func List(l []string) string {
	var b strings.Builder
	b.WriteString(Int(int64(len(l))))
	for _, s := range l {
		b.WriteString(Text(s))
	}
	return b.String()
}

// GetList is the texts at the front of bytes, and in how many.
func GetList(s string, most int) ([]string, int, api.Errno) {
	n, at, e := GetInt(s)
	if e != api.OK {
		return nil, 0, e
	}
	if n > int64(most) {
		return nil, 0, api.ErrLong
	}
	// The list grows with the texts that are there: a count that s only claims takes no memory.
	var l []string
	for int64(len(l)) < n {
		text, size, e := GetText(s[at:])
		if e != api.OK {
			return nil, 0, e
		}
		l = append(l, text)
		at += size
	}
	return l, at, api.OK
}
