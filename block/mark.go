package block

import "tusk/api"

// roundSize is how many bytes of a mark are its round's.
const roundSize = api.MarkSize - api.DigSize

// Mark is a certificate's mark: its round and its id.
func Mark(round int, id string) string {
	if round < 1 || round > api.MaxInt || len(id) != api.DigSize {
		return ""
	}
	// The highest byte stands first, so that marks rise as rounds do.
	var b [roundSize]byte
	for i := len(b) - 1; i >= 0; i-- {
		b[i] = byte(round)
		round >>= 8
	}
	return string(b[:]) + id
}

// Unmark is the round and the id of a mark.
func Unmark(s string) (int, string, bool) {
	if len(s) != api.MarkSize {
		return 0, "", false
	}
	// Eight bytes may hold more than a round does, and more than an int.
	var round uint64
	for i := range roundSize {
		round = round<<8 | uint64(s[i])
	}
	if round < 1 || round > api.MaxInt {
		return 0, "", false
	}
	return int(round), s[roundSize:], true
}
