package block_test

import (
	"math"
	"strconv"
	"strings"
	"testing"

	"tusk/api"
	"tusk/block"
)

// wantMark is that a round and an id have a mark, from which both are got again.
func wantMark(t *testing.T, round int, id, mark string) {
	t.Helper()
	if m := block.Mark(round, id); m != mark {
		t.Errorf("Mark(%d, %x): %x, want %x", round, id, m, mark)
	}
	if r, i, ok := block.Unmark(mark); r != round || i != id || !ok {
		t.Errorf("Unmark(%x): %d, %x, %v, want %d, %x, true", mark, r, i, ok, round, id)
	}
}

// wantNoMark is that a text is no mark.
func wantNoMark(t *testing.T, s string) {
	t.Helper()
	if r, i, ok := block.Unmark(s); r != 0 || i != "" || ok {
		t.Errorf("Unmark(%.80x) of %d bytes: %d, %x, %v", s, len(s), r, i, ok)
	}
}

// Words, 8.1: a mark is the round in eight bytes, the highest first, and the id.
func TestMark(t *testing.T) {
	for round, front := range map[int]string{
		1:                  "\x00\x00\x00\x00\x00\x00\x00\x01",
		2:                  "\x00\x00\x00\x00\x00\x00\x00\x02",
		127:                "\x00\x00\x00\x00\x00\x00\x00\x7f",
		128:                "\x00\x00\x00\x00\x00\x00\x00\x80",
		255:                "\x00\x00\x00\x00\x00\x00\x00\xff",
		256:                "\x00\x00\x00\x00\x00\x00\x01\x00",
		258:                "\x00\x00\x00\x00\x00\x00\x01\x02",
		1<<31 - 1:          "\x00\x00\x00\x00\x7f\xff\xff\xff",
		1 << 31:            "\x00\x00\x00\x00\x80\x00\x00\x00",
		1 << 32:            "\x00\x00\x00\x01\x00\x00\x00\x00",
		0x0102030405060708: "\x01\x02\x03\x04\x05\x06\x07\x08",
		1<<62 - 2:          "\x3f\xff\xff\xff\xff\xff\xff\xfe",
		1<<62 - 1:          "\x3f\xff\xff\xff\xff\xff\xff\xff",
	} {
		for _, id := range []string{block.Genesis(), strings.Repeat("\xff", 32), block.Id(api.Block{}), "0123456789abcdef\x80\x00\xff\xc3é\n\t\"56789ab"} {
			wantMark(t, round, id, front+id)
		}
	}
	for bit := range 62 {
		front := []byte(strings.Repeat("\x00", 8))
		front[7-bit/8] = 1 << (bit % 8)
		wantMark(t, 1<<bit, digest(9), string(front)+digest(9))
	}
}

// 8.1: of a round or an id that is none there is no mark.
func TestMarkOfNone(t *testing.T) {
	for _, round := range []int{0, -1, -2, -256, api.MaxInt + 1, api.MaxInt + 2, math.MaxInt, -api.MaxInt, math.MinInt} {
		for _, id := range []string{digest(1), "", "short"} {
			if m := block.Mark(round, id); m != "" {
				t.Errorf("Mark(%d, %x): %x", round, id, m)
			}
		}
	}
	for _, size := range sizes {
		if m := block.Mark(1, strings.Repeat("i", size)); m != "" {
			t.Errorf("an id of %d bytes: %.80x", size, m)
		}
	}
}

// wrongMarks are texts that are none.
func wrongMarks() []string {
	id := digest(1)
	l := []string{
		"",
		id,
		strings.Repeat("\x00", 8) + id,
		strings.Repeat("\x00", 40),
		"\x40\x00\x00\x00\x00\x00\x00\x00" + id,
		"\x40\x00\x00\x00\x00\x00\x00\x01" + id,
		"\x7f\xff\xff\xff\xff\xff\xff\xff" + id,
		"\x80\x00\x00\x00\x00\x00\x00\x00" + id,
		"\x80\x00\x00\x00\x00\x00\x00\x01" + id,
		"\xc0\x00\x00\x00\x00\x00\x00\x01" + id,
		strings.Repeat("\xff", 8) + id,
		strings.Repeat("\xff", 40),
	}
	for _, size := range []int{1, 7, 8, 9, 31, 33, 39, 41, 48, 80, 40 + 256, api.MaxText, api.MaxText + 40} {
		l = append(l, strings.Repeat("\x01", size))
	}
	return l
}

// 8.1: what is no mark has no round and no id.
func TestUnmarkOfNone(t *testing.T) {
	for _, s := range wrongMarks() {
		wantNoMark(t, s)
	}
	m := block.Mark(1, digest(1))
	for i := range len(m) {
		wantNoMark(t, m[:i])
		wantNoMark(t, m+m[:i+1])
	}
}

// 8.1: with each byte as each other one, a text of 40 bytes is a mark just if its round is there, and it is marked again as it was.
func TestUnmarkNear(t *testing.T) {
	right := block.Mark(1<<61+77, digest(3))
	for i := range len(right) {
		for b := range 256 {
			s := right[:i] + string([]byte{byte(b)}) + right[i+1:]
			if i == 0 && b >= 0x40 {
				wantNoMark(t, s)
				continue
			}
			round, id, ok := block.Unmark(s)
			if !ok || id != s[8:] || block.Mark(round, id) != s {
				t.Errorf("Unmark(%x): %d, %x, %v", s, round, id, ok)
			}
		}
	}
}

// Words: the first block's id.
func TestGenesis(t *testing.T) {
	if id := block.Genesis(); id != strings.Repeat("\x00", 32) {
		t.Errorf("Genesis: %x", id)
	}
}

// Words, 8.1: a vote's word is the view's bytes and the id, as they are; a view that is no number is written as nothing. Its kind is agree.
func TestWord(t *testing.T) {
	if block.Agree != "agree" {
		t.Errorf("Agree is %q", block.Agree)
	}
	for view, front := range map[int]string{
		0:              "\x00",
		1:              "\x01",
		127:            "\x7f",
		128:            "\x80\x01",
		300:            "\xac\x02",
		1 << 32:        "\x80\x80\x80\x80\x10",
		api.MaxInt:     strings.Repeat("\xff", 8) + "\x3f",
		-1:             "",
		api.MaxInt + 1: "",
		math.MaxInt:    "",
		math.MinInt:    "",
	} {
		for _, id := range []string{block.Genesis(), digest(7), "", "any", strings.Repeat("i", api.MaxText+1)} {
			if w := block.Word(view, id); w != front+id {
				t.Errorf("Word(%s, %.40x): %.60x", strconv.Itoa(view), id, w)
			}
		}
	}
}
