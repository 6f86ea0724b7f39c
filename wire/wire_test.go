package wire_test

import (
	"math"
	"slices"
	"strings"
	"testing"

	"tusk/api"
	"tusk/wire"
)

// rest is what may follow in the bytes, and must not be looked at.
var rest = []string{"", "\x00", "\x7f", "\x80", "\xff\xff", "\x80\x00", "\x01a\x01b"}

var numbers = []struct {
	n     int64
	bytes string
}{
	{0, "\x00"},
	{1, "\x01"},
	{126, "\x7e"},
	{127, "\x7f"},
	{128, "\x80\x01"},
	{129, "\x81\x01"},
	{255, "\xff\x01"},
	{256, "\x80\x02"},
	{300, "\xac\x02"},
	{1<<14 - 1, "\xff\x7f"},
	{1 << 14, "\x80\x80\x01"},
	{1<<31 - 1, "\xff\xff\xff\xff\x07"},
	{1 << 32, "\x80\x80\x80\x80\x10"},
	{1<<56 - 1, strings.Repeat("\xff", 7) + "\x7f"},
	{1 << 56, strings.Repeat("\x80", 8) + "\x01"},
	{api.MaxInt - 1, "\xfe" + strings.Repeat("\xff", 7) + "\x3f"},
	{api.MaxInt, strings.Repeat("\xff", 8) + "\x3f"},
}

func wantInt(t *testing.T, s string, n int64, size int, e api.Errno) {
	t.Helper()
	if gn, gs, ge := wire.GetInt(s); gn != n || gs != size || ge != e {
		t.Errorf("GetInt(%x): %d, %d, %v, want %d, %d, %v", s, gn, gs, ge, n, size, e)
	}
}

func wantText(t *testing.T, s, text string, size int, e api.Errno) {
	t.Helper()
	if gt, gs, ge := wire.GetText(s); gt != text || gs != size || ge != e {
		t.Errorf("GetText(%.20x..): %d bytes, %d, %v, want %d bytes, %d, %v", s, len(gt), gs, ge, len(text), size, e)
	}
}

func wantList(t *testing.T, s string, most int, l []string, size int, e api.Errno) {
	t.Helper()
	if gl, gs, ge := wire.GetList(s, most); !slices.Equal(gl, l) || gs != size || ge != e {
		t.Errorf("GetList(%.20x.., %d): %d members, %d, %v, want %d members, %d, %v", s, most, len(gl), gs, ge, len(l), size, e)
	}
}

// 1.1: the bytes of numbers, both ways.
func TestInt(t *testing.T) {
	for _, x := range numbers {
		if s := wire.Int(x.n); s != x.bytes {
			t.Errorf("Int(%d): %x, want %x", x.n, s, x.bytes)
		}
		for _, r := range rest {
			wantInt(t, x.bytes+r, x.n, len(x.bytes), api.OK)
		}
	}
}

// 1.1: what is no number has no bytes.
func TestIntOfNoNumber(t *testing.T) {
	for _, n := range []int64{-1, -2, -127, -128, -129, -api.MaxInt, math.MinInt64, math.MinInt64 + 1, api.MaxInt + 1, api.MaxInt + 2, math.MaxInt64} {
		if s := wire.Int(n); s != "" {
			t.Errorf("Int(%d): %x, want nothing", n, s)
		}
	}
}

// 1.1: bytes that end ahead of the last one: at most eight, or none.
func TestGetIntShort(t *testing.T) {
	for _, b := range []string{"\x80", "\x81", "\xff"} {
		for k := range 9 {
			wantInt(t, strings.Repeat(b, k), 0, 0, api.ErrShort)
		}
	}
}

// 1.1: nine bytes with the highest bit 1, whatever is behind them; numbers above MaxInt.
func TestGetIntRange(t *testing.T) {
	for _, b := range []string{"\x80", "\x81", "\xff"} {
		nine := strings.Repeat(b, 9)
		for _, r := range append(rest, "\x01", strings.Repeat(b, 100)) {
			wantInt(t, nine+r, 0, 0, api.ErrRange)
		}
		for _, last := range []string{"\x40", "\x41", "\x7f"} {
			for _, r := range rest {
				wantInt(t, strings.Repeat(b, 8)+last+r, 0, 0, api.ErrRange)
			}
		}
	}
	wantInt(t, strings.Repeat("\x80", 8)+"\x3f", 63<<56, 9, api.OK)
}

// 1.1: a last byte 0 that is not the first.
func TestGetIntField(t *testing.T) {
	for _, b := range []string{"\x80", "\x81", "\xff"} {
		for k := 1; k <= 8; k++ {
			for _, r := range rest {
				wantInt(t, strings.Repeat(b, k)+"\x00"+r, 0, 0, api.ErrField)
			}
		}
	}
}

// plainInt is GetInt as the chapter's words have it, one after the other.
func plainInt(s string) (int64, int, api.Errno) {
	high := 0
	for high < len(s) && s[high] >= 128 {
		high++
	}
	if high == len(s) && high <= 8 {
		return 0, 0, api.ErrShort
	}
	if high >= 9 {
		return 0, 0, api.ErrRange
	}
	var n uint64
	for i := high; i >= 0; i-- {
		n = n*128 + uint64(s[i]%128)
	}
	if n > api.MaxInt {
		return 0, 0, api.ErrRange
	}
	if high > 0 && s[high] == 0 {
		return 0, 0, api.ErrField
	}
	return int64(n), high + 1, api.OK
}

// eachText hands out every text of at most size of these bytes.
func eachText(letters string, size int, do func(s string)) {
	do("")
	if size == 0 {
		return
	}
	for i := range len(letters) {
		eachText(letters, size-1, func(s string) { do(letters[i:i+1] + s) })
	}
}

// 1.1, 1.4: all texts of the bytes at the edges, behind up to nine bytes with the highest bit 1.
func TestGetIntOfAll(t *testing.T) {
	for k := range 10 {
		for _, b := range []string{"\x80", "\xc5", "\xff"} {
			front := strings.Repeat(b, k)
			eachText("\x00\x01\x3f\x40\x7f\x80\xff", 3, func(s string) {
				s = front + s
				n, size, e := plainInt(s)
				wantInt(t, s, n, size, e)
				if e == api.OK && wire.Int(n) != s[:size] {
					t.Errorf("Int(%d): %x, was got from %x", n, wire.Int(n), s[:size])
				}
			})
		}
	}
}

// someNumbers are all up to 2^10, and those beside every power of two up to MaxInt.
func someNumbers() []int64 {
	var l []int64
	for n := range int64(1 << 10) {
		l = append(l, n)
	}
	for b := 10; b < 62; b++ {
		p := int64(1) << b
		l = append(l, p-1, p, p+1, p+p/3)
	}
	l = append(l, api.MaxInt-1, api.MaxInt)
	slices.Sort(l)
	return slices.Compact(l)
}

// 1.4: what is written is got again, whatever follows.
func TestIntAgain(t *testing.T) {
	for _, n := range someNumbers() {
		s := wire.Int(n)
		for _, r := range rest {
			wantInt(t, s+r, n, len(s), api.OK)
		}
	}
}

// 1.4: no beginning of a number's bytes is another one's.
func TestIntBeginnings(t *testing.T) {
	of := map[string]int64{}
	for _, n := range someNumbers() {
		of[wire.Int(n)] = n
	}
	for s, n := range of {
		for k := range len(s) {
			if m, ok := of[s[:k]]; ok {
				t.Errorf("%x, of %d, begins with %x, of %d", s, n, s[:k], m)
			}
			if _, _, e := wire.GetInt(s[:k]); e != api.ErrShort {
				t.Errorf("GetInt(%x), the beginning of %x: %v", s[:k], s, e)
			}
		}
	}
	if len(of) != len(someNumbers()) {
		t.Errorf("%d numbers have %d forms", len(someNumbers()), len(of))
	}
}

// 1.2, 1.4: texts up to MaxText bytes, both ways.
func TestText(t *testing.T) {
	for _, x := range []struct{ text, bytes string }{
		{"", "\x00"},
		{"ab", "\x02ab"},
		{"\x00", "\x01\x00"},
		{"\xff\x80", "\x02\xff\x80"},
		{"\u00e9", "\x02\xc3\xa9"},
		{strings.Repeat("x", 127), "\x7f" + strings.Repeat("x", 127)},
		{strings.Repeat("x", 128), "\x80\x01" + strings.Repeat("x", 128)},
		{strings.Repeat("x", api.MaxText-1), "\xff\xff\x03" + strings.Repeat("x", api.MaxText-1)},
		{strings.Repeat("x", api.MaxText), "\x80\x80\x04" + strings.Repeat("x", api.MaxText)},
	} {
		if s := wire.Text(x.text); s != x.bytes {
			t.Errorf("Text of %d bytes: %.20x..", len(x.text), s)
		}
		for _, r := range rest {
			wantText(t, x.bytes+r, x.text, len(x.bytes), api.OK)
		}
	}
}

// 1.2: a text above MaxText is written whole, and not got; nor is one that is only claimed.
func TestTextTooLong(t *testing.T) {
	for _, more := range []int{1, 2, 1 << 20} {
		long := strings.Repeat("x", api.MaxText+more)
		s := wire.Text(long)
		if want := wire.Int(int64(len(long))) + long; s != want {
			t.Errorf("Text of %d bytes: %.20x..", len(long), s)
		}
		wantText(t, s, "", 0, api.ErrLong)
	}
	for _, n := range []int64{api.MaxText + 1, 1 << 31, 1 << 32, api.MaxInt} {
		wantText(t, wire.Int(n), "", 0, api.ErrLong)
		wantText(t, wire.Int(n)+"abc", "", 0, api.ErrLong)
	}
}

// 1.2: fewer bytes than the number says.
func TestTextShort(t *testing.T) {
	for _, s := range []string{"\x01", "\x02a", "\x7f", "\x80\x01" + strings.Repeat("x", 127), "\x80\x80\x04", "\x80\x80\x04" + strings.Repeat("x", api.MaxText-1)} {
		wantText(t, s, "", 0, api.ErrShort)
	}
}

var badNumbers = []struct {
	bytes string
	e     api.Errno
}{
	{"", api.ErrShort},
	{"\x80", api.ErrShort},
	{strings.Repeat("\xff", 8), api.ErrShort},
	{strings.Repeat("\xff", 9), api.ErrRange},
	{strings.Repeat("\xff", 8) + "\x40", api.ErrRange},
	{"\x80\x00", api.ErrField},
	{"\x81\x00ab", api.ErrField},
}

// 1.2, 1.3: GetInt's error comes first.
func TestBadNumber(t *testing.T) {
	for _, x := range badNumbers {
		wantInt(t, x.bytes, 0, 0, x.e)
		wantText(t, x.bytes, "", 0, x.e)
		for _, most := range []int{-1, 0, 1, math.MaxInt} {
			wantList(t, x.bytes, most, nil, 0, x.e)
		}
	}
}

// 1.3, 1.4: lists, both ways.
func TestList(t *testing.T) {
	for _, x := range []struct {
		l     []string
		bytes string
	}{
		{nil, "\x00"},
		{[]string{}, "\x00"},
		{[]string{""}, "\x01\x00"},
		{[]string{"a", ""}, "\x02\x01a\x00"},
		{[]string{"", "", "b", "b"}, "\x04\x00\x00\x01b\x01b"},
		{[]string{"\x80", "\x00\xff"}, "\x02\x01\x80\x02\x00\xff"},
		{slices.Repeat([]string{"z"}, 128), "\x80\x01" + strings.Repeat("\x01z", 128)},
		{[]string{strings.Repeat("x", api.MaxText)}, "\x01\x80\x80\x04" + strings.Repeat("x", api.MaxText)},
	} {
		if s := wire.List(x.l); s != x.bytes {
			t.Errorf("List of %d: %.20x..", len(x.l), s)
		}
		for _, r := range rest {
			for _, most := range []int{len(x.l), len(x.l) + 1, math.MaxInt} {
				wantList(t, x.bytes+r, most, x.l, len(x.bytes), api.OK)
			}
		}
	}
}

// 1.3: as many members as most, one more, most below 0.
func TestListMost(t *testing.T) {
	for k := range 5 {
		l := slices.Repeat([]string{"ab"}, k)
		s := wire.List(l)
		wantList(t, s, k, l, 1+3*k, api.OK)
		wantList(t, s, k-1, nil, 0, api.ErrLong)
		wantList(t, s, -1, nil, 0, api.ErrLong)
		wantList(t, s, math.MinInt, nil, 0, api.ErrLong)
	}
	// Too many comes ahead of what is wrong in the texts.
	wantList(t, "\x03\x80\x00", 2, nil, 0, api.ErrLong)
	wantList(t, "\x03", 2, nil, 0, api.ErrLong)
	wantList(t, wire.Int(api.MaxInt), 8, nil, 0, api.ErrLong)
}

// 1.3: the error of the first text that has one.
func TestListTexts(t *testing.T) {
	for _, x := range badNumbers {
		wantList(t, "\x01"+x.bytes, 1, nil, 0, x.e)
		wantList(t, "\x03\x01a\x00"+x.bytes, 3, nil, 0, x.e)
	}
	long := wire.Text(strings.Repeat("x", api.MaxText+1))
	wantList(t, "\x01"+long, 1, nil, 0, api.ErrLong)
	wantList(t, "\x02\x01a"+long, 2, nil, 0, api.ErrLong)
	wantList(t, "\x02"+long+"\x80\x00", 2, nil, 0, api.ErrLong)
	wantList(t, "\x02\x80\x00"+long, 2, nil, 0, api.ErrField)
	wantList(t, "\x02\x01a\x02b", 2, nil, 0, api.ErrShort)
}

// 1.3, R1: a number of members that is only claimed is refused by the bytes' end.
func TestListClaimed(t *testing.T) {
	for _, n := range []int64{2, 1 << 20, 1 << 31, 1 << 40, api.MaxInt} {
		wantList(t, wire.Int(n), math.MaxInt, nil, 0, api.ErrShort)
		wantList(t, wire.Int(n)+"\x01a", math.MaxInt, nil, 0, api.ErrShort)
	}
}

// 1.3, R6: a list of more members than any limit.
func TestListOfMany(t *testing.T) {
	l := slices.Repeat([]string{"", "m"}, 1<<17)
	s := wire.List(l)
	wantList(t, s, len(l), l, len(s), api.OK)
	wantList(t, s, len(l)-1, nil, 0, api.ErrLong)
}

// 1.4: of all short texts of the bytes at the edges: what is got, written again, is what it was got from.
func TestGotIsWritten(t *testing.T) {
	eachText("\x00\x01\x02\x03\x80\xff", 6, func(s string) {
		if text, size, e := wire.GetText(s); e == api.OK && wire.Text(text) != s[:size] {
			t.Errorf("Text(%x): %x, was got from %x", text, wire.Text(text), s[:size])
		}
		if l, size, e := wire.GetList(s, 3); e == api.OK && wire.List(l) != s[:size] {
			t.Errorf("List(%x): %x, was got from %x", l, wire.List(l), s[:size])
		}
	})
}

// R4: a list that is handed in stays, its spare room too; one that is handed out is new.
func TestMemory(t *testing.T) {
	room := []string{"a", "b", "spare", "spare"}
	wire.List(room[:2])
	if want := []string{"a", "b", "spare", "spare"}; !slices.Equal(room, want) {
		t.Errorf("List changed what it was given: %q", room)
	}
	s := wire.List(room)
	first, _, _ := wire.GetList(s, 4)
	second, _, _ := wire.GetList(s, 4)
	first[0] = "changed"
	if !slices.Equal(second, room) || room[0] != "a" {
		t.Errorf("lists share memory: %q, %q", second, room)
	}
}
