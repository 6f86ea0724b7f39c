package auth_test

import (
	"encoding/hex"
	"math"
	"math/bits"
	"slices"
	"strings"
	"testing"

	"tusk/api"
	"tusk/auth"
)

// table is one that New must answer.
func table(t *testing.T, f int, seed string) *auth.Table {
	t.Helper()
	x, e := auth.New(f, seed)
	if e != api.OK || x == nil {
		t.Fatalf("New(%d, %q): error %d", f, seed, e)
	}
	return x
}

// sign is a tag that Sign must answer.
func sign(t *testing.T, x *auth.Table, who int, kind, word string) api.Tag {
	t.Helper()
	tag, e := x.Sign(who, kind, word)
	if e != api.OK {
		t.Fatalf("Sign(%d): error %d", who, e)
	}
	return tag
}

// tags are those of some validators, in the order of who.
func tags(t *testing.T, x *auth.Table, kind, word string, who ...int) []api.Tag {
	t.Helper()
	var l []api.Tag
	for _, w := range who {
		l = append(l, sign(t, x, w, kind, word))
	}
	return l
}

// strangers are numbers that no table of n has.
func strangers(n int) []int {
	return []int{-1, n, n + 1, 127, 128, 256, 1 << 32, -1 << 32, api.MaxInt, math.MaxInt, math.MinInt}
}

// The chapter's example, with each answer that it names.
func TestExample(t *testing.T) {
	x := table(t, 1, "seed")
	if x.N() != 4 || x.Need() != 3 {
		t.Errorf("N %d, Need %d, want 4, 3", x.N(), x.Need())
	}
	for _, c := range []struct {
		who  []int
		word string
		want api.Errno
	}{
		{[]int{0, 1, 2}, "w", api.OK},
		{[]int{0, 2, 1}, "w", api.ErrOrder},
		{[]int{0, 1}, "w", api.ErrFew},
		{[]int{0, 1, 2}, "v", api.ErrTag},
	} {
		if e := x.Enough(tags(t, x, "k", "w", c.who...), "k", c.word); e != c.want {
			t.Errorf("tags of %v, word %s: error %d, want %d", c.who, c.word, e, c.want)
		}
	}
}

// 3.1: what New refuses, and which refusal comes first; how many there are.
func TestNew(t *testing.T) {
	for _, c := range []struct {
		f, size int
		want    api.Errno
	}{
		{1, 0, api.OK},
		{1, 1, api.OK},
		{2, 31, api.OK},
		{2, 32, api.OK},
		{1, 33, api.ErrLong},
		{2, 33, api.ErrLong},
		{2, api.MaxText + 1, api.ErrLong},
		{0, 0, api.ErrRange},
		{3, 0, api.ErrRange},
		{-1, 0, api.ErrRange},
		{math.MaxInt, 0, api.ErrRange},
		{math.MinInt, 0, api.ErrRange},
		{1 << 32, 0, api.ErrRange},
		{1<<32 + 1, 0, api.ErrRange},
		{0, 33, api.ErrRange},
		{3, 33, api.ErrRange},
	} {
		x, e := auth.New(c.f, strings.Repeat("s", c.size))
		if e != c.want || (x == nil) != (e != api.OK) {
			t.Errorf("New(%d, %d bytes): %v, error %d, want %d", c.f, c.size, x, e, c.want)
		}
		if e == api.OK && (x.N() != 3*c.f+1 || x.Need() != 2*c.f+1) {
			t.Errorf("f %d: N %d, Need %d", c.f, x.N(), x.Need())
		}
	}
}

// known are tags by another program: kinds are k and words w, so many times.
var known = []struct {
	f          int
	seed       string
	who        int
	kind, word int
	mac        string
}{
	{1, "", 0, 0, 0, "7227CF061A89F21BBDB3DCB5D9A416B0"},
	{1, "", 1, 1, 1, "705E2B524252BF18C698FE74E4C571DB"},
	{1, "", 3, 200, 300, "6672675435E98D1AB0F29D6C88AABA17"},
	{2, "", 3, 1, 1, "6A2ABE547944F29795079BE5785FE0F0"},
	{1, "seed", 0, 0, 0, "4BB5E8DA8EE7197A535D5E4CA32D3897"},
	{1, "seed", 0, 1, 1, "61D3EFFD4696635259B0B4D89E7FED2B"},
	{1, "seed", 1, 200, 300, "E5313A1282C9741903DBB77612FF32CD"},
	{1, "seed", 3, 1, 1, "87744F02FC4421351CB3C6A64B820603"},
	{2, "seed", 3, 1, 1, "87744F02FC4421351CB3C6A64B820603"},
	{2, "seed", 6, 1, 1, "05CA858EA1A17A3E3EE66F2E1C86617A"},
	{2, "ssssssssssssssssssssssssssssssss", 0, 1, 1, "2EBF19E21ECFA44BFC338729694E55AD"},
	{2, "ssssssssssssssssssssssssssssssss", 6, 0, 0, "B1FE6D0D3DCF46DB8330C768270B78FA"},
	{2, "ssssssssssssssssssssssssssssssss", 6, 200, 300, "BB1EC0E7F311A54D8CE962965AB2E620"},
}

// 3.2: a tag is who made it, and sixteen bytes of seed, number, kind and word alone.
func TestSign(t *testing.T) {
	for i, c := range known {
		x := table(t, c.f, c.seed)
		kind, word := strings.Repeat("k", c.kind), strings.Repeat("w", c.word)
		mac, err := hex.DecodeString(c.mac)
		if err != nil {
			t.Fatal(err)
		}
		want := api.Tag{Who: c.who, Mac: string(mac)}
		if tag := sign(t, x, c.who, kind, word); tag != want {
			t.Errorf("%d: tag %d, %X, want %s", i, tag.Who, tag.Mac, c.mac)
		}
		if e := x.Check(want, kind, word); e != api.OK {
			t.Errorf("%d: its check answers %d", i, e)
		}
	}
}

// 3.2: who is no validator signs nothing, and what he brings is out of range whatever else is wrong.
func TestStrangers(t *testing.T) {
	for f := 1; f <= api.MaxF; f++ {
		x := table(t, f, "seed")
		for _, who := range strangers(x.N()) {
			if tag, e := x.Sign(who, "k", "w"); e != api.ErrRange || tag != (api.Tag{}) {
				t.Errorf("f %d: Sign(%d): %v, error %d", f, who, tag, e)
			}
			for _, mac := range []string{"", sign(t, x, 0, "k", "w").Mac} {
				if e := x.Check(api.Tag{Who: who, Mac: mac}, "k", "w"); e != api.ErrRange {
					t.Errorf("f %d: Check of %d's: error %d", f, who, e)
				}
			}
		}
	}
}

// 3.2: a tag is right for its own maker, kind, word and seed alone.
func TestCheck(t *testing.T) {
	x := table(t, 2, "seed")
	for who := range x.N() {
		tag := sign(t, x, who, "ab", "cd")
		if e := x.Check(tag, "ab", "cd"); e != api.OK {
			t.Errorf("%d's tag: error %d", who, e)
		}
		for _, c := range [][2]string{{"a", "bcd"}, {"abc", "d"}, {"", "abcd"}, {"abcd", ""}, {"ab", "cd\x00"}, {"ab", "c"}, {"cd", "ab"}, {"", ""}, {"ab", strings.Repeat("cd", api.MaxText)}} {
			if e := x.Check(tag, c[0], c[1]); e != api.ErrTag {
				t.Errorf("%d's tag for another kind and word, %.9q: error %d", who, c, e)
			}
		}
		for other := range x.N() {
			if e := x.Check(api.Tag{Who: other, Mac: tag.Mac}, "ab", "cd"); (e == api.OK) != (other == who) || other != who && e != api.ErrTag {
				t.Errorf("%d's tag under the name of %d: error %d", who, other, e)
			}
		}
		if e := table(t, 2, "see").Check(tag, "ab", "cd"); e != api.ErrTag {
			t.Errorf("%d's tag under another seed: error %d", who, e)
		}
		if e := table(t, 1, "seed").Check(tag, "ab", "cd"); who < 4 && e != api.OK || who >= 4 && e != api.ErrRange {
			t.Errorf("%d's tag, of four validators: error %d", who, e)
		}
	}
}

// 3.2: every bit of a Mac counts, and its length.
func TestCheckMac(t *testing.T) {
	x := table(t, 1, "seed")
	tag := sign(t, x, 3, "k", "w")
	if len(tag.Mac) != api.MacSize {
		t.Fatalf("a Mac of %d bytes", len(tag.Mac))
	}
	wrong := []string{"", tag.Mac[:15], tag.Mac[1:], tag.Mac + "\x00", "\x00" + tag.Mac, tag.Mac + tag.Mac, strings.Repeat("m", api.MaxText+1)}
	for bit := range 8 * api.MacSize {
		b := []byte(tag.Mac)
		b[bit/8] ^= 1 << (bit % 8)
		wrong = append(wrong, string(b))
	}
	for _, mac := range wrong {
		if e := x.Check(api.Tag{Who: 3, Mac: mac}, "k", "w"); e != api.ErrTag {
			t.Errorf("Mac %.20X: error %d", mac, e)
		}
	}
}

// 3.2: lists with faults of several sorts answer the first tag's fault, and of that one range, order, tag in turn.
func TestEnoughOrder(t *testing.T) {
	x := table(t, 1, "seed")
	good := tags(t, x, "k", "w", 0, 1, 2, 3)
	bad := tags(t, x, "k", "v", 0, 1, 2, 3)
	low, high := api.Tag{Who: -1}, api.Tag{Who: 4, Mac: good[3].Mac}
	for i, c := range []struct {
		l    []api.Tag
		want api.Errno
	}{
		{nil, api.ErrFew},
		{[]api.Tag{}, api.ErrFew},
		{good[:1], api.ErrFew},
		{good[2:], api.ErrFew},
		{good[:3], api.OK},
		{good[1:], api.OK},
		{good, api.OK},
		{[]api.Tag{good[0], good[2], good[3]}, api.OK},
		{[]api.Tag{low}, api.ErrRange},
		{[]api.Tag{high}, api.ErrRange},
		{bad[:1], api.ErrTag},
		{[]api.Tag{{}}, api.ErrTag},
		{[]api.Tag{good[0], good[0], good[0]}, api.ErrOrder},
		{[]api.Tag{good[0], good[1], good[1]}, api.ErrOrder},
		{[]api.Tag{good[1], good[0]}, api.ErrOrder},
		{[]api.Tag{good[3], good[2], good[1], good[0]}, api.ErrOrder},
		{[]api.Tag{good[0], good[1], good[2], good[3], good[0]}, api.ErrOrder},
		{[]api.Tag{good[0], good[1], good[2], good[3], high}, api.ErrRange},
		{[]api.Tag{good[1], bad[0]}, api.ErrOrder},
		{[]api.Tag{good[1], bad[1]}, api.ErrOrder},
		{[]api.Tag{good[1], low}, api.ErrRange},
		{[]api.Tag{good[3], high}, api.ErrRange},
		{[]api.Tag{bad[1], good[0], high}, api.ErrTag},
		{[]api.Tag{bad[1], high}, api.ErrTag},
		{[]api.Tag{high, bad[1], good[0]}, api.ErrRange},
		{[]api.Tag{good[1], good[0], high}, api.ErrOrder},
		{[]api.Tag{good[0], good[1], good[2], bad[3]}, api.ErrTag},
		{[]api.Tag{good[0], bad[1], good[2], good[3]}, api.ErrTag},
		{slices.Repeat(good, api.MaxText), api.ErrOrder},
	} {
		ahead := slices.Clone(c.l)
		if e := x.Enough(c.l, "k", "w"); e != c.want {
			t.Errorf("%d: error %d, want %d", i, e, c.want)
		}
		if !slices.Equal(ahead, c.l) {
			t.Errorf("%d: the list has changed", i)
		}
	}
}

// 3.2: all lists of up to five tags of which some are wrong, against the chapter's words one by one.
func TestEnoughAll(t *testing.T) {
	x := table(t, 1, "seed")
	choice := append(tags(t, x, "k", "w", 0, 1, 2, 3), api.Tag{Who: 2}, api.Tag{Who: 4})
	want := func(l []api.Tag) api.Errno {
		for i, y := range l {
			if y.Who < 0 || y.Who > 3 {
				return api.ErrRange
			}
			if i > 0 && l[i-1].Who >= y.Who {
				return api.ErrOrder
			}
			if y.Mac != choice[y.Who].Mac {
				return api.ErrTag
			}
		}
		if len(l) < 3 {
			return api.ErrFew
		}
		return api.OK
	}
	var grow func(l []api.Tag)
	grow = func(l []api.Tag) {
		if e := x.Enough(l, "k", "w"); e != want(l) {
			t.Errorf("%v: error %d, want %d", l, e, want(l))
		}
		if len(l) == 5 {
			return
		}
		for _, y := range choice {
			grow(append(slices.Clone(l), y))
		}
	}
	grow(nil)
}

// 3.3: of all sets of validators those of Need and more are enough, and two of these meet in f + 1.
func TestMeet(t *testing.T) {
	for f := 1; f <= api.MaxF; f++ {
		x := table(t, f, "seed")
		var enough []uint
		for set := range uint(1) << x.N() {
			var l []api.Tag
			for who := range x.N() {
				if set>>who&1 == 1 {
					l = append(l, sign(t, x, who, "k", "w"))
				}
			}
			e := x.Enough(l, "k", "w")
			if len(l) >= x.Need() && e != api.OK || len(l) < x.Need() && e != api.ErrFew {
				t.Errorf("f %d: %b: error %d", f, set, e)
			}
			if e == api.OK {
				enough = append(enough, set)
			}
		}
		for _, a := range enough {
			for _, b := range enough {
				if bits.OnesCount(a&b) < f+1 {
					t.Errorf("f %d: %b and %b meet in fewer than %d", f, a, b, f+1)
				}
			}
		}
	}
}

// A call leaves the table as it was: the same question has the same answer.
func TestNothingChanges(t *testing.T) {
	x := table(t, 1, "seed")
	first := tags(t, x, "k", "w", 0, 1, 2, 3)
	x.Sign(9, "k", "w")
	x.Check(api.Tag{Who: 1, Mac: "m"}, "other", "word")
	x.Enough(first[:2], "other", "word")
	if again := tags(t, x, "k", "w", 0, 1, 2, 3); !slices.Equal(first, again) || x.N() != 4 || x.Need() != 3 {
		t.Error("the table has changed")
	}
}
