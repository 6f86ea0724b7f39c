package seals_test

import (
	"math"
	"slices"
	"strconv"
	"strings"
	"testing"

	"tusk/api"
	"tusk/auth"
	"tusk/cert"
	"tusk/seals"
)

func table(t *testing.T, f int, seed string) *auth.Table {
	t.Helper()
	x, e := auth.New(f, seed)
	if e != api.OK {
		t.Fatalf("New(%d, %s): error %d", f, seed, e)
	}
	return x
}

// sign is a validator's tag, of a word of a kind.
func sign(t *testing.T, x *auth.Table, who int, kind, word string) api.Tag {
	t.Helper()
	tag, e := x.Sign(who, kind, word)
	if e != api.OK {
		t.Fatalf("Sign(%d): error %d", who, e)
	}
	return tag
}

// all is the tags of all validators, rising.
func all(t *testing.T, x *auth.Table, kind, word string) []api.Tag {
	t.Helper()
	var l []api.Tag
	for who := range x.N() {
		l = append(l, sign(t, x, who, kind, word))
	}
	return l
}

// texts is words of all sorts, each once.
func texts() []string {
	return []string{"w", "", "\x00", "\x00\x00", "a", "A", "ab", "b", "a\x00", " ", "\n", "é", "\xc3", "\xff", "\xff\xff", "1", "10", strings.Repeat("d", api.DigSize), strings.Repeat("d", api.DigSize+1), strings.Repeat("l", api.MaxText), strings.Repeat("l", api.MaxText+1)}
}

// numbered is so many words, in no order of their bytes.
func numbered(n int) []string {
	var l []string
	for i := range n {
		l = append(l, strconv.Itoa(n*7-i*3)+"th")
	}
	return l
}

// open is that Open answers so.
func open(t *testing.T, b *seals.Board, word string, want api.Errno) {
	t.Helper()
	if e := b.Open(word); e != want {
		t.Errorf("Open(%.40q): error %d, want %d", word, e, want)
	}
}

// openAll opens words that there must be room for.
func openAll(t *testing.T, b *seals.Board, words ...string) {
	t.Helper()
	for _, w := range words {
		open(t, b, w, api.OK)
	}
}

// refused is that Add answers that error, and no tags.
func refused(t *testing.T, b *seals.Board, word string, x api.Tag, want api.Errno) {
	t.Helper()
	if l, e := b.Add(word, x); len(l) != 0 || e != want {
		t.Errorf("Add(%.40q, %d's): %x, error %d, want error %d", word, x.Who, l, e, want)
	}
}

// taken is that Add answers OK, and no tags yet.
func taken(t *testing.T, b *seals.Board, word string, x api.Tag) {
	t.Helper()
	refused(t, b, word, x, api.OK)
}

// sealed is that Add answers OK, and these tags.
func sealed(t *testing.T, b *seals.Board, word string, x api.Tag, want ...api.Tag) {
	t.Helper()
	if l, e := b.Add(word, x); !slices.Equal(l, want) || e != api.OK {
		t.Errorf("Add(%.40q, %d's): %x, error %d, want %x", word, x.Who, l, e, want)
	}
}

// wantOpen is just which words are open, in that order.
func wantOpen(t *testing.T, what string, b *seals.Board, words ...string) {
	t.Helper()
	if l := b.Words(); !slices.Equal(l, words) {
		t.Errorf("%s: Words: %.40q, want %.40q", what, l, words)
	}
}

// The chapter's example.
func TestExample(t *testing.T) {
	x := table(t, 1, "seed")
	b := seals.New(x, "k", 2)
	l := all(t, x, "k", "w")
	open(t, b, "w", api.OK)
	taken(t, b, "w", l[0])
	taken(t, b, "w", l[1])
	sealed(t, b, "w", l[2], l[:3]...)
	refused(t, b, "w", l[3], api.ErrNone)
	wantOpen(t, "at last", b)
}

// 12.1: no word is open on a new board, and each has its own.
func TestNew(t *testing.T) {
	x := table(t, 1, "seed")
	b, other := seals.New(x, "k", 9), seals.New(x, "k", 9)
	wantOpen(t, "new", b)
	for _, w := range texts() {
		refused(t, b, w, sign(t, x, 0, "k", w), api.ErrNone)
		b.Close(w)
	}
	l := all(t, x, "k", "w")
	open(t, b, "w", api.OK)
	taken(t, b, "w", l[0])
	wantOpen(t, "the other", other)
	refused(t, other, "w", l[0], api.ErrNone)
	openAll(t, other, "v", "w")
	taken(t, other, "w", l[3])
	taken(t, b, "w", l[3])
	sealed(t, b, "w", l[1], l[0], l[1], l[3])
	wantOpen(t, "one of two", b)
	wantOpen(t, "the other still", other, "v", "w")
	taken(t, other, "w", l[0])
	sealed(t, other, "w", l[2], l[0], l[2], l[3])
}

// 12.1: as many as most are open at once, not one more; below 0 is as 0.
func TestMost(t *testing.T) {
	x := table(t, 1, "seed")
	for _, most := range []int{0, -1, -2, -64, -1 << 32, math.MinInt32, math.MinInt} {
		b := seals.New(x, "k", most)
		for _, w := range texts() {
			open(t, b, w, api.ErrFull)
			refused(t, b, w, sign(t, x, 0, "k", w), api.ErrNone)
		}
		wantOpen(t, "most is "+strconv.Itoa(most), b)
	}
	for _, most := range []int{1, 2, 3, 8, 9, api.MaxTable - 1, api.MaxTable, api.MaxTable + 1, 257} {
		b := seals.New(x, "k", most)
		words := numbered(most)
		openAll(t, b, words...)
		open(t, b, "more", api.ErrFull)
		refused(t, b, "more", sign(t, x, 0, "k", "more"), api.ErrNone)
		wantOpen(t, "full", b, words...)
		open(t, b, "more", api.ErrFull)
	}
	for _, most := range []int{1 << 32, api.MaxInt, math.MaxInt - 1, math.MaxInt} {
		b := seals.New(x, "k", most)
		words := numbered(1000)
		openAll(t, b, words...)
		wantOpen(t, "most is great", b, words...)
	}
}

// 12.1: a word that is open is ErrTwice, full or not, and its tags stay.
func TestTwice(t *testing.T) {
	x := table(t, 1, "seed")
	b := seals.New(x, "k", 3)
	l := all(t, x, "k", "w")
	openAll(t, b, "w", "v")
	taken(t, b, "w", l[1])
	open(t, b, "w", api.ErrTwice)
	open(t, b, "v", api.ErrTwice)
	wantOpen(t, "twice", b, "w", "v")
	open(t, b, "u", api.OK)
	taken(t, b, "w", l[0])
	for _, w := range []string{"w", "v", "u"} {
		open(t, b, w, api.ErrTwice) // and full
	}
	open(t, b, "s", api.ErrFull)
	wantOpen(t, "twice and full", b, "w", "v", "u")
	refused(t, b, "w", l[1], api.ErrTwice)
	sealed(t, b, "w", l[3], l[0], l[1], l[3])
}

// 12.1, 12.2: what was closed, or answered, leaves room for one, whichever of them it was.
func TestRoomAgain(t *testing.T) {
	x := table(t, 1, "seed")
	words := numbered(5)
	for i, gone := range words {
		for _, whole := range []bool{false, true} {
			b := seals.New(x, "k", len(words))
			openAll(t, b, words...)
			l := all(t, x, "k", gone)
			taken(t, b, gone, l[0])
			taken(t, b, gone, l[1])
			open(t, b, "more", api.ErrFull)
			if whole {
				sealed(t, b, gone, l[2], l[:3]...)
			} else {
				b.Close(gone)
			}
			rest := slices.Delete(slices.Clone(words), i, i+1)
			wantOpen(t, "one is gone", b, rest...)
			refused(t, b, gone, l[3], api.ErrNone)
			open(t, b, "more", api.OK)
			open(t, b, gone, api.ErrFull)
			open(t, b, "yet more", api.ErrFull)
			wantOpen(t, "one more", b, append(rest, "more")...)
		}
	}
}

// 12.1: any text is a word, and any text is a kind; a tag counts for the one word and kind that it is of.
func TestAnyTexts(t *testing.T) {
	x := table(t, 1, "seed")
	words := texts()
	for _, kind := range []string{"k", "", "ack", "\x00", "\xff", strings.Repeat("k", api.MaxText+1)} {
		b := seals.New(x, kind, len(words))
		openAll(t, b, words...)
		wantOpen(t, "any words", b, words...)
		for n, w := range words {
			l := all(t, x, kind, w)
			refused(t, b, w, sign(t, x, 0, kind+"k", w), api.ErrTag)
			refused(t, b, w, sign(t, x, 0, w+"k", kind), api.ErrTag)
			taken(t, b, w, l[3])
			taken(t, b, w, l[1])
			for _, other := range words[n+1:] {
				refused(t, b, other, l[3], api.ErrTag)
			}
			for _, other := range words[:n] {
				refused(t, b, other, l[3], api.ErrNone)
			}
			sealed(t, b, w, l[2], l[1:]...)
			wantOpen(t, "one less", b, words[n+1:]...)
		}
	}
}

// wrongOnes is tags that cert.Votes' Add refuses, with its errors, where whoever in is has its tag in.
func wrongOnes(t *testing.T, x *auth.Table, kind, word string, in []api.Tag) map[api.Tag]api.Errno {
	t.Helper()
	l := map[api.Tag]api.Errno{}
	for _, tag := range in {
		l[tag] = api.ErrTwice
	}
	right := all(t, x, kind, word)
	other := all(t, table(t, (x.N()-1)/3, "another seed"), kind, word)
	for who, tag := range right {
		l[api.Tag{Who: who}] = api.ErrTag
		l[api.Tag{Who: who, Mac: tag.Mac[1:]}] = api.ErrTag
		l[api.Tag{Who: who, Mac: tag.Mac + "\x00"}] = api.ErrTag
		l[api.Tag{Who: who, Mac: right[(who+1)%len(right)].Mac}] = api.ErrTag
		l[sign(t, x, who, kind, word+"'s")] = api.ErrTag
		l[sign(t, x, who, kind+"'s", word)] = api.ErrTag
		l[sign(t, x, who, word, kind)] = api.ErrTag
		l[api.Tag{Who: who, Mac: other[who].Mac}] = api.ErrTag
	}
	for _, who := range []int{-1, x.N(), x.N() + 1, 1 << 32, api.MaxInt, math.MaxInt, math.MinInt} {
		l[api.Tag{Who: who}] = api.ErrRange
		l[api.Tag{Who: who, Mac: right[0].Mac}] = api.ErrRange
	}
	return l
}

// 12.1: a tag that is refused is told as cert.Votes' Add tells it, and nothing is changed by it, however many are in.
func TestWrongTags(t *testing.T) {
	for f := 1; f <= api.MaxF; f++ {
		x := table(t, f, "seed")
		b := seals.New(x, "k", 3)
		openAll(t, b, "v", "w", "u")
		l := all(t, x, "k", "w")[:x.Need()]
		for n, tag := range l {
			v := cert.Collect(x, "k", "w")
			for _, in := range l[:n] {
				v.Add(in)
			}
			for wrong, e := range wrongOnes(t, x, "k", "w", l[:n]) {
				if v.Add(wrong) != e {
					t.Errorf("%x is no error %d of a collection's", wrong, e)
				}
				refused(t, b, "w", wrong, e)
				refused(t, b, "none", wrong, api.ErrNone) // ahead of what is wrong with the tag
			}
			wantOpen(t, "behind wrong ones", b, "v", "w", "u")
			if n < len(l)-1 {
				taken(t, b, "w", tag)
			}
		}
		sealed(t, b, "w", l[len(l)-1], l...)
		for wrong := range wrongOnes(t, x, "k", "w", l) {
			refused(t, b, "w", wrong, api.ErrNone)
		}
		wantOpen(t, "at last", b, "v", "u")
	}
}

// orders hands out every order of these.
func orders(l []api.Tag, from int, do func(l []api.Tag)) {
	if from == len(l) {
		do(l)
		return
	}
	for i := from; i < len(l); i++ {
		l[from], l[i] = l[i], l[from]
		orders(l, from+1, do)
		l[from], l[i] = l[i], l[from]
	}
}

// byWho is tags, rising.
func byWho(l []api.Tag) []api.Tag {
	return slices.SortedFunc(slices.Values(l), func(a, b api.Tag) int { return a.Who - b.Who })
}

// 12.1, 12.3: in whatever order tags come, the one by which they are enough is answered with all of them, rising; none behind it is.
func TestOrders(t *testing.T) {
	for f := 1; f <= api.MaxF; f++ {
		x := table(t, f, "seed")
		b := seals.New(x, "k", 1)
		orders(all(t, x, "k", "w"), 0, func(l []api.Tag) {
			last := x.Need() - 1
			open(t, b, "w", api.OK)
			for _, tag := range l[:last] {
				taken(t, b, "w", tag)
			}
			enough := byWho(l[:x.Need()])
			sealed(t, b, "w", l[last], enough...)
			if e := x.Enough(enough, "k", "w"); e != api.OK {
				t.Errorf("%x: Enough: error %d", enough, e)
			}
			for _, tag := range l {
				refused(t, b, "w", tag, api.ErrNone)
			}
			wantOpen(t, "behind all", b)
		})
	}
}

// 12.2: a word that is closed is no longer open; what is not open stays so; the others stay as they are.
func TestClose(t *testing.T) {
	x := table(t, 1, "seed")
	b := seals.New(x, "k", 4)
	b.Close("w")
	wantOpen(t, "nothing to close", b)
	openAll(t, b, "d", "a", "c", "b")
	for _, w := range []string{"d", "a", "c", "b"} {
		taken(t, b, w, sign(t, x, 2, "k", w))
		taken(t, b, w, sign(t, x, 0, "k", w))
	}
	for _, w := range []string{"", "e", "A", "aa", "a\x00"} {
		b.Close(w)
	}
	wantOpen(t, "others closed", b, "d", "a", "c", "b")
	b.Close("a")
	wantOpen(t, "the second", b, "d", "c", "b")
	b.Close("a")
	wantOpen(t, "once more", b, "d", "c", "b")
	refused(t, b, "a", sign(t, x, 1, "k", "a"), api.ErrNone)
	b.Close("b")
	wantOpen(t, "the last", b, "d", "c")
	b.Close("d")
	wantOpen(t, "the first", b, "c")
	l := all(t, x, "k", "c")
	refused(t, b, "c", l[0], api.ErrTwice)
	sealed(t, b, "c", l[1], l[:3]...)
	b.Close("c")
	wantOpen(t, "none", b)
}

// 12.1, 12.2: opened anew, a word is without tags, and behind all others.
func TestOpenAnew(t *testing.T) {
	x := table(t, 1, "seed")
	b := seals.New(x, "k", 3)
	openAll(t, b, "a", "b", "c")
	l := all(t, x, "k", "a")
	taken(t, b, "a", l[0])
	taken(t, b, "a", l[1])
	b.Close("a")
	open(t, b, "a", api.OK)
	wantOpen(t, "closed and opened", b, "b", "c", "a")
	taken(t, b, "a", l[3])
	taken(t, b, "a", l[1])
	sealed(t, b, "a", l[0], l[0], l[1], l[3])
	open(t, b, "a", api.OK)
	wantOpen(t, "answered and opened", b, "b", "c", "a")
	for _, tag := range l[:2] {
		taken(t, b, "a", tag)
	}
	sealed(t, b, "a", l[2], l[:3]...)
	wantOpen(t, "answered twice", b, "b", "c")
}

// R4: a list that was handed out is nobody's but the caller's, and stays as it is.
func TestNewMemory(t *testing.T) {
	x := table(t, 2, "seed")
	b := seals.New(x, "k", 9)
	openAll(t, b, "a", "b", "c", "d", "e")
	one, two := b.Words(), b.Words()
	spoil(one, "spoilt")
	wantOpen(t, "spoilt", b, "a", "b", "c", "d", "e")
	b.Close("b")
	open(t, b, "f", api.OK)
	if !slices.Equal(two, []string{"a", "b", "c", "d", "e"}) {
		t.Errorf("the other list: %q", two)
	}
	spoil(b.Words(), "spoilt") // the room behind the end, where the next one would be opened
	open(t, b, "g", api.OK)
	wantOpen(t, "spoilt again", b, "a", "c", "d", "e", "f", "g")
	l := all(t, x, "k", "c")
	var answers [2][]api.Tag
	for turn := range answers {
		for _, tag := range l[2:6] {
			taken(t, b, "c", tag)
		}
		answers[turn], _ = b.Add("c", l[6])
		open(t, b, "c", api.OK)
	}
	spoil(answers[0], api.Tag{Who: 99})
	if !slices.Equal(answers[1], l[2:]) {
		t.Errorf("the other tags: %x", answers[1])
	}
	wantOpen(t, "spoilt tags", b, "a", "d", "e", "f", "g", "c")
}

// spoil writes over a list, and over the room behind its end.
func spoil[T any](l []T, gone T) {
	l = l[:cap(l)]
	for i := range l {
		l[i] = gone
	}
}
