package cert_test

import (
	"math"
	"math/bits"
	"slices"
	"strconv"
	"strings"
	"testing"

	"tusk/api"
	"tusk/auth"
	"tusk/cert"
	"tusk/header"
)

// wantAdd is what Add answers.
func wantAdd(t *testing.T, what string, v *cert.Votes, x api.Tag, e api.Errno) {
	t.Helper()
	if got := v.Add(x); got != e {
		t.Errorf("%s: Add of %d's: error %d, want %d", what, x.Who, got, e)
	}
}

// wantIn is which tags are in, and whether they are full.
func wantIn(t *testing.T, what string, v *cert.Votes, l []api.Tag, full bool) {
	t.Helper()
	if got := v.Tags(); !slices.Equal(got, l) {
		t.Errorf("%s: Tags: %v, want %v", what, got, l)
	}
	if v.Full() != full {
		t.Errorf("%s: Full: %v", what, v.Full())
	}
}

// The chapter's example.
func TestExample(t *testing.T) {
	x := table(t, 1, "seed")
	v := cert.Collect(x, "k", "w")
	l := tags(t, x, "k", "w", 0, 1, 2)
	wantIn(t, "at first", v, nil, false)
	for i, who := range []int{2, 0, 1} {
		wantAdd(t, "example", v, l[who], api.OK)
		if v.Full() != (i == 2) {
			t.Errorf("behind %d tags: Full: %v", i+1, v.Full())
		}
	}
	wantIn(t, "example", v, l, true)
	wantAdd(t, "again", v, l[1], api.ErrTwice)
	wantIn(t, "behind 1 again", v, l, true)
}

// 7.2: who is no validator is refused with ErrRange, whatever the Mac, and nothing is in by it.
func TestAddStrangers(t *testing.T) {
	for f := 1; f <= api.MaxF; f++ {
		x := table(t, f, "seed")
		v := cert.Collect(x, "k", "w")
		l := tags(t, x, "k", "w", first(x.N())...)
		for n := range l {
			for _, who := range []int{-1, -7, x.N(), x.N() + 1, 7, 127, 256, 1 << 32, 1<<32 + 1, api.MaxInt, math.MaxInt, math.MinInt} {
				wantAdd(t, "a stranger", v, api.Tag{Who: who, Mac: l[0].Mac}, api.ErrRange)
				wantAdd(t, "a stranger", v, api.Tag{Who: who}, api.ErrRange)
			}
			wantIn(t, "behind strangers", v, l[:n], n >= 2*f+1)
			wantAdd(t, "a validator", v, l[n], api.OK)
		}
		wantIn(t, "all", v, l, true)
	}
	six := tags(t, table(t, 2, "seed"), "k", "w", 4, 5, 6)
	v := cert.Collect(table(t, 1, "seed"), "k", "w")
	for _, tag := range six {
		wantAdd(t, "right of seven, not of four", v, tag, api.ErrRange)
	}
}

// 7.2: a tag that is not right is ErrTag, also where its maker's is in; then it stays as it was.
func TestAddWrong(t *testing.T) {
	for f := 1; f <= api.MaxF; f++ {
		x := table(t, f, "seed")
		for who := range x.N() {
			tag := tags(t, x, "k", "w", who)[0]
			wrong := []string{"", tag.Mac[:15], tag.Mac[1:], tag.Mac + "\x00", "\x00" + tag.Mac, strings.Repeat("m", api.MaxText+1)}
			for _, c := range [][2]string{{"k", "v"}, {"j", "w"}, {"", "kw"}, {"kw", ""}, {"", ""}, {"k", "w\x00"}, {"w", "k"}} {
				wrong = append(wrong, tags(t, x, c[0], c[1], who)[0].Mac)
			}
			wrong = append(wrong, tags(t, x, "k", "w", (who+1)%x.N())[0].Mac, tags(t, table(t, f, "see"), "k", "w", who)[0].Mac)
			v := cert.Collect(x, "k", "w")
			for _, in := range [][]api.Tag{nil, {tag}} {
				for _, m := range wrong {
					wantAdd(t, "wrong", v, api.Tag{Who: who, Mac: m}, api.ErrTag)
				}
				wantIn(t, "behind wrong ones", v, in, false)
				if in == nil {
					wantAdd(t, "right", v, tag, api.OK)
				}
			}
			wantAdd(t, "again", v, tag, api.ErrTwice)
		}
	}
}

// 7.2: kinds and words are those that Collect was handed, of any length, and no two collections share a thing.
func TestCollect(t *testing.T) {
	x := table(t, 1, "seed")
	long := strings.Repeat("l", api.MaxText+1)
	type words struct{ kind, word string }
	all := []words{{"", ""}, {"k", ""}, {"", "k"}, {"ab", "c"}, {"a", "bc"}, {header.Vote, "id"}, {header.Ack, "id"}, {long, "w"}, {"k", long}}
	var open []*cert.Votes
	for _, w := range all {
		open = append(open, cert.Collect(x, w.kind, w.word))
	}
	twin := cert.Collect(x, "k", "")
	for i, own := range all {
		l := tags(t, x, own.kind, own.word, 3, 1, 0)
		for k, v := range open {
			for _, tag := range l {
				e := api.ErrTag
				if i == k {
					e = api.OK
				}
				wantAdd(t, "collection "+strconv.Itoa(k), v, tag, e)
			}
		}
		for k, v := range open {
			if v.Full() != (k <= i) || len(v.Tags()) != 3 && k <= i || len(v.Tags()) != 0 && k > i {
				t.Errorf("collection %d behind %d's tags: %v", k, i, v.Tags())
			}
		}
		slices.Reverse(l)
		wantIn(t, "collection "+strconv.Itoa(i), open[i], []api.Tag{l[0], l[1], l[2]}, true)
	}
	wantIn(t, "another one of the same word", twin, nil, false)
}

// model is the chapter's words on Votes: what is in, by Who.
type model struct {
	table *auth.Table
	in    map[int]api.Tag
}

func (m model) add(x api.Tag) api.Errno {
	if e := m.table.Check(x, "k", "w"); e != api.OK {
		return e
	}
	if _, ok := m.in[x.Who]; ok {
		return api.ErrTwice
	}
	m.in[x.Who] = x
	return api.OK
}

func (m model) tags() []api.Tag {
	var l []api.Tag
	for _, x := range m.in {
		l = append(l, x)
	}
	slices.SortFunc(l, func(a, b api.Tag) int { return a.Who - b.Who })
	return l
}

// run is that a collection answers as the model, Add by Add; and 7.3: its tags are enough just if it is full.
func run(t *testing.T, x *auth.Table, l []api.Tag) {
	t.Helper()
	v, m := cert.Collect(x, "k", "w"), model{x, map[int]api.Tag{}}
	for i, tag := range l {
		what := strconv.Itoa(i) + " of " + strconv.Itoa(len(l))
		wantAdd(t, what, v, tag, m.add(tag))
		wantIn(t, what, v, m.tags(), len(m.in) >= x.Need())
		e := x.Enough(v.Tags(), "k", "w")
		if v.Full() && e != api.OK || !v.Full() && e != api.ErrFew {
			t.Errorf("%s: Full %v, but Enough answers %d", what, v.Full(), e)
		}
	}
}

// 7.2, 7.3: all lists of five tags, right, wrong and strangers'.
func TestAddAll(t *testing.T) {
	x := table(t, 1, "seed")
	choice := tags(t, x, "k", "w", 0, 1, 2, 3)
	choice = append(choice, api.Tag{Who: 1, Mac: choice[0].Mac}, api.Tag{Who: 4, Mac: choice[0].Mac})
	eachList(choice, 5, func(l []api.Tag) { run(t, x, l) })
}

// orders hands out every order of these.
func orders[T any](l []T, do func(l []T)) {
	var swap func(l []T, from int)
	swap = func(l []T, from int) {
		if from == len(l) {
			do(l)
			return
		}
		for i := from; i < len(l); i++ {
			l[from], l[i] = l[i], l[from]
			swap(l, from+1)
			l[from], l[i] = l[i], l[from]
		}
	}
	swap(slices.Clone(l), 0)
}

// 7.2, 7.3: all tags of each table in every order.
func TestAddOrders(t *testing.T) {
	for f := 1; f <= api.MaxF; f++ {
		x := table(t, f, "seed")
		orders(tags(t, x, "k", "w", first(x.N())...), func(l []api.Tag) { run(t, x, l) })
	}
}

// members are the numbers of a set's bits.
func members(set uint) []int {
	var l []int
	for i := range bits.Len(set) {
		if set>>i&1 == 1 {
			l = append(l, i)
		}
	}
	return l
}

// 7.3: of a right header and of tags, of any validators, a certificate is made that is right just if they are full.
func TestMade(t *testing.T) {
	for f := 1; f <= api.MaxF; f++ {
		x := table(t, f, "seed")
		for _, h := range []api.Header{{Author: 1, Round: 1}, some(t, x), greatest(t, x)} {
			id := header.Id(h)
			for set := range uint(1) << x.N() {
				v := cert.Collect(x, header.Vote, id)
				whos := members(set)
				slices.Reverse(whos)
				for _, tag := range tags(t, x, "vote", id, whos...) {
					wantAdd(t, "made", v, tag, api.OK)
				}
				c := api.Cert{Header: h, Votes: v.Tags()}
				if v.Full() != (len(whos) >= 2*f+1) {
					t.Errorf("tags of %v: Full: %v", whos, v.Full())
				}
				if v.Full() {
					wantRight(t, "made", x, c)
				} else {
					want(t, "made of too few", x, c, api.ErrFew)
				}
			}
		}
	}
}

// common is how many voters two have in common.
func common(a, b api.Cert) int {
	n := 0
	for _, x := range a.Votes {
		if slices.ContainsFunc(b.Votes, func(y api.Tag) bool { return x.Who == y.Who }) {
			n++
		}
	}
	return n
}

// 7.3: all pairs of right certificates for one author and round, of different headers, share f + 1 voters; some pair shares no more.
func TestShare(t *testing.T) {
	for f := 1; f <= api.MaxF; f++ {
		x := table(t, f, "seed")
		var certs [2][]api.Cert
		for i, parents := range [][]string{digests(x.N())[:x.Need()], digests(x.N())} {
			h := api.Header{Author: 1, Round: 2, Parents: parents}
			for set := range uint(1) << x.N() {
				c := api.Cert{Header: h, Votes: votesFor(t, x, h, members(set)...)}
				if cert.Check(x, c) == api.OK {
					certs[i] = append(certs[i], c)
				}
			}
		}
		least := x.N()
		for _, a := range certs[0] {
			for _, b := range certs[1] {
				least = min(least, common(a, b))
			}
		}
		if least != f+1 {
			t.Errorf("f %d: of %d and %d certificates two share %d voters", f, len(certs[0]), len(certs[1]), least)
		}
	}
}

// R4: what Tags hands out is memory of its own, and what was handed out stays as it was.
func TestTagsHandsOut(t *testing.T) {
	x := table(t, 2, "seed")
	v := cert.Collect(x, "k", "w")
	l := tags(t, x, "k", "w", first(x.N())...)
	for n, tag := range l {
		wantAdd(t, "one more", v, tag, api.OK)
		one, two := v.Tags(), v.Tags()
		spoil(one, api.Tag{Who: 99})
		if !slices.Equal(two, l[:n+1]) {
			t.Errorf("another answer has changed: %v", two)
		}
		wantIn(t, "behind a spoilt answer", v, l[:n+1], n >= 4)
	}
	v = cert.Collect(x, "k", "w")
	wantAdd(t, "6", v, l[6], api.OK)
	early := v.Tags()
	wantAdd(t, "0", v, l[0], api.OK)
	if !slices.Equal(early, l[6:]) {
		t.Errorf("an answer has changed by an Add: %v", early)
	}
}
