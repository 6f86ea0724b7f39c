package dag_test

import (
	"math"
	"reflect"
	"slices"
	"testing"

	"tusk/api"
	"tusk/dag"
	"tusk/header"
)

// 14.3: one header a round; each rests on all that are in of the round ahead, rising, and is right.
func TestNext(t *testing.T) {
	for f := 1; f <= api.MaxF; f++ {
		x := table(t, f)
		for _, self := range []int{0, 2, x.N() - 1} {
			d := made(t, x, self)
			var parents []string
			for round := 1; round <= 6; round++ {
				want := head(self, round, parents...)
				want.Refs = []api.Ref{ref(t, x, round)}
				if e := header.Check(x, want); e != api.OK {
					t.Errorf("round %d: Check: error %d", round, e)
				}
				wantNext(t, "next", d, want)
				wantNoNext(t, "again", d)
				parents = nil
				for author := range x.Need() + round%(f+1) {
					if author < x.Need() {
						wantNoNext(t, "too few", d)
					}
					parents = append(parents, lay(t, x, d, round, author)...)
				}
			}
		}
	}
}

// 14.3: what comes in of the round ahead behind a header changes nothing: there is one header a round.
func TestNextIsOne(t *testing.T) {
	x := table(t, 1)
	d := made(t, x, 1)
	l := lay(t, x, d, 1, 0, 1, 2)
	wantNext(t, "three", d, head(1, 2, l...))
	lay(t, x, d, 1, 3)
	wantNoNext(t, "four", d)
	lay(t, x, d, 2, 1, 2, 3)
	wantNext(t, "the next", d, head(1, 3, d.Ids(2)...))
	wantNoNext(t, "the next again", d)
}

// 14.3: rounds that went by without a header of self's are not made up for.
func TestNextSkips(t *testing.T) {
	x := table(t, 1)
	d := made(t, x, 0)
	for round := 1; round <= 4; round++ {
		lay(t, x, d, round, 0, 1, 3)
	}
	wantNext(t, "four rounds on", d, head(0, 5, d.Ids(4)...))
	wantNoNext(t, "again", d)
}

// 14.3: self's own headers are those that Next told: neither votes nor certificates are in their way.
func TestNextBesidesVotes(t *testing.T) {
	x := table(t, 1)
	d := made(t, x, 2)
	wantVote(t, "of another", x, d, 2, head(1, 1))
	wantVote(t, "of its own name", x, d, 2, head(2, 1))
	lay(t, x, d, 1, 2, 3)
	wantNext(t, "the first", d, head(2, 1))
}

// 14.3: Refs are not looked at: whatever they are, they stand there.
func TestNextRefs(t *testing.T) {
	x := table(t, 1)
	for _, refs := range [][]api.Ref{
		nil,
		{},
		{{}},
		{{Digest: "d"}, {Digest: "c", Acks: []api.Tag{{Who: -1, Mac: "m"}}}, {Digest: "d"}},
		slices.Repeat([]api.Ref{ref(t, x, 1)}, 1000),
	} {
		d := made(t, x, 0)
		want := head(0, 1)
		want.Refs = refs
		h, ok := d.Next(refs)
		if !ok || h.Author != 0 || h.Round != 1 || len(h.Parents) > 0 || len(h.Refs) != len(refs) {
			t.Fatalf("Next: %v, %v, want %v", h, ok, want)
		}
		for i := range refs {
			if h.Refs[i].Digest != refs[i].Digest || !slices.Equal(h.Refs[i].Acks, refs[i].Acks) {
				t.Errorf("Next: Ref %d is %v, want %v", i, h.Refs[i], refs[i])
			}
		}
	}
}

// 14.3: no header comes below the low; behind it the next one is above all own ones so far, too.
func TestNextAndLow(t *testing.T) {
	x := table(t, 1)
	d := made(t, x, 0)
	wantLow(t, "to 2", d, 2, 0)
	wantNoNext(t, "below the low", d)
	var l []string
	for author := range 3 {
		h := head(author, 2, digest(1), digest(2), digest(3))
		wantAdd(t, "of the low", d, certOf(t, x, h), api.OK)
		l = append(l, header.Id(h))
	}
	wantNext(t, "above the low", d, head(0, 3, l...))
	wantLow(t, "to 3", d, 3, 3)
	wantRound(t, "to 3", d, 0)
	wantNoNext(t, "none is in", d)
	for author := range 3 {
		wantAdd(t, "of the low", d, certOf(t, x, head(author, 3, l...)), api.OK)
	}
	wantNext(t, "above all", d, head(0, 4, d.Ids(3)...))
}

// 14.3: the low does not give back rounds that had a header.
func TestLowKeepsOwn(t *testing.T) {
	x := table(t, 1)
	d := made(t, x, 0)
	for round := 1; round <= 3; round++ {
		lay(t, x, d, round, 0, 1, 2)
	}
	wantNext(t, "of round 4", d, head(0, 4, d.Ids(3)...))
	wantLow(t, "to 3", d, 3, 6)
	wantRound(t, "to 3", d, 3)
	wantNoNext(t, "of round 4 again", d)
	wantLow(t, "to 4", d, 4, 3)
	wantNoNext(t, "none is in", d)
	for author := range 3 {
		wantAdd(t, "of the low", d, certOf(t, x, head(author, 4, digest(1), digest(2), digest(3))), api.OK)
	}
	wantNext(t, "of round 5", d, head(0, 5, d.Ids(4)...))
}

// 14.3: Low rises alone; it lets go of what is below it, and of nothing else.
func TestLow(t *testing.T) {
	x := table(t, 1)
	for low := -1; low <= 7; low++ {
		d := made(t, x, 0)
		var ids [][]string
		for round := 1; round <= 5; round++ {
			ids = append(ids, lay(t, x, d, round, first(3+round%2)...))
		}
		gone := 0
		for round := 1; round < low && round <= 5; round++ {
			gone += len(ids[round-1])
		}
		wantLow(t, "once", d, low, gone)
		for _, less := range []int{low, low - 1, 0, -1, math.MinInt, 1} {
			wantLow(t, "not above", d, less, 0)
		}
		for i, l := range ids {
			if i+1 < low {
				wantGone(t, d, l)
				l = nil
			}
			wantIds(t, "lowered", d, i+1, l...)
		}
		round, e := 5, api.ErrClash
		if low > 5 {
			round = 0
		}
		if low > 1 {
			e = api.ErrOld
		}
		wantRound(t, "lowered", d, round)
		wantAdd(t, "the first round", d, certOf(t, x, with(t, x, head(0, 1), 1)), e)
	}
}

func wantGone(t *testing.T, d *dag.Dag, l []string) {
	t.Helper()
	for _, id := range l {
		if c, ok := d.Get(id); ok || !reflect.DeepEqual(c, api.Cert{}) {
			t.Errorf("Get(%x): %v, %v", id, c, ok)
		}
	}
}

// 14.1, 14.2: headers of the low rest on whatever they say; those above it on what is in.
func TestOfTheLow(t *testing.T) {
	x := table(t, 1)
	d := made(t, x, 0)
	one := lay(t, x, d, 1, 0, 1, 2)
	two := lay(t, x, d, 2, 0, 1, 2)
	wantLow(t, "to 2", d, 2, 3)
	for what, parents := range map[string][]string{
		"let go":            one,
		"never there":       {digest(1), digest(2), digest(3)},
		"of the same round": two,
	} {
		h := head(3, 2, parents...)
		wantMissing(t, what, d, h)
		fresh := made(t, x, 1)
		fresh.Low(2)
		wantVote(t, what, x, fresh, 1, h)
		wantAdd(t, what, fresh, certOf(t, x, h), api.OK)
	}
	wantVote(t, "of the same round", x, d, 0, head(3, 2, two...))
	wantAdd(t, "of the same round", d, certOf(t, x, head(3, 2, two...)), api.OK)
	wantNoVote(t, "let go", d, head(3, 3, two[0], two[1], one[0]), api.ErrNone)
	wantVote(t, "above", x, d, 0, head(3, 3, two...))
}

// 14.3, 14.4: votes of rounds that are kept stay when the low rises; those of lesser rounds were of headers that are old now.
func TestVotesAndLow(t *testing.T) {
	x := table(t, 1)
	d := made(t, x, 0)
	for round := 1; round <= 4; round++ {
		parents := d.Ids(round - 1)
		for author := range 4 {
			wantVote(t, "voted", x, d, 0, head(author, round, parents...))
		}
		lay(t, x, d, round, 0, 1, 2)
	}
	own := head(1, 3, d.Ids(2)...)
	wantLow(t, "to 3", d, 3, 6)
	for author := range 4 {
		wantNoVote(t, "old", d, head(author, 1), api.ErrOld)
		wantNoVote(t, "of the low", d, head(author, 3, digest(1), digest(2), digest(3)), api.ErrClash)
		wantNoVote(t, "above", d, with(t, x, head(author, 4, d.Ids(3)...), 1), api.ErrClash)
		wantVote(t, "the same", x, d, 0, head(author, 4, d.Ids(3)...))
	}
	wantVote(t, "the same, of the low", x, d, 0, own)
}

// 14.2, 14.3: rounds up to the greatest number.
func TestGreatRounds(t *testing.T) {
	x := table(t, 1)
	for _, low := range []int{1 << 32, api.MaxInt - 1, api.MaxInt} {
		d := made(t, x, 0)
		wantLow(t, "great", d, low, 0)
		for author := range 3 {
			wantAdd(t, "great", d, certOf(t, x, head(author, low, digest(1), digest(2), digest(3))), api.OK)
		}
		l := d.Ids(low)
		wantRound(t, "great", d, low)
		wantNext(t, "great", d, head(0, low+1, l...))
		wantNoNext(t, "again", d)
		if low < api.MaxInt {
			wantVote(t, "above", x, d, 0, head(1, low+1, l...))
		} else {
			wantNoVote(t, "above all rounds", d, head(1, low+1, l...), api.ErrRange)
		}
		wantLow(t, "greatest", d, math.MaxInt, 3)
		wantRound(t, "greatest", d, 0)
		wantNoNext(t, "greatest", d)
		wantNoVote(t, "greatest", d, head(1, api.MaxInt, l...), api.ErrOld)
		wantMissing(t, "greatest", d, head(1, math.MaxInt, digest(1)))
		wantLow(t, "not above", d, math.MaxInt, 0)
	}
}

// spoil writes over a list, and over the room behind its end.
func spoil[T any](l []T, gone T) {
	l = l[:cap(l)]
	for i := range l {
		l[i] = gone
	}
}

// spoilHeader writes over all that a header holds.
func spoilHeader(h api.Header) {
	for _, r := range h.Refs {
		spoil(r.Acks, api.Tag{Who: 99})
	}
	spoil(h.Refs, api.Ref{Digest: "spoilt"})
	spoil(h.Parents, "spoilt")
}

// R4: what was handed in is the giver's own again, and what is handed out nobody's but the taker's.
func TestMemory(t *testing.T) {
	x := table(t, 1)
	d := made(t, x, 0)
	lay(t, x, d, 1, 0, 1, 2)
	build := func() api.Cert { return certOf(t, x, with(t, x, head(1, 2, d.Ids(1)...), 4)) }
	c := build()
	id := header.Id(c.Header)
	wantAdd(t, "handed in", d, c, api.OK)
	wantVote(t, "handed in", x, d, 0, c.Header)
	if !reflect.DeepEqual(c, build()) {
		t.Errorf("what was handed in has changed: %v", c)
	}
	spoilHeader(c.Header)
	spoil(c.Votes, api.Tag{Who: 99})
	for range 2 {
		got, ok := d.Get(id)
		if !ok || !reflect.DeepEqual(got, build()) {
			t.Errorf("Get: %v, %v", got, ok)
		}
		spoilHeader(got.Header)
		spoil(got.Votes, api.Tag{Who: 99})
		spoil(d.Ids(1), "spoilt")
		spoil(d.Missing(head(0, 3, digest(2), digest(1))), "spoilt")
	}
	wantVote(t, "spoilt", x, d, 0, build().Header)
	wantNoVote(t, "spoilt", d, head(1, 2, d.Ids(1)...), api.ErrClash)
	refs := []api.Ref{ref(t, x, 1), ref(t, x, 2), ref(t, x, 3)}
	h, ok := d.Next(refs[:2])
	if !ok || !reflect.DeepEqual(refs, []api.Ref{ref(t, x, 1), ref(t, x, 2), ref(t, x, 3)}) {
		t.Fatalf("Next: %v, %v; what was handed in: %v", h, ok, refs)
	}
	for _, r := range refs {
		spoil(r.Acks, api.Tag{Who: 99})
	}
	spoil(refs, api.Ref{Digest: "gone"})
	if want := []api.Ref{ref(t, x, 1), ref(t, x, 2)}; !reflect.DeepEqual(h.Refs, want) {
		t.Errorf("Next: Refs are now %v, want %v", h.Refs, want)
	}
	parents := d.Ids(1)
	spoilHeader(h)
	wantIds(t, "spoilt", d, 1, parents...)
}

// 14.4: of validators who vote by their dags, whatever they are asked in whatever order, no two headers of one author and round come to enough votes.
func TestOneCertificate(t *testing.T) {
	for f := 1; f <= api.MaxF; f++ {
		x := table(t, f)
		next := steps()
		for range 200 {
			headers := []api.Header{head(1, 1), with(t, x, head(1, 1), 1), with(t, x, head(1, 1), 2)}
			votes := make([][]api.Tag, len(headers))
			for who := range x.N() {
				d := made(t, x, who)
				for range 1 + next(6) {
					i := next(len(headers))
					if tag, e := d.Vote(headers[i]); e == api.OK && !slices.Contains(votes[i], tag) {
						votes[i] = append(votes[i], tag)
					}
				}
			}
			full, cast := 0, 0
			for i, h := range headers {
				cast += len(votes[i])
				if x.Enough(votes[i], header.Vote, header.Id(h)) == api.OK {
					full++
				}
			}
			if full > 1 || cast != x.N() {
				t.Fatalf("%d certificates, %d votes", full, cast)
			}
		}
	}
}
