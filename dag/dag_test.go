package dag_test

import (
	"math"
	"reflect"
	"slices"
	"strings"
	"testing"

	"tusk/api"
	"tusk/auth"
	"tusk/cert"
	"tusk/dag"
	"tusk/header"
)

func table(t *testing.T, f int) *auth.Table {
	t.Helper()
	x, e := auth.New(f, "seed")
	if e != api.OK {
		t.Fatalf("auth.New(%d): error %d", f, e)
	}
	return x
}

// made is a dag that there must be.
func made(t *testing.T, x *auth.Table, self int) *dag.Dag {
	t.Helper()
	d, e := dag.New(x, self)
	if d == nil || e != api.OK {
		t.Fatalf("New(%d): error %d", self, e)
	}
	return d
}

// digest is a text of 32 bytes that is no header's id.
func digest(n int) string { return strings.Repeat(string([]byte{byte(n)}), api.DigSize) }

// tags is these validators' tags, of a word of a kind.
func tags(t *testing.T, x *auth.Table, kind, word string, who ...int) []api.Tag {
	t.Helper()
	var l []api.Tag
	for _, one := range who {
		tag, e := x.Sign(one, kind, word)
		if e != api.OK {
			t.Fatalf("Sign(%d): error %d", one, e)
		}
		l = append(l, tag)
	}
	return l
}

// first is the numbers from 0 on.
func first(n int) []int {
	var l []int
	for who := range n {
		l = append(l, who)
	}
	return l
}

// ref is a right Ref; each number makes another one.
func ref(t *testing.T, x *auth.Table, n int) api.Ref {
	t.Helper()
	return api.Ref{Digest: digest(n), Acks: tags(t, x, "ack", digest(n), first(x.Need())...)}
}

// head is a header without Refs.
func head(author, round int, parents ...string) api.Header {
	return api.Header{Author: author, Round: round, Parents: slices.Sorted(slices.Values(parents))}
}

// with is the header with a Ref: another one of its author and round.
func with(t *testing.T, x *auth.Table, h api.Header, n int) api.Header {
	t.Helper()
	h.Refs = []api.Ref{ref(t, x, n)}
	return h
}

// certOf is a header's certificate, by the first who are enough.
func certOf(t *testing.T, x *auth.Table, h api.Header) api.Cert {
	t.Helper()
	return api.Cert{Header: h, Votes: tags(t, x, "vote", header.Id(h), first(x.Need())...)}
}

// wantAdd is that Add answers so.
func wantAdd(t *testing.T, what string, d *dag.Dag, c api.Cert, want api.Errno) {
	t.Helper()
	if e := d.Add(c); e != want {
		t.Errorf("%s: Add of %d's in round %d: error %d, want %d", what, c.Header.Author, c.Header.Round, e, want)
	}
}

// wantVote is that Vote answers self's tag.
func wantVote(t *testing.T, what string, x *auth.Table, d *dag.Dag, self int, h api.Header) {
	t.Helper()
	want := tags(t, x, "vote", header.Id(h), self)[0]
	if tag, e := d.Vote(h); tag != want || e != api.OK {
		t.Errorf("%s: Vote for %d's in round %d: %x, error %d, want %x", what, h.Author, h.Round, tag, e, want)
	}
}

// wantNoVote is that Vote answers this error, and no tag.
func wantNoVote(t *testing.T, what string, d *dag.Dag, h api.Header, want api.Errno) {
	t.Helper()
	if tag, e := d.Vote(h); tag != (api.Tag{}) || e != want {
		t.Errorf("%s: Vote for %d's in round %d: %x, error %d, want %d", what, h.Author, h.Round, tag, e, want)
	}
}

// wantMissing is that Missing answers just these.
func wantMissing(t *testing.T, what string, d *dag.Dag, h api.Header, want ...string) {
	t.Helper()
	if l := d.Missing(h); !slices.Equal(l, want) {
		t.Errorf("%s: Missing: %x, want %x", what, l, want)
	}
}

// wantRound is what Round is to answer.
func wantRound(t *testing.T, what string, d *dag.Dag, want int) {
	t.Helper()
	if r := d.Round(); r != want {
		t.Errorf("%s: Round: %d, want %d", what, r, want)
	}
}

// wantIds is that Ids answers just these.
func wantIds(t *testing.T, what string, d *dag.Dag, round int, want ...string) {
	t.Helper()
	if l := d.Ids(round); !slices.Equal(l, want) {
		t.Errorf("%s: Ids(%d): %x, want %x", what, round, l, want)
	}
}

// wantNext is that Next answers this header.
func wantNext(t *testing.T, what string, d *dag.Dag, want api.Header) {
	t.Helper()
	h, ok := d.Next(want.Refs)
	if !ok || h.Author != want.Author || h.Round != want.Round || !slices.Equal(h.Parents, want.Parents) {
		t.Errorf("%s: Next: %x, %v, want %x", what, h, ok, want)
	}
	if len(h.Refs)+len(want.Refs) > 0 && !reflect.DeepEqual(h.Refs, want.Refs) {
		t.Errorf("%s: Next: Refs %x, want %x", what, h.Refs, want.Refs)
	}
}

// wantNoNext is that Next answers none.
func wantNoNext(t *testing.T, what string, d *dag.Dag) {
	t.Helper()
	if h, ok := d.Next([]api.Ref{{Digest: "d"}}); ok || !reflect.DeepEqual(h, api.Header{}) {
		t.Errorf("%s: Next: %v, %v", what, h, ok)
	}
}

// wantLow is how many certificates Low is to let go.
func wantLow(t *testing.T, what string, d *dag.Dag, round, want int) {
	t.Helper()
	if n := d.Low(round); n != want {
		t.Errorf("%s: Low(%d): %d, want %d", what, round, n, want)
	}
}

// lay adds certificates of these authors, upon all of the round ahead; their ids, rising.
func lay(t *testing.T, x *auth.Table, d *dag.Dag, round int, authors ...int) []string {
	t.Helper()
	var l []string
	for _, author := range authors {
		h := head(author, round, d.Ids(round-1)...)
		wantAdd(t, "lay", d, certOf(t, x, h), api.OK)
		l = append(l, header.Id(h))
	}
	slices.Sort(l)
	return l
}

// The chapter's example.
func TestExample(t *testing.T) {
	x := table(t, 1)
	d := made(t, x, 0)
	wantNext(t, "the first", d, head(0, 1))
	wantRound(t, "none is in", d, 0)
	l := lay(t, x, d, 1, 0, 1, 2)
	wantRound(t, "three are in", d, 1)
	wantNext(t, "three are in", d, head(0, 2, l...))
	wantVote(t, "one", x, d, 0, head(1, 1))
	wantNoVote(t, "another one", d, with(t, x, head(1, 1), 7), api.ErrClash)
}

// 14.1: who is a validator hangs on the table.
func TestNew(t *testing.T) {
	for f := 1; f <= api.MaxF; f++ {
		x := table(t, f)
		for _, self := range []int{math.MinInt, math.MinInt32, -2, -1, 0, 1, 2, 3, 4, 5, 6, 7, 8, 1 << 32, 1<<32 + 1, api.MaxInt, math.MaxInt} {
			want := api.OK
			if self < 0 || self >= x.N() {
				want = api.ErrRange
			}
			d, e := dag.New(x, self)
			if e != want || (d == nil) != (e != api.OK) {
				t.Errorf("f %d: New(%d): %v, error %d, want %d", f, self, d, e, want)
			}
		}
	}
}

// 14.1 to 14.3: of a new one nothing is known, the low is 1.
func TestNothingYet(t *testing.T) {
	x := table(t, 1)
	d := made(t, x, 3)
	for _, round := range []int{math.MinInt, -1, 0, 1, 2, api.MaxInt, math.MaxInt} {
		wantIds(t, "new", d, round)
	}
	for _, id := range []string{"", "a", digest(1), header.Id(head(0, 1))} {
		if c, ok := d.Get(id); ok || !reflect.DeepEqual(c, api.Cert{}) {
			t.Errorf("Get(%x): %v, %v", id, c, ok)
		}
	}
	wantRound(t, "new", d, 0)
	for _, round := range []int{math.MinInt, -1, 0, 1} {
		wantLow(t, "new", d, round, 0)
		wantMissing(t, "new", d, head(0, round, digest(1)))
	}
	wantMissing(t, "new", d, head(0, 2, digest(1)), digest(1))
	wantVote(t, "new", x, d, 3, head(0, 1))
	wantNext(t, "new", d, head(3, 1))
}

// 14.1: Missing tells of any header, right or not, which parents are not in: of whatever round those are that are, rising, each once.
func TestMissing(t *testing.T) {
	x := table(t, 1)
	d := made(t, x, 0)
	one := lay(t, x, d, 1, 0, 1, 2)
	two := lay(t, x, d, 2, 1, 2, 3)
	all := []string{digest(200), one[1], digest(3), two[0], digest(200), "", digest(3), "b", digest(255), two[0], digest(3)}
	kept := slices.Clone(all)
	want := []string{"", digest(3), "b", digest(200), digest(255)}
	slices.Sort(want)
	for _, author := range []int{-1, 0, 4, math.MaxInt} {
		for _, round := range []int{2, 3, 4, 1000, api.MaxInt, math.MaxInt} {
			wantMissing(t, "above the low", d, api.Header{Author: author, Round: round, Parents: all}, want...)
			wantMissing(t, "all are in", d, head(author, round, append(one, two...)...))
			wantMissing(t, "no parents", d, head(author, round))
		}
		for _, round := range []int{math.MinInt, -5, 0, 1} {
			wantMissing(t, "not above the low", d, api.Header{Author: author, Round: round, Parents: all})
		}
	}
	if !slices.Equal(all, kept) {
		t.Errorf("what was handed in has changed: %x", all)
	}
	wantLow(t, "to 2", d, 2, 3)
	wantMissing(t, "of the low", d, head(0, 2, all...))
	wantMissing(t, "above it", d, head(0, 3, one[1], two[0]), one[1])
	wantLow(t, "to 1000", d, 1000, 3)
	wantMissing(t, "of the low", d, head(0, 1000, all...))
	wantMissing(t, "above it", d, head(0, 1001, two...), two...)
}

// 14.1: Missing of a great many parents.
func TestMissingMany(t *testing.T) {
	x := table(t, 1)
	d := made(t, x, 0)
	l := lay(t, x, d, 1, 0, 1, 2)
	var parents, want []string
	for n := range 20000 {
		id := string([]byte{byte(n), byte(n >> 8)})
		want = append(want, id)
		parents = append(parents, id, l[n%3], id)
	}
	slices.Sort(want)
	wantMissing(t, "many", d, api.Header{Round: 9, Parents: parents}, want...)
}

// wrongHeaders is headers that header.Check refuses.
func wrongHeaders(t *testing.T, x *auth.Table) []api.Header {
	t.Helper()
	few := ref(t, x, 1)
	few.Acks = few.Acks[1:]
	strange := ref(t, x, 1)
	strange.Acks = tags(t, x, "vote", digest(1), first(x.Need())...)
	var five []api.Ref
	var many []string
	for n := range 5 {
		five = append(five, ref(t, x, n))
	}
	for n := range x.N() + 1 {
		many = append(many, digest(n))
	}
	return []api.Header{
		{},
		head(-1, 1),
		head(x.N(), 1),
		head(0, 0),
		head(0, -1),
		head(0, math.MinInt),
		head(0, api.MaxInt+1, many[1:]...),
		head(0, 1, many[1:]...),
		head(0, 2),
		head(0, 2, many[:x.Need()-1]...),
		head(0, 2, many...),
		head(0, 2, append(many[:x.Need()], "short")...),
		{Author: 0, Round: 2, Parents: []string{digest(1), digest(0), digest(2), digest(3), digest(4)}},
		{Author: 0, Round: 2, Parents: []string{digest(0), digest(1), digest(1), digest(3), digest(4)}},
		{Author: 0, Round: 1, Refs: five},
		{Author: 0, Round: 1, Refs: []api.Ref{few}},
		{Author: 0, Round: 1, Refs: []api.Ref{strange}},
		{Author: 0, Round: 1, Refs: []api.Ref{ref(t, x, 2), ref(t, x, 1)}},
		{Author: 0, Round: 1, Refs: []api.Ref{{Digest: "d"}}},
	}
}

// 14.1, 14.2: header.Check's and cert.Check's errors come first, whatever the low is, and nothing is changed by what they refuse.
func TestWrong(t *testing.T) {
	for f := 1; f <= api.MaxF; f++ {
		x := table(t, f)
		d := made(t, x, 0)
		for _, low := range []int{1, 2, 3, math.MaxInt} {
			d.Low(low)
			for i, h := range wrongHeaders(t, x) {
				want := header.Check(x, h)
				if want == api.OK {
					t.Fatalf("header %d is right", i)
				}
				wantNoVote(t, "wrong", d, h, want)
				wantAdd(t, "wrong", d, certOf(t, x, h), want)
				wantIds(t, "wrong", d, h.Round)
			}
			for i, c := range wrongCerts(t, x, head(0, 1)) {
				want := cert.Check(x, c)
				if want == api.OK {
					t.Fatalf("certificate %d is right", i)
				}
				wantAdd(t, "wrong votes", d, c, want)
				wantIds(t, "wrong votes", d, 1)
			}
		}
	}
}

// wrongCerts is certificates of a header whose votes are not enough.
func wrongCerts(t *testing.T, x *auth.Table, h api.Header) []api.Cert {
	t.Helper()
	id := header.Id(h)
	enough := tags(t, x, "vote", id, first(x.Need())...)
	back := slices.Clone(enough)
	slices.Reverse(back)
	spoilt := slices.Clone(enough)
	spoilt[1].Mac = spoilt[0].Mac
	return []api.Cert{
		{Header: h},
		{Header: h, Votes: enough[1:]},
		{Header: h, Votes: back},
		{Header: h, Votes: spoilt},
		{Header: h, Votes: append(slices.Clone(enough), api.Tag{Who: x.N()})},
		{Header: h, Votes: tags(t, x, "ack", id, first(x.Need())...)},
		{Header: h, Votes: tags(t, x, "vote", id[1:], first(x.Need())...)},
	}
}

// 14.1, 14.4: one vote for each author and round; the same header gets the same tag again.
func TestOneVote(t *testing.T) {
	for f := 1; f <= api.MaxF; f++ {
		x := table(t, f)
		for _, self := range []int{0, x.N() - 1} {
			d := made(t, x, self)
			for round := 1; round <= 3; round++ {
				parents := d.Ids(round - 1)
				for author := range x.N() {
					h := head(author, round, parents...)
					other := with(t, x, h, 5)
					if author%2 == 1 {
						h, other = other, h
					}
					for range 3 {
						wantVote(t, "one", x, d, self, h)
						wantNoVote(t, "another", d, other, api.ErrClash)
						wantNoVote(t, "a third", d, with(t, x, h, 6), api.ErrClash)
					}
				}
				lay(t, x, d, round, first(x.N())...)
			}
			for author := range x.N() {
				wantNoVote(t, "another, later", d, with(t, x, head(author, 1), 9), api.ErrClash)
			}
		}
	}
}

// 14.1: headers of one author and round that have other parents, or the same Refs with more Acks, are different.
func TestAnotherHeader(t *testing.T) {
	x := table(t, 1)
	d := made(t, x, 0)
	l := lay(t, x, d, 1, first(4)...)
	wantVote(t, "three parents", x, d, 0, head(2, 2, l[:3]...))
	wantNoVote(t, "others", d, head(2, 2, l[1:]...), api.ErrClash)
	wantNoVote(t, "four", d, head(2, 2, l...), api.ErrClash)
	h := with(t, x, head(3, 2, l...), 1)
	wantVote(t, "three Acks", x, d, 0, h)
	h.Refs[0].Acks = tags(t, x, "ack", digest(1), 0, 1, 2, 3)
	wantNoVote(t, "four Acks", d, h, api.ErrClash)
}

// 14.1: what was refused was not voted for.
func TestRefusedIsNoVote(t *testing.T) {
	x := table(t, 1)
	d := made(t, x, 0)
	l := lay(t, x, d, 1, 0, 1, 2)
	wantNoVote(t, "missing", d, head(1, 2, l[0], l[1], digest(1)), api.ErrNone)
	two := lay(t, x, d, 2, 0, 1, 2)
	wantNoVote(t, "of two rounds", d, head(1, 2, l[0], l[1], two[0]), api.ErrOrder)
	wantVote(t, "right", x, d, 0, head(1, 2, l...))
	wantNoVote(t, "clash", d, with(t, x, head(1, 2, l...), 1), api.ErrClash)
	wantVote(t, "right again", x, d, 0, head(1, 2, l...))
}

// 14.1, 14.2: the errors in the chapter's order: old, missing, of another round, clash.
func TestOrderOfErrors(t *testing.T) {
	for f := 1; f <= api.MaxF; f++ {
		x := table(t, f)
		n := x.Need()
		d := made(t, x, 0)
		one := lay(t, x, d, 1, first(n)...)
		two := lay(t, x, d, 2, first(n)...)
		lay(t, x, d, 3, first(n)...)
		own := head(1, 3, two...)
		wantVote(t, "first", x, d, 0, own)
		mixed := func(l []string, last string) []string { return append(slices.Clone(l[:n-1]), last) }
		for what, y := range map[string]struct {
			parents []string
			want    api.Errno
		}{
			"missing and of another round and clash": {mixed(one, digest(1)), api.ErrNone},
			"missing and clash":                      {mixed(two, digest(255)), api.ErrNone},
			"one of another round, and clash":        {mixed(two, one[0]), api.ErrOrder},
			"all of another round, and clash":        {one, api.ErrOrder},
			"of the same round, and clash":           {d.Ids(3), api.ErrOrder},
		} {
			h := head(1, 3, y.parents...)
			wantNoVote(t, what, d, h, y.want)
			wantAdd(t, what, d, certOf(t, x, h), y.want)
			wantMissingIf(t, what, d, h, y.want == api.ErrNone)
		}
		other := with(t, x, own, 1)
		wantNoVote(t, "clash", d, other, api.ErrClash)
		wantAdd(t, "clash", d, certOf(t, x, other), api.ErrClash)
		wantAdd(t, "twice", d, certOf(t, x, own), api.ErrTwice)
		wantLow(t, "to 4", d, 4, 3*n)
		for _, h := range []api.Header{own, other, head(1, 3, one...), head(1, 3, mixed(two, digest(1))...), head(1, 1)} {
			wantNoVote(t, "old", d, h, api.ErrOld)
			wantAdd(t, "old", d, certOf(t, x, h), api.ErrOld)
			wantMissing(t, "old", d, h)
		}
	}
}

func wantMissingIf(t *testing.T, what string, d *dag.Dag, h api.Header, missing bool) {
	t.Helper()
	if l := d.Missing(h); (len(l) > 0) != missing {
		t.Errorf("%s: Missing: %x", what, l)
	}
}

// 14.2: parents are to be of the round just ahead: not of the one ahead of that, the same, or a later one.
func TestRoundAhead(t *testing.T) {
	x := table(t, 1)
	d := made(t, x, 0)
	var ids [][]string
	for round := 1; round <= 6; round++ {
		ids = append(ids, lay(t, x, d, round, 0, 1, 2))
	}
	for round := 2; round <= 9; round++ {
		for i, l := range ids {
			h := head(3, round, l...)
			if i+1 == round-1 {
				wantVote(t, "the round ahead", x, d, 0, h)
				continue
			}
			wantNoVote(t, "another round", d, h, api.ErrOrder)
			wantAdd(t, "another round", d, certOf(t, x, h), api.ErrOrder)
		}
	}
}

// 14.2: a certificate is called by its header's id: with other votes it is in already.
func TestTwice(t *testing.T) {
	for f := 1; f <= api.MaxF; f++ {
		x := table(t, f)
		d := made(t, x, 0)
		c := certOf(t, x, head(1, 1))
		wantAdd(t, "once", d, c, api.OK)
		all := api.Cert{Header: c.Header, Votes: tags(t, x, "vote", header.Id(c.Header), first(x.N())...)}
		wantAdd(t, "twice", d, c, api.ErrTwice)
		wantAdd(t, "with more votes", d, all, api.ErrTwice)
		wantAdd(t, "another one", d, certOf(t, x, with(t, x, c.Header, 1)), api.ErrClash)
		if got, ok := d.Get(header.Id(c.Header)); !ok || !reflect.DeepEqual(got, c) {
			t.Errorf("Get: %v, %v, want %v", got, ok, c)
		}
		wantIds(t, "once", d, 1, header.Id(c.Header))
		wantAdd(t, "of another author", d, certOf(t, x, with(t, x, head(2, 1), 1)), api.OK)
	}
}

// 14.2: what a certificate says is got again whole: Refs, parents, votes, also where there are as many as may be.
func TestGet(t *testing.T) {
	for f := 1; f <= api.MaxF; f++ {
		x := table(t, f)
		d := made(t, x, 0)
		l := lay(t, x, d, 1, first(x.N())...)
		h := head(2, 2, l...)
		for n := range api.MaxRefs {
			h.Refs = append(h.Refs, api.Ref{Digest: digest(n), Acks: tags(t, x, "ack", digest(n), first(x.N())...)})
		}
		c := api.Cert{Header: h, Votes: tags(t, x, "vote", header.Id(h), first(x.N())...)}
		wantAdd(t, "all", d, c, api.OK)
		if got, ok := d.Get(header.Id(h)); !ok || !reflect.DeepEqual(got, c) {
			t.Errorf("Get: %x, %v, want %x", got, ok, c)
		}
		for _, id := range []string{"", header.Id(h)[1:], header.Id(h) + "\x00", digest(1)} {
			if got, ok := d.Get(id); ok || !reflect.DeepEqual(got, api.Cert{}) {
				t.Errorf("Get(%x): %x, %v", id, got, ok)
			}
		}
	}
}

// 14.2: a round counts with Need of it in, and not with one fewer; the greatest is told, not the fullest.
func TestRound(t *testing.T) {
	for f := 1; f <= api.MaxF; f++ {
		x := table(t, f)
		d := made(t, x, 0)
		for round := 1; round <= 5; round++ {
			for i := range x.Need() {
				wantRound(t, "too few", d, round-1)
				lay(t, x, d, round, x.N()-1-i)
			}
			wantRound(t, "enough", d, round)
		}
		lay(t, x, d, 1, 0)
		lay(t, x, d, 3, first(f)...)
		wantRound(t, "more of lesser rounds", d, 5)
		lay(t, x, d, 6, first(x.Need()-1)...)
		wantRound(t, "too few of the next", d, 5)
	}
}

// 14.2: there is room for 32 times as many as there are validators; all other errors are told ahead of ErrFull; what is let go makes room.
func TestFull(t *testing.T) {
	for f := 1; f <= api.MaxF; f++ {
		x := table(t, f)
		n := x.N()
		d := made(t, x, 0)
		for round := 1; round <= 32; round++ {
			lay(t, x, d, round, first(n)...)
		}
		wantRound(t, "full", d, 32)
		late := head(0, 33, d.Ids(32)...)
		last := head(0, 32, d.Ids(31)...)
		wantAdd(t, "full", d, certOf(t, x, late), api.ErrFull)
		wantIds(t, "full", d, 33)
		wantAdd(t, "full, twice", d, certOf(t, x, last), api.ErrTwice)
		wantAdd(t, "full, clash", d, certOf(t, x, with(t, x, last, 1)), api.ErrClash)
		wantAdd(t, "full, of another round", d, certOf(t, x, head(0, 33, d.Ids(31)...)), api.ErrOrder)
		wantAdd(t, "full, missing", d, certOf(t, x, head(0, 34, tens(n)...)), api.ErrNone)
		wantVote(t, "full", x, d, 0, late)
		wantNext(t, "full", d, late)
		wantLow(t, "to 2", d, 2, n)
		lay(t, x, d, 33, first(n)...)
		wantAdd(t, "full again", d, certOf(t, x, head(0, 34, d.Ids(33)...)), api.ErrFull)
		wantAdd(t, "full, old", d, certOf(t, x, head(0, 1)), api.ErrOld)
		wantLow(t, "beyond all", d, 100, 32*n)
		wantRound(t, "beyond all", d, 0)
	}
}

// tens is ids that no header has.
func tens(n int) []string {
	var l []string
	for i := range n {
		l = append(l, digest(10+i))
	}
	return l
}

// 14.2: with one place left one more comes in, and no second one.
func TestLastPlace(t *testing.T) {
	x := table(t, 1)
	d := made(t, x, 0)
	for round := 1; round <= 42; round++ {
		lay(t, x, d, round, 0, 1, 2)
	}
	lay(t, x, d, 20, 3) // 127 are in
	lay(t, x, d, 43, 1)
	for author := range 4 {
		want := api.ErrFull
		if author == 1 {
			want = api.ErrTwice
		}
		wantAdd(t, "full", d, certOf(t, x, head(author, 43, d.Ids(42)...)), want)
	}
	wantLow(t, "beyond all", d, 44, 128)
}
