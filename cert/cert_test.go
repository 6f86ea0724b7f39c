package cert_test

import (
	"encoding/hex"
	"math"
	"slices"
	"strconv"
	"strings"
	"testing"

	"tusk/api"
	"tusk/auth"
	"tusk/cert"
	"tusk/header"
	"tusk/wire"
)

func table(t *testing.T, f int, seed string) *auth.Table {
	t.Helper()
	x, e := auth.New(f, seed)
	if e != api.OK {
		t.Fatalf("New(%d, %s): error %d", f, seed, e)
	}
	return x
}

// tags are those of validators, of a word of a kind.
func tags(t *testing.T, x *auth.Table, kind, word string, whos ...int) []api.Tag {
	t.Helper()
	var l []api.Tag
	for _, who := range whos {
		tag, e := x.Sign(who, kind, word)
		if e != api.OK {
			t.Fatalf("Sign(%d): error %d", who, e)
		}
		l = append(l, tag)
	}
	return l
}

// first are the first n numbers.
func first(n int) []int {
	var l []int
	for i := range n {
		l = append(l, i)
	}
	return l
}

// digests are n of 32 bytes, rising.
func digests(n int) []string {
	var l []string
	for i := range n {
		l = append(l, strings.Repeat("\x00", 31)+string([]byte{byte(i)}))
	}
	return l
}

// some is a right header of the round 2, with two Refs.
func some(t *testing.T, x *auth.Table) api.Header {
	t.Helper()
	h := api.Header{Author: 3, Round: 2, Parents: digests(x.Need())}
	for _, d := range digests(2) {
		h.Refs = append(h.Refs, api.Ref{Digest: d, Acks: tags(t, x, "ack", d, first(x.Need())...)})
	}
	return h
}

// greatest is the right header that has the most bytes.
func greatest(t *testing.T, x *auth.Table) api.Header {
	t.Helper()
	h := api.Header{Author: x.N() - 1, Round: api.MaxInt, Parents: digests(x.N())}
	for _, d := range digests(api.MaxRefs) {
		h.Refs = append(h.Refs, api.Ref{Digest: d, Acks: tags(t, x, "ack", d, first(x.N())...)})
	}
	return h
}

// votesFor are validators' votes for a header.
func votesFor(t *testing.T, x *auth.Table, h api.Header, whos ...int) []api.Tag {
	t.Helper()
	return tags(t, x, "vote", header.Id(h), whos...)
}

// right is a header with the votes of as many as are needed.
func right(t *testing.T, x *auth.Table, h api.Header) api.Cert {
	t.Helper()
	return api.Cert{Header: h, Votes: votesFor(t, x, h, first(x.Need())...)}
}

// raw is the bytes as the chapter's words have them.
func raw(c api.Cert) string {
	return wire.Text(header.Encode(c.Header)) + header.Tags(c.Votes)
}

// same tells whether two are alike; an empty list is as none.
func same(a, b api.Cert) bool {
	h, g := a.Header, b.Header
	return h.Author == g.Author && h.Round == g.Round && slices.Equal(h.Parents, g.Parents) && slices.Equal(a.Votes, b.Votes) &&
		slices.EqualFunc(h.Refs, g.Refs, func(x, y api.Ref) bool { return x.Digest == y.Digest && slices.Equal(x.Acks, y.Acks) })
}

// want is what Check answers.
func want(t *testing.T, what string, x *auth.Table, c api.Cert, e api.Errno) {
	t.Helper()
	if got := cert.Check(x, c); got != e {
		t.Errorf("%s: Check: error %d, want %d", what, got, e)
	}
}

// wantRight is that a certificate is right, and goes to bytes and back.
func wantRight(t *testing.T, what string, x *auth.Table, c api.Cert) {
	t.Helper()
	want(t, what, x, c, api.OK)
	wantBack(t, what, c)
}

// Words: bytes by another program, of certificates that are right.
func TestBytes(t *testing.T) {
	four, seven := table(t, 1, "seed"), table(t, 2, "seed")
	d := strings.Repeat("d", 32)
	second := api.Header{
		Author:  2,
		Round:   2,
		Refs:    []api.Ref{{Digest: d, Acks: tags(t, four, "ack", d, 0, 1, 3)}},
		Parents: []string{strings.Repeat("a", 32), strings.Repeat("b", 32), strings.Repeat("c", 32)},
	}
	for _, c := range []struct {
		x     *auth.Table
		h     api.Header
		whos  []int
		bytes string
	}{
		{four, api.Header{Author: 1, Round: 1}, []int{0, 1, 2}, "0401010000" + "03" +
			"11006f57dfe5dc1184263bf0c89c700cbc9a" +
			"11018181f50b8eaab74921870b38222d8437" +
			"11023393b3ae39ebf3e1248aad8437a4b9de"},
		{four, second, []int{0, 2, 3}, "bf01" + hex.EncodeToString([]byte(header.Encode(second))) + "03" +
			"1100c325bcb85a14facc342884d2ba52ef5a" +
			"1102c7ba4659156c4f6d9d3e8e8e0d62004b" +
			"1103ad9470d0bea82b94414ae06eb8ad13eb"},
		{seven, api.Header{Author: 6, Round: 1}, []int{1, 2, 4, 5, 6}, "0406010000" + "05" +
			"1101a6519fb9314f103f1eac67b6c57a1761" +
			"110233a63973d81332dec0d5e6763ae90e30" +
			"110480d1b10e0d9a17872109a6f9734ad488" +
			"1105beba276f147f74e1dbf1e8ef739c4943" +
			"11069562067aa9d167287d94ddc5a7dac963"},
	} {
		bytes, err := hex.DecodeString(c.bytes)
		if err != nil {
			t.Fatal(err)
		}
		made := api.Cert{Header: c.h, Votes: votesFor(t, c.x, c.h, c.whos...)}
		if s := cert.Encode(made); s != string(bytes) {
			t.Errorf("Encode: %x, want %x", s, bytes)
		}
		got, e := cert.Decode(string(bytes))
		if !same(got, made) || e != api.OK {
			t.Errorf("Decode: %v, error %d, want %v", got, e, made)
		}
		want(t, "by another program", c.x, got, api.OK)
	}
}

// anyCerts are some that are not right, of all sorts.
func anyCerts() map[string]api.Cert {
	long := strings.Repeat("l", api.MaxText+1)
	return map[string]api.Cert{
		"a zero one":      {},
		"empty lists":     {Header: api.Header{Refs: []api.Ref{}, Parents: []string{}}, Votes: []api.Tag{}},
		"no numbers":      {Header: api.Header{Author: -1, Round: math.MinInt}, Votes: []api.Tag{{Who: -1, Mac: "m"}}},
		"great numbers":   {Header: api.Header{Author: math.MaxInt, Round: api.MaxInt + 1}, Votes: []api.Tag{{Who: api.MaxInt, Mac: mac}, {Who: math.MaxInt}}},
		"long texts":      {Header: api.Header{Refs: []api.Ref{{Digest: long}}, Parents: []string{long}}, Votes: []api.Tag{{Mac: long}}},
		"long lists":      {Header: api.Header{Refs: make([]api.Ref, 300), Parents: make([]string, 300)}, Votes: make([]api.Tag, 300)},
		"falling":         {Header: api.Header{Parents: []string{"b", "a"}}, Votes: []api.Tag{{Who: 2, Mac: mac}, {Who: 1, Mac: mac}}},
		"votes alone":     {Votes: marks(7)},
		"a header alone":  {Header: api.Header{Author: 6, Round: 300, Parents: []string{"", "\xff"}}},
		"one vote, empty": {Header: api.Header{Round: 1}, Votes: make([]api.Tag, 1)},
	}
}

// 7.1: the bytes are of any certificate, right or not.
func TestBytesOfAny(t *testing.T) {
	for what, c := range anyCerts() {
		if s := cert.Encode(c); s != raw(c) {
			t.Errorf("%s: Encode: %.60x, want %.60x", what, s, raw(c))
		}
	}
	if s := cert.Encode(api.Cert{}); s != "\x04\x00\x00\x00\x00\x00" {
		t.Errorf("the zero certificate: %x", s)
	}
	if s := cert.Encode(api.Cert{Header: api.Header{Author: -1, Round: 5}, Votes: []api.Tag{{Who: -1, Mac: "m"}}}); s != "\x03\x05\x00\x00\x01\x01m" {
		t.Errorf("numbers below 0: %x", s)
	}
}

// 7.1: certificates that are right: of headers of each author, of least and great ones, with votes of each number that is enough.
func TestRight(t *testing.T) {
	for f := 1; f <= api.MaxF; f++ {
		x := table(t, f, "seed")
		for n := x.Need(); n <= x.N(); n++ {
			for _, h := range []api.Header{some(t, x), greatest(t, x), {Round: 1}} {
				what := strconv.Itoa(n) + " votes"
				wantRight(t, what, x, api.Cert{Header: h, Votes: votesFor(t, x, h, first(n)...)})
				wantRight(t, what+", the last ones", x, api.Cert{Header: h, Votes: votesFor(t, x, h, first(x.N())[x.N()-n:]...)})
			}
		}
		for author := range x.N() {
			wantRight(t, "author "+strconv.Itoa(author), x, right(t, x, api.Header{Author: author, Round: 1, Refs: []api.Ref{}}))
		}
	}
}

type fault struct {
	what string
	e    api.Errno
	h    api.Header
}

// wrongHeaders are headers, with header.Check's error of each.
func wrongHeaders(t *testing.T, x *auth.Table) []fault {
	t.Helper()
	d := digests(1)[0]
	l := []fault{
		{"author", api.ErrRange, api.Header{Author: x.N(), Round: 1}},
		{"author below 0", api.ErrRange, api.Header{Author: -1, Round: 1}},
		{"round 0", api.ErrRange, api.Header{}},
		{"round above", api.ErrRange, api.Header{Round: api.MaxInt + 1, Parents: digests(x.Need())}},
		{"five refs", api.ErrLong, api.Header{Round: 1, Refs: make([]api.Ref, 5)}},
		{"a digest's size", api.ErrField, api.Header{Round: 1, Refs: []api.Ref{{Digest: "d"}}}},
		{"no acks", api.ErrFew, api.Header{Round: 1, Refs: []api.Ref{{Digest: d}}}},
		{"votes for acks", api.ErrTag, api.Header{Round: 1, Refs: []api.Ref{{Digest: d, Acks: tags(t, x, "vote", d, first(x.N())...)}}}},
		{"a stranger's ack", api.ErrRange, api.Header{Round: 1, Refs: []api.Ref{{Digest: d, Acks: []api.Tag{{Who: x.N()}}}}}},
		{"a parent", api.ErrField, api.Header{Round: 1, Parents: digests(1)}},
		{"few parents", api.ErrFew, api.Header{Round: 2, Parents: digests(x.Need() - 1)}},
		{"many parents", api.ErrLong, api.Header{Round: 2, Parents: digests(x.N() + 1)}},
		{"parents alike", api.ErrOrder, api.Header{Round: 2, Parents: slices.Repeat(digests(1), x.Need())}},
	}
	for _, c := range l {
		if e := header.Check(x, c.h); e != c.e {
			t.Fatalf("%s: header.Check: error %d, want %d", c.what, e, c.e)
		}
	}
	return l
}

// wrongVotes are lists that are not enough for a header, by their errors.
func wrongVotes(t *testing.T, x *auth.Table, h api.Header) map[api.Errno][][]api.Tag {
	t.Helper()
	id, all := header.Id(h), first(x.N())
	votes := votesFor(t, x, h, all...)
	other := h
	other.Round = 9
	m := map[api.Errno][][]api.Tag{
		api.ErrRange: {append(slices.Clone(votes), api.Tag{Who: x.N(), Mac: votes[0].Mac}), append([]api.Tag{{Who: -1}}, votes...)},
		api.ErrOrder: {append(slices.Clone(votes), votes[0]), append(votes[:1:1], votes...), {votes[2], votes[1], votes[0]}},
		api.ErrTag: {
			tags(t, x, "ack", id, all...),
			tags(t, x, "agree", id, all...),
			tags(t, x, "", id, all...),
			tags(t, x, "Vote", id, all...),
			tags(t, x, "vote", header.Encode(h), all...),
			tags(t, x, "vote", id+"\x00", all...),
			tags(t, x, "vote", "", all...),
			votesFor(t, x, other, all...),
			tags(t, table(t, 2, "other"), "vote", id, all...),
			make([]api.Tag, x.N()),
		},
		api.ErrFew: {nil, {}, votes[:1], votes[:x.Need()-1], votes[x.N()-x.Need()+1:]},
	}
	for at := range all {
		l := slices.Clone(votes)
		l[at].Mac = "\x00" + l[at].Mac[1:]
		if l[at] == votes[at] {
			t.Fatal("a Mac that was to be wrong is right")
		}
		m[api.ErrTag] = append(m[api.ErrTag], l)
	}
	for e, lists := range m {
		for _, l := range lists {
			if got := x.Enough(l, "vote", id); got != e {
				t.Fatalf("Enough of %v: error %d, want %d", l, got, e)
			}
		}
	}
	return m
}

// 7.1: header.Check's error, whatever the votes are; these are right, too few, none, or another's.
func TestWrongHeaders(t *testing.T) {
	for f := 1; f <= api.MaxF; f++ {
		x := table(t, f, "seed")
		for _, c := range wrongHeaders(t, x) {
			want(t, c.what, x, right(t, x, c.h), c.e)
			for e, lists := range wrongVotes(t, x, c.h) {
				for _, l := range lists {
					want(t, c.what+" and votes of error "+strconv.Itoa(int(e)), x, api.Cert{Header: c.h, Votes: l}, c.e)
				}
			}
		}
	}
}

// 7.1: Enough's error, of the kind vote and of the header's own id.
func TestWrongVotes(t *testing.T) {
	for f := 1; f <= api.MaxF; f++ {
		x := table(t, f, "seed")
		for _, h := range []api.Header{some(t, x), {Author: 1, Round: 1}} {
			for e, lists := range wrongVotes(t, x, h) {
				for i, l := range lists {
					want(t, "list "+strconv.Itoa(i), x, api.Cert{Header: h, Votes: l}, e)
				}
			}
		}
	}
	six := right(t, table(t, 2, "seed"), api.Header{Author: 1, Round: 1})
	want(t, "five of seven, of four", table(t, 1, "seed"), six, api.ErrRange)
	want(t, "of another seed", table(t, 2, "see"), six, api.ErrTag)
	three := right(t, table(t, 1, "seed"), api.Header{Author: 1, Round: 1})
	want(t, "three of four, of seven", table(t, 2, "seed"), three, api.ErrFew)
}

// Words: votes are for all of a header: with any field changed they are another's.
func TestVotesAreForAll(t *testing.T) {
	x := table(t, 1, "seed")
	for what, change := range map[string]func(h *api.Header){
		"author":         func(h *api.Header) { h.Author-- },
		"round":          func(h *api.Header) { h.Round++ },
		"a ref less":     func(h *api.Header) { h.Refs = h.Refs[1:] },
		"no refs":        func(h *api.Header) { h.Refs = nil },
		"other acks":     func(h *api.Header) { h.Refs[0].Acks = tags(t, x, "ack", h.Refs[0].Digest, 0, 1, 3) },
		"more acks":      func(h *api.Header) { h.Refs[1].Acks = tags(t, x, "ack", h.Refs[1].Digest, 0, 1, 2, 3) },
		"a parent more":  func(h *api.Header) { h.Parents = digests(4) },
		"another parent": func(h *api.Header) { h.Parents = digests(4)[1:] },
	} {
		c := right(t, x, some(t, x))
		want(t, what+", not yet", x, c, api.OK)
		change(&c.Header)
		want(t, what, x, c, api.ErrTag)
		want(t, what+", voted for", x, right(t, x, c.Header), api.OK)
	}
}

// R4: what is handed in stays as it was, with the room behind the lists' ends.
func TestHandedIn(t *testing.T) {
	x := table(t, 1, "seed")
	parents, votes := digests(9), make([]api.Tag, 9)
	h := some(t, x)
	h.Parents = parents[:3]
	copy(votes, votesFor(t, x, h, 0, 1, 2))
	spare := slices.Clone(votes)
	c := api.Cert{Header: h, Votes: votes[:3]}
	wantRight(t, "a part", x, c)
	if !slices.Equal(parents, digests(9)) || !slices.Equal(votes, spare) || !same(c, right(t, x, some(t, x))) {
		t.Errorf("what was handed in has changed: %v, %v", parents, votes)
	}
}
