package header_test

import (
	"encoding/hex"
	"math"
	"slices"
	"strconv"
	"strings"
	"testing"

	"tusk/api"
	"tusk/auth"
	"tusk/header"
	"tusk/mix"
	"tusk/wire"
)

func table(t *testing.T, f int, seed string) *auth.Table {
	t.Helper()
	x, e := auth.New(f, seed)
	if e != api.OK {
		t.Fatalf("New(%d, %s): error %d", f, seed, e)
	}
	return x
}

// digest is one of 32 bytes; those of greater numbers are above those of lesser ones.
func digest(n int) string { return strings.Repeat("\x00", 31) + string([]byte{byte(n)}) }

// digests are n of them, rising.
func digests(n int) []string {
	var l []string
	for i := range n {
		l = append(l, digest(i))
	}
	return l
}

// tags are those of validators, of a word of a kind.
func tags(t *testing.T, x *auth.Table, kind, word string, whos ...int) []api.Tag {
	t.Helper()
	var l []api.Tag
	for _, who := range whos {
		tag, e := x.Sign(who, kind, word)
		if e != api.OK {
			t.Fatalf("Sign(%d): error %d", who, e)
		}
		l = append(l, tag)
	}
	return l
}

// first are the first n numbers.
func first(n int) []int {
	var l []int
	for i := range n {
		l = append(l, i)
	}
	return l
}

// ref is a right Ref, with the Acks of as many as are needed.
func ref(t *testing.T, x *auth.Table, d string) api.Ref {
	t.Helper()
	return api.Ref{Digest: d, Acks: tags(t, x, "ack", d, first(x.Need())...)}
}

// refs are n right ones, rising.
func refs(t *testing.T, x *auth.Table, n int) []api.Ref {
	t.Helper()
	var l []api.Ref
	for i := range n {
		l = append(l, ref(t, x, digest(i)))
	}
	return l
}

// some is a right header of the round 2.
func some(t *testing.T, x *auth.Table) api.Header {
	t.Helper()
	return api.Header{Author: 3, Round: 2, Refs: refs(t, x, 3), Parents: digests(x.Need())}
}

func rawTags(l []api.Tag) string {
	members := []string{wire.Int(int64(len(l)))}
	for _, x := range l {
		members = append(members, wire.Text(wire.Int(int64(x.Who))+x.Mac))
	}
	return strings.Join(members, "")
}

// raw is the bytes as the chapter's words have them.
func raw(h api.Header) string {
	s := wire.Int(int64(h.Author)) + wire.Int(int64(h.Round)) + wire.Int(int64(len(h.Refs)))
	for _, x := range h.Refs {
		s += wire.Text(x.Digest) + rawTags(x.Acks)
	}
	return s + wire.List(h.Parents)
}

func sameRef(a, b api.Ref) bool { return a.Digest == b.Digest && slices.Equal(a.Acks, b.Acks) }

// same tells whether two are alike; an empty list is as none.
func same(a, b api.Header) bool {
	return a.Author == b.Author && a.Round == b.Round && slices.EqualFunc(a.Refs, b.Refs, sameRef) && slices.Equal(a.Parents, b.Parents)
}

// copied is a header in memory of its own.
func copied(h api.Header) api.Header {
	h.Refs, h.Parents = slices.Clone(h.Refs), slices.Clone(h.Parents)
	for i := range h.Refs {
		h.Refs[i].Acks = slices.Clone(h.Refs[i].Acks)
	}
	return h
}

// want is what Check answers.
func want(t *testing.T, what string, x *auth.Table, h api.Header, e api.Errno) {
	t.Helper()
	if got := header.Check(x, h); got != e {
		t.Errorf("%s: Check: error %d, want %d", what, got, e)
	}
}

// wantBytes is that a header has its bytes and its id, right or not.
func wantBytes(t *testing.T, what string, h api.Header) {
	t.Helper()
	if s := header.Encode(h); s != raw(h) {
		t.Errorf("%s: Encode: %.60x, want %.60x", what, s, raw(h))
	}
	if id := header.Id(h); id != mix.Sum(raw(h)) || len(id) != api.DigSize {
		t.Errorf("%s: Id: %x, want %x", what, id, mix.Sum(raw(h)))
	}
}

// wantRight is that a header is right, and goes to bytes and back.
func wantRight(t *testing.T, what string, x *auth.Table, h api.Header) {
	t.Helper()
	want(t, what, x, h, api.OK)
	wantBytes(t, what, h)
	wantBack(t, what, h)
}

// The chapter's examples.
func TestExample(t *testing.T) {
	x := table(t, 1, "seed")
	h := api.Header{Author: 1, Round: 1}
	if s := header.Encode(h); s != "\x01\x01\x00\x00" {
		t.Errorf("Encode: %x", s)
	}
	wantRight(t, "the first", x, h)
	h.Parents = digests(1)
	want(t, "a parent in the round 1", x, h, api.ErrField)
	want(t, "two parents", x, api.Header{Author: 2, Round: 2, Parents: digests(2)}, api.ErrFew)
}

// Words: the kinds of tags' words.
func TestKinds(t *testing.T) {
	if header.Ack != "ack" || header.Vote != "vote" {
		t.Errorf("the kinds are %q and %q", header.Ack, header.Vote)
	}
}

// Words: bytes and ids written out; those of the last one, tags too, are by another program.
func TestBytes(t *testing.T) {
	d := strings.Repeat("d", 32)
	m, n := strings.Repeat("m", 16), strings.Repeat("n", 16)
	signed := api.Header{
		Author:  2,
		Round:   2,
		Refs:    []api.Ref{{Digest: d, Acks: tags(t, table(t, 1, "seed"), header.Ack, d, 0, 1, 3)}},
		Parents: []string{strings.Repeat("a", 32), strings.Repeat("b", 32), strings.Repeat("c", 32)},
	}
	signedBytes := "\x02\x02\x01\x20" + d + "\x03" +
		"\x11\x00\xfd\x46\x49\xa5\xd5\x12\x64\x0c\xd3\x6e\x5f\x53\xa4\xa3\x9d\xf6" +
		"\x11\x01\xdc\xf8\x07\x2f\x41\x98\xd5\x35\x27\xe2\x04\xfd\x78\xa5\xdc\x96" +
		"\x11\x03\x71\x6a\xef\x91\xfc\x24\x25\xa8\x47\xd7\xfc\x88\x41\x86\x56\xcb" +
		"\x03\x20" + signed.Parents[0] + "\x20" + signed.Parents[1] + "\x20" + signed.Parents[2]
	for _, c := range []struct {
		h         api.Header
		bytes, id string
	}{
		{api.Header{Author: 1, Round: 1}, "\x01\x01\x00\x00", "d29f0d32f23e069e7d7c5a0f8e2b323748e058618e30d1b681f728627e85dcdd"},
		{
			api.Header{Author: 6, Round: 300, Refs: []api.Ref{{Digest: "ab", Acks: []api.Tag{{Who: 0, Mac: m}, {Who: 6, Mac: n}}}, {}}, Parents: []string{"p", ""}},
			"\x06\xac\x02\x02\x02ab\x02\x11\x00" + m + "\x11\x06" + n + "\x00\x00\x02\x01p\x00",
			"97871a865ba105bface523503b79eba391c15a5079b3ade8e0f0077133695643",
		},
		{signed, signedBytes, "a2bd3088220ecc438eb48525e166b8f4857e23577f68204476b4cf3abf10e79b"},
	} {
		if s := header.Encode(c.h); s != c.bytes {
			t.Errorf("Encode: %x, want %x", s, c.bytes)
		}
		if id := hex.EncodeToString([]byte(header.Id(c.h))); id != c.id {
			t.Errorf("Id: %s, want %s", id, c.id)
		}
		if h, e := header.Decode(c.bytes); !same(h, c.h) || e != api.OK {
			t.Errorf("Decode: %v, error %d, want %v", h, e, c.h)
		}
	}
	want(t, "the signed one", table(t, 1, "seed"), signed, api.OK)
}

// Words: a number below 0, or above MaxInt, is written as nothing; 6.1: bytes and ids are of any header.
func TestBytesOfAny(t *testing.T) {
	long := strings.Repeat("l", api.MaxText+1)
	for _, n := range []int{-1, -128, api.MaxInt + 1, math.MaxInt, math.MinInt} {
		if s := header.Encode(api.Header{Author: n, Round: 5}); s != "\x05\x00\x00" {
			t.Errorf("author %d: %x", n, s)
		}
		if s := header.Encode(api.Header{Author: 5, Round: n}); s != "\x05\x00\x00" {
			t.Errorf("round %d: %x", n, s)
		}
		if s := header.Tags([]api.Tag{{Who: n, Mac: "m"}}); s != "\x01\x01m" {
			t.Errorf("who %d: %x", n, s)
		}
		wantBytes(t, "numbers", api.Header{Author: n, Round: n, Refs: []api.Ref{{Acks: []api.Tag{{Who: n}}}}})
	}
	for what, h := range map[string]api.Header{
		"a zero header":  {},
		"great numbers":  {Author: api.MaxInt, Round: api.MaxInt},
		"empty lists":    {Refs: []api.Ref{}, Parents: []string{}},
		"empty members":  {Refs: make([]api.Ref, 3), Parents: make([]string, 3)},
		"long texts":     {Refs: []api.Ref{{Digest: long, Acks: []api.Tag{{Who: 9, Mac: long}}}}, Parents: []string{long}},
		"long lists":     {Refs: make([]api.Ref, 300), Parents: make([]string, 300)},
		"long Acks":      {Refs: []api.Ref{{Acks: make([]api.Tag, 1<<16)}}},
		"falling":        {Parents: []string{"b", "a"}, Refs: []api.Ref{{Digest: "b"}, {Digest: "a"}}},
		"a strange text": {Author: 200, Round: 1 << 40, Parents: []string{"\xff\x00é"}},
	} {
		wantBytes(t, what, h)
	}
}

// Words: unlike headers have unlike bytes and ids; empty lists are as none.
func TestUnlike(t *testing.T) {
	x := table(t, 1, "seed")
	seen := map[string]int{}
	made := 0
	for _, author := range []int{0, 1, 3} {
		for _, round := range []int{2, 3, 128, api.MaxInt} {
			for _, l := range [][]api.Ref{nil, refs(t, x, 1), refs(t, x, 2), {ref(t, x, digest(1))}, {{Digest: digest(0), Acks: tags(t, x, "ack", digest(0), 0, 1, 3)}}} {
				for _, p := range [][]string{digests(3), digests(4), digests(4)[1:]} {
					h := api.Header{Author: author, Round: round, Refs: l, Parents: p}
					wantRight(t, "made", x, h)
					seen[header.Id(h)]++
					made++
				}
			}
		}
	}
	if len(seen) != made {
		t.Errorf("%d headers have %d ids", made, len(seen))
	}
	if header.Id(api.Header{Refs: []api.Ref{}, Parents: []string{}}) != header.Id(api.Header{}) {
		t.Errorf("an empty list is not as none")
	}
	want(t, "empty lists", x, api.Header{Round: 1, Refs: []api.Ref{}, Parents: []string{}}, api.OK)
}

// 6.1: where Author and Round may be.
func TestNumbers(t *testing.T) {
	for f := 1; f <= api.MaxF; f++ {
		x := table(t, f, "seed")
		for _, n := range []int{-1, -3, x.N(), x.N() + 1, 127, 256, 1 << 32, 1<<32 + 1, api.MaxInt, api.MaxInt + 1, math.MaxInt, math.MinInt} {
			h := some(t, x)
			h.Author = n
			want(t, "author "+strconv.Itoa(n), x, h, api.ErrRange)
		}
		for n := range x.N() {
			h := some(t, x)
			h.Author = n
			wantRight(t, "author "+strconv.Itoa(n), x, h)
		}
		for _, n := range []int{0, -1, -2, api.MaxInt + 1, math.MaxInt, math.MinInt} {
			h := some(t, x)
			h.Round = n
			want(t, "round "+strconv.Itoa(n), x, h, api.ErrRange)
			h.Parents = nil
			want(t, "round "+strconv.Itoa(n)+" without parents", x, h, api.ErrRange)
		}
		for _, n := range []int{2, 3, 127, 128, 1 << 32, 1<<32 + 1, api.MaxInt - 1, api.MaxInt} {
			h := some(t, x)
			h.Round = n
			wantRight(t, "round "+strconv.Itoa(n), x, h)
		}
		wantRight(t, "round 1", x, api.Header{Round: 1, Refs: refs(t, x, 4)})
	}
	six := api.Header{Author: 6, Round: 1}
	want(t, "author 6 of four", table(t, 1, "seed"), six, api.ErrRange)
	want(t, "author 6 of seven", table(t, 2, "seed"), six, api.OK)
}

// 6.1: how many Refs there may be.
func TestRefCounts(t *testing.T) {
	for f := 1; f <= api.MaxF; f++ {
		x := table(t, f, "seed")
		for n := range 5 {
			h := some(t, x)
			h.Refs = refs(t, x, n)
			wantRight(t, strconv.Itoa(n)+" refs", x, h)
		}
		for _, n := range []int{5, 6, 8, 255} {
			h := some(t, x)
			h.Refs = refs(t, x, n)
			want(t, strconv.Itoa(n)+" refs", x, h, api.ErrLong)
			h.Refs = make([]api.Ref, n)
			want(t, strconv.Itoa(n)+" wrong refs", x, h, api.ErrLong)
		}
	}
}

// sizes are those that no digest has.
var sizes = []int{0, 1, 16, 31, 33, 40, 64, 288, api.MaxText + 1}

// 6.1: Digests have 32 bytes, and rise strictly, wherever they stand; so do parents.
func TestDigests(t *testing.T) {
	x := table(t, 1, "seed")
	for at := range 4 {
		for _, size := range sizes {
			d := strings.Repeat("\xff", size)
			h, g := some(t, x), some(t, x)
			h.Refs, g.Parents = refs(t, x, 4), digests(4)
			h.Refs[at] = ref(t, x, d)
			g.Parents[at] = d
			what := strconv.Itoa(size) + " bytes at " + strconv.Itoa(at)
			want(t, what, x, h, api.ErrField)
			want(t, what+" of the parents", x, g, api.ErrField)
		}
	}
	a := strings.Repeat("a", 32)
	for _, c := range []struct {
		l []string
		e api.Errno
	}{
		{[]string{digest(0), digest(1), digest(255)}, api.OK},
		{[]string{digest(127), digest(128), a}, api.OK},
		{[]string{"\x7f" + a[1:], "\x80" + a[1:], "\xff" + a[1:]}, api.OK},
		{[]string{a, a[1:] + "b", "b" + a[1:]}, api.OK},
		{[]string{digest(0), digest(0), digest(1)}, api.ErrOrder},
		{[]string{digest(0), digest(1), digest(1)}, api.ErrOrder},
		{[]string{digest(1), digest(0), digest(2)}, api.ErrOrder},
		{[]string{digest(1), digest(2), digest(0)}, api.ErrOrder},
		{[]string{digest(0), digest(2), digest(1)}, api.ErrOrder},
		{[]string{digest(0), digest(128), digest(127)}, api.ErrOrder},
		{[]string{a, "b" + a[1:], a[1:] + "b"}, api.ErrOrder},
	} {
		h, g := some(t, x), some(t, x)
		g.Parents = c.l
		for i, d := range c.l {
			h.Refs[i] = ref(t, x, d)
		}
		what := strconv.QuoteToASCII(strings.Join(c.l, " "))
		want(t, what, x, h, c.e)
		want(t, what+" as parents", x, g, c.e)
	}
}

// wrongAcks are lists of tags that are not enough for a digest, by their errors.
func wrongAcks(t *testing.T, x *auth.Table, d string) map[api.Errno][][]api.Tag {
	t.Helper()
	right := tags(t, x, "ack", d, first(x.N())...)
	stranger := append(slices.Clone(right), api.Tag{Who: x.N(), Mac: right[0].Mac})
	below := append([]api.Tag{{Who: -1, Mac: right[0].Mac}}, right...)
	m := map[api.Errno][][]api.Tag{
		api.ErrRange: {stranger, below},
		api.ErrOrder: {append(slices.Clone(right), right[0]), append(right[:1:1], right...), {right[2], right[1], right[0]}},
		api.ErrTag: {
			tags(t, x, "vote", d, first(x.N())...),
			tags(t, x, "", d, first(x.N())...),
			tags(t, x, "Ack", d, first(x.N())...),
			tags(t, x, "ack", d+"\x00", first(x.N())...),
			tags(t, x, "ack", digest(99), first(x.N())...),
			tags(t, table(t, 2, "other"), "ack", d, first(x.Need())...),
			make([]api.Tag, x.Need()),
		},
		api.ErrFew: {nil, {}, right[:1], right[:x.Need()-1], right[x.N()-x.Need()+1:]},
	}
	for e, lists := range m {
		for _, l := range lists {
			if got := x.Enough(l, "ack", d); got != e {
				t.Fatalf("Enough of %v: error %d, want %d", l, got, e)
			}
		}
	}
	return m
}

// 6.1: Enough's error of each Ref's Acks, of the kind ack and for its own Digest.
func TestAcks(t *testing.T) {
	for f := 1; f <= api.MaxF; f++ {
		x := table(t, f, "seed")
		for at := range 4 {
			for e, lists := range wrongAcks(t, x, digest(at)) {
				for i, l := range lists {
					h := some(t, x)
					h.Refs = refs(t, x, 4)
					h.Refs[at].Acks = l
					want(t, "list "+strconv.Itoa(i)+" at "+strconv.Itoa(at), x, h, e)
				}
			}
		}
		h := some(t, x)
		d := h.Refs[0].Digest
		h.Refs[0].Acks = tags(t, x, "ack", d, first(x.N())...)
		h.Refs[1].Acks = tags(t, x, "ack", h.Refs[1].Digest, first(x.N())[x.N()-x.Need():]...)
		wantRight(t, "acks of all, and of the last ones", x, h)
		h.Refs[0].Acks, h.Refs[1].Acks = h.Refs[1].Acks, h.Refs[0].Acks
		want(t, "acks of one another", x, h, api.ErrTag)
	}
}

// 6.1: how many parents there may be, in the round 1 and in others.
func TestParentCounts(t *testing.T) {
	for f := 1; f <= api.MaxF; f++ {
		x := table(t, f, "seed")
		for n := range 20 {
			e := api.OK
			if n > 0 {
				e = api.ErrField
			}
			what := strconv.Itoa(n) + " parents in the round "
			want(t, what+"1", x, api.Header{Round: 1, Parents: digests(n)}, e)
			e = api.OK
			if n < 2*f+1 {
				e = api.ErrFew
			} else if n > 3*f+1 {
				e = api.ErrLong
			}
			for _, round := range []int{2, 3, 1 << 32, 1<<32 + 1, api.MaxInt} {
				h := api.Header{Round: round, Parents: digests(n)}
				want(t, what+strconv.Itoa(round), x, h, e)
				if e == api.OK {
					wantRight(t, what+strconv.Itoa(round), x, h)
				}
			}
		}
	}
}

// plainCheck is the chapter's words on Check, one by one.
func plainCheck(x *auth.Table, h api.Header) api.Errno {
	if h.Author < 0 || h.Author > x.N()-1 || h.Round < 1 || h.Round > api.MaxInt {
		return api.ErrRange
	}
	if len(h.Refs) > 4 {
		return api.ErrLong
	}
	for i, r := range h.Refs {
		if len(r.Digest) != 32 {
			return api.ErrField
		}
		if i > 0 && strings.Compare(h.Refs[i-1].Digest, r.Digest) >= 0 {
			return api.ErrOrder
		}
		if e := x.Enough(r.Acks, "ack", r.Digest); e != api.OK {
			return e
		}
	}
	for i, p := range h.Parents {
		if len(p) != 32 {
			return api.ErrField
		}
		if i > 0 && strings.Compare(h.Parents[i-1], p) >= 0 {
			return api.ErrOrder
		}
	}
	n := len(h.Parents)
	if h.Round == 1 && n > 0 {
		return api.ErrField
	}
	if h.Round > 1 && n < x.Need() {
		return api.ErrFew
	}
	if n > x.N() {
		return api.ErrLong
	}
	return api.OK
}

// eachList hands out every list of at most size of these.
func eachList[T any](choice []T, size int, do func(l []T)) {
	var grow func(l []T)
	grow = func(l []T) {
		do(l)
		if len(l) == size {
			return
		}
		for _, c := range choice {
			grow(append(slices.Clone(l), c))
		}
	}
	grow(nil)
}

// 6.1: all lists of up to five Refs, and of up to six parents, of which some are wrong: the error that comes first.
func TestCheckAll(t *testing.T) {
	x := table(t, 1, "seed")
	right := refs(t, x, 3)
	few := api.Ref{Digest: digest(1), Acks: right[1].Acks[:2]}
	other := api.Ref{Digest: digest(2), Acks: right[1].Acks}
	counts := map[api.Errno]int{}
	look := func(h api.Header) {
		e := plainCheck(x, h)
		counts[e]++
		want(t, "a list", x, h, e)
	}
	for _, parents := range [][]string{digests(3), digests(2), {"short"}} {
		eachList([]api.Ref{right[0], right[1], right[2], few, other, {Digest: "short"}}, 3, func(l []api.Ref) {
			look(api.Header{Author: 3, Round: 2, Refs: l, Parents: parents})
			look(api.Header{Author: 3, Round: 1, Refs: l, Parents: nil})
			look(api.Header{Author: 4, Round: 1, Refs: l, Parents: parents})
			look(api.Header{Author: 3, Round: 2, Refs: append(slices.Clone(l), right...), Parents: parents})
		})
	}
	for _, round := range []int{1, 2, 0} {
		eachList([]string{digest(0), digest(1), digest(2), digest(3), digest(4), "short", strings.Repeat("z", 33)}, 5, func(l []string) {
			look(api.Header{Author: 3, Round: round, Parents: l})
		})
	}
	for _, e := range []api.Errno{api.OK, api.ErrRange, api.ErrLong, api.ErrField, api.ErrOrder, api.ErrFew, api.ErrTag} {
		if counts[e] == 0 {
			t.Errorf("no list has error %d", e)
		}
	}
}

// 6.1: of any two faults the one that the chapter names first is told.
func TestCheckOrder(t *testing.T) {
	x := table(t, 1, "seed")
	faults := []struct {
		e      api.Errno
		change func(h *api.Header)
	}{
		{api.ErrRange, func(h *api.Header) { h.Author = 4 }},
		{api.ErrRange, func(h *api.Header) { h.Round = api.MaxInt + 1 }},
		{api.ErrLong, func(h *api.Header) { h.Refs = append(h.Refs, refs(t, x, 4)...) }},
		{api.ErrField, func(h *api.Header) { h.Refs[1] = ref(t, x, digest(0)+"x") }},
		{api.ErrOrder, func(h *api.Header) { h.Refs[1] = ref(t, x, digest(0)) }},
		{api.ErrTag, func(h *api.Header) { h.Refs[1].Acks = tags(t, x, "vote", h.Refs[1].Digest, 0, 1, 2) }},
		{api.ErrFew, func(h *api.Header) { h.Refs[2].Acks = h.Refs[2].Acks[:2] }},
		{api.ErrField, func(h *api.Header) { h.Refs[3] = ref(t, x, "") }},
		{api.ErrField, func(h *api.Header) { h.Parents[1] = digest(0) + "x" }},
		{api.ErrOrder, func(h *api.Header) { h.Parents[1] = digest(0) }},
		{api.ErrField, func(h *api.Header) { h.Parents[2] = "" }},
		{api.ErrLong, func(h *api.Header) {
			h.Parents = append(h.Parents, strings.Repeat("y", 32), strings.Repeat("z", 32))
		}},
	}
	for i, one := range faults {
		for k, later := range faults[i:] {
			h := api.Header{Author: 3, Round: 2, Refs: refs(t, x, 4), Parents: digests(3)}
			later.change(&h)
			if k > 0 {
				one.change(&h)
			}
			want(t, strconv.Itoa(i)+" and "+strconv.Itoa(i+k), x, h, one.e)
		}
	}
	h := some(t, x)
	h.Parents = []string{digest(1), digest(0)}
	want(t, "few that do not rise", x, h, api.ErrOrder)
	h.Round = 1
	want(t, "parents that do not rise, in the round 1", x, h, api.ErrOrder)
	h.Parents = digests(9)
	want(t, "too many in the round 1", x, h, api.ErrField)
	h.Parents = append(digests(9), digest(0))
	h.Round = 2
	want(t, "too many, of which the last does not rise", x, h, api.ErrOrder)
}

// R4: what is handed in stays as it was, with the room behind the lists' ends.
func TestHandedIn(t *testing.T) {
	x := table(t, 1, "seed")
	h := some(t, x)
	h.Refs[0].Acks = tags(t, x, "ack", digest(0), 0, 1, 2, 3)
	h.Parents = digests(9)
	ahead := copied(h)
	part := h
	part.Refs, part.Parents = slices.Clone(h.Refs[:2]), h.Parents[:3]
	part.Refs[0].Acks = h.Refs[0].Acks[:3]
	want(t, "a part", x, part, api.OK)
	header.Encode(part)
	header.Id(part)
	header.Tags(part.Refs[0].Acks)
	if !same(h, ahead) {
		t.Errorf("what was handed in has changed: %v", h)
	}
}
