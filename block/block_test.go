package block_test

import (
	"encoding/hex"
	"math"
	"slices"
	"strconv"
	"strings"
	"testing"

	"tusk/api"
	"tusk/auth"
	"tusk/block"
	"tusk/header"
	"tusk/mix"
	"tusk/wire"
)

// sizes are those that no digest has.
var sizes = []int{0, 1, 16, 31, 33, 40, 64, 288, api.MaxText + 1}

func table(t *testing.T, f int, seed string) *auth.Table {
	t.Helper()
	x, e := auth.New(f, seed)
	if e != api.OK {
		t.Fatalf("New(%d, %s): error %d", f, seed, e)
	}
	return x
}

// tags are those of validators, of a word of a kind.
func tags(t *testing.T, x *auth.Table, kind, word string, whos ...int) []api.Tag {
	t.Helper()
	var l []api.Tag
	for _, who := range whos {
		tag, e := x.Sign(who, kind, word)
		if e != api.OK {
			t.Fatalf("Sign(%d): error %d", who, e)
		}
		l = append(l, tag)
	}
	return l
}

// first are the first n numbers.
func first(n int) []int {
	var l []int
	for i := range n {
		l = append(l, i)
	}
	return l
}

// digest is some 32 bytes.
func digest(i int) string { return strings.Repeat("\x00", 31) + string([]byte{byte(i)}) }

// marked are n marks, all different.
func marked(n int) []string {
	var l []string
	for i := range n {
		l = append(l, block.Mark(i+1, digest(i)))
	}
	return l
}

// genesis is the Qc of the first block.
func genesis() api.Qc { return api.Qc{Block: strings.Repeat("\x00", 32)} }

// qc is that validators have voted for a block of a view.
func qc(t *testing.T, x *auth.Table, view int, id string, whos ...int) api.Qc {
	t.Helper()
	return api.Qc{View: view, Block: id, Votes: tags(t, x, "agree", wire.Int(int64(view))+id, whos...)}
}

// some is a right block upon one of the view 5, with three Certs.
func some(t *testing.T, x *auth.Table) api.Block {
	t.Helper()
	return api.Block{View: 7, Qc: qc(t, x, 5, digest(5), first(x.Need())...), Certs: marked(3)}
}

// rawQc is the bytes as the chapter's words have them.
func rawQc(q api.Qc) string {
	return wire.Int(int64(q.View)) + wire.Int(int64(len(q.Block))) + q.Block + header.Tags(q.Votes)
}

// raw is the bytes as the chapter's words have them.
func raw(b api.Block) string {
	s := wire.Int(int64(b.View)) + wire.Text(rawQc(b.Qc)) + wire.Int(int64(len(b.Certs)))
	for _, c := range b.Certs {
		s += wire.Int(int64(len(c))) + c
	}
	return s
}

// sameQc tells whether two are alike; an empty list is as none.
func sameQc(a, b api.Qc) bool {
	return a.View == b.View && a.Block == b.Block && slices.Equal(a.Votes, b.Votes)
}

// same tells whether two are alike; an empty list is as none.
func same(a, b api.Block) bool {
	return a.View == b.View && sameQc(a.Qc, b.Qc) && slices.Equal(a.Certs, b.Certs)
}

// wantQc is what CheckQc answers.
func wantQc(t *testing.T, what string, x *auth.Table, q api.Qc, e api.Errno) {
	t.Helper()
	if got := block.CheckQc(x, q); got != e {
		t.Errorf("%s: CheckQc: error %d, want %d", what, got, e)
	}
}

// want is what Check answers.
func want(t *testing.T, what string, x *auth.Table, b api.Block, e api.Errno) {
	t.Helper()
	if got := block.Check(x, b); got != e {
		t.Errorf("%s: Check: error %d, want %d", what, got, e)
	}
}

// wantRight is that a block and its Qc are right, and go to bytes and back.
func wantRight(t *testing.T, what string, x *auth.Table, b api.Block) {
	t.Helper()
	wantQc(t, what, x, b.Qc, api.OK)
	want(t, what, x, b, api.OK)
	wantBack(t, what, b)
}

// The chapter's example.
func TestExample(t *testing.T) {
	for f := 1; f <= api.MaxF; f++ {
		x := table(t, f, "seed")
		b := api.Block{View: 1, Qc: api.Qc{Block: block.Genesis()}}
		wantRight(t, "upon the first one", x, b)
		c := b
		c.View = 0
		want(t, "the view 0", x, c, api.ErrRange)
		c = api.Block{View: 2, Qc: qc(t, x, 1, block.Id(b), first(x.Need())...)}
		wantRight(t, "upon it", x, c)
		c.View = 1
		want(t, "a Qc of its own view", x, c, api.ErrOrder)
	}
}

// Words: bytes and ids by another program, of blocks that are right, each upon the one ahead.
func TestBytes(t *testing.T) {
	four, seven := table(t, 1, "seed"), table(t, 2, "seed")
	a, b := strings.Repeat("a", 32), strings.Repeat("b", 32)
	one := api.Block{View: 1, Qc: genesis()}
	two := api.Block{View: 300, Qc: qc(t, four, 1, block.Id(one), 0, 1, 2), Certs: []string{block.Mark(258, a), block.Mark(api.MaxInt, b)}}
	three := api.Block{View: api.MaxInt, Qc: qc(t, seven, 300, block.Id(two), 1, 2, 4, 5, 6), Certs: []string{block.Mark(1, a)}}
	qcOfOne := "01206b115a66958e19b98b77b6e2dc2ef4fae93cfbf27d7764e412dc00ce910f6f56" + "03" +
		"11000a8cd19d674c8d996e86b3a58aaf5ec8" +
		"1101c6f62975038a819362e42cf0d21c99ee" +
		"110230406aa6e06ba07c24c429a96dbc1586"
	qcOfTwo := "ac022038f3efa281b7026ae20de64e9c34c59388c614ebeac31aeccc07bd98e9977177" + "05" +
		"110157eef3ceb97dbfe40471113647b26400" +
		"11020f5c0f792c70890c5a89071edd46174b" +
		"1104dce2c6251acab7d3ae2b4678dbf14e68" +
		"1105d531ac60e1a1911d44314b9546d1dc18" +
		"1106f9264bb3ea032dc94297f3ea2baa7f29"
	zeros, as, bs := strings.Repeat("00", 32), strings.Repeat("61", 32), strings.Repeat("62", 32)
	for _, c := range []struct {
		x             *auth.Table
		b             api.Block
		qc, bytes, id string
	}{
		{four, one, "0020" + zeros + "00", "0123" + "0020" + zeros + "00" + "00", "6b115a66958e19b98b77b6e2dc2ef4fae93cfbf27d7764e412dc00ce910f6f56"},
		{four, two, qcOfOne, "ac0259" + qcOfOne + "02" + "280000000000000102" + as + "283fffffffffffffff" + bs, "38f3efa281b7026ae20de64e9c34c59388c614ebeac31aeccc07bd98e9977177"},
		{seven, three, qcOfTwo, "ffffffffffffffff3f7e" + qcOfTwo + "01" + "280000000000000001" + as, "7664a2cdb6616c914b65a585101754660d514225412bd1c3324b60a7a011aeef"},
	} {
		if s := hex.EncodeToString([]byte(block.EncodeQc(c.b.Qc))); s != c.qc {
			t.Errorf("EncodeQc: %s, want %s", s, c.qc)
		}
		if s := hex.EncodeToString([]byte(block.Encode(c.b))); s != c.bytes {
			t.Errorf("Encode: %s, want %s", s, c.bytes)
		}
		if id := hex.EncodeToString([]byte(block.Id(c.b))); id != c.id {
			t.Errorf("Id: %s, want %s", id, c.id)
		}
		wantRight(t, "by another program", c.x, c.b)
	}
}

// anyQcs are some that are not right, of all sorts.
func anyQcs() map[string]api.Qc {
	long := strings.Repeat("l", api.MaxText+1)
	return map[string]api.Qc{
		"a zero one":    {},
		"no numbers":    {View: -1, Votes: []api.Tag{{Who: -1, Mac: "m"}}},
		"least numbers": {View: math.MinInt, Block: "b", Votes: []api.Tag{{Who: math.MinInt}}},
		"great numbers": {View: api.MaxInt, Votes: []api.Tag{{Who: api.MaxInt, Mac: mac}}},
		"above":         {View: api.MaxInt + 1, Votes: []api.Tag{{Who: math.MaxInt, Mac: mac}}},
		"long texts":    {View: 3, Block: long, Votes: []api.Tag{{Mac: long}}},
		"long lists":    {View: 3, Votes: make([]api.Tag, 300)},
		"falling":       {View: 3, Votes: []api.Tag{{Who: 2, Mac: mac}, {Who: 1, Mac: mac}}},
	}
}

// Words, 8.2: bytes and ids are of any Qc and any block, right or not; a View that is no number is written as nothing.
func TestBytesOfAny(t *testing.T) {
	for what, q := range anyQcs() {
		if s := block.EncodeQc(q); s != rawQc(q) {
			t.Errorf("%s: EncodeQc: %.60x, want %.60x", what, s, rawQc(q))
		}
		for _, view := range []int{-1, 0, 1, 128, api.MaxInt, api.MaxInt + 1, math.MaxInt, math.MinInt} {
			for _, certs := range [][]string{nil, {}, {""}, {"b", "a", "a"}, marked(9), make([]string, 300), {strings.Repeat("c", api.MaxText+1)}} {
				b := api.Block{View: view, Qc: q, Certs: certs}
				if s := block.Encode(b); s != raw(b) {
					t.Errorf("%s: Encode: %.60x, want %.60x", what, s, raw(b))
				}
				if id := block.Id(b); id != mix.Sum(raw(b)) {
					t.Errorf("%s: Id: %x, want %x", what, id, mix.Sum(raw(b)))
				}
			}
		}
	}
	if s := block.Encode(api.Block{}); s != "\x00\x03\x00\x00\x00\x00" {
		t.Errorf("the zero block: %x", s)
	}
	if s := block.Encode(api.Block{View: -1, Qc: api.Qc{View: api.MaxInt + 1}}); s != "\x02\x00\x00\x00" {
		t.Errorf("views that are no numbers: %x", s)
	}
}

// Words: unlike blocks have unlike ids; empty lists are as none.
func TestUnlike(t *testing.T) {
	x := table(t, 1, "seed")
	seen := map[string]int{}
	made := 0
	for _, q := range []api.Qc{genesis(), qc(t, x, 1, digest(1), 0, 1, 2), qc(t, x, 1, digest(1), 0, 1, 3), qc(t, x, 1, digest(2), 0, 1, 2), qc(t, x, 2, digest(1), 0, 1, 2, 3)} {
		for _, view := range []int{3, 4, 128, api.MaxInt} {
			for _, certs := range [][]string{nil, marked(1), marked(2), marked(2)[1:], {marked(2)[1], marked(2)[0]}} {
				b := api.Block{View: view, Qc: q, Certs: certs}
				wantRight(t, "made", x, b)
				seen[block.Id(b)]++
				made++
			}
		}
	}
	if len(seen) != made {
		t.Errorf("%d blocks have %d ids", made, len(seen))
	}
	empty := api.Block{View: 1, Qc: api.Qc{Block: block.Genesis(), Votes: []api.Tag{}}, Certs: []string{}}
	wantRight(t, "empty lists", x, empty)
	if block.Id(empty) != block.Id(api.Block{View: 1, Qc: genesis()}) {
		t.Errorf("an empty list is not as none")
	}
}

// 8.1: a Qc's View is from 0 to MaxInt, whatever else is wrong.
func TestQcViews(t *testing.T) {
	x := table(t, 1, "seed")
	for _, view := range []int{-1, -2, math.MinInt, api.MaxInt + 1, math.MaxInt} {
		what := "view " + strconv.Itoa(view)
		wantQc(t, what, x, qc(t, x, view, digest(1), 0, 1, 2), api.ErrRange)
		wantQc(t, what+" of the first block", x, api.Qc{View: view, Block: block.Genesis()}, api.ErrRange)
		wantQc(t, what+" alone", x, api.Qc{View: view}, api.ErrRange)
		wantQc(t, what+" with wrong votes", x, api.Qc{View: view, Block: "b", Votes: []api.Tag{{Who: 9}}}, api.ErrRange)
	}
	for _, view := range []int{1, 2, 127, 128, 1 << 32, api.MaxInt - 1, api.MaxInt} {
		wantQc(t, "view "+strconv.Itoa(view), x, qc(t, x, view, digest(1), 0, 1, 2), api.OK)
		wantQc(t, "the first block's id in view "+strconv.Itoa(view), x, qc(t, x, view, block.Genesis(), 0, 2, 3), api.OK)
	}
}

// 8.1: with the View 0 a Qc is of the first block, and without votes.
func TestFirstQc(t *testing.T) {
	for f := 1; f <= api.MaxF; f++ {
		x := table(t, f, "seed")
		wantQc(t, "the first one", x, genesis(), api.OK)
		wantQc(t, "with no votes in a list", x, api.Qc{Block: block.Genesis(), Votes: []api.Tag{}}, api.OK)
		for _, id := range []string{"", digest(1), strings.Repeat("\xff", 32), strings.Repeat("\x00", 31), strings.Repeat("\x00", 33), "\x01" + digest(0)[1:]} {
			wantQc(t, strconv.QuoteToASCII(id), x, api.Qc{Block: id}, api.ErrField)
			wantQc(t, strconv.QuoteToASCII(id)+" with votes", x, qc(t, x, 0, id, first(x.N())...), api.ErrField)
		}
		for n := 1; n <= x.N(); n++ {
			wantQc(t, strconv.Itoa(n)+" votes", x, qc(t, x, 0, block.Genesis(), first(n)...), api.ErrField)
		}
		wantQc(t, "a wrong vote", x, api.Qc{Block: block.Genesis(), Votes: []api.Tag{{Who: 99}}}, api.ErrField)
	}
}

// 8.1: a Qc's Block has 32 bytes; that is told ahead of what is wrong with the votes.
func TestQcBlock(t *testing.T) {
	x := table(t, 1, "seed")
	for _, size := range sizes {
		id := strings.Repeat("i", size)
		what := strconv.Itoa(size) + " bytes"
		wantQc(t, what, x, qc(t, x, 1, id, 0, 1, 2), api.ErrField)
		wantQc(t, what+" without votes", x, api.Qc{View: 1, Block: id}, api.ErrField)
		wantQc(t, what+" and a stranger's vote", x, api.Qc{View: 1, Block: id, Votes: []api.Tag{{Who: 4}}}, api.ErrField)
	}
}

// wrongVotes are lists that are not enough for a block of a view, by their errors.
func wrongVotes(t *testing.T, x *auth.Table, view int, id string) map[api.Errno][][]api.Tag {
	t.Helper()
	word, all := wire.Int(int64(view))+id, first(x.N())
	votes := tags(t, x, "agree", word, all...)
	m := map[api.Errno][][]api.Tag{
		api.ErrRange: {append(slices.Clone(votes), api.Tag{Who: x.N(), Mac: votes[0].Mac}), append([]api.Tag{{Who: -1}}, votes...)},
		api.ErrOrder: {append(slices.Clone(votes), votes[0]), append(votes[:1:1], votes...), {votes[2], votes[1], votes[0]}},
		api.ErrTag: {
			tags(t, x, "vote", word, all...),
			tags(t, x, "ack", word, all...),
			tags(t, x, "", word, all...),
			tags(t, x, "Agree", word, all...),
			tags(t, x, "agree", id, all...),
			tags(t, x, "agree", id+wire.Int(int64(view)), all...),
			tags(t, x, "agree", wire.Int(int64(view))+wire.Text(id), all...),
			tags(t, x, "agree", wire.Int(int64(view)+1)+id, all...),
			tags(t, x, "agree", wire.Int(int64(view))+digest(200), all...),
			tags(t, x, "agree", word+"\x00", all...),
			tags(t, x, "agree", "", all...),
			tags(t, table(t, 2, "other"), "agree", word, all...),
			make([]api.Tag, x.N()),
		},
		api.ErrFew: {nil, {}, votes[:1], votes[:x.Need()-1], votes[x.N()-x.Need()+1:]},
	}
	for at := range all {
		l := slices.Clone(votes)
		l[at].Mac = string([]byte{l[at].Mac[0] ^ 1}) + l[at].Mac[1:]
		m[api.ErrTag] = append(m[api.ErrTag], l)
	}
	for e, lists := range m {
		for _, l := range lists {
			if got := x.Enough(l, "agree", word); got != e {
				t.Fatalf("Enough of %v: error %d, want %d", l, got, e)
			}
		}
	}
	return m
}

// 8.1: Enough's error of a Qc's votes, of the kind agree and of the word of its view and block; a block has that error, too.
func TestWrongVotes(t *testing.T) {
	for f := 1; f <= api.MaxF; f++ {
		x := table(t, f, "seed")
		for _, view := range []int{1, 300} {
			for e, lists := range wrongVotes(t, x, view, digest(5)) {
				for i, l := range lists {
					q := api.Qc{View: view, Block: digest(5), Votes: l}
					what := "list " + strconv.Itoa(i)
					wantQc(t, what, x, q, e)
					want(t, what, x, api.Block{View: view + 1, Qc: q}, e)
				}
			}
		}
		for n := x.Need(); n <= x.N(); n++ {
			for _, whos := range [][]int{first(n), first(x.N())[x.N()-n:]} {
				wantRight(t, strconv.Itoa(n)+" votes", x, api.Block{View: 2, Qc: qc(t, x, 1, digest(5), whos...)})
			}
		}
	}
	five := qc(t, table(t, 2, "seed"), 1, digest(5), 0, 1, 2, 3, 4)
	wantQc(t, "five of seven, of four", table(t, 1, "seed"), five, api.ErrRange)
	wantQc(t, "of another seed", table(t, 2, "see"), five, api.ErrTag)
	five.Votes = five.Votes[:3]
	wantQc(t, "three of seven", table(t, 2, "seed"), five, api.ErrFew)
	wantQc(t, "three of four", table(t, 1, "seed"), five, api.OK)
}

// 8.1: a block's View is from 1 to MaxInt, and above its Qc's.
func TestViews(t *testing.T) {
	x := table(t, 1, "seed")
	for _, view := range []int{0, -1, -2, math.MinInt, api.MaxInt + 1, math.MaxInt} {
		b := some(t, x)
		b.View = view
		what := "view " + strconv.Itoa(view)
		want(t, what, x, b, api.ErrRange)
		want(t, what+" upon the first one", x, api.Block{View: view, Qc: genesis()}, api.ErrRange)
		want(t, what+" alone", x, api.Block{View: view}, api.ErrRange)
	}
	views := []int{1, 2, 3, 127, 128, 129, 1 << 32, 1<<32 + 1, api.MaxInt - 1, api.MaxInt}
	for _, below := range append([]int{0}, views...) {
		q := genesis()
		if below > 0 {
			q = qc(t, x, below, digest(5), 0, 1, 2)
		}
		for _, view := range views {
			b := api.Block{View: view, Qc: q, Certs: marked(2)}
			what := "view " + strconv.Itoa(view) + " upon " + strconv.Itoa(below)
			if below < view {
				wantRight(t, what, x, b)
			} else {
				want(t, what, x, b, api.ErrOrder)
			}
		}
	}
}

// 8.1: how many Certs there may be; too many are told ahead of what they are.
func TestCertCounts(t *testing.T) {
	x := table(t, 1, "seed")
	for n := range 20 {
		b := some(t, x)
		b.Certs = marked(n)
		what := strconv.Itoa(n) + " certs"
		if n <= 8 {
			wantRight(t, what, x, b)
			continue
		}
		want(t, what, x, b, api.ErrLong)
		b.Certs = make([]string, n)
		want(t, what+" that are none", x, b, api.ErrLong)
		b.Certs = slices.Repeat(marked(1), n)
		want(t, what+" alike", x, b, api.ErrLong)
	}
}

// 8.1: each of the Certs is a mark, wherever it stands.
func TestCertsAreMarks(t *testing.T) {
	x := table(t, 1, "seed")
	for _, s := range wrongMarks() {
		for at := range 8 {
			b := some(t, x)
			b.Certs = marked(8)
			b.Certs[at] = s
			want(t, strconv.Itoa(len(s))+" bytes at "+strconv.Itoa(at), x, b, api.ErrField)
		}
	}
	for _, round := range []int{1, 255, 1 << 61, api.MaxInt} {
		b := some(t, x)
		b.Certs = []string{block.Mark(round, digest(1))}
		wantRight(t, "round "+strconv.Itoa(round), x, b)
	}
}

// 8.1: no two of the Certs are alike; those of one id in two rounds, or of one round, are not, and their order is free.
func TestCertsAreDifferent(t *testing.T) {
	x := table(t, 1, "seed")
	for i := range 8 {
		for k := range i {
			b := some(t, x)
			b.Certs = marked(8)
			b.Certs[i] = b.Certs[k]
			want(t, strconv.Itoa(k)+" again at "+strconv.Itoa(i), x, b, api.ErrTwice)
		}
	}
	for what, l := range map[string][]string{
		"one id":         {block.Mark(1, digest(1)), block.Mark(2, digest(1)), block.Mark(257, digest(1))},
		"one round":      {block.Mark(3, digest(1)), block.Mark(3, digest(2)), block.Mark(3, "\x80"+digest(1)[1:])},
		"falling":        {block.Mark(9, digest(9)), block.Mark(5, digest(5)), block.Mark(1, digest(1))},
		"the last byte":  {block.Mark(1, digest(254)), block.Mark(1, digest(255))},
		"the first one":  {block.Mark(1<<56, digest(0)), block.Mark(1<<57, digest(0))},
		"the first id's": {block.Mark(1, block.Genesis())},
	} {
		b := some(t, x)
		b.Certs = l
		wantRight(t, what, x, b)
	}
}

// plainCheck is the chapter's words on Check, one by one.
func plainCheck(x *auth.Table, b api.Block) api.Errno {
	if b.View < 1 || b.View > 1<<62-1 {
		return api.ErrRange
	}
	if e := plainCheckQc(x, b.Qc); e != api.OK {
		return e
	}
	if b.Qc.View >= b.View {
		return api.ErrOrder
	}
	if len(b.Certs) > 8 {
		return api.ErrLong
	}
	for i, c := range b.Certs {
		if len(c) != 40 || c[0] >= 0x40 || c[:8] == strings.Repeat("\x00", 8) {
			return api.ErrField
		}
		if slices.Contains(b.Certs[:i], c) {
			return api.ErrTwice
		}
	}
	return api.OK
}

// plainCheckQc is the chapter's words on CheckQc, one by one.
func plainCheckQc(x *auth.Table, q api.Qc) api.Errno {
	switch {
	case q.View < 0 || q.View > 1<<62-1:
		return api.ErrRange
	case q.View == 0 && (q.Block != strings.Repeat("\x00", 32) || len(q.Votes) != 0):
		return api.ErrField
	case q.View == 0:
		return api.OK
	case len(q.Block) != 32:
		return api.ErrField
	}
	return x.Enough(q.Votes, "agree", wire.Int(int64(q.View))+q.Block)
}

// 8.1: all lists of up to five Certs, of which some are none, in blocks of which some have another fault: the error that comes first.
func TestCheckAll(t *testing.T) {
	x := table(t, 1, "seed")
	m := marked(2)
	counts := map[api.Errno]int{}
	qcs := []api.Qc{genesis(), qc(t, x, 2, digest(5), 0, 1, 2), qc(t, x, 2, digest(5), 0, 1), qc(t, x, 2, "short", 0, 1, 2), qc(t, x, 3, digest(5), 1, 2, 3), qc(t, x, -1, digest(5), 0, 1, 2), {}}
	choice := []string{m[0], m[1], "\x01" + m[0][1:], "", m[0][1:], digest(0)[:8] + digest(1)}
	eachList(choice, 4, func(l []string) {
		for _, q := range qcs {
			for _, view := range []int{3, 2, 0} {
				for _, certs := range [][]string{l, append(slices.Clone(l), marked(7)[2:]...)} {
					b := api.Block{View: view, Qc: q, Certs: certs}
					e := plainCheck(x, b)
					counts[e]++
					want(t, "a list", x, b, e)
				}
			}
		}
	})
	for _, e := range []api.Errno{api.OK, api.ErrRange, api.ErrField, api.ErrFew, api.ErrOrder, api.ErrLong, api.ErrTwice} {
		if counts[e] == 0 {
			t.Errorf("no block has error %d", e)
		}
	}
}

// 8.1: of any two faults the one that the chapter names first is told.
func TestCheckOrder(t *testing.T) {
	x := table(t, 1, "seed")
	faults := []struct {
		e      api.Errno
		change func(b *api.Block)
	}{
		{api.ErrRange, func(b *api.Block) { b.View = -1 }},
		{api.ErrRange, func(b *api.Block) { b.Qc.View = api.MaxInt + 1 }},
		{api.ErrField, func(b *api.Block) { b.Qc.Block += "x" }},
		{api.ErrTag, func(b *api.Block) { b.Qc.Votes = tags(t, x, "vote", block.Word(b.Qc.View, b.Qc.Block), 0, 1, 2) }},
		{api.ErrFew, func(b *api.Block) { b.Qc.Votes = b.Qc.Votes[:2] }},
		{api.ErrOrder, func(b *api.Block) { b.View = b.Qc.View }},
		{api.ErrLong, func(b *api.Block) { b.Certs = append(b.Certs, marked(8)[4:]...) }},
		{api.ErrField, func(b *api.Block) { b.Certs[1] = "short" }},
		{api.ErrTwice, func(b *api.Block) { b.Certs[2] = b.Certs[0] }},
		{api.ErrField, func(b *api.Block) { b.Certs[3] = "" }},
	}
	for i, one := range faults {
		for k, later := range faults[i:] {
			b := some(t, x)
			b.Certs = marked(5)
			later.change(&b)
			if k > 0 {
				one.change(&b)
			}
			want(t, strconv.Itoa(i)+" and "+strconv.Itoa(i+k), x, b, one.e)
		}
	}
	b := some(t, x)
	b.Certs = []string{"short", "short"}
	want(t, "what is no mark, twice", x, b, api.ErrField)
	b.Certs = []string{marked(1)[0], marked(1)[0], "short"}
	want(t, "twice ahead of what is no mark", x, b, api.ErrTwice)
	b.Certs = []string{marked(1)[0], "short", marked(1)[0]}
	want(t, "twice behind what is no mark", x, b, api.ErrField)
}

// 8.1: a mark that stood in another block did not stand in this one.
func TestCheckKeepsNothing(t *testing.T) {
	x := table(t, 1, "seed")
	for range 3 {
		want(t, "again", x, some(t, x), api.OK)
	}
}

// R4: what is handed in stays as it was, with the room behind the lists' ends.
func TestHandedIn(t *testing.T) {
	x := table(t, 1, "seed")
	certs, votes := marked(9), make([]api.Tag, 9)
	copy(votes, some(t, x).Qc.Votes)
	spare := slices.Clone(votes)
	b := some(t, x)
	b.Certs, b.Qc.Votes = certs[:3], votes[:3]
	wantRight(t, "a part", x, b)
	block.Id(b)
	if !slices.Equal(certs, marked(9)) || !slices.Equal(votes, spare) || !same(b, some(t, x)) {
		t.Errorf("what was handed in has changed: %v, %v", certs, votes)
	}
}
