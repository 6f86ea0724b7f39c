package node_test

import (
	"slices"
	"strings"
	"testing"

	"tusk/api"
	"tusk/block"
	"tusk/header"
	"tusk/msg"
	"tusk/wire"
)

// 24.2: from whom, and what, is no message (the tenth example of the whole).
func TestRecvDropped(t *testing.T) {
	l := newLab(t, 2)
	good := encoded(t, batchMsg(someBatch(1, 1)))
	for _, from := range []int{-1 << 63, -1, 4, 7, 1<<63 - 1, 2} {
		l.dropsText(from, good, "from nobody, or self")
	}
	for _, s := range []string{"", "x", "\x00", "\x0c", good[:len(good)-1], good + "\x00", strings.Repeat("\xff", 100), strings.Repeat("\x01", 1<<20)} {
		l.dropsText(1, s, "no message")
		l.dropsText(-1, s, "no message from nobody")
	}
	l.is(l.takes(1, batchMsg(someBatch(1, 1))), "a batch", sent{1, api.Msg{Kind: api.MAck, Digest: digestOf(someBatch(1, 1)), Tag: l.tag(2, header.Ack, digestOf(someBatch(1, 1)))}})
}

// 24.2: MBatch of its author.
func TestBatchOfAuthor(t *testing.T) {
	l := newLab(t, 2)
	b := someBatch(1, 1)
	d := digestOf(b)
	ack := sent{1, api.Msg{Kind: api.MAck, Digest: d, Tag: l.tag(2, header.Ack, d)}}
	l.drops(3, ask(api.MAskBatch, d), "asked for what is not there")
	l.is(l.takes(1, batchMsg(b)), "a batch", ack)
	l.is(l.takes(1, batchMsg(b)), "the batch again", ack)
	l.is(l.takes(3, ask(api.MAskBatch, d)), "asked for it", sent{3, batchMsg(b)})
	l.drops(3, batchMsg(b), "the batch from another")
	l.drops(3, batchMsg(someBatch(1, 2)), "a batch of another's")
	l.drops(1, batchMsg(someBatch(2, 1)), "a batch of self's")
	l.drops(3, batchMsg(someBatch(6, 1)), "a batch of nobody's")
}

// 24.2: there is room for 256 batches; one that is there already is acked all the same.
func TestBatchesFull(t *testing.T) {
	c := config()
	c.Retry = 3
	l := newLabOf(t, 2, c)
	for number := 1; number <= 256; number++ {
		if got := l.takes(1, batchMsg(someBatch(1, number))); len(got) != 1 {
			t.Fatalf("batch %d: put out %v", number, got)
		}
	}
	l.drops(1, batchMsg(someBatch(1, 257)), "the batch behind 256")
	l.drops(3, batchMsg(someBatch(3, 1)), "one of another's")
	l.drops(3, ask(api.MAskBatch, digestOf(someBatch(1, 257))), "asked for it")
	if got := kinds(l.takes(1, batchMsg(someBatch(1, 1)))); !slices.Equal(got, []int{api.MAck}) {
		t.Errorf("the first once more: %v", got)
	}

	// 24.4: one of its own is sent all the same, and once more; but it is not in.
	if e := l.n.Submit(pay("a", "b", 1, 0)); e != api.OK {
		t.Fatal(e)
	}
	own := of(api.MBatch, l.tick())
	l.is(own, "its own", l.toAll(own[0].m)...)
	d := digestOf(own[0].m.Batch)
	l.drops(3, ask(api.MAskBatch, d), "asked for its own")
	l.tick()
	l.is(of(api.MBatch, l.tick()), "its own once more", own...)
	l.takes(1, api.Msg{Kind: api.MAck, Digest: d, Tag: l.tag(1, header.Ack, d)})
	l.takes(3, api.Msg{Kind: api.MAck, Digest: d, Tag: l.tag(3, header.Ack, d)})
	for range 4 {
		if got := of(api.MBatch, l.tick()); len(got) > 0 {
			t.Errorf("its own once more, though enough have it: %v", got)
		}
	}
}

// 24.2: MBatch that is wanted, from whoever has it.
func TestBatchWanted(t *testing.T) {
	l := newLab(t, 3)
	b, never := someBatch(1, 1), someBatch(1, 2)
	lineUp(l, b)
	v := l.n.Tell()
	if !slices.Equal(v.Line, []string{digestOf(b)}) || v.Done != 0 {
		t.Fatalf("tells %+v", v)
	}
	l.drops(2, batchMsg(never), "another batch")
	if got := l.takes(2, batchMsg(b)); len(got) > 0 {
		t.Errorf("put out %v for what was wanted", got)
	}
	if v := l.n.Tell(); v.Done != 1 || !slices.Equal(v.Results, []int{api.RDone}) {
		t.Errorf("tells %+v", v)
	}
	l.is(l.takes(0, ask(api.MAskBatch, digestOf(b))), "asked for it", sent{0, batchMsg(b)})
	// It is wanted no more: neither asked for, nor taken from another.
	l.drops(2, batchMsg(b), "the batch again")
	for range 8 {
		if got := asks(l.tick()); len(got) > 0 {
			t.Errorf("asks %v", got)
		}
	}
}

// 24.2: MBatch that is wanted, from its author: it is acked, too, and wanted no more.
func TestBatchWantedOfAuthor(t *testing.T) {
	l := newLab(t, 3)
	b := someBatch(1, 1)
	lineUp(l, b)
	if got := kinds(l.takes(1, batchMsg(b))); !slices.Equal(got, []int{api.MAck}) {
		t.Errorf("put out %v", got)
	}
	if v := l.n.Tell(); v.Done != 1 {
		t.Errorf("tells %+v", v)
	}
	l.drops(2, batchMsg(b), "the batch from another")
	if got := asks(l.tick()); len(got) > 0 {
		t.Errorf("asks %v", got)
	}
}

// lineUp brings it to commit a certificate with batches, in the rounds 1 and of blocks up to the view 3.
func lineUp(l *lab, batches ...api.Batch) {
	l.t.Helper()
	h := api.Header{Author: 0, Round: 1}
	for _, b := range batches {
		h.Refs = append(h.Refs, l.ref(digestOf(b)))
	}
	slices.SortFunc(h.Refs, func(a, b api.Ref) int { return strings.Compare(a.Digest, b.Digest) })
	l.takes((l.self+1)%4, api.Msg{Kind: api.MCert, Cert: l.cert(h)})
	l.commitThree(block.Mark(1, header.Id(h)))
}

// commitThree brings it to commit a block of the view 1 that carries marks, by the Qc of a block of the view 3.
func (l *lab) commitThree(marks ...string) {
	l.t.Helper()
	made := l.blocks(3, marks...)
	from := (l.self + 1) % 4
	for _, b := range made {
		l.takes(from, l.propose(b))
	}
	l.takes(from, l.newView(from, 4, l.qc(made[2])))
	if v := l.n.Tell(); !slices.Equal(v.Blocks, []string{block.Id(made[0])}) {
		l.t.Fatalf("has committed %q", v.Blocks)
	}
}

// 24.2: MAck.
func TestAck(t *testing.T) {
	l := newLab(t, 0)
	l.tick() // the header of the round 1
	if e := l.n.Submit(pay("a", "b", 1, 0)); e != api.OK {
		t.Fatal(e)
	}
	d := digestOf(of(api.MBatch, l.tick())[0].m.Batch)
	ack := func(who int) api.Msg {
		return api.Msg{Kind: api.MAck, Digest: d, Tag: l.tag(who, header.Ack, d)}
	}
	wrong := ack(1)
	wrong.Tag = l.tag(1, header.Vote, d)
	unknown := api.Msg{Kind: api.MAck, Digest: text32("x"), Tag: l.tag(1, header.Ack, text32("x"))}
	l.drops(2, ack(1), "one of another")
	l.drops(1, ack(0), "one of self")
	l.drops(1, wrong, "a wrong tag")
	l.drops(1, unknown, "of an unknown batch")
	l.is(l.takes(1, ack(1)), "the first")
	l.drops(1, ack(1), "one again")
	l.is(l.takes(3, ack(3)), "the second")
	l.drops(2, ack(2), "one that is too late")

	// 24.4: what is ready is in the next header, with the tags of enough.
	ids := l.giveRound(1, nil, 1, 2, 3)
	got := of(api.MHeader, l.tick())
	h := api.Header{Author: 0, Round: 2, Parents: ids, Refs: []api.Ref{{Digest: d, Acks: []api.Tag{l.tag(0, header.Ack, d), l.tag(1, header.Ack, d), l.tag(3, header.Ack, d)}}}}
	l.is(got, "the header", l.toAll(api.Msg{Kind: api.MHeader, Header: h})...)
}

func headerMsg(h api.Header) api.Msg { return api.Msg{Kind: api.MHeader, Header: h} }

func (l *lab) voteFor(who int, h api.Header) api.Msg {
	id := header.Id(h)
	return api.Msg{Kind: api.MVote, Digest: id, Tag: l.tag(who, header.Vote, id)}
}

// 24.2: MHeader of which nothing is missing.
func TestHeader(t *testing.T) {
	l := newLab(t, 0)
	h := api.Header{Author: 1, Round: 1}
	other := api.Header{Author: 1, Round: 1, Refs: []api.Ref{l.ref(text32("d"))}}
	l.drops(2, headerMsg(h), "one of another")
	l.drops(3, headerMsg(api.Header{Author: 0, Round: 1}), "one of self")
	l.is(l.takes(1, headerMsg(h)), "a header", sent{1, l.voteFor(0, h)})
	l.is(l.takes(1, headerMsg(h)), "the header again", sent{1, l.voteFor(0, h)})
	// The third example of the whole.
	l.drops(1, headerMsg(other), "another one of the round")
	l.drops(2, headerMsg(api.Header{Author: 2, Round: 0}), "of no round")
	few := api.Header{Author: 2, Round: 1, Refs: []api.Ref{{Digest: text32("d"), Acks: []api.Tag{l.tag(1, header.Ack, text32("d"))}}}}
	l.drops(2, headerMsg(few), "with too few Acks")
	ids := l.giveRound(1, nil, 0, 1, 2)
	l.drops(2, headerMsg(api.Header{Author: 2, Round: 2, Parents: ids[:2]}), "with too few parents")
	l.drops(2, headerMsg(api.Header{Author: 2, Round: 3, Parents: ids}), "with parents of another round")
	second := api.Header{Author: 2, Round: 2, Parents: ids}
	l.is(l.takes(2, headerMsg(second)), "upon the round 1", sent{2, l.voteFor(0, second)})
}

// 24.2: MHeader of which something is missing waits, the last one of each author.
func TestHeaderWaits(t *testing.T) {
	l := newLab(t, 0)
	var certs []api.Cert
	var ids []string
	for author := range 4 {
		c := l.cert(api.Header{Author: author, Round: 1})
		certs, ids = append(certs, c), append(ids, header.Id(c.Header))
	}
	upon := func(author int, of ...int) api.Header {
		h := api.Header{Author: author, Round: 2}
		for _, i := range of {
			h.Parents = append(h.Parents, ids[i])
		}
		slices.Sort(h.Parents)
		return h
	}
	l.takes(3, api.Msg{Kind: api.MCert, Cert: certs[0]})
	first, second, third, never := upon(3, 0, 1, 2), upon(1, 0, 1, 2), upon(2, 1, 2, 3), upon(3, 0, 1, 3)
	l.is(l.takes(3, headerMsg(never)), "a header that waits")
	l.is(l.takes(3, headerMsg(first)), "another one of its author")
	l.is(l.takes(1, headerMsg(second)), "one of another author")
	l.is(l.takes(2, headerMsg(third)), "a third one")

	// Each of the missing is wanted of whom the first one is from that misses it, in the order of their ids.
	want := func(of int, missing ...int) []sent {
		var asked []sent
		for _, i := range missing {
			asked = append(asked, sent{of, ask(api.MAskCert, ids[i])})
		}
		slices.SortFunc(asked, func(a, b sent) int { return strings.Compare(a.m.Digest, b.m.Digest) })
		return asked
	}
	l.is(asks(l.tick()), "asks", append(want(3, 1, 3), sent{3, ask(api.MAskCert, ids[2])})...)

	l.is(l.takes(1, api.Msg{Kind: api.MCert, Cert: certs[1]}), "a certificate that is not enough")
	// The waiting ones are voted for by their authors rising.
	l.is(l.takes(1, api.Msg{Kind: api.MCert, Cert: certs[2]}), "the last that was missing", sent{1, l.voteFor(0, second)}, sent{3, l.voteFor(0, first)})
	l.is(l.takes(1, api.Msg{Kind: api.MCert, Cert: certs[3]}), "the last of the third", sent{2, l.voteFor(0, third)})
	if got := asks(l.tick()); len(got) > 0 {
		t.Errorf("asks %v", got)
	}
}

// 24.2: a header that waits, and is not right, is dropped when it comes to its vote.
func TestHeaderWaitsInVain(t *testing.T) {
	l := newLab(t, 0)
	c := l.cert(api.Header{Author: 1, Round: 1})
	h := api.Header{Author: 3, Round: 2, Parents: []string{header.Id(c.Header)}}
	l.is(l.takes(3, headerMsg(h)), "a header with one parent")
	before := l.n.Tell().Drops
	l.is(l.recv(1, api.Msg{Kind: api.MCert, Cert: c}), "its parent")
	if d := l.n.Tell().Drops - before; d != 1 {
		t.Errorf("%d drops", d)
	}
	// It waits no more: the next certificate drops nothing.
	l.giveRound(1, nil, 2)
}

// 24.2: MVote; of enough a certificate is made, which comes and is sent.
func TestVote(t *testing.T) {
	l := newLab(t, 0)
	h := api.Header{Author: 0, Round: 1}
	l.drops(1, l.voteFor(1, h), "a vote ahead of the header")
	l.is(of(api.MHeader, l.tick()), "the header", l.toAll(headerMsg(h))...)
	wrong := l.voteFor(1, h)
	wrong.Tag = l.tag(1, header.Ack, header.Id(h))
	l.drops(2, l.voteFor(1, h), "a vote of another")
	l.drops(1, l.voteFor(0, h), "a vote of self")
	l.drops(1, wrong, "a wrong tag")
	l.drops(1, l.voteFor(1, api.Header{Author: 0, Round: 2}), "for an unknown header")
	l.drops(1, l.voteFor(1, api.Header{Author: 1, Round: 1}), "for another's header")
	l.is(l.takes(3, l.voteFor(3, h)), "the second vote, self's being the first")
	l.drops(3, l.voteFor(3, h), "the vote again")
	l.drops(3, ask(api.MAskCert, header.Id(h)), "asked for a certificate that is not there")
	c := api.Cert{Header: h, Votes: []api.Tag{l.tag(0, header.Vote, header.Id(h)), l.tag(1, header.Vote, header.Id(h)), l.tag(3, header.Vote, header.Id(h))}}
	l.is(l.takes(1, l.voteFor(1, h)), "the third vote", l.toAll(api.Msg{Kind: api.MCert, Cert: c})...)
	l.drops(2, l.voteFor(2, h), "a vote that is too late")
	l.is(l.takes(3, ask(api.MAskCert, header.Id(h))), "asked for the certificate", sent{3, api.Msg{Kind: api.MCert, Cert: c}})
	l.giveRound(1, nil, 1, 2)
	if r := l.n.Tell().Round; r != 1 {
		t.Errorf("the round is %d", r)
	}
}

// 24.2: what its own certificate brings about is put out ahead of it.
func TestOwnCertComesFirst(t *testing.T) {
	l := newLab(t, 0)
	l.tick()
	own := api.Header{Author: 0, Round: 1}
	ids := append(l.giveRound(1, nil, 1, 2), header.Id(own))
	slices.Sort(ids)
	waits := api.Header{Author: 3, Round: 2, Parents: ids}
	l.is(l.takes(3, headerMsg(waits)), "a header upon the own one")
	l.takes(1, l.voteFor(1, own))
	got := l.takes(2, l.voteFor(2, own))
	if k := kinds(got); !slices.Equal(k, []int{api.MVote, api.MCert}) || !sameMsg(got[0], sent{3, l.voteFor(0, waits)}) {
		t.Errorf("put out %v", got)
	}
}

// 24.2: MPropose is dropped, where the tag is not the leader's, or the block is not right; it may be from anybody.
func TestPropose(t *testing.T) {
	l := newLab(t, 0)
	b := api.Block{View: 1, Qc: firstQc()}
	by := func(who int, b api.Block) api.Msg {
		return api.Msg{Kind: api.MPropose, Block: b, Tag: l.tag(who, msg.Propose, block.Id(b))}
	}
	l.drops(2, by(2, b), "of one who does not lead")
	wrong := by(1, b)
	wrong.Tag.Who = 5
	l.drops(1, wrong, "of nobody")
	wrong = by(1, b)
	wrong.Tag = l.tag(1, block.Agree, block.Id(b))
	l.drops(1, wrong, "with a wrong tag")
	wrong.Tag = l.tag(1, msg.Propose, text32("x"))
	l.drops(1, wrong, "with another block's tag")
	l.drops(1, by(0, api.Block{View: 0, Qc: firstQc()}), "of no view")
	l.drops(1, by(2, api.Block{View: 2, Qc: api.Qc{View: 2, Block: block.Id(b), Votes: l.tags(block.Agree, block.Word(2, block.Id(b)))}}), "upon its own view")
	few := l.qc(b)
	few.Votes = few.Votes[:2]
	l.drops(1, by(2, api.Block{View: 2, Qc: few}), "with a Qc of too few")
	mark := block.Mark(1, text32("i"))
	l.drops(1, by(1, api.Block{View: 1, Qc: firstQc(), Certs: []string{mark, mark}}), "with a mark twice")

	l.is(l.takes(3, by(1, b)), "from another one", l.toAll(l.agree(0, b))...)
	l.is(l.takes(3, ask(api.MAskBlock, block.Id(b))), "asked for it", sent{3, by(1, b)})
	l.drops(3, by(1, b), "once more")
	l.drops(3, ask(api.MAskBlock, text32("x")), "asked for another one")
}

// 24.2: MAgree; of enough a Qc is made, which comes.
func TestAgree(t *testing.T) {
	l := newLab(t, 0)
	made := l.blocks(2)
	l.drops(1, l.agree(1, made[0]), "ahead of the block")
	l.takes(1, l.propose(made[0]))
	wrong := l.agree(1, made[0])
	wrong.Tag = l.tag(1, header.Vote, block.Word(1, block.Id(made[0])))
	l.drops(2, l.agree(1, made[0]), "of another")
	l.drops(1, l.agree(0, made[0]), "of self")
	l.drops(1, wrong, "with a wrong tag")
	other := l.agree(1, made[0])
	other.View, other.Tag = 2, l.tag(1, block.Agree, block.Word(2, block.Id(made[0])))
	l.drops(1, other, "of another view than the block's")
	other = api.Msg{Kind: api.MAgree, View: 0, Digest: block.Genesis(), Tag: l.tag(1, block.Agree, block.Word(0, block.Genesis()))}
	l.drops(1, other, "for the first block")

	l.is(l.takes(1, l.agree(1, made[0])), "the second, self's being the first")
	l.drops(1, l.agree(1, made[0]), "once more")
	if v := l.n.Tell().View; v != 1 {
		t.Errorf("the view is %d", v)
	}
	l.is(l.takes(3, l.agree(3, made[0])), "the third")
	if v := l.n.Tell().View; v != 2 {
		t.Errorf("the view is %d behind a Qc of 1", v)
	}
	l.drops(2, l.agree(2, made[0]), "too late: High is of that view")

	// The Qc is High: a block upon it is in the pace's view, and a Qc of that one locks the first.
	l.is(l.takes(2, l.propose(made[1])), "the next block", l.toAll(l.agree(0, made[1]))...)
	for who := 1; who < 3; who++ {
		l.takes(who, l.agree(who, made[1]))
	}
	if v := l.n.Tell().View; v != 3 {
		t.Errorf("the view is %d behind a Qc of 2", v)
	}
	third := of(api.MNewView, l.untilNewView())
	if q := third[0].m.Qc; q.View != 2 || len(q.Votes) != 3 || q.Votes[2].Who != 2 {
		t.Errorf("High is %+v", q)
	}
}

// untilNewView ticks until self goes on.
func (l *lab) untilNewView() []sent {
	l.t.Helper()
	for range 100 {
		if got := l.tick(); len(of(api.MNewView, got)) > 0 {
			return got
		}
	}
	l.t.Fatal("does not go on")
	return nil
}

// 24.2: a Qc closes the words of lesser views, and of its own, not those of greater ones.
func TestAgreeCloses(t *testing.T) {
	l := newLab(t, 0)
	made := l.blocks(3)
	side := api.Block{View: 2, Qc: firstQc()}
	for _, b := range append(slices.Clone(made), side) {
		l.takes(1, l.propose(b))
	}
	// Self agreed to all but the side one; one more agrees to each.
	for _, b := range append(slices.Clone(made), side) {
		l.recv(1, l.agree(1, b))
	}
	// High is the Qc of 2, which the block 3 carries.
	l.drops(2, l.agree(2, made[1]), "not above High")
	l.drops(2, l.agree(2, side), "not above High either")
	l.takes(2, l.agree(2, made[2]))
	if v := l.n.Tell(); v.View != 4 || len(v.Blocks) != 1 {
		t.Errorf("tells %+v", v)
	}

}

// 24.2: at most 64 words are open; a Qc, made of agreements, closes those of its view and of lesser ones.
func TestAgreedFull(t *testing.T) {
	for _, enough := range []int{0, 30} {
		l := newLab(t, 0)
		made := l.blocks(64 + enough + 1)
		for i, b := range made[:64+enough] {
			l.is(l.takes(1, l.propose(b)), "a block", l.toAll(l.agree(0, b))...)
			if i+1 != enough {
				continue
			}
			side := api.Block{View: b.View, Qc: made[i-1].Qc}
			l.is(l.takes(1, l.propose(side)), "another block of that view")
			l.takes(1, l.agree(1, side))
			for who := 1; who < 3; who++ {
				l.takes(who, l.agree(who, b))
			}
		}
		// Self's own agreement finds no room, and is dropped; it is sent all the same.
		before := l.n.Tell().Drops
		last := made[64+enough]
		l.is(l.recv(1, l.propose(last)), "a block more", l.toAll(l.agree(0, last))...)
		if d := l.n.Tell().Drops - before; d != 1 {
			t.Errorf("with enough for %d: %d drops", enough, d)
		}
		l.drops(1, l.agree(1, last), "another's agreement")
	}
}

// 24.2: MNewView.
func TestNewView(t *testing.T) {
	l := newLab(t, 0)
	made := l.blocks(1)
	q := l.qc(made[0])
	l.drops(2, l.newView(1, 3, q), "of another")
	l.drops(1, l.newView(0, 3, q), "of self")
	wrong := l.newView(1, 3, q)
	wrong.View = 4
	l.drops(1, wrong, "with another view's tag")
	wrong = l.newView(1, 3, q)
	wrong.Qc = firstQc()
	l.drops(1, wrong, "with another Qc's tag")
	wrong.Tag = l.tag(1, "agree", wire.Int(3)+block.EncodeQc(firstQc()))
	l.drops(1, wrong, "with a tag of another kind")
	few := l.qc(made[0])
	few.Votes = few.Votes[:2]
	l.drops(1, l.newView(1, 3, few), "with a Qc of too few")
	l.drops(1, l.newView(1, 1, q), "not above its Qc")
	l.drops(1, l.newView(1, 0, firstQc()), "of the view 0")

	l.is(l.takes(1, l.newView(1, 5, firstQc())), "one came")
	l.is(l.takes(1, l.newView(1, 5, firstQc())), "the same one again")
	l.is(l.takes(1, l.newView(1, 3, firstQc())), "the same one, to a lesser view")
	if v := l.n.Tell().View; v != 1 {
		t.Errorf("the view is %d", v)
	}
	// f + 1 came to 4, as one of them came to 5: self goes on to 4, and not further.
	l.is(l.takes(3, l.newView(3, 4, firstQc())), "another one came", l.toAll(l.newView(0, 4, firstQc()))...)
	if v := l.n.Tell().View; v != 4 {
		t.Errorf("the view is %d", v)
	}
	l.is(l.takes(2, l.newView(2, 4, firstQc())), "the third one: the view is not above the pace's")
	l.is(l.takes(2, l.newView(2, 3, firstQc())), "a lesser one")
	// Self is one of those who came.
	l.is(l.takes(3, l.newView(3, 5, firstQc())), "another one came to 5", l.toAll(l.newView(0, 5, firstQc()))...)
	// What was skipped is not voted for.
	if got := of(api.MAgree, l.takes(1, l.propose(api.Block{View: 4, Qc: firstQc()}))); len(got) > 0 {
		t.Errorf("votes for a block of a view that is over")
	}
	b := api.Block{View: 5, Qc: firstQc()}
	l.is(l.takes(1, l.propose(b)), "a block of the view", l.toAll(l.agree(0, b))...)
	// The Qc of a MNewView is seen, and High from then on.
	l.is(l.takes(2, l.newView(2, 9, l.qc(b))), "one with a Qc")
	if got := of(api.MNewView, l.untilNewView()); got[0].m.Qc.View != 5 || got[0].m.View != 6 {
		t.Errorf("goes on with %+v", got[0].m)
	}
}

// 24.2: the greatest view there is.
func TestLastView(t *testing.T) {
	l := newLab(t, 0)
	l.takes(1, l.newView(1, api.MaxInt, firstQc()))
	l.is(l.takes(2, l.newView(2, api.MaxInt, firstQc())), "f + 1 came to it", l.toAll(l.newView(0, api.MaxInt, firstQc()))...)
	b := api.Block{View: api.MaxInt, Qc: firstQc()}
	if got := of(api.MAgree, l.takes(1, l.propose(b))); len(got) != 3 {
		t.Errorf("votes %v", got)
	}
	for who := 1; who < 3; who++ {
		l.takes(who, l.agree(who, b))
	}
	for range 100 {
		if got := of(api.MNewView, l.tick()); len(got) > 0 {
			t.Fatalf("goes on: %v", got)
		}
	}
	if v := l.n.Tell().View; v != api.MaxInt {
		t.Errorf("the view is %d", v)
	}
	// Self leads it where MaxInt mod 4 is 3.
	l = newLab(t, 3)
	l.takes(1, l.newView(1, api.MaxInt, firstQc()))
	l.takes(2, l.newView(2, api.MaxInt, firstQc()))
	if got := of(api.MPropose, l.tick()); len(got) != 3 || got[0].m.Block.View != api.MaxInt {
		t.Errorf("proposes %v", got)
	}
}
