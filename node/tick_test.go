package node_test

import (
	"fmt"
	"slices"
	"testing"

	"tusk/api"
	"tusk/block"
	"tusk/header"
	"tusk/msg"
	"tusk/node"
)

func retryConfig(retry int) api.Config {
	c := config()
	c.Retry = retry
	return c
}

// 24.4: the order within a tick.
func TestTickOrder(t *testing.T) {
	c := retryConfig(1)
	c.Cap = 1 // each tick ends a view
	l := newLabOf(t, 2, c)
	if e := l.n.Submit(pay("a", "b", 1, 0)); e != api.OK {
		t.Fatal(e)
	}
	l.is(l.takes(1, headerMsg(api.Header{Author: 1, Round: 2, Parents: []string{text32("n")}})), "a header that waits")
	if k := kinds(l.tick()); !slices.Equal(k, []int{api.MBatch, api.MHeader, api.MNewView, api.MBatch, api.MHeader, api.MAskCert}) {
		t.Errorf("put out %v", k)
	}
	// The wait is one tick longer than that, and three came to the view 2, where it leads.
	l = newLabOf(t, 2, retryConfig(1))
	l.n.Submit(pay("a", "b", 1, 0))
	l.takes(1, headerMsg(api.Header{Author: 1, Round: 2, Parents: []string{text32("n")}}))
	l.takes(0, l.newView(0, 2, firstQc()))
	l.takes(1, l.newView(1, 2, firstQc()))
	if k := kinds(l.tick()); !slices.Equal(k, []int{api.MBatch, api.MHeader, api.MBatch, api.MHeader, api.MAskCert, api.MPropose, api.MAgree}) {
		t.Errorf("put out %v", k)
	}
}

// 24.4: a batch that is sealed is in, and is sent.
func TestTickBatch(t *testing.T) {
	l := newLab(t, 1)
	l.is(of(api.MBatch, l.tick()), "nothing to seal")
	for i := range 2 {
		l.n.Submit(pay("a", "b", 1, uint64(i)))
	}
	for number := 1; number <= 2; number++ {
		b := api.Batch{Author: 1, Number: number, Txs: []api.Tx{pay("a", "b", 1, uint64(number-1))}}
		l.is(of(api.MBatch, l.tick()), "a batch", l.toAll(batchMsg(b))...)
		l.is(l.takes(3, ask(api.MAskBatch, digestOf(b))), "asked for it", sent{3, batchMsg(b)})
	}
	l.is(of(api.MBatch, l.tick()), "nothing more")
}

// 24.4: a header comes when the round does; it has the Refs that are ready, of which at most 4.
func TestTickHeader(t *testing.T) {
	l := newLab(t, 0)
	l.is(of(api.MHeader, l.tick()), "the first", l.toAll(headerMsg(api.Header{Author: 0, Round: 1}))...)
	l.is(of(api.MHeader, l.tick()), "no round more")
	// Six batches become ready, and wait, as there is no header.
	var ready []string
	for i := range 6 {
		l.n.Submit(pay("a", "b", 1, uint64(i)))
		d := digestOf(of(api.MBatch, l.tick())[0].m.Batch)
		for who := 1; who < 3; who++ {
			l.takes(who, api.Msg{Kind: api.MAck, Digest: d, Tag: l.tag(who, header.Ack, d)})
		}
		ready = append(ready, d)
	}
	parents := l.giveRound(1, nil, 1, 2, 3)
	carries := func(digests ...string) {
		t.Helper()
		got := of(api.MHeader, l.tick())
		if len(got) != 3 {
			t.Fatalf("put out %v", got)
		}
		h := got[0].m.Header
		slices.Sort(digests)
		var refs []string
		for _, r := range h.Refs {
			refs = append(refs, r.Digest)
		}
		if !slices.Equal(refs, digests) || !slices.Equal(h.Parents, parents) {
			t.Errorf("round %d: Refs %x, parents %x", h.Round, refs, h.Parents)
		}
	}
	carries(ready[:4]...)
	l.is(of(api.MHeader, l.tick()), "once")
	parents = l.giveRound(2, parents, 1, 2, 3)
	carries(ready[4:]...)
	parents = l.giveRound(3, parents, 1, 2, 3)
	carries()
	// A header is made though the one ahead has no certificate; votes for that are no longer collected.
	l.drops(1, l.voteFor(1, api.Header{Author: 0, Round: 1}), "a vote for a header that was forgotten")
}

// 24.4: every Retry ticks what is its own is sent once more: batches on their way, and the header or its certificate.
func TestRetry(t *testing.T) {
	l := newLabOf(t, 0, retryConfig(3))
	own := api.Header{Author: 0, Round: 1}
	for i := range 3 {
		if e := l.n.Submit(pay("a", "b", 1, uint64(i))); e != api.OK {
			t.Fatal(e)
		}
	}
	var batches []api.Msg
	for tick := 1; tick <= 2; tick++ {
		got := l.tick()
		batches = append(batches, of(api.MBatch, got)[0].m)
		if k := kinds(got); len(k) > 2 || k[0] != api.MBatch {
			t.Errorf("tick %d: %v", tick, k)
		}
	}
	concat := func(l ...[]sent) []sent { return slices.Concat(l...) }
	got := l.tick()
	batches = append(batches, got[0].m)
	want := concat(l.toAll(batches[2]), l.toAll(batches[0]), l.toAll(batches[1]), l.toAll(batches[2]), l.toAll(headerMsg(own)))
	l.is(got, "tick 3", want...)

	// The second is ready, the first has not enough yet; the header has its certificate.
	ack := func(who, i int) {
		d := digestOf(batches[i].Batch)
		l.takes(who, api.Msg{Kind: api.MAck, Digest: d, Tag: l.tag(who, header.Ack, d)})
	}
	ack(1, 0)
	ack(1, 1)
	ack(2, 1)
	l.takes(1, l.voteFor(1, own))
	c := l.takes(2, l.voteFor(2, own))[0].m
	noNewView := func() []sent {
		return slices.DeleteFunc(l.tick(), func(x sent) bool { return x.m.Kind == api.MNewView })
	}
	l.is(noNewView(), "tick 4")
	l.is(noNewView(), "tick 5")
	l.is(noNewView(), "tick 6", concat(l.toAll(batches[0]), l.toAll(batches[2]), l.toAll(c))...)

	// A later header's votes are collected: it is that one that is sent.
	l.giveRound(1, nil, 1, 2)
	second := of(api.MHeader, noNewView())
	if len(second) != 3 || second[0].m.Header.Round != 2 || len(second[0].m.Header.Refs) != 1 {
		t.Fatalf("put out %v", second)
	}
	l.is(noNewView(), "tick 8")
	l.is(noNewView(), "tick 9", concat(l.toAll(batches[0]), l.toAll(batches[2]), second)...)
}

// 24.4: the certificate of the last header is sent no more, once it is let go.
func TestRetryLow(t *testing.T) {
	l := newLabOf(t, 0, retryConfig(2))
	var parents []string
	l.tick()
	own := api.Header{Author: 0, Round: 1}
	l.takes(1, l.voteFor(1, own))
	l.takes(2, l.voteFor(2, own))
	if got := of(api.MCert, l.tick()); len(got) != 3 {
		t.Fatalf("tick 2: %v", got)
	}
	parents = l.giveRound(1, nil, 1, 2, 3)
	for round := 2; round <= 14; round++ {
		parents = l.giveRound(round, parents, 1, 2, 3)
	}
	l.commitThree(block.Mark(14, parents[0]))
	if low := l.n.Tell().Low; low != 2 {
		t.Fatalf("the low is %d", low)
	}
	// Its certificate is below the low now. The next header is that of the round 15.
	got := l.tick()
	if h := of(api.MHeader, got); len(h) != 3 || h[0].m.Header.Round != 15 || len(of(api.MCert, got)) > 0 {
		t.Errorf("tick 3: %v", got)
	}
}

// 24.4: what is wanted is asked for with the kind that it is of, now of the one and now of the other.
func TestAsks(t *testing.T) {
	l := newLabOf(t, 3, retryConfig(2))
	b := someBatch(1, 1)
	lineUp(l, b)
	made := l.blocks(5)
	l.is(l.takes(2, l.propose(api.Block{View: 6, Qc: l.qc(made[4]), Certs: []string{block.Mark(1, text32("n"))}})), "a block")
	of012 := func(to int) sent { return sent{to, ask(api.MAskBatch, digestOf(b))} }
	cert, parent := sent{2, ask(api.MAskCert, text32("n"))}, sent{2, ask(api.MAskBlock, block.Id(made[4]))}
	l.is(asks(l.tick()), "tick 1", of012(0), cert, parent)
	l.is(asks(l.tick()), "tick 2")
	l.is(asks(l.tick()), "tick 3", of012(1), cert, parent)
	l.tick()
	l.is(asks(l.tick()), "tick 5", of012(2), cert, parent)
	l.tick()
	l.is(asks(l.tick()), "tick 7", of012(0), cert, parent)
}

// 24.3, 24.4: self proposes once in a view where it leads, upon the Qc of the view ahead.
func TestProposes(t *testing.T) {
	l := newLab(t, 1)
	b := api.Block{View: 1, Qc: firstQc()}
	got := l.tick()
	l.is(got[3:], "the first view", append(l.toAll(l.propose(b)), l.toAll(l.agree(1, b))...)...)
	l.is(of(api.MPropose, l.tick()), "once")
	l.is(l.takes(2, ask(api.MAskBlock, block.Id(b))), "asked for it", sent{2, l.propose(b)})
	// Self agreed: two more are enough.
	l.takes(0, l.agree(0, b))
	l.takes(2, l.agree(2, b))
	if v := l.n.Tell().View; v != 2 {
		t.Errorf("the view is %d", v)
	}
	l.is(of(api.MPropose, l.tick()), "a view where another one leads")
}

// 24.3: self proposes, as enough came to the view; not with less.
func TestProposesAsEnoughCame(t *testing.T) {
	l := newLab(t, 3)
	l.takes(1, l.newView(1, 4, firstQc()))
	l.is(of(api.MPropose, l.tick()), "one came")
	l.is(l.takes(0, l.newView(0, 3, firstQc())), "another one came", l.toAll(l.newView(3, 3, firstQc()))...)
	// With self three came, one of them to a greater view.
	got := l.tick()
	b := api.Block{View: 3, Qc: firstQc()}
	l.is(of(api.MPropose, got), "three came", l.toAll(l.propose(b))...)
	l.is(of(api.MAgree, got), "and agrees", l.toAll(l.agree(3, b))...)

	// By its own wait it comes to a view where nobody else is.
	l = newLab(t, 2)
	got = l.untilNewView()
	if v := l.n.Tell().View; v != 2 || len(of(api.MPropose, got)) > 0 {
		t.Errorf("alone in the view %d: %v", v, got)
	}
	l.takes(0, l.newView(0, 2, firstQc()))
	l.is(of(api.MPropose, l.tick()), "two came")
	l.takes(3, l.newView(3, 2, firstQc()))
	l.is(of(api.MPropose, l.tick()), "three came", l.toAll(l.propose(api.Block{View: 2, Qc: firstQc()}))...)
	l.is(of(api.MPropose, l.tick()), "once")
}

// 24.3: of the marks, in the order of rounds and authors, the last 8 that are neither emitted nor carried.
func TestProposesMarks(t *testing.T) {
	l := newLab(t, 1)
	all := l.chainOf(2)
	for _, c := range []api.Cert{all[0][2], all[0][0], all[0][1], all[1][1], all[1][0]} {
		l.takes(2, certMsg(c))
	}
	first := of(api.MPropose, l.tick())[0].m.Block
	want := []string{markOf(all[0][0]), markOf(all[0][1]), markOf(all[0][2]), markOf(all[1][0]), markOf(all[1][1])}
	if !slices.Equal(first.Certs, want) {
		t.Fatalf("carries %x, not %x", first.Certs, want)
	}
	// Upon it come the views 2, 3, 4, each with a Qc; the first one carries what its own chain does not.
	q := l.qc(first)
	for view := 2; view <= 4; view++ {
		b := api.Block{View: view, Qc: q}
		if view == 2 {
			b.Certs = []string{markOf(all[1][2])}
			l.takes(3, certMsg(all[1][2]))
		}
		l.takes(3, l.propose(b))
		q = l.qc(b)
	}
	if v := l.n.Tell(); len(v.Blocks) != 1 || len(v.Order) != 5 {
		t.Fatalf("tells %+v", v)
	}
	// Rounds 3, 4, 5: nine certificates more, all neither emitted nor carried; the first is one too many.
	more := l.chainOf(5)
	for _, certs := range more[2:] {
		for _, c := range certs {
			l.takes(3, certMsg(c))
		}
	}
	for who := range 4 {
		if who != 1 {
			l.recv(who, l.newView(who, 5, q))
		}
	}
	got := of(api.MPropose, l.tick())
	if len(got) != 3 {
		t.Fatalf("put out %v", got)
	}
	want = nil
	for _, certs := range more[2:] {
		for _, c := range certs {
			want = append(want, markOf(c))
		}
	}
	if b := got[0].m.Block; b.View != 5 || b.Qc.View != 4 || !slices.Equal(b.Certs, want[1:]) {
		t.Errorf("proposes %+v, not with %x", b, want[1:])
	}
}

// 24.3: what is carried below a High that is committed is not told apart; only marks upon High count.
func TestProposesUponHigh(t *testing.T) {
	l := newLab(t, 2)
	all := l.chainOf(1)
	for _, c := range all[0] {
		l.takes(1, certMsg(c))
	}
	// Two blocks of the view 1: the Qc is of the one that carries the second certificate.
	side := api.Block{View: 1, Qc: firstQc(), Certs: []string{markOf(all[0][0])}}
	high := api.Block{View: 1, Qc: firstQc(), Certs: []string{markOf(all[0][1])}}
	l.takes(1, l.propose(side))
	l.takes(1, l.propose(high))
	for _, who := range []int{0, 1, 3} {
		l.recv(who, l.agree(who, high))
	}
	got := of(api.MPropose, l.tick())
	b := api.Block{View: 2, Qc: api.Qc{View: 1, Block: block.Id(high)}, Certs: []string{markOf(all[0][0]), markOf(all[0][2])}}
	for _, who := range []int{0, 1, 3} {
		b.Qc.Votes = append(b.Qc.Votes, l.agree(who, high).Tag)
	}
	l.is(got, "upon High", l.toAll(l.propose(b))...)
}

// 24.4: the pace's wait goes by ticks; each time self goes on with High (the sixth example of the whole).
func TestGoesOn(t *testing.T) {
	l := newLab(t, 0)
	for tick := 1; tick <= 4+8+16; tick++ {
		got := of(api.MNewView, l.tick())
		view := map[int]int{4: 2, 12: 3, 28: 4}[tick]
		if view == 0 {
			l.is(got, "a tick")
			continue
		}
		l.is(got, "the wait is over", l.toAll(l.newView(0, view, firstQc()))...)
	}
	if v := l.n.Tell().View; v != 4 {
		t.Errorf("the view is %d", v)
	}
	// What it left it does not vote for.
	l.is(of(api.MAgree, l.takes(1, l.propose(api.Block{View: 3, Qc: firstQc()}))), "a block of 3")
	b := api.Block{View: 4, Qc: firstQc()}
	l.is(l.takes(1, l.propose(b)), "a block of 4", l.toAll(l.agree(0, b))...)
}

// 24.4: with nothing lost and one that says nothing the others go on.
func TestOneSaysNothing(t *testing.T) {
	nodes := fourOf(t, config())
	nodes[0].Submit(pay("a", "b", 4, 0))
	for range 60 {
		for _, n := range nodes[:3] {
			n.Tick()
		}
		for more := true; more; {
			more = false
			for _, n := range nodes[:3] {
				for _, e := range n.Out() {
					if e.To < 3 {
						nodes[e.To].Recv(e.From, e.Bytes)
						more = true
					}
				}
			}
		}
	}
	first := nodes[0].Tell()
	if first.View < 8 || len(first.Blocks) == 0 || first.Done != 1 {
		t.Errorf("tells %+v", first)
	}
	for _, n := range nodes[1:3] {
		if v := n.Tell(); v.Digest != first.Digest || v.Done != 1 {
			t.Errorf("tells %+v", v)
		}
	}
}

// 24.6: of one validator's run all is said once more, to each, at the end: nothing changes but drops.
func TestDoubledChangesNothing(t *testing.T) {
	nodes := fourOf(t, config())
	var all []api.Env
	for i := range 20 {
		nodes[i%4].Submit(pay("a", "b", 1, uint64(i)))
		for _, n := range nodes {
			n.Tick()
		}
		for more := true; more; {
			more = false
			for _, n := range nodes {
				for _, e := range n.Out() {
					all = append(all, e)
					nodes[e.To].Recv(e.From, e.Bytes)
					more = true
				}
			}
		}
	}
	for i, n := range nodes {
		before := n.Tell()
		if before.Done == 0 || before.Low == 1 || len(before.Blocks) < 8 {
			t.Fatalf("tells %+v", before)
		}
		for _, e := range all {
			if e.To == i {
				n.Recv(e.From, e.Bytes)
			}
		}
		after := n.Tell()
		if after.Drops <= before.Drops {
			t.Errorf("%d: drops are %d, and were %d", i, after.Drops, before.Drops)
		}
		after.Drops = before.Drops
		if !sameView(after, before) {
			t.Errorf("%d tells %+v, not %+v", i, after, before)
		}
		// All that is put out is an answer that was given once.
		for _, e := range n.Out() {
			m, _ := msg.Decode(e.Bytes)
			if !slices.Contains(all, e) && m.Kind != api.MCert {
				t.Errorf("%d puts out a message of kind %d to %d that it did not before", i, m.Kind, e.To)
			}
		}
	}
}

// 24.6: what is not authentic changes nothing but drops: each word of a run is told with one bit of its last tag another, then as it is.
func TestJunkChangesNothing(t *testing.T) {
	nodes := fourOf(t, config())
	nodes[0].Submit(pay("a", "b", 1, 0))
	seen := map[int]int{}
	for turn := range 10 {
		for _, n := range nodes {
			n.Tick()
		}
		queue := outOf(nodes)
		for i := 0; i < len(queue); i++ {
			e := queue[i]
			m, _ := msg.Decode(e.Bytes)
			// Of these the last bytes are a tag's. (Nobody leads but whom the view says, in the last turns: so views go on by waits.)
			if slices.Contains([]int{api.MAck, api.MVote, api.MCert, api.MPropose, api.MAgree, api.MNewView}, m.Kind) {
				seen[m.Kind]++
				s := []byte(e.Bytes)
				s[len(s)-1] ^= 1 << (i % 8)
				l := &lab{t: t, self: e.To, n: nodes[e.To]}
				l.dropsText(e.From, string(s), fmt.Sprintf("kind %d in turn %d", m.Kind, turn))
			}
			if m.Kind == api.MPropose && turn > 4 {
				continue
			}
			nodes[e.To].Recv(e.From, e.Bytes)
			queue = append(queue, outOf(nodes)...)
		}
	}
	for _, kind := range []int{api.MAck, api.MVote, api.MCert, api.MPropose, api.MAgree, api.MNewView} {
		if seen[kind] < 3 {
			t.Errorf("kind %d was seen %d times", kind, seen[kind])
		}
	}
}

// outOf is all that was put out.
func outOf(nodes []*node.Node) []api.Env {
	var l []api.Env
	for _, n := range nodes {
		l = append(l, n.Out()...)
	}
	return l
}
