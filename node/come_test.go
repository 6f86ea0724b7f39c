package node_test

import (
	"slices"
	"testing"

	"tusk/api"
	"tusk/block"
	"tusk/header"
)

func certMsg(c api.Cert) api.Msg { return api.Msg{Kind: api.MCert, Cert: c} }

// chainOf is certificates of three authors a round, of so many rounds, each upon all of the round ahead.
func (l *lab) chainOf(rounds int) [][]api.Cert {
	var all [][]api.Cert
	var parents []string
	for round := 1; round <= rounds; round++ {
		var certs []api.Cert
		var ids []string
		for author := 1; author < 4; author++ {
			c := l.cert(api.Header{Author: author, Round: round, Parents: parents})
			certs, ids = append(certs, c), append(ids, header.Id(c.Header))
		}
		slices.Sort(ids)
		parents = ids
		all = append(all, certs)
	}
	return all
}

func markOf(c api.Cert) string { return block.Mark(c.Header.Round, header.Id(c.Header)) }

func idsOf(certs []api.Cert) []string {
	var ids []string
	for _, c := range certs {
		ids = append(ids, header.Id(c.Header))
	}
	return ids
}

// 24.3: a certificate comes, and is dropped with the dag's error.
func TestCertDropped(t *testing.T) {
	l := newLab(t, 0)
	all := l.chainOf(3)
	for _, c := range all[0] {
		l.takes(1, certMsg(c))
	}
	l.drops(1, certMsg(all[0][0]), "one that is in")
	few := all[1][0]
	few.Votes = few.Votes[:2]
	l.drops(1, certMsg(few), "one with too few votes")
	wrong := all[1][0]
	wrong.Votes = l.tags(header.Vote, text32("x"))
	l.drops(1, certMsg(wrong), "one with wrong votes")
	l.drops(1, certMsg(l.cert(api.Header{Author: 0, Round: 3, Parents: all[1][0].Header.Parents})), "one with parents of another round")
	l.drops(1, certMsg(l.cert(api.Header{Author: 1, Round: 1, Refs: []api.Ref{l.ref(text32("d"))}})), "another one of an author and round")
	if got := asks(l.tick()); len(got) > 0 {
		t.Errorf("asks %v", got)
	}
	// It may be from anybody, its author or not.
	if got := of(api.MAskCert, l.takes(3, certMsg(all[1][0]))); len(got) > 0 {
		t.Errorf("put out %v", got)
	}
}

// 24.3: the dag has room for 32 times as many certificates as there are validators.
func TestCertFull(t *testing.T) {
	l := newLab(t, 0)
	var parents []string
	for round := 1; round <= 32; round++ {
		parents = l.giveRound(round, parents, 0, 1, 2, 3)
	}
	l.drops(1, certMsg(l.cert(api.Header{Author: 1, Round: 33, Parents: parents})), "the certificate behind 128")
	if r := l.n.Tell().Round; r != 32 {
		t.Errorf("the round is %d", r)
	}
}

// 24.3: a certificate of which something is missing waits; the missing are wanted of whom it is from.
func TestCertWaits(t *testing.T) {
	l := newLab(t, 0)
	all := l.chainOf(6)
	for round := 5; round > 0; round-- {
		for _, c := range all[round] {
			l.is(l.takes(2, certMsg(c)), "a certificate that waits")
		}
	}
	l.is(l.takes(3, certMsg(all[4][1])), "one that waits already")
	// 15 wait.
	next := l.cert(api.Header{Author: 0, Round: 6, Parents: all[5][0].Header.Parents})
	l.takes(3, certMsg(next))
	l.drops(3, certMsg(l.cert(api.Header{Author: 0, Round: 5, Parents: []string{text32("p"), text32("q"), text32("r")}})), "the one behind 16")
	l.is(l.takes(3, certMsg(next)), "one that waits already, behind 16")
	var want []sent
	for round := 4; round >= 0; round-- {
		for _, id := range slices.Sorted(slices.Values(idsOf(all[round]))) {
			want = append(want, sent{2, ask(api.MAskCert, id)})
		}
	}
	l.is(asks(l.tick()), "asks", want...)
	if v := l.n.Tell(); v.Round != 0 {
		t.Errorf("the round is %d", v.Round)
	}
	// One behind the other they come, once nothing is missing of them.
	l.is(l.takes(1, certMsg(all[0][0])), "the first that was missing")
	l.is(l.takes(1, certMsg(all[0][1])), "the second")
	l.is(l.takes(1, certMsg(all[0][2])), "the last")
	if v := l.n.Tell(); v.Round != 6 {
		t.Errorf("the round is %d", v.Round)
	}
	l.drops(1, certMsg(next), "one that has waited, and is in")
	for range 200 {
		if got := asks(l.tick()); len(got) > 0 {
			t.Fatalf("asks %v", got)
		}
	}
}

// 24.3: a certificate that waits, and then clashes, is dropped when it comes.
func TestCertWaitsInVain(t *testing.T) {
	l := newLab(t, 0)
	all := l.chainOf(2)
	one := all[1][0]
	other := l.cert(api.Header{Author: 1, Round: 2, Parents: one.Header.Parents, Refs: []api.Ref{l.ref(text32("d"))}})
	l.takes(1, certMsg(one))
	l.takes(1, certMsg(other))
	l.takes(1, certMsg(all[0][0]))
	l.takes(1, certMsg(all[0][1]))
	before := l.n.Tell().Drops
	l.is(l.recv(1, certMsg(all[0][2])), "the last that was missing")
	if d := l.n.Tell().Drops - before; d != 1 {
		t.Errorf("%d drops", d)
	}
	l.is(l.takes(2, ask(api.MAskCert, header.Id(one.Header))), "the first that waited", sent{2, certMsg(one)})
	l.drops(2, ask(api.MAskCert, header.Id(other.Header)), "the second that waited")
}

// 24.3: headers that wait are voted for ahead of the blocks that wait being looked at.
func TestHeadersAheadOfBlocks(t *testing.T) {
	l := newLab(t, 0)
	all := l.chainOf(2)
	b := api.Block{View: 1, Qc: firstQc(), Certs: []string{markOf(all[0][2])}}
	l.is(l.takes(3, l.propose(b)), "a block that waits")
	l.is(l.takes(1, headerMsg(all[1][0].Header)), "a header that waits")
	l.takes(1, certMsg(all[0][0]))
	l.takes(1, certMsg(all[0][1]))
	want := append([]sent{{1, l.voteFor(0, all[1][0].Header)}}, l.toAll(l.agree(0, b))...)
	l.is(l.takes(1, certMsg(all[0][2])), "the last that was missing", want...)
}

// 24.3: a block waits for the certificates and the parent that it lacks (the fourth example of the whole).
func TestBlockWaits(t *testing.T) {
	l := newLab(t, 0)
	all := l.chainOf(1)
	made := l.blocks(2, markOf(all[0][0]), markOf(all[0][2]), markOf(all[0][1]))
	made[1].Certs = []string{markOf(all[0][1])}
	l.takes(3, certMsg(all[0][2]))
	l.is(l.takes(2, l.propose(made[1])), "the second block")
	l.is(l.takes(3, l.propose(made[1])), "once more, from another")
	l.is(l.takes(3, l.propose(made[0])), "the first block")
	id := func(i int) string { return header.Id(all[0][i].Header) }
	// The second one lacks a certificate and its parent, the first one one certificate more.
	l.is(asks(l.tick()), "asks", sent{2, ask(api.MAskCert, id(1))}, sent{2, ask(api.MAskBlock, block.Id(made[0]))}, sent{3, ask(api.MAskCert, id(0))})
	l.is(l.takes(1, certMsg(all[0][1])), "one of the certificates")
	l.drops(1, ask(api.MAskBlock, block.Id(made[0])), "asked for what waits")
	want := append(l.toAll(l.agree(0, made[0])), l.toAll(l.agree(0, made[1]))...)
	l.is(l.takes(1, certMsg(all[0][0])), "the last that was lacking", want...)
	l.is(l.takes(1, ask(api.MAskBlock, block.Id(made[0]))), "asked for the first", sent{1, l.propose(made[0])})
	l.is(l.takes(1, ask(api.MAskBlock, block.Id(made[1]))), "asked for the second", sent{1, l.propose(made[1])})
	// The first was wanted, and is no longer.
	for range 200 {
		if got := asks(l.tick()); len(got) > 0 {
			t.Fatalf("asks %v", got)
		}
	}
}

// 24.3: a block that waits already wants what it lacks once more, of whom it is from then.
func TestBlockWantsAgain(t *testing.T) {
	l := newLab(t, 0)
	all := l.chainOf(1)
	// Parents of headers that wait fill the desk, which has room for 64.
	parents := []string{header.Id(all[0][0].Header)}
	for i := range 63 {
		parents = append(parents, text32(string([]byte{byte(1 + i)})))
	}
	for i := range 16 {
		l.takes(1, headerMsg(api.Header{Author: 1, Round: 2, Parents: parents[4*i : 4*i+4]}))
	}
	if got := asks(l.tick()); len(got) != 64 {
		t.Fatalf("%d are wanted", len(got))
	}
	b := api.Block{View: 1, Qc: firstQc(), Certs: []string{markOf(all[0][1])}}
	l.is(l.takes(2, l.propose(b)), "a block")
	l.is(asks(l.tick()), "asks with no room")
	l.takes(1, certMsg(all[0][0])) // which was wanted, so there is room
	l.is(asks(l.tick()), "asks with room")
	l.is(l.takes(3, l.propose(b)), "the block again")
	l.is(asks(l.tick()), "asks", sent{3, ask(api.MAskCert, header.Id(all[0][1].Header))})
	l.is(l.takes(1, l.propose(b)), "the block again, which is wanted already")
	l.is(asks(l.tick()), "asks again")
}

// 24.3: at most 16 blocks wait; what the next one lacks is wanted all the same.
func TestBlocksWaitFull(t *testing.T) {
	l := newLab(t, 0)
	all := l.chainOf(1)
	var waiting []api.Block
	for view := 1; view <= 16; view++ {
		b := api.Block{View: view, Qc: firstQc(), Certs: []string{markOf(all[0][0])}}
		waiting = append(waiting, b)
		l.is(l.takes(2, l.propose(b)), "a block that waits")
	}
	l.is(l.takes(2, l.propose(waiting[3])), "one that waits already")
	l.drops(3, l.propose(api.Block{View: 17, Qc: firstQc(), Certs: []string{markOf(all[0][1])}}), "the one behind 16")
	l.is(asks(l.tick()), "asks", sent{2, ask(api.MAskCert, header.Id(all[0][0].Header))}, sent{3, ask(api.MAskCert, header.Id(all[0][1].Header))})
	// The first one that waited comes first, and so on: each is voted for, as its view is above those ahead.
	var want []sent
	for _, b := range waiting {
		want = append(want, l.toAll(l.agree(0, b))...)
	}
	l.is(l.takes(2, certMsg(all[0][0])), "what they lacked", want...)
}

// 24.3: of a block's marks one is in the dag in another round.
func TestBlockMisplaced(t *testing.T) {
	l := newLab(t, 0)
	all := l.chainOf(1)
	id := header.Id(all[0][0].Header)
	l.takes(1, certMsg(all[0][0]))
	l.drops(1, l.propose(api.Block{View: 1, Qc: firstQc(), Certs: []string{block.Mark(2, id)}}), "a mark of another round")
	l.drops(1, l.propose(api.Block{View: 1, Qc: firstQc(), Certs: []string{markOf(all[0][0]), block.Mark(2, id)}}), "a mark of another round behind the right one")
	l.drops(1, l.propose(api.Block{View: 1, Qc: firstQc(), Certs: []string{markOf(all[0][1]), block.Mark(2, id)}}), "one that is lacking, and one of another round")
	if got := asks(l.tick()); len(got) > 0 {
		t.Errorf("asks %v", got)
	}
	// One that waits is dropped when the certificate is there, in its own round.
	b := api.Block{View: 1, Qc: firstQc(), Certs: []string{block.Mark(7, header.Id(all[0][1].Header))}}
	l.is(l.takes(1, l.propose(b)), "a mark that is lacking")
	before := l.n.Tell().Drops
	l.is(l.recv(1, certMsg(all[0][1])), "what it lacked")
	if d := l.n.Tell().Drops - before; d != 1 {
		t.Errorf("%d drops", d)
	}
	l.drops(1, l.propose(b), "the block again")
}

// 24.3: a block is dropped with the chain's error.
func TestBlockOfChain(t *testing.T) {
	l := newLab(t, 0)
	made := l.blocks(1)
	l.takes(1, l.propose(made[0]))
	other := l.qc(made[0])
	other.View, other.Votes = 2, l.tags(block.Agree, block.Word(2, block.Id(made[0])))
	l.drops(1, l.propose(api.Block{View: 3, Qc: other}), "upon its parent in another view")
	for view := 2; view <= 64; view++ {
		l.takes(1, l.propose(api.Block{View: view, Qc: firstQc()}))
	}
	l.drops(1, l.propose(api.Block{View: 65, Qc: firstQc()}), "the block behind 64")
	l.drops(1, l.propose(api.Block{View: 64, Qc: firstQc()}), "one that is in the chain")
}

// 24.3: a block that is not above the last that was committed is dropped; also one that waits.
func TestBlockOld(t *testing.T) {
	l := newLab(t, 0)
	all := l.chainOf(1)
	waits := api.Block{View: 1, Qc: firstQc(), Certs: []string{markOf(all[0][0])}}
	l.is(l.takes(1, l.propose(waits)), "a block that waits")
	made := l.blocks(4)
	for _, b := range made[:3] {
		l.takes(1, l.propose(b))
	}
	l.recv(1, l.propose(made[3]))
	// The block 4 has the Qc of 3, so 1 is committed; the one that waits is looked at behind that.
	v := l.n.Tell()
	if !slices.Equal(v.Blocks, []string{block.Id(made[0])}) {
		t.Fatalf("tells %+v", v)
	}
	if v.Drops != 1 {
		t.Errorf("%d drops, as the one that waits is old", v.Drops)
	}
	l.drops(1, l.propose(waits), "the old one again")
	l.drops(1, l.propose(made[0]), "the committed one")
}

// 24.3: a block's Qc is seen, and its view entered; it is voted for, if that is the pace's view.
func TestBlockEnters(t *testing.T) {
	l := newLab(t, 0)
	b := api.Block{View: 6, Qc: firstQc()}
	l.is(l.takes(1, l.propose(b)), "a block of a later view", l.toAll(l.agree(0, b))...)
	if v := l.n.Tell().View; v != 6 {
		t.Errorf("the view is %d", v)
	}
	l.is(l.takes(1, l.propose(api.Block{View: 5, Qc: firstQc()})), "a block of a view that is over")
	l.is(l.takes(1, l.propose(api.Block{View: 6, Qc: firstQc(), Certs: []string{block.Mark(1, text32("n"))}})), "another block of the view, which waits")
}

// 24.3: a block of a lesser view than the pace's is not voted for, although the chain would.
func TestBlockOfLesserView(t *testing.T) {
	l := newLab(t, 0)
	made := l.blocks(4)
	for _, b := range made {
		l.takes(1, l.propose(b))
	}
	// It does not rest on the lock, so its view is entered without a vote.
	l.is(l.takes(1, l.propose(api.Block{View: 10, Qc: firstQc()})), "a block beside the lock")
	if v := l.n.Tell().View; v != 10 {
		t.Errorf("the view is %d", v)
	}
	l.is(l.takes(1, l.propose(api.Block{View: 7, Qc: l.qc(made[3])})), "a block of a lesser view")
	b := api.Block{View: 10, Qc: l.qc(made[3])}
	l.is(l.takes(1, l.propose(b)), "a block of the view", l.toAll(l.agree(0, b))...)
}

// 24.3: to commit; the flattening goes on; the low.
func TestFlatten(t *testing.T) {
	l := newLab(t, 0)
	all := l.chainOf(15)
	for _, certs := range all {
		for _, c := range certs {
			l.takes(1, certMsg(c))
		}
	}
	// The fifth block carries one that is flattened already, and one whose round is below the low when its turn comes.
	made := l.blocks(6, markOf(all[1][2]), markOf(all[0][1]))
	made[1].Certs = []string{markOf(all[14][1]), markOf(all[1][2]), markOf(all[13][1]), markOf(all[14][0])}
	for i := 2; i < 6; i++ {
		made[i].Qc = l.qc(made[i-1])
	}
	var order []string
	order = append(order, idsOf(all[0])...)
	order = append(order, header.Id(all[1][2].Header))
	for i, b := range made[:4] {
		l.takes(1, l.propose(b))
		if v := l.n.Tell(); (len(v.Blocks) > 0) != (i == 3) {
			t.Fatalf("behind block %d %d are committed", i+1, len(v.Blocks))
		}
	}
	v := l.n.Tell()
	if !slices.Equal(v.Blocks, []string{block.Id(made[0])}) || !slices.Equal(v.Order, order) || v.Low != 1 {
		t.Errorf("the first block: tells %+v", v)
	}
	l.takes(1, l.propose(made[4]))
	order = append(order, idsOf(all[1][:2])...)
	for _, certs := range all[2:14] {
		order = append(order, idsOf(certs)...)
	}
	order = append(order, header.Id(all[14][1].Header), header.Id(all[14][0].Header))
	v = l.n.Tell()
	if !slices.Equal(v.Blocks, []string{block.Id(made[0]), block.Id(made[1])}) || !slices.Equal(v.Order, order) {
		t.Errorf("the second block: tells %+v", v)
	}
	// 15 less 12.
	if v.Low != 3 || v.Round != 15 {
		t.Errorf("the low is %d, the round %d", v.Low, v.Round)
	}
	l.drops(2, ask(api.MAskCert, header.Id(all[1][0].Header)), "asked for what was let go")
	l.is(l.takes(2, ask(api.MAskCert, header.Id(all[2][0].Header))), "asked for what was not", sent{2, certMsg(all[2][0])})
	l.drops(2, certMsg(all[1][0]), "a certificate below the low")

	// What is below the low does not matter in a block: neither that it lacks, nor where it is.
	b := api.Block{View: 7, Qc: l.qc(made[4]), Certs: []string{block.Mark(2, text32("n")), block.Mark(1, header.Id(all[9][0].Header))}}
	l.is(l.takes(1, l.propose(b)), "marks below the low", l.toAll(l.agree(0, b))...)
	at := api.Block{View: 8, Qc: l.qc(made[4]), Certs: []string{block.Mark(3, text32("n"))}}
	l.is(l.takes(1, l.propose(at)), "a mark at the low")
	l.is(asks(l.tick()), "asks", sent{1, ask(api.MAskCert, text32("n"))})
}

// 24.3: the low is the round less 12, if that is above 1.
func TestLow(t *testing.T) {
	for round, low := range map[int]int{1: 1, 12: 1, 13: 1, 14: 2, 20: 8} {
		l := newLab(t, 0)
		all := l.chainOf(round)
		for _, certs := range all {
			for _, c := range certs {
				l.takes(1, certMsg(c))
			}
		}
		l.commitThree(markOf(all[round-1][0]))
		if v := l.n.Tell(); v.Low != low || len(v.Order) != 3*(round-1)+1 {
			t.Errorf("round %d: the low is %d, and %d are flattened", round, v.Low, len(v.Order))
		}
	}
}

// 24.3: what is below the low is not flattened any more, although later ones rest on it.
func TestLowOfHistory(t *testing.T) {
	l := newLab(t, 0)
	// Three authors rest on each other, and the fourth on two of them and itself.
	var most [][]string
	var parents, lone []string
	for round := 1; round <= 16; round++ {
		var certs []string
		last := lone
		if round > 1 {
			last = []string{lone[len(lone)-1], most[round-2][1], most[round-2][2]}
			slices.Sort(last)
		}
		lone = append(lone, l.giveRound(round, last, 3)...)
		for author := range 3 {
			certs = append(certs, l.giveRound(round, parents, author)...)
		}
		most = append(most, certs)
		parents = slices.Sorted(slices.Values(certs))
	}
	l.commitThree(block.Mark(15, most[14][0]), block.Mark(16, lone[15]))
	var want []string
	for _, certs := range most[:14] {
		want = append(want, certs...)
	}
	want = append(want, most[14][0])
	// The low is 3 then.
	want = append(want, lone[2:14]...)
	want = append(want, most[14][1], most[14][2], lone[14], lone[15])
	if v := l.n.Tell(); v.Low != 4 || !slices.Equal(v.Order, want) {
		t.Errorf("the low is %d, and %d are flattened, not %d", v.Low, len(v.Order), len(want))
	}
}

// 24.3: a certificate that two blocks carry is flattened once (the seventh example of the whole).
func TestCarriedTwice(t *testing.T) {
	l := newLab(t, 0)
	all := l.chainOf(1)
	l.takes(1, certMsg(all[0][0]))
	made := l.blocks(2, markOf(all[0][0]))
	made[1].Certs = []string{markOf(all[0][0])}
	q := l.qc(made[1])
	for view := 3; view <= 5; view++ {
		b := api.Block{View: view, Qc: q}
		made, q = append(made, b), l.qc(b)
	}
	for _, b := range made {
		l.takes(1, l.propose(b))
	}
	if v := l.n.Tell(); len(v.Blocks) != 2 || !slices.Equal(v.Order, idsOf(all[0][:1])) {
		t.Errorf("tells %+v", v)
	}
}

// 24.3: the line: batches in the order of the headers and of their Refs; what stands behind one that is not there waits (the eighth example of the whole).
func TestLine(t *testing.T) {
	l := newLab(t, 3)
	one, two, three := someBatch(1, 1), someBatch(1, 2), someBatch(2, 1)
	two.Txs = []api.Tx{pay("a", "b", 4, 1), pay("a", "b", 5, 7)}
	three.Txs = []api.Tx{pay("a", "b", 50, 2)}
	l.takes(2, batchMsg(three))
	first, second := api.Header{Author: 0, Round: 1, Refs: []api.Ref{l.ref(digestOf(one))}}, api.Header{Author: 1, Round: 1}
	for _, b := range []api.Batch{one, two, three} {
		second.Refs = append(second.Refs, l.ref(digestOf(b)))
	}
	slices.SortFunc(second.Refs, func(a, b api.Ref) int {
		if a.Digest < b.Digest {
			return -1
		}
		return 1
	})
	l.takes(1, certMsg(l.cert(second)))
	l.takes(1, certMsg(l.cert(first)))
	l.commitThree(block.Mark(1, header.Id(first)), block.Mark(1, header.Id(second)))
	line := []string{digestOf(one)}
	for _, r := range second.Refs {
		if r.Digest != digestOf(one) {
			line = append(line, r.Digest)
		}
	}
	v := l.n.Tell()
	if !slices.Equal(v.Line, line) || v.Done != 0 || len(v.Results) != 0 {
		t.Fatalf("tells %+v", v)
	}
	// Those that are not there are asked of those who said that they have them: now of the one, now of the other.
	var want []sent
	for _, d := range line {
		if d != digestOf(three) {
			want = append(want, sent{0, ask(api.MAskBatch, d)})
		}
	}
	l.is(asks(l.tick()), "asks", want...)
	for range 99 {
		if got := asks(l.tick()); len(got) > 0 {
			t.Fatalf("asks %v", got)
		}
	}
	for i := range want {
		want[i].to = 1
	}
	l.is(asks(l.tick()), "asks behind 100 ticks", want...)
	l.takes(0, batchMsg(two))
	if v := l.n.Tell(); v.Done != 0 {
		t.Errorf("%d batches are done with the first one not there", v.Done)
	}
	l.takes(0, batchMsg(one))
	v = l.n.Tell()
	results := []int{api.RDone}
	for _, d := range line[1:] {
		if d == digestOf(two) {
			results = append(results, api.RDone, api.RNonce)
		} else if line[1] == d {
			results = append(results, api.RNonce)
		} else {
			results = append(results, api.RFunds)
		}
	}
	if v.Done != 3 || !slices.Equal(v.Results, results) {
		t.Errorf("results are %v of %d batches, not %v", v.Results, v.Done, results)
	}
}

// 24.3: never of self: who has acked alone is not asked.
func TestNotOfSelf(t *testing.T) {
	l := newLab(t, 0)
	lineUp(l, someBatch(1, 1)) // acked by 0, 1, 2
	l.is(asks(l.tick()), "asks", sent{1, ask(api.MAskBatch, digestOf(someBatch(1, 1)))})
}
