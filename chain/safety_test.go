package chain_test

import (
	"slices"
	"strconv"
	"testing"

	"tusk/api"
	"tusk/block"
	"tusk/chain"
)

// shown is a block that validators may be shown, and who of the honest ones voted for it.
type shown struct {
	b      api.Block
	id     string
	parent int // the place of its parent among all that may be shown
	voters []int
}

// voter is an honest validator: its chain, and what it committed.
type voter struct {
	c         *chain.Chain
	committed []string
}

// world is 2f + 1 honest validators, and f faulty ones who vote for whatever there is and show it to whom they like; the first of the blocks is the first one.
type world struct {
	f      int
	honest []*voter
	blocks []shown
	pick   func(int) int
	counts map[string]int
}

// newWorld is where nothing was shown.
func newWorld(f int, seed uint64, counts map[string]int) *world {
	w := &world{f: f, blocks: []shown{{id: block.Genesis()}}, pick: steps(seed), counts: counts}
	for range 2*f + 1 {
		w.honest = append(w.honest, &voter{c: chain.New()})
	}
	return w
}

// enough tells whether there is a Qc of a block.
func (w *world) enough(n int) bool {
	return n == 0 || len(w.blocks[n].voters)+w.f >= 2*w.f+1
}

// qc is the Qc of a block, with one of the sets of votes that are enough.
func (w *world) qc(n int) api.Qc {
	x := w.blocks[n]
	q := api.Qc{View: x.b.View, Block: x.id}
	if n > 0 {
		for _, who := range x.voters[:w.f+1] {
			q.Votes = append(q.Votes, api.Tag{Who: who})
		}
		for who := range w.f {
			q.Votes = append(q.Votes, api.Tag{Who: 2*w.f + 1 + who})
		}
	}
	return q
}

// some is the place of a block of which there is a Qc, mostly one of the last ones.
func (w *world) some() int {
	from := 0
	if w.pick(4) > 0 {
		from = max(0, len(w.blocks)-8)
	}
	n := from + w.pick(len(w.blocks)-from)
	for !w.enough(n) {
		n = w.blocks[n].parent
	}
	return n
}

// propose makes a block upon one of which there is a Qc, and shows it to some, who are asked for their votes.
func (w *world) propose() {
	n := w.some()
	view := w.blocks[n].b.View + 1
	if w.pick(2) == 0 {
		// A fork gets votes in views in which nobody voted yet.
		view = max(view, w.greatest()+w.pick(2))
	}
	b := upon(w.qc(n), view, strconv.Itoa(len(w.blocks)))
	w.blocks = append(w.blocks, shown{b: b, id: block.Id(b), parent: n})
	for who := range w.honest {
		if w.pick(4) > 0 {
			w.show(who, len(w.blocks)-1)
			w.vote(who, len(w.blocks)-1)
		}
	}
}

// greatest is the greatest view of a block.
func (w *world) greatest() int {
	view := 0
	for _, x := range w.blocks {
		view = max(view, x.b.View)
	}
	return view
}

// see hands a Qc to a validator, who keeps what it commits by it.
func (w *world) see(who int, q api.Qc) {
	l := w.honest[who].c.See(q)
	w.honest[who].committed = append(w.honest[who].committed, l...)
}

// show shows a block to a validator, with all that it rests on, the oldest first: what the validator lays in, the Qc of that it sees right then.
func (w *world) show(who, n int) {
	if n == 0 {
		return
	}
	w.show(who, w.blocks[n].parent)
	if w.honest[who].c.Add(w.blocks[n].b) == api.OK {
		w.see(who, w.blocks[n].b.Qc)
	}
}

// vote asks a validator for its vote.
func (w *world) vote(who, n int) {
	if w.honest[who].c.Vote(w.blocks[n].id) {
		w.blocks[n].voters = append(w.blocks[n].voters, who)
		w.counts["votes"]++
	}
}

// step does one thing that the faulty ones might think of.
func (w *world) step() {
	who, n := w.pick(len(w.honest)), w.pick(len(w.blocks))
	switch w.pick(8) {
	case 0, 1, 2:
		w.propose()
	case 3:
		w.see(who, w.qc(w.some()))
	case 4:
		if w.pick(4) == 0 {
			w.honest[who].c.Skip(w.blocks[n].b.View)
		}
	case 5:
		w.show(who, n)
	default:
		n = max(n, len(w.blocks)-1-w.pick(6))
		w.show(who, n)
		w.vote(who, n)
	}
}

// rests tells whether a block rests on another one.
func (w *world) rests(n, on int) bool {
	for n > on {
		n = w.blocks[n].parent
	}
	return n == on
}

// wantOneChain is that of any two blocks that were committed one rests on the other, and that each validator's come in their order.
func (w *world) wantOneChain(t *testing.T) {
	t.Helper()
	var all []int
	for who, x := range w.honest {
		ahead := 0
		for _, id := range x.committed {
			n := slices.IndexFunc(w.blocks, func(y shown) bool { return y.id == id })
			if w.blocks[n].parent != ahead {
				t.Errorf("validator %d: the block %d, upon %d, came behind %d", who, n, w.blocks[n].parent, ahead)
			}
			all, ahead = append(all, n), n
		}
	}
	slices.Sort(all)
	all = slices.Compact(all)
	for i := range all {
		for _, n := range all[:i] {
			if !w.rests(all[i], n) {
				t.Errorf("both committed: %d and %d", n, all[i])
			}
		}
	}
	w.counts["committed"] += len(all)
}

// countForks counts the blocks with votes of enough that rest on none of the last that were committed, nor those on them.
func (w *world) countForks() {
	for _, x := range w.honest {
		if len(x.committed) == 0 {
			continue
		}
		id := x.committed[len(x.committed)-1]
		last := slices.IndexFunc(w.blocks, func(y shown) bool { return y.id == id })
		for n := range w.blocks {
			if w.enough(n) && !w.rests(n, last) && !w.rests(last, n) {
				w.counts["forks"]++
			}
		}
	}
}

// 17.5: whatever blocks and Qcs honest validators are shown, in whatever order, they commit one chain.
func TestSafety(t *testing.T) {
	counts := map[string]int{}
	for f := 1; f <= api.MaxF; f++ {
		for seed := range 400 {
			w := newWorld(f, uint64(seed), counts)
			for range 120 {
				w.step()
			}
			w.wantOneChain(t)
			w.countForks()
			if t.Failed() {
				t.Fatalf("f %d, seed %d", f, seed)
			}
		}
	}
	for _, what := range []string{"votes", "committed", "forks"} {
		if counts[what] < 1000 {
			t.Errorf("too few of a kind: %s, %d", what, counts[what])
		}
	}
}
