package chain_test

import (
	"math"
	"runtime"
	"slices"
	"strconv"
	"strings"
	"testing"

	"tusk/api"
	"tusk/block"
	"tusk/chain"
)

// qcOf is a Qc of a block.
func qcOf(b api.Block) api.Qc { return api.Qc{View: b.View, Block: block.Id(b)} }

// first is the first block's Qc.
func first() api.Qc { return api.Qc{Block: block.Genesis()} }

// upon is a block of a view upon that of a Qc.
func upon(q api.Qc, view int, certs ...string) api.Block {
	return api.Block{View: view, Qc: q, Certs: certs}
}

// line is blocks of these views, each upon the one ahead, the first of them upon that of a Qc; each with its view as its one mark.
func line(q api.Qc, views ...int) []api.Block {
	var l []api.Block
	for _, view := range views {
		b := upon(q, view, strconv.Itoa(view))
		l, q = append(l, b), qcOf(b)
	}
	return l
}

// ids is the ids of blocks.
func ids(l ...api.Block) []string {
	var out []string
	for _, b := range l {
		out = append(out, block.Id(b))
	}
	return out
}

// sameQc tells whether two Qcs are the same.
func sameQc(a, b api.Qc) bool {
	return a.View == b.View && a.Block == b.Block && slices.Equal(a.Votes, b.Votes)
}

// sameBlock tells whether two blocks are the same.
func sameBlock(a, b api.Block) bool {
	return a.View == b.View && sameQc(a.Qc, b.Qc) && slices.Equal(a.Certs, b.Certs)
}

// wantAdd is that Add answers so of each of these.
func wantAdd(t *testing.T, c *chain.Chain, want api.Errno, l ...api.Block) {
	t.Helper()
	for _, b := range l {
		if e := c.Add(b); e != want {
			t.Errorf("Add of the view %d, upon the view %d: error %d, want %d", b.View, b.Qc.View, e, want)
		}
	}
}

// add is that blocks get in.
func add(t *testing.T, c *chain.Chain, l ...api.Block) {
	t.Helper()
	wantAdd(t, c, api.OK, l...)
}

// wantIn is that these are in, as they were handed in.
func wantIn(t *testing.T, c *chain.Chain, l ...api.Block) {
	t.Helper()
	for _, b := range l {
		if got, ok := c.Get(block.Id(b)); !ok || !sameBlock(got, b) {
			t.Errorf("Get of the view %d: %v, %v, want %v", b.View, got, ok, b)
		}
	}
}

// wantOut is that of these ids no block is in.
func wantOut(t *testing.T, c *chain.Chain, l ...string) {
	t.Helper()
	for _, id := range l {
		if b, ok := c.Get(id); ok || !sameBlock(b, api.Block{}) {
			t.Errorf("Get(%.40q): %v, %v", id, b, ok)
		}
	}
}

// wantVote is what Vote is to answer of a block.
func wantVote(t *testing.T, c *chain.Chain, want bool, b api.Block) {
	t.Helper()
	if c.Vote(block.Id(b)) != want {
		t.Errorf("Vote of the view %d, upon the view %d: %v", b.View, b.Qc.View, !want)
	}
}

// wantSee is that by the Qc of a block just these are committed.
func wantSee(t *testing.T, c *chain.Chain, b api.Block, want ...api.Block) {
	t.Helper()
	if l := c.See(qcOf(b)); !slices.Equal(l, ids(want...)) {
		t.Errorf("See of the view %d: %q, want %q", b.View, l, ids(want...))
	}
}

// wantHigh is which Qc is to be the highest.
func wantHigh(t *testing.T, c *chain.Chain, want api.Qc) {
	t.Helper()
	if q := c.High(); !sameQc(q, want) {
		t.Errorf("High: %v, want %v", q, want)
	}
}

// wantState is which views State is to tell.
func wantState(t *testing.T, c *chain.Chain, lock, voted, last int) {
	t.Helper()
	if x, y, z := c.State(); x != lock || y != voted || z != last {
		t.Errorf("State: %d, %d, %d, want %d, %d, %d", x, y, z, lock, voted, last)
	}
}

// wantCarried is what is to be carried by a block.
func wantCarried(t *testing.T, c *chain.Chain, id string, want ...string) {
	t.Helper()
	if l := c.Carried(id); !slices.Equal(l, want) {
		t.Errorf("Carried(%.40q): %q, want %q", id, l, want)
	}
}

// 17.1, 17.3, 17.4: the chapter's example.
func TestExample(t *testing.T) {
	c, l := chain.New(), line(first(), 1, 2, 3, 4)
	add(t, c, l...)
	wantSee(t, c, l[0])
	wantSee(t, c, l[1])
	wantSee(t, c, l[2], l[0])
	wantSee(t, c, l[3], l[1])
	wantState(t, c, 3, 0, 2)
	wantHigh(t, c, qcOf(l[3]))
}

// 17.1 to 17.4: a new chain is the first block alone, and another one's blocks are not its own.
func TestNew(t *testing.T) {
	c, other := chain.New(), chain.New()
	l := line(first(), 1, 2, 3)
	wantFirstAlone(t, c, l...)
	add(t, c, l...)
	for _, b := range l {
		wantVote(t, c, true, b)
		c.See(qcOf(b))
	}
	wantState(t, c, 2, 3, 1)
	wantFirstAlone(t, other, l...)
}

// wantFirstAlone is that the first block alone is in, and none of these.
func wantFirstAlone(t *testing.T, c *chain.Chain, l ...api.Block) {
	t.Helper()
	wantState(t, c, 0, 0, 0)
	wantHigh(t, c, first())
	others := append([]string{"", "x", block.Genesis(), block.Genesis() + "\x00", strings.Repeat("x", 1<<17)}, ids(l...)...)
	wantOut(t, c, others...)
	for _, id := range others {
		wantCarried(t, c, id)
		if c.Vote(id) {
			t.Errorf("Vote(%.40q): true", id)
		}
		for _, view := range []int{math.MinInt, -1, 0, 1, math.MaxInt} {
			if l := c.See(api.Qc{View: view, Block: id, Votes: []api.Tag{{Who: 1}}}); len(l) > 0 {
				t.Errorf("See of the view %d, %.40q: %q", view, id, l)
			}
		}
	}
	wantState(t, c, 0, 0, 0)
	wantHigh(t, c, first())
}

// 17.1: a block's Qc is of its parent's View, and its own View is above that; else ErrOrder.
func TestOrder(t *testing.T) {
	c, l := chain.New(), line(first(), 2, 5)
	add(t, c, l...)
	for at, q := range []api.Qc{first(), qcOf(l[0]), qcOf(l[1])} {
		for _, off := range []int{math.MinInt / 2, -3, -1, 1, 3, math.MaxInt / 2} {
			wrong := api.Qc{View: q.View + off, Block: q.Block}
			wantAdd(t, c, api.ErrOrder, upon(wrong, 6), upon(wrong, q.View+1), upon(wrong, wrong.View+1), upon(wrong, math.MaxInt))
		}
		for _, view := range []int{math.MinInt, -1, q.View - 1, q.View} {
			wantAdd(t, c, api.ErrOrder, upon(q, view))
		}
		mark := strconv.Itoa(at)
		add(t, c, upon(q, q.View+1, mark), upon(q, q.View+2, mark), upon(q, 1000, mark), upon(q, api.MaxInt, mark))
	}
}

// 17.1: the errors, each where all that are named behind it apply too.
func TestErrorsInOrder(t *testing.T) {
	c, l := chain.New(), line(first(), 1, 2, 3, 4, 5, 6)
	add(t, c, l...)
	for _, b := range l {
		c.See(qcOf(b))
	}
	wantState(t, c, 5, 0, 4)
	wantIn(t, c, l[2:]...)
	wantOut(t, c, ids(l[:2]...)...)
	for n := range 60 {
		add(t, c, upon(qcOf(l[5]), 7+n))
	}
	// l[2] is in, its parent is not, it is old, and there is no room.
	wantAdd(t, c, api.ErrTwice, l[2:]...)
	wantAdd(t, c, api.ErrNone, l[:2]...)
	wantAdd(t, c, api.ErrNone, upon(api.Qc{View: 9, Block: block.Id(l[1])}, 1), upon(first(), 100), upon(qcOf(l[1]), 100), upon(api.Qc{}, 100), upon(api.Qc{View: 3, Block: "x"}, 3))
	wantAdd(t, c, api.ErrOrder, upon(api.Qc{View: 2, Block: block.Id(l[2])}, 4), upon(api.Qc{View: 4, Block: block.Id(l[2])}, 4), upon(qcOf(l[2]), 3, "x"), upon(qcOf(l[2]), 2), upon(qcOf(l[5]), 6))
	wantAdd(t, c, api.ErrOld, upon(qcOf(l[2]), 4, "x"))
	wantAdd(t, c, api.ErrFull, upon(qcOf(l[2]), 5, "x"), upon(qcOf(l[5]), 100))
}

// 17.1: a View that is not above that of the last committed block is ErrOld, whatever the parent.
func TestOld(t *testing.T) {
	c, l := chain.New(), line(first(), 3, 4, 5, 6)
	add(t, c, l...)
	wantAdd(t, c, api.OK, upon(first(), 1), upon(first(), 2), upon(first(), 3))
	for _, b := range l[:3] {
		c.See(qcOf(b))
	}
	wantState(t, c, 4, 0, 3)
	for view := 1; view <= 3; view++ {
		wantAdd(t, c, api.ErrOld, upon(first(), view, "x"))
	}
	add(t, c, upon(first(), 4, "x"), upon(qcOf(upon(first(), 1)), 4, "x"))
	wantAdd(t, c, api.ErrOld, upon(qcOf(upon(first(), 1)), 2, "x"), upon(qcOf(upon(first(), 2)), 3, "x"))
	wantSee(t, c, l[3], l[1])
	wantAdd(t, c, api.ErrOld, upon(qcOf(l[0]), 4, "x"))
	add(t, c, upon(qcOf(l[0]), 5, "x"))
}

// 17.1: there is room for 64 blocks, but for the first one, also when that was let go.
func TestFull(t *testing.T) {
	c := chain.New()
	for n := range api.MaxTable {
		add(t, c, upon(first(), 1, strconv.Itoa(n)))
	}
	wantAdd(t, c, api.ErrFull, upon(first(), 1, "x"), upon(first(), 2))
	wantAdd(t, c, api.ErrTwice, upon(first(), 1, "0"))
	wantOut(t, c, block.Id(upon(first(), 1, "x")))

	c = chain.New()
	l := line(first(), 1, 2, 3, 4)
	add(t, c, l...)
	for n := range 60 {
		add(t, c, upon(first(), 1, "x", strconv.Itoa(n)))
	}
	next := upon(qcOf(l[3]), 5)
	wantAdd(t, c, api.ErrFull, next)
	wantSee(t, c, l[2], l[0])
	wantAdd(t, c, api.ErrFull, next)
	// The last one until then is of the view 1, below which the first block alone is let go: that makes no room.
	wantSee(t, c, l[3], l[1])
	wantAdd(t, c, api.ErrNone, upon(first(), 5))
	wantAdd(t, c, api.ErrFull, next)
	wantIn(t, c, l...)
}

// 17.1, 17.3: what is let go makes room.
func TestRoomAgain(t *testing.T) {
	c, q := chain.New(), first()
	for view := 1; view <= 300; view++ {
		b := upon(q, view)
		add(t, c, b, upon(q, view, "other"))
		q = qcOf(b)
		c.See(q)
	}
	wantState(t, c, 299, 0, 298)
	n := 8
	for ; c.Add(upon(q, 301+n)) == api.OK; n++ {
	}
	// Of the views 297 to 300 there were two each.
	if n != api.MaxTable {
		t.Errorf("room for %d, want %d", n, api.MaxTable)
	}
}

// 17.2: one vote for a view, and none for a lesser one behind it.
func TestVote(t *testing.T) {
	c := chain.New()
	a, b := upon(first(), 3, "a"), upon(first(), 3, "b")
	low, high := upon(first(), 2), upon(first(), 4)
	wantVote(t, c, false, a)
	add(t, c, a, b, low, high)
	wantVote(t, c, true, a)
	wantState(t, c, 0, 3, 0)
	wantVote(t, c, false, a)
	wantVote(t, c, false, b)
	wantVote(t, c, false, low)
	wantState(t, c, 0, 3, 0)
	wantVote(t, c, true, high)
	wantVote(t, c, false, high)
	wantState(t, c, 0, 4, 0)
	if c.Vote(block.Genesis()) {
		t.Error("a vote for the first block")
	}
}

// 17.2: a block is voted for if it rests on the lock, or its Qc's View is above the lock's; a no keeps nothing.
func TestVoteByLock(t *testing.T) {
	c, l := chain.New(), line(first(), 1, 4, 7)
	fork := line(first(), 2, 3, 5)
	same := upon(first(), 4, "same")
	add(t, c, l...)
	add(t, c, fork...)
	add(t, c, same)
	wantSee(t, c, l[2])
	wantState(t, c, 4, 0, 0)
	onLock, onFirst, onParent := upon(qcOf(l[1]), 20), upon(first(), 19), upon(qcOf(l[0]), 18)
	onSame, onLess, onGreater := upon(qcOf(same), 17), upon(qcOf(fork[1]), 16), upon(qcOf(fork[2]), 15)
	add(t, c, onLock, onFirst, onParent, onSame, onLess, onGreater)
	for _, b := range []api.Block{onFirst, onParent, onSame, onLess, l[0], fork[0], fork[1], fork[2], same} {
		wantVote(t, c, false, b)
	}
	wantState(t, c, 4, 0, 0)
	wantVote(t, c, true, l[1])
	wantVote(t, c, true, l[2])
	wantVote(t, c, true, onGreater)
	wantVote(t, c, false, onLess)
	wantState(t, c, 4, 15, 0)
	wantVote(t, c, true, onLock)
	wantState(t, c, 4, 20, 0)
}

// 17.2: a vote does not need that the block's own Qc was seen, nor a lock that was told by it.
func TestVoteDeepOnLock(t *testing.T) {
	c, l := chain.New(), line(first(), 1, 3, 5, 7, 9, 11)
	add(t, c, l...)
	wantSee(t, c, l[2])
	wantState(t, c, 3, 0, 0)
	wantVote(t, c, false, l[0])
	for _, b := range l[1:] {
		wantVote(t, c, true, b)
	}
	wantState(t, c, 3, 11, 0)
}

// 17.2: behind a Skip there is no vote up to its view; a lesser Skip is none.
func TestSkip(t *testing.T) {
	c, l := chain.New(), line(first(), 1, 2, 3, 4, 5, 6, 7)
	add(t, c, l...)
	for _, view := range []int{math.MinInt, -1, 0} {
		c.Skip(view)
		wantState(t, c, 0, 0, 0)
	}
	c.Skip(2)
	wantState(t, c, 0, 2, 0)
	c.Skip(1)
	wantState(t, c, 0, 2, 0)
	wantVote(t, c, false, l[0])
	wantVote(t, c, false, l[1])
	wantVote(t, c, true, l[2])
	c.Skip(2)
	c.Skip(3)
	wantState(t, c, 0, 3, 0)
	wantVote(t, c, true, l[3])
	c.Skip(6)
	wantState(t, c, 0, 6, 0)
	wantVote(t, c, false, l[4])
	wantVote(t, c, false, l[5])
	c.Skip(math.MinInt)
	wantVote(t, c, true, l[6])
	c.Skip(math.MaxInt)
	wantState(t, c, 0, math.MaxInt, 0)
	last := upon(qcOf(l[6]), api.MaxInt)
	add(t, c, last)
	wantVote(t, c, false, last)
}

// 17.3: a Qc of a block that is not in, or of another View, does nothing.
func TestSeeNothing(t *testing.T) {
	c, l := chain.New(), line(first(), 1, 2, 3)
	add(t, c, l[:2]...)
	wantSee(t, c, l[2])
	wantHigh(t, c, first())
	add(t, c, l[2])
	for _, view := range []int{math.MinInt, -1, 0, 1, 2, 4, 5, api.MaxInt, math.MaxInt} {
		if got := c.See(api.Qc{View: view, Block: block.Id(l[2])}); len(got) > 0 {
			t.Errorf("See of the view %d: %q", view, got)
		}
	}
	wantHigh(t, c, first())
	wantState(t, c, 0, 0, 0)
	wantSee(t, c, l[2], l[0])
	wantState(t, c, 2, 0, 1)
}

// 17.3: High is the Qc of the greatest View, the first of that View that was seen, with its votes.
func TestHigh(t *testing.T) {
	c := chain.New()
	a, b, low := upon(first(), 5, "a"), upon(first(), 5, "b"), upon(first(), 4)
	add(t, c, a, b, low)
	q, again := qcOf(a), qcOf(a)
	q.Votes = []api.Tag{{Who: 0, Mac: "m"}, {Who: 2, Mac: "n"}}
	again.Votes = []api.Tag{{Who: 1, Mac: "o"}}
	c.See(qcOf(low))
	wantHigh(t, c, qcOf(low))
	c.See(q)
	wantHigh(t, c, q)
	for _, other := range []api.Qc{again, qcOf(b), qcOf(low), first()} {
		c.See(other)
		wantHigh(t, c, q)
	}
	next := upon(q, 6)
	add(t, c, next)
	c.See(qcOf(next))
	wantHigh(t, c, qcOf(next))
}

// 17.3: the lock is the parent of a block whose Qc is seen, if its View is above the lock's; it never falls.
func TestLock(t *testing.T) {
	c, l, fork := chain.New(), line(first(), 2, 4, 6, 8), line(first(), 3, 5, 7)
	add(t, c, l...)
	add(t, c, fork...)
	for _, x := range []struct {
		b    api.Block
		lock int
	}{{l[0], 0}, {fork[0], 0}, {l[1], 2}, {fork[1], 3}, {l[1], 3}, {fork[2], 5}, {l[2], 5}, {l[3], 6}, {fork[2], 6}, {l[0], 6}} {
		wantSee(t, c, x.b)
		wantState(t, c, x.lock, 0, 0)
	}
	tip := upon(qcOf(fork[2]), 20)
	add(t, c, upon(qcOf(l[2]), 19), upon(qcOf(fork[1]), 18), tip)
	wantVote(t, c, false, upon(qcOf(fork[1]), 18))
	wantVote(t, c, true, upon(qcOf(l[2]), 19))
	wantVote(t, c, true, tip)
}

// 17.3: of two blocks of one View the lock is the one whose child's Qc was seen first.
func TestLockOfOneView(t *testing.T) {
	c := chain.New()
	a, b := upon(first(), 2, "a"), upon(first(), 2, "b")
	onA, onB := upon(qcOf(a), 3), upon(qcOf(b), 4)
	add(t, c, a, b, onA, onB)
	wantSee(t, c, onA)
	wantSee(t, c, onB)
	wantState(t, c, 2, 0, 0)
	wantVote(t, c, false, b)
	wantVote(t, c, true, onA)
	wantVote(t, c, false, onB)
}

// 17.3: three Views right behind one another commit, and no others do.
func TestThree(t *testing.T) {
	for gap0 := 1; gap0 <= 3; gap0++ {
		for gap1 := 1; gap1 <= 3; gap1++ {
			for gap2 := 1; gap2 <= 3; gap2++ {
				c, l := chain.New(), line(first(), gap0, gap0+gap1, gap0+gap1+gap2)
				add(t, c, l...)
				wantSee(t, c, l[0])
				wantSee(t, c, l[1])
				wantState(t, c, gap0, 0, 0)
				if gap1 == 1 && gap2 == 1 {
					wantSee(t, c, l[2], l[0])
					wantState(t, c, gap0+1, 0, gap0)
					continue
				}
				wantSee(t, c, l[2])
				wantState(t, c, gap0+gap1, 0, 0)
			}
		}
	}
}

// 17.3: all that was not committed is told, the oldest first, whatever their Views; and nothing twice.
func TestMany(t *testing.T) {
	c, l := chain.New(), line(first(), 1, 3, 5, 7, 9, 10, 11, 12, 20, 21, 22)
	add(t, c, l...)
	wantSee(t, c, l[6], l[:5]...)
	wantState(t, c, 10, 0, 9)
	wantSee(t, c, l[6])
	wantSee(t, c, l[7], l[5])
	wantSee(t, c, l[8])
	wantSee(t, c, l[9])
	wantState(t, c, 20, 0, 10)
	wantSee(t, c, l[10], l[6], l[7], l[8])
	wantState(t, c, 21, 0, 20)
	wantSee(t, c, l[10])
	wantState(t, c, 21, 0, 20)
}

// 17.3: a Qc needs no other ones that were seen ahead of it; those that come late commit nothing.
func TestSeeLate(t *testing.T) {
	c, l := chain.New(), line(first(), 1, 2, 3, 4, 5, 6)
	add(t, c, l...)
	wantSee(t, c, l[5], l[:4]...)
	wantState(t, c, 5, 0, 4)
	wantHigh(t, c, qcOf(l[5]))
	for _, b := range []api.Block{l[4], l[3], l[2], l[1], l[0], l[4], l[5]} {
		wantSee(t, c, b)
		wantState(t, c, 5, 0, 4)
		wantHigh(t, c, qcOf(l[5]))
	}
}

// 17.3: what is let go is what is below the last committed block until then: one behind is still in.
func TestLetGo(t *testing.T) {
	c, l := chain.New(), line(first(), 1, 2, 3, 4, 5, 6, 7, 8, 9, 10)
	side := upon(first(), 1, "side")
	add(t, c, l...)
	add(t, c, side)
	wantSee(t, c, l[2], l[0])
	wantIn(t, c, l...)
	wantIn(t, c, side)
	add(t, c, upon(first(), 2, "side"))
	wantSee(t, c, l[3], l[1])
	wantIn(t, c, l...)
	wantIn(t, c, side)
	wantAdd(t, c, api.ErrNone, upon(first(), 3, "side"))
	wantSee(t, c, l[4], l[2])
	wantOut(t, c, ids(l[0], side)...)
	wantIn(t, c, l[1:]...)
	wantIn(t, c, upon(first(), 2, "side"))
	wantSee(t, c, l[8], l[3:7]...)
	wantOut(t, c, ids(l[0], l[1], upon(first(), 2, "side"))...)
	wantIn(t, c, l[2:]...)
	wantSee(t, c, l[9], l[7])
	wantOut(t, c, ids(l[:6]...)...)
	wantIn(t, c, l[6:]...)
	wantState(t, c, 9, 0, 8)
	wantAdd(t, c, api.ErrNone, l[0], l[5])
	wantAdd(t, c, api.ErrTwice, l[6])
}

// 17.2 to 17.4: of what was let go nothing is told, and no Qc of it does anything.
func TestLetGoIsOut(t *testing.T) {
	c, l := chain.New(), line(first(), 1, 2, 3, 4, 5)
	side := upon(first(), 1, "side")
	add(t, c, l...)
	add(t, c, side)
	wantSee(t, c, l[2], l[0])
	wantSee(t, c, l[4], l[1], l[2])
	wantIn(t, c, l...)
	wantSee(t, c, l[4])
	wantOut(t, c, ids(side, l[0], l[1])...)
	wantCarried(t, c, block.Id(side))
	wantVote(t, c, false, side)
	wantSee(t, c, l[1])
	if got := c.See(first()); len(got) > 0 {
		t.Errorf("See of the first block: %q", got)
	}
	wantState(t, c, 4, 0, 3)
	wantIn(t, c, l[2:]...)
}

// 17.3: three Views by which the last committed block does not change let go of what is below that one, which was the last until then, too.
func TestLetGoAgain(t *testing.T) {
	c, l := chain.New(), line(first(), 1, 2, 3, 4, 5)
	add(t, c, l...)
	for _, b := range l {
		c.See(qcOf(b))
	}
	wantState(t, c, 4, 0, 3)
	wantOut(t, c, block.Id(l[0]))
	wantIn(t, c, l[1:]...)
	wantSee(t, c, l[2])
	wantOut(t, c, ids(l[:2]...)...)
	wantIn(t, c, l[2:]...)
	wantSee(t, c, l[3])
	wantSee(t, c, l[4])
	wantIn(t, c, l[2:]...)
	wantState(t, c, 4, 0, 3)
}

// 17.3: the first block may be the oldest of the three: nothing is committed by that, and it is let go when another one was the last.
func TestFirstOfThree(t *testing.T) {
	c, l := chain.New(), line(first(), 1, 2, 3)
	add(t, c, l...)
	wantSee(t, c, l[1])
	wantState(t, c, 1, 0, 0)
	wantSee(t, c, l[2], l[0])
	onFirst := upon(first(), 4)
	add(t, c, onFirst)
	wantSee(t, c, l[1])
	wantAdd(t, c, api.ErrNone, upon(first(), 5))
	wantIn(t, c, l...)
	wantIn(t, c, onFirst)
	wantState(t, c, 2, 0, 1)
}

// 17.3: where not three Views are right behind one another nothing is let go.
func TestNothingLetGo(t *testing.T) {
	c, l := chain.New(), line(first(), 1, 2, 3, 5, 6)
	add(t, c, l...)
	wantSee(t, c, l[2], l[0])
	for _, b := range []api.Block{l[0], l[3], l[4]} {
		wantSee(t, c, b)
		add(t, c, upon(first(), 10+b.View))
	}
	wantIn(t, c, l...)
}

// 17.4: the Certs of all that a block rests on and that is not committed, the oldest block's first.
func TestCarried(t *testing.T) {
	c := chain.New()
	a := upon(first(), 1, "a", "b")
	b := upon(qcOf(a), 2)
	d := upon(qcOf(b), 3, "c", "a", "c")
	e := upon(qcOf(d), 4, "d")
	side := upon(qcOf(a), 5, "s")
	add(t, c, a, b, d, e, side)
	wantCarried(t, c, block.Id(a), "a", "b")
	wantCarried(t, c, block.Id(b), "a", "b")
	wantCarried(t, c, block.Id(d), "a", "b", "c", "a", "c")
	wantCarried(t, c, block.Id(e), "a", "b", "c", "a", "c", "d")
	wantCarried(t, c, block.Id(side), "a", "b", "s")
	for _, id := range []string{block.Genesis(), "", "x", block.Id(upon(first(), 9))} {
		wantCarried(t, c, id)
	}
	wantSee(t, c, d, a)
	wantCarried(t, c, block.Id(a))
	wantCarried(t, c, block.Id(b))
	wantCarried(t, c, block.Id(d), "c", "a", "c")
	wantCarried(t, c, block.Id(e), "c", "a", "c", "d")
	wantCarried(t, c, block.Id(side), "s")
	wantSee(t, c, e, b)
	wantCarried(t, c, block.Id(e), "c", "a", "c", "d")
}

// 17.3, 17.4: a block that is in rests on what was let go, too, whether that was committed or not.
func TestRestsOnLetGo(t *testing.T) {
	c, l := chain.New(), line(first(), 1, 2, 3, 4, 5)
	fork := []api.Block{upon(first(), 1, "x")}
	for view := 2; view <= 9; view++ {
		fork = append(fork, upon(qcOf(fork[view-2]), view, strconv.Itoa(-view)))
	}
	add(t, c, l...)
	add(t, c, fork...)
	for _, b := range l {
		c.See(qcOf(b))
	}
	wantState(t, c, 4, 0, 3)
	wantOut(t, c, block.Id(fork[0]))
	wantIn(t, c, fork[1:]...)
	wantCarried(t, c, block.Id(fork[1]), "x", "-2")
	wantCarried(t, c, block.Id(fork[4]), "x", "-2", "-3", "-4", "-5")
	wantSee(t, c, fork[1])
	wantOut(t, c, ids(fork[0])...)
	wantSee(t, c, fork[2], fork[0])
	wantState(t, c, 4, 0, 3)
	wantOut(t, c, ids(l[1], fork[1])...)
	wantCarried(t, c, block.Id(fork[4]), "-2", "-3", "-4", "-5")
	wantSee(t, c, fork[8], fork[1:7]...)
	wantState(t, c, 8, 0, 7)
	wantSee(t, c, fork[8])
	wantOut(t, c, ids(append(l, fork[:6]...)...)...)
	wantIn(t, c, fork[6:]...)
	wantCarried(t, c, block.Id(fork[8]), "-8", "-9")
}

// 17.1 to 17.4: what is refused changes nothing.
func TestRefused(t *testing.T) {
	c, l := chain.New(), line(first(), 1, 2, 3)
	add(t, c, l...)
	wantVote(t, c, true, l[0])
	wantSee(t, c, l[2], l[0])
	wrong := []api.Block{upon(api.Qc{View: 9, Block: "x"}, 10), upon(api.Qc{View: 3, Block: block.Id(l[1])}, 10), upon(first(), 1, "x")}
	for at, want := range []api.Errno{api.ErrNone, api.ErrOrder, api.ErrOld} {
		wantAdd(t, c, want, wrong[at])
		wantSee(t, c, wrong[at])
	}
	wantAdd(t, c, api.ErrTwice, l...)
	wantOut(t, c, ids(wrong...)...)
	wantIn(t, c, l...)
	wantState(t, c, 2, 1, 1)
	wantHigh(t, c, qcOf(l[2]))
	wantCarried(t, c, block.Id(l[2]), "2", "3")
}

// 17.1, 17.3: the greatest Views there are.
func TestGreatest(t *testing.T) {
	c, l := chain.New(), line(first(), api.MaxInt-3, api.MaxInt-2, api.MaxInt-1, api.MaxInt)
	add(t, c, l...)
	for _, b := range l {
		wantVote(t, c, true, b)
	}
	wantSee(t, c, l[3], l[0], l[1])
	wantState(t, c, api.MaxInt-1, api.MaxInt, api.MaxInt-2)
	wantAdd(t, c, api.ErrOrder, upon(qcOf(l[3]), api.MaxInt), upon(qcOf(l[3]), math.MinInt))
	wantHigh(t, c, qcOf(l[3]))
}

// tagged is a block with votes and marks in a room of its own, and that room.
func tagged(q api.Qc, view int) (api.Block, []api.Tag, []string) {
	votes := []api.Tag{{Who: 0, Mac: "m"}, {Who: 1, Mac: "n"}, {Who: 9, Mac: "spare"}}
	certs := []string{"a", "b", "spare"}
	q.Votes = votes[:2]
	return upon(q, view, certs[:2]...), votes, certs
}

// 17.1, 17.3 (R4): what was handed in is not kept and not changed, also in the spare room behind it.
func TestHandedIn(t *testing.T) {
	c := chain.New()
	b, votes, certs := tagged(first(), 1)
	id := block.Id(b)
	add(t, c, b)
	q := api.Qc{View: 1, Block: id, Votes: votes[:2]}
	c.See(q)
	if votes[0].Mac != "m" || votes[1].Mac != "n" || votes[2].Mac != "spare" || !slices.Equal(certs, []string{"a", "b", "spare"}) {
		t.Errorf("handed in, and changed: %v, %q", votes, certs)
	}
	for i := range votes {
		votes[i], certs[i] = api.Tag{Who: 7, Mac: "x"}, "x"
	}
	want, wantVotes, _ := tagged(first(), 1)
	if got, ok := c.Get(id); !ok || !sameBlock(got, want) {
		t.Errorf("Get: %v, %v, want %v", got, ok, want)
	}
	wantHigh(t, c, api.Qc{View: 1, Block: id, Votes: wantVotes[:2]})
	wantCarried(t, c, id, "a", "b")
}

// 17.1, 17.3, 17.4 (R4): answers are new memory, whose change changes nothing that is kept.
func TestHandedOut(t *testing.T) {
	c := chain.New()
	b, votes, _ := tagged(first(), 1)
	id := block.Id(b)
	q := api.Qc{View: 1, Block: id, Votes: votes[:2]}
	l := append([]api.Block{b}, line(qcOf(b), 2, 3)...)
	add(t, c, l...)
	c.See(q)
	for range 2 {
		got, _ := c.Get(id)
		high, carried := c.High(), c.Carried(block.Id(l[2]))
		if !sameBlock(got, b) || !sameQc(high, q) || !slices.Equal(carried, []string{"a", "b", "2", "3"}) {
			t.Errorf("%v, %v, %q", got, high, carried)
		}
		for i := range 2 {
			got.Certs[i], carried[i], carried[i+2] = "x", "y", "z"
			got.Qc.Votes[i], high.Votes[i] = api.Tag{Who: 7}, api.Tag{Who: 8}
		}
		_, _ = append(got.Certs[:0], "z", "z", "z"), append(high.Votes[:0], api.Tag{}, api.Tag{}, api.Tag{})
	}
	done := c.See(qcOf(l[2]))
	done[0] = "x"
	wantSee(t, c, l[2])
	wantIn(t, c, l...)
}

// 17.3 (and the language's rule 8): committed blocks that were let go are kept no more.
func TestKeptNoMore(t *testing.T) {
	const blocks, size = 600, 1 << 15
	c, q := chain.New(), first()
	var before, after runtime.MemStats
	runtime.GC()
	runtime.ReadMemStats(&before)
	for view := 1; view <= blocks; view++ {
		b := upon(q, view, strings.Repeat(strconv.Itoa(view%10), size))
		add(t, c, b)
		q = qcOf(b)
		c.See(q)
	}
	runtime.GC()
	runtime.ReadMemStats(&after)
	if kept := int64(after.HeapAlloc) - int64(before.HeapAlloc); kept > blocks*size/4 {
		t.Errorf("%d bytes are kept of %d", kept, blocks*size)
	}
	wantState(t, c, blocks-1, 0, blocks-2)
}
