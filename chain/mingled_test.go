package chain_test

import (
	"slices"
	"strconv"
	"testing"

	"tusk/api"
	"tusk/block"
	"tusk/chain"
)

// steps answers numbers that look like no order, the same ones at every run.
func steps(x uint64) func(n int) int {
	return func(n int) int {
		x = x*6364136223846793005 + 1442695040888963407
		return int(x>>33) % n
	}
}

// item is a block of a plain chain.
type item struct {
	id            string
	b             api.Block
	parent        int
	in, committed bool
}

// plain is the same by a list of all blocks that ever were in, the first one ahead; lock and last are places of it.
type plain struct {
	all               []item
	high              api.Qc
	lock, voted, last int
}

// newPlain is a plain chain of the first block alone.
func newPlain() *plain {
	return &plain{all: []item{{id: block.Genesis(), in: true, committed: true}}, high: first()}
}

// at is where an id is, in or let go; or -1.
func (p *plain) at(id string) int {
	return slices.IndexFunc(p.all, func(x item) bool { return x.id == id })
}

// atIn is where an id is in, or -1.
func (p *plain) atIn(id string) int {
	if n := p.at(id); n >= 0 && p.all[n].in {
		return n
	}
	return -1
}

// view is the View of a block.
func (p *plain) view(n int) int { return p.all[n].b.View }

// rests is what a block rests on, the oldest first.
func (p *plain) rests(n int) []int {
	if n == 0 {
		return []int{0}
	}
	return append(p.rests(p.all[n].parent), n)
}

// count is how many are in, but for the first one.
func (p *plain) count() int {
	n := 0
	for _, x := range p.all[1:] {
		if x.in {
			n++
		}
	}
	return n
}

// add is what Add is to answer.
func (p *plain) add(b api.Block) api.Errno {
	id, parent := block.Id(b), p.atIn(b.Qc.Block)
	switch {
	case p.atIn(id) >= 0:
		return api.ErrTwice
	case parent < 0:
		return api.ErrNone
	case b.Qc.View != p.view(parent) || b.View <= p.view(parent):
		return api.ErrOrder
	case b.View <= p.view(p.last):
		return api.ErrOld
	case p.count() >= api.MaxTable:
		return api.ErrFull
	}
	p.all = append(p.all, item{id: id, b: b, parent: parent, in: true})
	return api.OK
}

// vote is what Vote is to answer.
func (p *plain) vote(id string) bool {
	n := p.atIn(id)
	if n <= 0 || p.view(n) <= p.voted {
		return false
	}
	if slices.Contains(p.rests(n), p.lock) || p.all[n].b.Qc.View > p.view(p.lock) {
		p.voted = p.view(n)
		return true
	}
	return false
}

// see is what See is to answer.
func (p *plain) see(q api.Qc) []string {
	n := p.atIn(q.Block)
	if n < 0 || p.view(n) != q.View {
		return nil
	}
	if q.View > p.high.View {
		p.high = q
	}
	l := p.rests(n)
	if len(l) < 2 {
		return nil
	}
	b1 := l[len(l)-2]
	if p.view(b1) > p.view(p.lock) {
		p.lock = b1
	}
	if len(l) < 3 {
		return nil
	}
	b0 := l[len(l)-3]
	if p.view(b1) != p.view(n)-1 || p.view(b0) != p.view(b1)-1 {
		return nil
	}
	return p.commit(b0)
}

// commit is which blocks are committed with one, the oldest first.
func (p *plain) commit(b0 int) []string {
	var out []string
	for _, n := range p.rests(b0) {
		if !p.all[n].committed {
			p.all[n].committed = true
			out = append(out, p.all[n].id)
		}
	}
	until := p.view(p.last)
	if p.view(b0) > until {
		p.last = b0
	}
	for n := range p.all {
		if p.view(n) < until {
			p.all[n].in = false
		}
	}
	return out
}

// carried is what Carried is to answer.
func (p *plain) carried(id string) []string {
	n := p.atIn(id)
	if n < 0 {
		return nil
	}
	var out []string
	for _, m := range p.rests(n) {
		if !p.all[m].committed {
			out = append(out, p.all[m].b.Certs...)
		}
	}
	return out
}

// some is where a block is, mostly one of the last few.
func (p *plain) some(pick func(int) int, few int) int {
	if pick(8) == 0 {
		return pick(len(p.all))
	}
	return len(p.all) - 1 - pick(min(few, len(p.all)))
}

// next is a block upon another one, mostly right.
func (p *plain) next(pick func(int) int) api.Block {
	parent := p.all[p.some(pick, 3)]
	b := upon(api.Qc{View: parent.b.View, Block: parent.id}, parent.b.View+1, strconv.Itoa(pick(3)))
	switch pick(24) {
	case 0:
		b.Qc.View += pick(3) - 1
	case 1:
		b.View -= pick(3)
	case 2, 3:
		b.View += pick(4)
	case 4:
		b.Qc.Block = "x"
	case 5:
		b.Certs = append(b.Certs, "more")
	}
	return b
}

// 17.1 to 17.4: mingled calls, held against a plain chain.
func TestMingled(t *testing.T) {
	counts := map[string]int{}
	for seed := range 80 {
		pick := steps(uint64(seed))
		c, p := chain.New(), newPlain()
		// Where a Qc is seldom seen little is let go, and chains get full.
		kinds := 8 + seed%4*20
		for step := range 300 {
			x := p.all[p.some(pick, 4)]
			switch pick(kinds) {
			case 0, 1:
				q := api.Qc{View: x.b.View, Block: x.id, Votes: []api.Tag{{Who: step}}}
				if pick(16) == 0 {
					q.View += pick(3) - 1
				}
				last := p.last
				got, want := c.See(q), p.see(q)
				if !slices.Equal(got, want) {
					t.Fatalf("seed %d, step %d: See(%v): %q, want %q", seed, step, q, got, want)
				}
				if len(want) > 1 {
					counts["many"]++
				}
				if len(want) > 0 && p.last == last {
					counts["committed, and not the last"]++
				}
			case 2:
				got, want := c.Vote(x.id), p.vote(x.id)
				if got != want {
					t.Fatalf("seed %d, step %d: Vote of the view %d: %v", seed, step, x.b.View, got)
				}
				counts["vote "+strconv.FormatBool(want)]++
			case 3:
				if pick(4) == 0 {
					view := x.b.View + pick(3) - 2
					c.Skip(view)
					p.voted = max(p.voted, view)
				}
			default:
				b := p.next(pick)
				got, want := c.Add(b), p.add(b)
				if got != want {
					t.Fatalf("seed %d, step %d: Add(%v): error %d, want %d", seed, step, b, got, want)
				}
				counts[want.Error()]++
			}
			holdAgainst(t, c, p, counts)
		}
	}
	for _, what := range []string{"many", "committed, and not the last", "vote true", "vote false", "let go, and rested on", api.OK.Error(), api.ErrTwice.Error(), api.ErrNone.Error(), api.ErrOrder.Error(), api.ErrOld.Error(), api.ErrFull.Error()} {
		if counts[what] < 20 {
			t.Errorf("too few of a kind: %s, %d", what, counts[what])
		}
	}
}

// holdAgainst is that what is told of a chain is the same as of the plain one.
func holdAgainst(t *testing.T, c *chain.Chain, p *plain, counts map[string]int) {
	t.Helper()
	lock, voted, last := c.State()
	if lock != p.view(p.lock) || voted != p.voted || last != p.view(p.last) {
		t.Fatalf("State: %d, %d, %d, want %d, %d, %d", lock, voted, last, p.view(p.lock), p.voted, p.view(p.last))
	}
	if q := c.High(); !sameQc(q, p.high) {
		t.Fatalf("High: %v, want %v", q, p.high)
	}
	for n, x := range p.all {
		b, ok := c.Get(x.id)
		if want := x.in && n > 0; ok != want || ok && !sameBlock(b, x.b) {
			t.Fatalf("Get of the view %d: %v, %v, want %v", x.b.View, b, ok, want)
		}
	}
	for _, x := range p.all[max(0, len(p.all)-12):] {
		if l, want := c.Carried(x.id), p.carried(x.id); !slices.Equal(l, want) {
			t.Fatalf("Carried of the view %d: %q, want %q", x.b.View, l, want)
		}
		if parent := p.all[x.parent]; x.in && !parent.in && !parent.committed {
			counts["let go, and rested on"]++
		}
	}
}
