package walk_test

import (
	"slices"
	"testing"

	"tusk/api"
	"tusk/walk"
)

// steps answers numbers that look like no order, the same ones at every run.
func steps(x uint64) func(n int) int {
	return func(n int) int {
		x = x*6364136223846793005 + 1442695040888963407
		return int(x>>33) % n
	}
}

// item is a vertex of a plain graph.
type item struct {
	id            string
	round, author int
	parents       []string
	emitted       bool
}

// plain is the same by a list, in the order of what was laid in.
type plain struct {
	in  []item
	low int
}

// at is where an id is in, or -1.
func (p *plain) at(id string) int {
	return slices.IndexFunc(p.in, func(x item) bool { return x.id == id })
}

// add is what Add is to answer.
func (p *plain) add(x item) api.Errno {
	clash := func(y item) bool { return y.round == x.round && y.author == x.author }
	switch {
	case x.round < 0 || x.round > mostRound || x.author < 0 || x.author > mostAuthor:
		return api.ErrRange
	case len(x.parents) > mostParents:
		return api.ErrLong
	case p.at(x.id) >= 0:
		return api.ErrTwice
	case x.round < p.low:
		return api.ErrOld
	case slices.ContainsFunc(p.in, clash):
		return api.ErrClash
	case len(p.in) >= mostVertices:
		return api.ErrFull
	}
	p.in = append(p.in, x)
	return api.OK
}

// history is the ids of a history, but for what was emitted: it grows until nothing is left to be put in.
func (p *plain) history(id string) []string {
	l := []string{id}
	for grown := true; grown; {
		grown = false
		for _, x := range p.in {
			if !slices.Contains(l, x.id) || x.emitted || x.round <= p.low {
				continue
			}
			for _, parent := range x.parents {
				if !slices.Contains(l, parent) {
					l, grown = append(l, parent), true
				}
			}
		}
	}
	return l
}

// emit is what Emit is to answer.
func (p *plain) emit(id string) (out, missing []string) {
	var found []item
	for _, one := range p.history(id) {
		at := p.at(one)
		if at < 0 {
			missing = append(missing, one)
		} else if !p.in[at].emitted {
			found = append(found, p.in[at])
		}
	}
	if len(missing) > 0 {
		slices.Sort(missing)
		return nil, missing
	}
	slices.SortFunc(found, func(x, y item) int { return (x.round-y.round)*(mostAuthor+1) + x.author - y.author })
	for _, x := range found {
		p.in[p.at(x.id)].emitted = true
		out = append(out, x.id)
	}
	return out, nil
}

// lower is what Low is to answer.
func (p *plain) lower(round int) int {
	if round <= p.low {
		return 0
	}
	p.low = round
	n := len(p.in)
	p.in = slices.DeleteFunc(p.in, func(x item) bool { return x.round < round })
	return n - len(p.in)
}

// some is an item of a round near this one, mostly upon ids of the rounds around it.
func some(pick func(int) int, near int) item {
	round, author := near+pick(4)-1, pick(mostAuthor+1)
	x := item{id: name(round, author), round: round, author: author}
	switch pick(20) {
	case 0:
		x.id = name(near, pick(7))
	case 1:
		x.author = pick(9) - 1
	}
	for range pick(4) + pick(pick(6)+1) {
		ahead := round - 1
		if pick(16) == 0 {
			ahead = round + pick(4) - 2
		}
		x.parents = append(x.parents, name(ahead, pick(mostAuthor+1)))
	}
	return x
}

// 16.1, 16.2: mingled calls, held against a plain graph.
func TestMingled(t *testing.T) {
	counts := map[string]int{}
	for seed := range 60 {
		pick := steps(uint64(seed))
		g, p := walk.New(), &plain{}
		for step := range 600 {
			near := step / 40
			switch pick(8) {
			case 0, 1:
				id := name(near+pick(4)-2, pick(7))
				l, missing := g.Emit(id)
				want, wantMissing := p.emit(id)
				if !slices.Equal(l, want) || !slices.Equal(missing, wantMissing) {
					t.Fatalf("seed %d, step %d: Emit(%s): %q, %q, want %q, %q", seed, step, id, l, missing, want, wantMissing)
				}
				if len(want) > 1 {
					counts["emitted"]++
				}
				if len(wantMissing) > 1 {
					counts["missing"]++
				}
			case 2:
				round := near - pick(8)
				if n, want := g.Low(round), p.lower(round); n != want {
					t.Fatalf("seed %d, step %d: Low(%d): %d, want %d", seed, step, round, n, want)
				} else if want > 0 {
					counts["low"]++
				}
			default:
				x := some(pick, near)
				e, want := g.Add(x.id, x.round, x.author, x.parents), p.add(x)
				if e != want {
					t.Fatalf("seed %d, step %d: Add(%v): error %d, want %d", seed, step, x, e, want)
				}
				counts[want.Error()]++
			}
			holdAgainst(t, g, p, near)
		}
	}
	for _, what := range []string{"emitted", "missing", "low", api.OK.Error(), api.ErrRange.Error(), api.ErrLong.Error(), api.ErrTwice.Error(), api.ErrOld.Error(), api.ErrClash.Error()} {
		if counts[what] < 20 {
			t.Errorf("too few of a kind: %s, %d", what, counts[what])
		}
	}
}

// holdAgainst is that what is told of a graph is the same as of the plain one.
func holdAgainst(t *testing.T, g *walk.Graph, p *plain, near int) {
	t.Helper()
	if g.Len() != len(p.in) {
		t.Fatalf("Len: %d, want %d", g.Len(), len(p.in))
	}
	for _, id := range names(near - 1) {
		at := p.at(id)
		if want := at >= 0 && p.in[at].emitted; g.Emitted(id) != want {
			t.Fatalf("Emitted(%s): %v", id, !want)
		}
	}
}

// layers is the vertices of some rounds, each upon some of the round ahead.
func layers(pick func(int) int, rounds int) []item {
	var l []item
	for round := 1; round <= rounds; round++ {
		for author := range mostAuthor + 1 {
			x := item{id: name(author, round), round: round, author: author}
			for parent := range mostAuthor + 1 {
				if round > 1 && pick(3) == 0 {
					x.parents = append(x.parents, name(parent, round-1))
				}
			}
			l = append(l, x)
		}
	}
	return l
}

// shuffle mingles a list.
func shuffle[T any](pick func(int) int, l []T) {
	for i := len(l) - 1; i > 0; i-- {
		j := pick(i + 1)
		l[i], l[j] = l[j], l[i]
	}
}

// 16.3: graphs of the same vertices, laid in in whatever order, with the parents in whatever order, emit the same; nothing twice, and parents first.
func TestOneOrder(t *testing.T) {
	for seed := range 40 {
		pick := steps(uint64(seed))
		l := layers(pick, 12)
		first := laid(t, l)
		var others []*walk.Graph
		for range 4 {
			shuffle(pick, l)
			for _, x := range l {
				shuffle(pick, x.parents)
			}
			others = append(others, laid(t, l))
		}
		var all []string
		for range 40 {
			id := l[pick(len(l))].id
			out, missing := first.Emit(id)
			if len(missing) > 0 {
				t.Fatalf("Emit(%s): missing %q", id, missing)
			}
			for _, g := range others {
				if again, missing := g.Emit(id); !slices.Equal(again, out) || len(missing) > 0 {
					t.Fatalf("Emit(%s): %q, missing %q, want %q", id, again, missing, out)
				}
			}
			wantParentsFirst(t, l, out)
			all = append(all, out...)
		}
		slices.Sort(all)
		if once := slices.Compact(slices.Clone(all)); len(once) != len(all) {
			t.Errorf("seed %d: %d emitted, %d of them once", seed, len(all), len(once))
		}
	}
}

// laid is a graph of these vertices, in their order.
func laid(t *testing.T, l []item) *walk.Graph {
	t.Helper()
	g := walk.New()
	for _, x := range l {
		add(t, g, x.id, x.round, x.author, x.parents...)
	}
	return g
}

// wantParentsFirst is that a parent that was emitted with a vertex stands ahead of it.
func wantParentsFirst(t *testing.T, l []item, out []string) {
	t.Helper()
	for _, x := range l {
		at := slices.Index(out, x.id)
		for _, parent := range x.parents {
			if at >= 0 && slices.Index(out, parent) > at {
				t.Errorf("%s stands ahead of its parent %s: %q", x.id, parent, out)
			}
		}
	}
}
