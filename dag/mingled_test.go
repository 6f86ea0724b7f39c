package dag_test

import (
	"reflect"
	"slices"
	"testing"

	"tusk/api"
	"tusk/auth"
	"tusk/cert"
	"tusk/dag"
	"tusk/header"
)

// plain is a dag by lists, word by word as the chapter has it.
type plain struct {
	table          *auth.Table
	self, low, own int
	in             []entry
	voted          []api.Header
}

// entry is a certificate that is in, by its id.
type entry struct {
	id string
	c  api.Cert
}

// find is the certificate of an id.
func (p *plain) find(id string) (api.Cert, bool) {
	for _, x := range p.in {
		if x.id == id {
			return x.c, true
		}
	}
	return api.Cert{}, false
}

// ids is what Ids is to answer.
func (p *plain) ids(round int) []string {
	var l []string
	for _, x := range p.in {
		if x.c.Header.Round == round {
			l = append(l, x.id)
		}
	}
	slices.Sort(l)
	return l
}

// missing is what Missing is to answer.
func (p *plain) missing(h api.Header) []string {
	var l []string
	for _, id := range h.Parents {
		if _, ok := p.find(id); !ok && h.Round > p.low && !slices.Contains(l, id) {
			l = append(l, id)
		}
	}
	slices.Sort(l)
	return l
}

// parents is what is wrong with a right header's parents.
func (p *plain) parents(h api.Header) api.Errno {
	if len(p.missing(h)) > 0 {
		return api.ErrNone
	}
	for _, id := range h.Parents {
		if c, _ := p.find(id); h.Round > p.low && c.Header.Round+1 != h.Round {
			return api.ErrOrder
		}
	}
	return api.OK
}

// vote is which error Vote is to answer.
func (p *plain) vote(h api.Header) api.Errno {
	if e := header.Check(p.table, h); e != api.OK {
		return e
	}
	if h.Round < p.low {
		return api.ErrOld
	}
	if e := p.parents(h); e != api.OK {
		return e
	}
	for _, x := range p.voted {
		if x.Author == h.Author && x.Round == h.Round && header.Encode(x) != header.Encode(h) {
			return api.ErrClash
		}
	}
	p.voted = append(p.voted, h)
	return api.OK
}

// add is what Add is to answer.
func (p *plain) add(c api.Cert) api.Errno {
	if e := cert.Check(p.table, c); e != api.OK {
		return e
	}
	if c.Header.Round < p.low {
		return api.ErrOld
	}
	if _, ok := p.find(header.Id(c.Header)); ok {
		return api.ErrTwice
	}
	if e := p.parents(c.Header); e != api.OK {
		return e
	}
	for _, x := range p.in {
		if x.c.Header.Author == c.Header.Author && x.c.Header.Round == c.Header.Round {
			return api.ErrClash
		}
	}
	if len(p.in) >= 32*p.table.N() {
		return api.ErrFull
	}
	p.in = append(p.in, entry{header.Id(c.Header), c})
	return api.OK
}

// round is what Round is to answer.
func (p *plain) round() int {
	greatest := 0
	for _, x := range p.in {
		if r := x.c.Header.Round; r > greatest && len(p.ids(r)) >= p.table.Need() {
			greatest = r
		}
	}
	return greatest
}

// next is what Next is to answer.
func (p *plain) next(refs []api.Ref) (api.Header, bool) {
	r := p.round() + 1
	if r <= p.own || r < p.low {
		return api.Header{}, false
	}
	p.own = r
	h := api.Header{Author: p.self, Round: r, Refs: refs}
	if r > 1 {
		h.Parents = p.ids(r - 1)
	}
	return h, true
}

// lower is what Low is to answer.
func (p *plain) lower(round int) int {
	if round <= p.low {
		return 0
	}
	p.low = round
	ahead := len(p.in)
	p.in = slices.DeleteFunc(p.in, func(x entry) bool { return x.c.Header.Round < round })
	p.voted = slices.DeleteFunc(p.voted, func(h api.Header) bool { return h.Round < round })
	return ahead - len(p.in)
}

// steps answers numbers that look like no order, the same ones at every run.
func steps() func(n int) int {
	seed := uint32(1)
	return func(n int) int {
		seed = seed*1664525 + 1013904223
		return int(seed>>8) % n
	}
}

// pair is a dag and the plain one that it is held against, with some ids that were let go, and how often each error came.
type pair struct {
	t     *testing.T
	d     *dag.Dag
	plain *plain
	pick  func(n int) int
	gone  []string
	seen  map[api.Errno]int
	told  int // headers of its own
}

// some is so many of these, whichever; all of them, if there are fewer.
func (p *pair) some(l []string, n int) []string {
	l = slices.Clone(l)
	for len(l) > n {
		i := p.pick(len(l))
		l = slices.Delete(l, i, i+1)
	}
	return l
}

// upon is parents for a header of a round: most often some of the round ahead, so many as are enough.
func (p *pair) upon(round int) []string {
	if round == 1 && p.pick(30) > 0 {
		return nil
	}
	x := p.plain.table
	l := p.some(p.plain.ids(round-1), x.Need()+p.pick(x.N()-x.Need()+1))
	switch p.pick(12) {
	case 0:
		l = append(l, digest(p.pick(250)))
	case 1:
		l = append(l, p.some(p.plain.ids(round-2), 1)...)
	case 2:
		l = append(l, p.some(p.gone, 1)...)
	case 3:
		l = p.some(p.plain.ids(round-2), x.Need())
	case 4:
		l = p.some(l, x.Need()-1)
	}
	for round > 1 && round <= p.plain.low && len(l) < x.Need() {
		l = append(l, digest(p.pick(250)))
	}
	slices.Sort(l)
	return slices.Compact(l)
}

// header is a header near to where the rounds have come to; most often it is right.
func (p *pair) header() api.Header {
	x := p.plain.table
	round := max(p.plain.round()+1, p.plain.low)
	switch p.pick(6) {
	case 0:
		round -= p.pick(4)
	case 1:
		round += p.pick(3) - 1
	case 2:
		if p.pick(4) == 0 {
			round = max(p.plain.low-p.pick(3), 1)
		}
	}
	h := api.Header{Author: p.pick(x.N()), Round: round, Parents: p.upon(round)}
	if p.pick(60) == 0 {
		h.Author = x.N()
	}
	if p.pick(8) == 0 {
		h.Refs = []api.Ref{ref(p.t, x, p.pick(3))}
	}
	return h
}

func (p *pair) add(h api.Header) {
	p.t.Helper()
	c := certOf(p.t, p.plain.table, h)
	if p.pick(20) == 0 {
		c.Votes = c.Votes[1:]
	}
	e, want := p.d.Add(c), p.plain.add(c)
	if e != want {
		p.t.Fatalf("Add of %d's in round %d: error %d, want %d", h.Author, h.Round, e, want)
	}
	p.seen[e]++
}

func (p *pair) vote(h api.Header) {
	p.t.Helper()
	var want api.Tag
	e := p.plain.vote(h)
	if e == api.OK {
		want = tags(p.t, p.plain.table, "vote", header.Id(h), p.plain.self)[0]
	}
	if tag, got := p.d.Vote(h); tag != want || got != e {
		p.t.Fatalf("Vote for %d's in round %d: %x, error %d, want %x, %d", h.Author, h.Round, tag, got, want, e)
	}
	p.seen[e]++
}

func (p *pair) next() {
	p.t.Helper()
	refs := []api.Ref{ref(p.t, p.plain.table, p.pick(9))}
	h, ok := p.d.Next(refs)
	want, wantOK := p.plain.next(refs)
	if ok != wantOK || len(h.Parents) != len(want.Parents) {
		p.t.Fatalf("Next: %v, %v, want %v, %v", h, ok, want, wantOK)
	}
	if len(h.Parents) == 0 {
		h.Parents, want.Parents = nil, nil
	}
	if !reflect.DeepEqual(h, want) {
		p.t.Fatalf("Next: %v, want %v", h, want)
	}
	if ok {
		p.told++
		spoilHeader(h)
	}
}

func (p *pair) lower(round int) {
	p.t.Helper()
	for r := p.plain.low; r < round && r <= p.plain.low+40; r++ {
		p.gone = append(p.gone, p.plain.ids(r)...)
	}
	if n, want := p.d.Low(round), p.plain.lower(round); n != want {
		p.t.Fatalf("Low(%d): %d, want %d", round, n, want)
	}
}

// step is one call, of any kind.
func (p *pair) step() {
	p.t.Helper()
	switch n := p.pick(200); {
	case n == 0:
		p.lower(p.plain.round() - 2 - p.pick(25))
	case n == 1 && p.pick(6) == 0:
		p.lower(p.plain.round() + p.pick(4))
	case n < 20:
		p.next()
	case n < 70:
		p.vote(p.header())
	default:
		p.add(p.header())
	}
}

// look is that both say the same of a header, of its parents, and of all rounds.
func (p *pair) look() {
	p.t.Helper()
	h := p.header()
	if l, want := p.d.Missing(h), p.plain.missing(h); !slices.Equal(l, want) {
		p.t.Fatalf("Missing: %x, want %x", l, want)
	}
	for _, id := range h.Parents {
		c, ok := p.d.Get(id)
		want, wantOK := p.plain.find(id)
		if ok != wantOK || cert.Encode(c) != cert.Encode(want) {
			p.t.Fatalf("Get(%x): %v, %v, want %v, %v", id, c, ok, want, wantOK)
		}
	}
	top := p.plain.round()
	if r := p.d.Round(); r != top {
		p.t.Fatalf("Round: %d, want %d", r, top)
	}
	for r := top - 2; r <= top+2; r++ {
		if l, want := p.d.Ids(r), p.plain.ids(r); !slices.Equal(l, want) {
			p.t.Fatalf("Ids(%d): %x, want %x", r, l, want)
		}
	}
}

// 14.1 to 14.3: all calls in long mingled rows answer as the plain dag does; two dags that are used by turns know nothing of each other.
func TestMingled(t *testing.T) {
	pick := steps()
	seen := map[api.Errno]int{}
	for f := 1; f <= api.MaxF; f++ {
		x := table(t, f)
		var pairs []*pair
		for _, self := range []int{0, x.N() - 1} {
			pairs = append(pairs, &pair{t: t, d: made(t, x, self), plain: &plain{table: x, self: self, low: 1}, pick: pick, seen: seen})
		}
		for range 20000 {
			p := pairs[pick(2)]
			p.step()
			if pick(10) == 0 {
				p.look()
			}
		}
		for _, p := range pairs {
			if p.told < 20 {
				t.Errorf("f %d: %d headers of %d's own", f, p.told, p.plain.self)
			}
		}
	}
	for _, e := range []api.Errno{api.OK, api.ErrRange, api.ErrFew, api.ErrOld, api.ErrNone, api.ErrOrder, api.ErrClash, api.ErrTwice, api.ErrFull} {
		if seen[e] < 50 {
			t.Errorf("error %d came %d times", e, seen[e])
		}
	}
}
