package node_test

import (
	"slices"
	"strings"

	"tusk/api"
	"tusk/auth"
	"tusk/batch"
	"tusk/block"
	"tusk/chain"
	"tusk/dag"
	"tusk/exec"
	"tusk/header"
	"tusk/msg"
	"tusk/node"
	"tusk/seals"
	"tusk/walk"
	"tusk/wire"
	"tusk/worker"
)

// plainWish is something that is wanted: 'b', 'c' or 'k', and a digest.
type plainWish struct {
	kind   byte
	digest string
	of     []int
	asked  int // how often
	ago    int // ticks since it was asked last
}

// kept is a message by a digest.
type kept struct {
	digest string
	m      api.Msg
}

// plain is a validator by the chapter's words, with lists instead of the simpler ones of the layers below.
type plain struct {
	c          api.Config
	self, n    int
	t          *auth.Table
	w          *worker.Worker
	d          *dag.Dag
	g          *walk.Graph
	k          *chain.Chain
	x          *exec.Exec
	votes      *seals.Board
	agreed     *seals.Board
	view       int
	failures   int
	over       int
	ticks      int
	low        int
	wishes     []plainWish
	line       []string // not done yet
	batches    []kept
	mine       []kept // all batches that were sealed
	proposals  []kept
	own        *api.Header
	viewOf     map[string]int
	came       [7]int
	proposedIn int
	headers    [7]*api.Header
	certs      []api.Cert
	blocks     []api.Msg
	marks      []string
	committed  []string
	order      []string
	lined      []string
	drops      int
	out        []api.Env
	did        map[string]int // how often each sentence was come to
}

func newPlain(c api.Config, self int, did map[string]int) *plain {
	p := &plain{c: c, self: self, n: 3*c.F + 1, view: 1, low: 1, did: did, viewOf: map[string]int{}}
	p.t, _ = auth.New(c.F, c.Seed)
	p.w, _ = worker.New(p.t, self, c.Size, c.Wait)
	p.d, _ = dag.New(p.t, self)
	p.g = walk.New()
	p.k = chain.New()
	p.x = exec.New(c.Rich, c.Funds)
	p.votes = seals.New(p.t, "vote", 4)
	p.agreed = seals.New(p.t, "agree", 64)
	return p
}

func (p *plain) mark(s string) { p.did[s]++ }

func (p *plain) drop(why string) {
	p.mark("drop: " + why)
	p.drops++
}

func (p *plain) tag(kind, word string) api.Tag {
	x, _ := p.t.Sign(p.self, kind, word)
	return x
}

func (p *plain) toOne(to int, m api.Msg) {
	s, e := msg.Encode(m)
	if e != api.OK {
		panic("a message that is not right: " + e.Error())
	}
	p.out = append(p.out, api.Env{From: p.self, To: to, Bytes: s})
}

func (p *plain) toAll(m api.Msg) {
	for to := 0; to < p.n; to++ {
		if to != p.self {
			p.toOne(to, m)
		}
	}
}

func (p *plain) want(kind byte, digest string, of ...int) {
	of = slices.DeleteFunc(of, func(who int) bool { return who == p.self })
	if len(of) == 0 {
		return
	}
	if p.wanted(kind, digest) {
		p.mark("wanted already")
		return
	}
	if len(p.wishes) >= 64 {
		p.mark("desk full")
		return
	}
	p.mark("want " + string(kind))
	p.wishes = append(p.wishes, plainWish{kind: kind, digest: digest, of: of})
}

func (p *plain) wanted(kind byte, digest string) bool {
	for _, w := range p.wishes {
		if w.kind == kind && w.digest == digest {
			return true
		}
	}
	return false
}

func (p *plain) wantedNoMore(kind byte, digest string) {
	p.wishes = slices.DeleteFunc(p.wishes, func(w plainWish) bool { return w.kind == kind && w.digest == digest })
}

func find(l []kept, digest string) (api.Msg, bool) {
	for _, x := range l {
		if x.digest == digest {
			return x.m, true
		}
	}
	return api.Msg{}, false
}

// recv is 24.2.
func (p *plain) recv(from int, s string) {
	if from < 0 || from >= p.n {
		p.drop("from nobody")
		return
	}
	if from == p.self {
		p.drop("from self")
		return
	}
	m, e := msg.Decode(s)
	if e != api.OK {
		p.drop("no message")
		return
	}
	p.take(from, m)
}

func (p *plain) take(from int, m api.Msg) {
	switch m.Kind {
	case api.MBatch:
		p.takeBatch(from, m)
	case api.MAck:
		if m.Tag.Who != from {
			p.drop("ack of another")
		} else if e := p.w.Acked(m.Digest, m.Tag); e != api.OK {
			p.drop("ack: " + e.Error())
		} else {
			p.mark("ack")
		}
	case api.MHeader:
		p.takeHeader(from, m.Header)
	case api.MVote:
		p.takeVote(from, m)
	case api.MCert:
		p.certComes(m.Cert, from)
	case api.MPropose:
		b := m.Block
		if m.Tag.Who != b.View%p.n || b.View < 0 {
			p.drop("propose: not the leader")
		} else if p.t.Check(m.Tag, "propose", block.Id(b)) != api.OK {
			p.drop("propose: tag")
		} else if block.Check(p.t, b) != api.OK {
			p.drop("propose: block")
		} else {
			p.blockComes(m, from)
		}
	case api.MAgree:
		p.takeAgree(from, m)
	case api.MNewView:
		p.takeNewView(from, m)
	case api.MAskBatch:
		if x, ok := find(p.batches, m.Digest); ok {
			p.mark("batch given")
			p.toOne(from, x)
		} else {
			p.drop("no such batch")
		}
	case api.MAskCert:
		if c, ok := p.d.Get(m.Digest); ok {
			p.mark("cert given")
			p.toOne(from, api.Msg{Kind: api.MCert, Cert: c})
		} else {
			p.drop("no such cert")
		}
	case api.MAskBlock:
		if x, ok := find(p.proposals, m.Digest); ok {
			p.mark("block given")
			p.toOne(from, x)
		} else {
			p.drop("no such block")
		}
	}
}

func (p *plain) takeBatch(from int, m api.Msg) {
	d := batch.Digest(m.Batch)
	if m.Batch.Author != from && !p.wanted('b', d) {
		p.drop("batch of another")
		return
	}
	if _, in := find(p.batches, d); in {
		p.mark("batch again")
	} else if len(p.batches) == 256 {
		p.drop("batches full")
		return
	} else {
		p.batches = append(p.batches, kept{d, m})
	}
	if m.Batch.Author == from {
		p.mark("batch acked")
		p.toOne(from, api.Msg{Kind: api.MAck, Digest: d, Tag: p.tag("ack", d)})
	} else {
		p.mark("batch that was wanted")
	}
	p.wantedNoMore('b', d)
	p.lineGoesOn()
}

func (p *plain) takeHeader(from int, h api.Header) {
	if h.Author != from {
		p.drop("header of another")
		return
	}
	missing := p.d.Missing(h)
	if len(missing) == 0 {
		p.votedFor(h)
		return
	}
	if p.headers[from] != nil {
		p.mark("header forgotten")
	}
	p.mark("header waits")
	p.headers[from] = &h
	for _, id := range missing {
		p.want('c', id, from)
	}
}

func (p *plain) votedFor(h api.Header) {
	x, e := p.d.Vote(h)
	if e != api.OK {
		p.drop("header: " + e.Error())
		return
	}
	p.mark("header voted for")
	p.toOne(h.Author, api.Msg{Kind: api.MVote, Digest: header.Id(h), Tag: x})
}

func (p *plain) takeVote(from int, m api.Msg) {
	if m.Tag.Who != from {
		p.drop("vote of another")
		return
	}
	tags, e := p.votes.Add(m.Digest, m.Tag)
	if e != api.OK {
		p.drop("vote: " + e.Error())
		return
	}
	p.mark("vote")
	if len(tags) > 0 {
		p.mark("own cert")
		c := api.Cert{Header: *p.own, Votes: tags}
		p.certComes(c, p.self)
		p.toAll(api.Msg{Kind: api.MCert, Cert: c})
	}
}

func (p *plain) takeAgree(from int, m api.Msg) {
	if m.Tag.Who != from {
		p.drop("agree of another")
		return
	}
	b, in := p.k.Get(m.Digest)
	if !in || b.View != m.View {
		p.drop("agree: no such block")
		return
	}
	if m.View <= p.k.High().View {
		p.drop("agree: not above High")
		return
	}
	word := wire.Int(int64(m.View)) + m.Digest
	p.viewOf[word] = m.View
	p.agreed.Open(word)
	tags, e := p.agreed.Add(word, m.Tag)
	if e != api.OK {
		p.drop("agree: " + e.Error())
		return
	}
	p.mark("agree")
	if len(tags) == 0 {
		return
	}
	for _, w := range p.agreed.Words() {
		if p.viewOf[w] <= m.View {
			p.mark("word closed")
			p.agreed.Close(w)
		}
	}
	p.mark("qc")
	p.commit(p.k.See(api.Qc{View: m.View, Block: m.Digest, Votes: tags}))
	p.enter(m.View + 1)
}

func (p *plain) enter(view int) {
	if view > p.view && view <= api.MaxInt {
		p.view, p.failures, p.over = view, 0, 0
	}
}

func (p *plain) takeNewView(from int, m api.Msg) {
	if m.Tag.Who != from {
		p.drop("newview of another")
		return
	}
	if p.t.Check(m.Tag, "newview", wire.Int(int64(m.View))+block.EncodeQc(m.Qc)) != api.OK {
		p.drop("newview: tag")
		return
	}
	if block.CheckQc(p.t, m.Qc) != api.OK {
		p.drop("newview: qc")
		return
	}
	if m.View <= m.Qc.View {
		p.drop("newview: not above")
		return
	}
	p.mark("newview")
	p.commit(p.k.See(m.Qc))
	if m.View > p.came[from] {
		p.came[from] = m.View
	}
	if p.howManyCame(m.View) >= p.c.F+1 && m.View > p.view {
		p.mark("followed")
		p.view, p.over = m.View, 0
		p.goOn()
	}
}

func (p *plain) howManyCame(view int) int {
	k := 0
	for i := 0; i < p.n; i++ {
		if p.came[i] >= view {
			k++
		}
	}
	return k
}

// certComes, and what follows, is 24.3.
func (p *plain) certComes(c api.Cert, from int) {
	id := header.Id(c.Header)
	e := p.d.Add(c)
	if e == api.ErrNone {
		for _, x := range p.certs {
			if header.Id(x.Header) == id {
				p.mark("cert waits already")
				return
			}
		}
		if len(p.certs) == 16 {
			p.drop("cert: 16 wait")
			return
		}
		p.mark("cert waits")
		p.certs = append(p.certs, c)
		for _, x := range p.d.Missing(c.Header) {
			p.want('c', x, from)
		}
		return
	}
	if e != api.OK {
		p.drop("cert: " + e.Error())
		return
	}
	p.mark("cert in")
	if e := p.g.Add(id, c.Header.Round, c.Header.Author, c.Header.Parents); e != api.OK {
		p.mark("graph: " + e.Error())
	}
	p.wantedNoMore('c', id)
again:
	for i, x := range p.certs {
		if len(p.d.Missing(x.Header)) == 0 {
			p.mark("cert waits no more")
			p.certs = slices.Concat(p.certs[:i], p.certs[i+1:])
			p.certComes(x, p.self)
			goto again
		}
	}
	for author, h := range p.headers {
		if h != nil && len(p.d.Missing(*h)) == 0 {
			p.mark("header waits no more")
			p.headers[author] = nil
			p.votedFor(*h)
		}
	}
	p.lookAtBlocks()
	p.flatteningGoesOn()
}

// lacking is what is to be wanted of a block; misplaced, whether one of its marks is in the dag in another round.
func (p *plain) lacking(b api.Block) (lacks []plainWish, misplaced bool) {
	for _, s := range b.Certs {
		round, id, _ := block.Unmark(s)
		if round < p.low {
			p.mark("mark below the low")
			continue
		}
		c, in := p.d.Get(id)
		if !in {
			lacks = append(lacks, plainWish{kind: 'c', digest: id})
		} else if c.Header.Round != round {
			misplaced = true
		}
	}
	if _, in := p.k.Get(b.Qc.Block); !in && b.Qc.Block != strings.Repeat("\x00", 32) {
		lacks = append(lacks, plainWish{kind: 'k', digest: b.Qc.Block})
	}
	return lacks, misplaced
}

func (p *plain) tooOld(b api.Block) bool {
	_, _, last := p.k.State()
	return b.View <= last
}

func (p *plain) blockComes(m api.Msg, from int) {
	b, id := m.Block, block.Id(m.Block)
	if p.tooOld(b) {
		p.drop("block: old")
		return
	}
	if _, in := p.k.Get(id); in {
		p.drop("block: in the chain")
		return
	}
	lacks, misplaced := p.lacking(b)
	if misplaced {
		p.drop("block: another round")
		return
	}
	if len(lacks) > 0 {
		for _, x := range lacks {
			p.want(x.kind, x.digest, from)
		}
		for _, x := range p.blocks {
			if block.Id(x.Block) == id {
				p.mark("block waits already")
				return
			}
		}
		if len(p.blocks) >= 16 {
			p.drop("block: 16 wait")
			return
		}
		p.mark("block waits")
		p.blocks = append(p.blocks, m)
		return
	}
	if e := p.k.Add(b); e != api.OK {
		p.drop("block: " + e.Error())
		return
	}
	p.mark("block in")
	p.wantedNoMore('k', id)
	if _, in := find(p.proposals, id); !in && len(p.proposals) < 256 {
		p.proposals = append(p.proposals, kept{id, m})
	}
	p.commit(p.k.See(b.Qc))
	p.enter(b.View)
	if b.View == p.view && p.k.Vote(id) {
		p.mark("agreed")
		a := api.Msg{Kind: api.MAgree, View: b.View, Digest: id, Tag: p.tag("agree", block.Word(b.View, id))}
		p.toAll(a)
		p.take(p.self, a)
	} else {
		p.mark("not agreed")
	}
	p.lookAtBlocks()
}

func (p *plain) lookAtBlocks() {
again:
	for i, m := range p.blocks {
		lacks, _ := p.lacking(m.Block)
		if len(lacks) == 0 || p.tooOld(m.Block) {
			p.mark("block waits no more")
			p.blocks = slices.Concat(p.blocks[:i], p.blocks[i+1:])
			p.blockComes(m, p.self)
			goto again
		}
	}
}

func (p *plain) goOn() {
	p.mark("self goes on")
	p.k.Skip(p.view - 1)
	p.came[p.self] = max(p.came[p.self], p.view)
	q := p.k.High()
	p.toAll(api.Msg{Kind: api.MNewView, View: p.view, Qc: q, Tag: p.tag("newview", wire.Int(int64(p.view))+block.EncodeQc(q))})
}

func (p *plain) propose() {
	if p.view%p.n != p.self || p.proposedIn == p.view {
		return
	}
	q := p.k.High()
	if q.View == p.view-1 {
		p.mark("proposed upon High")
	} else if p.howManyCame(p.view) >= 2*p.c.F+1 {
		p.mark("proposed as enough came")
	} else {
		p.mark("did not propose")
		return
	}
	p.proposedIn = p.view
	b := api.Block{View: p.view, Qc: q}
	carried := p.k.Carried(q.Block)
	var all []string
	for round := 1; round < p.low+200; round++ {
		var l []api.Header
		for _, id := range p.d.Ids(round) {
			c, _ := p.d.Get(id)
			l = append(l, c.Header)
		}
		slices.SortFunc(l, func(x, y api.Header) int { return x.Author - y.Author })
		for _, h := range l {
			if p.g.Emitted(header.Id(h)) {
				p.mark("emitted")
			} else if mark := block.Mark(round, header.Id(h)); slices.Contains(carried, mark) {
				p.mark("carried")
			} else {
				all = append(all, mark)
			}
		}
	}
	b.Certs = all
	if len(all) > 8 {
		p.mark("the last of the marks")
		b.Certs = all[len(all)-8:]
	}
	m := api.Msg{Kind: api.MPropose, Block: b, Tag: p.tag("propose", block.Id(b))}
	p.toAll(m)
	p.blockComes(m, p.self)
}

func (p *plain) commit(ids []string) {
	for _, id := range ids {
		p.mark("committed")
		b, in := p.k.Get(id)
		if !in {
			panic("committed, and not there")
		}
		p.committed = append(p.committed, id)
		p.marks = append(p.marks, b.Certs...)
	}
	p.flatteningGoesOn()
}

func (p *plain) flatteningGoesOn() {
	for len(p.marks) > 0 {
		round, id, _ := block.Unmark(p.marks[0])
		if round < p.low {
			p.mark("passed over")
			p.marks = p.marks[1:]
			continue
		}
		ids, missing := p.g.Emit(id)
		if len(missing) > 0 {
			p.mark("flattening stopped")
			for _, x := range missing {
				var all []int
				for who := 0; who < p.n; who++ {
					all = append(all, who)
				}
				p.want('c', x, all...)
			}
			break
		}
		p.marks = p.marks[1:]
		p.mark("flattened")
		p.order = append(p.order, ids...)
		for _, x := range ids {
			c, in := p.d.Get(x)
			if !in {
				panic("emitted, and not there")
			}
			for _, r := range c.Header.Refs {
				p.lineUp(r)
			}
		}
		if round-12 > 1 {
			if round-12 > p.low {
				p.mark("low rises")
				p.low = round - 12
			}
			p.d.Low(round - 12)
			p.g.Low(round - 12)
		}
		p.lineGoesOn()
	}
	p.lineGoesOn()
}

func (p *plain) lineUp(r api.Ref) {
	if slices.Contains(p.lined, r.Digest) {
		p.mark("lined up already")
		return
	}
	p.mark("lined up")
	p.lined = append(p.lined, r.Digest)
	p.line = append(p.line, r.Digest)
	if _, in := find(p.batches, r.Digest); !in {
		var of []int
		for _, x := range r.Acks {
			of = append(of, x.Who)
		}
		p.want('b', r.Digest, of...)
	}
}

func (p *plain) lineGoesOn() {
	for len(p.line) > 0 {
		m, in := find(p.batches, p.line[0])
		if !in {
			p.mark("line waits")
			return
		}
		p.mark("batch done")
		p.line = p.line[1:]
		p.x.Run(m.Batch.Txs)
	}
}

// tick is 24.4.
func (p *plain) tick() {
	if b, d, ok := p.w.Tick(); ok {
		m := api.Msg{Kind: api.MBatch, Batch: b}
		p.mark("sealed")
		p.mine = append(p.mine, kept{d, m})
		if _, in := find(p.batches, d); !in && len(p.batches) < 256 {
			p.batches = append(p.batches, kept{d, m})
		} else {
			p.mark("sealed without room")
		}
		p.toAll(m)
	}
	if h, ok := p.d.Next(nil); ok {
		h.Refs = p.w.Refs(4)
		if p.own != nil {
			if slices.Contains(p.votes.Words(), header.Id(*p.own)) {
				p.mark("own header forgotten")
			}
			p.votes.Close(header.Id(*p.own))
		}
		p.own = &h
		p.votes.Open(header.Id(h))
		x, e := p.d.Vote(h)
		if e != api.OK {
			panic("no vote for the own header: " + e.Error())
		}
		if _, e := p.votes.Add(header.Id(h), x); e != api.OK {
			panic("own vote: " + e.Error())
		}
		p.mark("own header")
		p.toAll(api.Msg{Kind: api.MHeader, Header: h})
	}
	p.tickPace()
	p.ticks++
	if p.ticks%p.c.Retry == 0 {
		p.onceMore()
	}
	for i := range p.wishes {
		p.tickWish(&p.wishes[i])
	}
	p.propose()
}

func (p *plain) tickPace() {
	if p.view == api.MaxInt {
		p.mark("last view")
		return
	}
	wait := 4
	for i := 0; i < p.failures && i < 16; i++ {
		wait *= 2
	}
	p.over++
	if p.over >= min(wait, p.c.Cap) {
		p.view++
		p.failures++
		p.over = 0
		p.goOn()
	}
}

func (p *plain) onceMore() {
	onWay := p.w.Words()
	for _, x := range p.mine {
		if slices.Contains(onWay, x.digest) {
			p.mark("batch once more")
			p.toAll(x.m)
		}
	}
	if p.own == nil {
		return
	}
	id := header.Id(*p.own)
	if slices.Contains(p.votes.Words(), id) {
		p.mark("header once more")
		p.toAll(api.Msg{Kind: api.MHeader, Header: *p.own})
	} else if c, in := p.d.Get(id); in {
		p.mark("cert once more")
		p.toAll(api.Msg{Kind: api.MCert, Cert: c})
	} else {
		p.mark("nothing once more")
	}
}

func (p *plain) tickWish(w *plainWish) {
	w.ago++
	if w.asked > 0 && w.ago < p.c.Retry {
		return
	}
	to := w.of[w.asked%len(w.of)]
	w.asked++
	w.ago = 0
	kinds := map[byte]int{'b': api.MAskBatch, 'c': api.MAskCert, 'k': api.MAskBlock}
	p.mark("ask " + string(w.kind))
	p.toOne(to, api.Msg{Kind: kinds[w.kind], Digest: w.digest})
}

// tell is 24.5.
func (p *plain) tell() node.View {
	v := node.View{View: p.view, Round: p.d.Round(), Low: p.low, Blocks: p.committed, Order: p.order, Line: p.lined, Drops: p.drops}
	v.Results, v.Done = p.x.Results()
	v.Digest = p.x.State().Digest()
	return v
}
