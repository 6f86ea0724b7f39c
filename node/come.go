package node

import (
	"slices"

	"tusk/api"
	"tusk/block"
	"tusk/header"
	"tusk/msg"
)

// vote votes for a header of which nothing is missing.
func (n *Node) vote(h api.Header) {
	x, e := n.dag.Vote(h)
	if e != api.OK {
		n.drop()
		return
	}
	n.send(h.Author, api.Msg{Kind: api.MVote, Digest: header.Id(h), Tag: x})
}

// certComes is that a certificate comes, from somebody.
func (n *Node) certComes(c api.Cert, from int) {
	switch n.dag.Add(c) {
	case api.OK:
	case api.ErrNone:
		n.letCertWait(c, from)
		return
	default:
		n.drop()
		return
	}
	h, id := c.Header, header.Id(c.Header)
	// The graph is as low as the dag, and has more room, so it takes what that took.
	n.graph.Add(id, h.Round, h.Author, h.Parents)
	n.desk.Got(aCert + id)
	n.lookAtCerts()
	n.lookAtHeaders()
	n.lookAtBlocks()
	n.flatten()
}

// letCertWait lets a certificate wait for what its header is missing.
func (n *Node) letCertWait(c api.Cert, from int) {
	id := header.Id(c.Header)
	if slices.ContainsFunc(n.certs, func(x api.Cert) bool { return header.Id(x.Header) == id }) {
		return
	}
	if len(n.certs) >= mostWait {
		n.drop()
		return
	}
	n.certs = append(n.certs, c)
	for _, parent := range n.dag.Missing(c.Header) {
		n.want(aCert+parent, from)
	}
}

// lookAtCerts lets those certificates come that wait for nothing any more. (What one of them brings about may be what another one waits for.)
func (n *Node) lookAtCerts() {
	isReady := func(c api.Cert) bool { return len(n.dag.Missing(c.Header)) == 0 }
	for i := slices.IndexFunc(n.certs, isReady); i >= 0; i = slices.IndexFunc(n.certs, isReady) {
		c := n.certs[i]
		n.certs = slices.Delete(n.certs, i, i+1)
		n.certComes(c, n.self)
	}
}

// lookAtHeaders votes for those headers that wait for nothing any more.
func (n *Node) lookAtHeaders() {
	for author := range n.validators.N() {
		if h, waits := n.headers[author]; waits && len(n.dag.Missing(h)) == 0 {
			delete(n.headers, author)
			n.vote(h)
		}
	}
}

// blockComes is that a block comes, from somebody.
func (n *Node) blockComes(p proposal, from int) {
	b, id := p.block, block.Id(p.block)
	if n.isOld(b) || n.hasBlock(id) || n.isMisplaced(b) {
		n.drop()
		return
	}
	if lacks := n.lacks(b); len(lacks) > 0 {
		for _, x := range lacks {
			n.want(x, from)
		}
		n.letBlockWait(p)
		return
	}
	if n.chain.Add(b) != api.OK {
		n.drop()
		return
	}
	n.desk.Got(aBlock + id)
	s, _ := msg.Encode(proposed(p))
	n.proposals.Put(id, b.View, s) // if there is no room, nobody can ask for it
	n.commit(n.chain.See(b.Qc))
	n.pace.Enter(b.View)
	if b.View == n.pace.View() && n.chain.Vote(id) {
		n.agree(b.View, id)
	}
	n.lookAtBlocks()
}

// proposed is the message of a proposal.
func proposed(p proposal) api.Msg {
	return api.Msg{Kind: api.MPropose, Block: p.block, Tag: p.tag}
}

// agree tells all, self too, that self votes for a block.
func (n *Node) agree(view int, id string) {
	m := api.Msg{Kind: api.MAgree, View: view, Digest: id, Tag: n.sign(block.Agree, block.Word(view, id))}
	n.sendAll(m)
	n.send(n.self, m)
}

// isOld tells whether a block is too old to be of use.
func (n *Node) isOld(b api.Block) bool {
	_, _, committed := n.chain.State()
	return b.View <= committed
}

func (n *Node) hasBlock(id string) bool {
	_, in := n.chain.Get(id)
	return in
}

// isMisplaced tells whether a block names a certificate in another round than its own.
func (n *Node) isMisplaced(b api.Block) bool {
	return slices.ContainsFunc(b.Certs, func(mark string) bool {
		round, id, _ := block.Unmark(mark)
		c, in := n.dag.Get(id)
		return in && round >= n.told.Low && round != c.Header.Round
	})
}

// lacks is what is to be wanted of a block.
func (n *Node) lacks(b api.Block) []string {
	var l []string
	for _, mark := range b.Certs {
		round, id, _ := block.Unmark(mark)
		if _, in := n.dag.Get(id); !in && round >= n.told.Low {
			l = append(l, aCert+id)
		}
	}
	if parent := b.Qc.Block; parent != block.Genesis() && !n.hasBlock(parent) {
		l = append(l, aBlock+parent)
	}
	return l
}

// letBlockWait lets a block wait, if it does not yet.
func (n *Node) letBlockWait(p proposal) {
	id := block.Id(p.block)
	if slices.ContainsFunc(n.blocks, func(x proposal) bool { return block.Id(x.block) == id }) {
		return
	}
	if len(n.blocks) >= mostWait {
		n.drop()
		return
	}
	n.blocks = append(n.blocks, p)
}

// lookAtBlocks lets those blocks come that wait for nothing any more, or in vain. (What one of them brings about may be what another one waits for.)
func (n *Node) lookAtBlocks() {
	isReady := func(p proposal) bool { return n.isOld(p.block) || len(n.lacks(p.block)) == 0 }
	for i := slices.IndexFunc(n.blocks, isReady); i >= 0; i = slices.IndexFunc(n.blocks, isReady) {
		p := n.blocks[i]
		n.blocks = slices.Delete(n.blocks, i, i+1)
		n.blockComes(p, n.self)
	}
}

// qcComes is that a Qc comes.
func (n *Node) qcComes(q api.Qc) {
	n.commit(n.chain.See(q))
	n.pace.Enter(q.View + 1)
}
