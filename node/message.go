package node

import (
	"slices"

	"tusk/api"
	"tusk/batch"
	"tusk/block"
	"tusk/header"
	"tusk/msg"
	"tusk/table"
	"tusk/wire"
)

// deeds is what the messages of each kind do.
func deeds() map[int]func(*Node, int, api.Msg) {
	return map[int]func(*Node, int, api.Msg){
		api.MBatch:    (*Node).takeBatch,
		api.MAck:      (*Node).takeAck,
		api.MHeader:   (*Node).takeHeader,
		api.MVote:     (*Node).takeVote,
		api.MCert:     (*Node).takeCert,
		api.MPropose:  (*Node).takePropose,
		api.MAgree:    (*Node).takeAgree,
		api.MNewView:  (*Node).takeNewView,
		api.MAskBatch: (*Node).takeAskBatch,
		api.MAskCert:  (*Node).takeAskCert,
		api.MAskBlock: (*Node).takeAskBlock,
	}
}

// Recv takes bytes from somebody.
func (n *Node) Recv(from int, s string) {
	m, e := msg.Decode(s)
	if e != api.OK || from < 0 || from >= n.validators.N() || from == n.self {
		n.drop()
		return
	}
	n.do(from, m)
}

// do does what a message does.
func (n *Node) do(from int, m api.Msg) { deeds()[m.Kind](n, from, m) }

func (n *Node) takeBatch(from int, m api.Msg) {
	digest := batch.Digest(m.Batch)
	isAuthors := m.Batch.Author == from
	if !isAuthors && !slices.Contains(n.desk.Wants(), aBatch+digest) {
		n.drop()
		return
	}
	s, _ := msg.Encode(m)
	if e := n.batches.Put(digest, 0, s); e != api.OK && e != api.ErrTwice {
		n.drop()
		return
	}
	if isAuthors {
		n.send(from, api.Msg{Kind: api.MAck, Digest: digest, Tag: n.sign(header.Ack, digest)})
	}
	n.desk.Got(aBatch + digest)
	n.runLine()
}

func (n *Node) takeAck(from int, m api.Msg) {
	if m.Tag.Who != from || n.worker.Acked(m.Digest, m.Tag) != api.OK {
		n.drop()
	}
}

func (n *Node) takeHeader(from int, m api.Msg) {
	if m.Header.Author != from {
		n.drop()
		return
	}
	missing := n.dag.Missing(m.Header)
	if len(missing) == 0 {
		n.vote(m.Header)
		return
	}
	n.headers[from] = m.Header
	for _, id := range missing {
		n.want(aCert+id, from)
	}
}

func (n *Node) takeVote(from int, m api.Msg) {
	if m.Tag.Who != from {
		n.drop()
		return
	}
	tags, e := n.votes.Add(m.Digest, m.Tag)
	if e != api.OK {
		n.drop()
		return
	}
	if len(tags) > 0 {
		c := api.Cert{Header: n.own, Votes: tags}
		n.certComes(c, n.self)
		n.sendAll(api.Msg{Kind: api.MCert, Cert: c})
	}
}

func (n *Node) takeCert(from int, m api.Msg) { n.certComes(m.Cert, from) }

func (n *Node) takePropose(from int, m api.Msg) {
	isLeaders := m.Tag.Who == n.pace.Leader(m.Block.View)
	if !isLeaders ||
		n.validators.Check(m.Tag, msg.Propose, block.Id(m.Block)) != api.OK ||
		block.Check(n.validators, m.Block) != api.OK {
		n.drop()
		return
	}
	n.blockComes(proposal{m.Block, m.Tag}, from)
}

func (n *Node) takeAgree(from int, m api.Msg) {
	b, in := n.chain.Get(m.Digest)
	if m.Tag.Who != from || !in || b.View != m.View || m.View <= n.chain.High().View {
		n.drop()
		return
	}
	word := block.Word(m.View, m.Digest)
	n.agreed.Open(word) // it may be open; if there is no room, Add says so
	tags, e := n.agreed.Add(word, m.Tag)
	if e != api.OK {
		n.drop()
		return
	}
	if len(tags) > 0 {
		n.closeAgreed(m.View)
		n.qcComes(api.Qc{View: m.View, Block: m.Digest, Votes: tags})
	}
}

// closeAgreed ends the collecting of agreements for blocks up to a view.
func (n *Node) closeAgreed(view int) {
	for _, word := range n.agreed.Words() {
		// A word begins with its view's bytes.
		if v, _, _ := wire.GetInt(word); v <= int64(view) {
			n.agreed.Close(word)
		}
	}
}

func (n *Node) takeNewView(from int, m api.Msg) {
	if m.Tag.Who != from ||
		n.validators.Check(m.Tag, msg.NewView, newViewWord(m.View, m.Qc)) != api.OK ||
		block.CheckQc(n.validators, m.Qc) != api.OK || m.View <= m.Qc.View {
		n.drop()
		return
	}
	n.commit(n.chain.See(m.Qc))
	n.came[from] = max(n.came[from], m.View)
	if n.cameTo(m.View) > n.f && n.pace.Follow(m.View) {
		n.goOn()
	}
}

// newViewWord is what the tag of a validator that comes to a view is of.
func newViewWord(view int, q api.Qc) string { return wire.Int(int64(view)) + block.EncodeQc(q) }

func (n *Node) takeAskBatch(from int, m api.Msg) { n.answer(from, n.batches, m.Digest) }

func (n *Node) takeAskCert(from int, m api.Msg) {
	c, in := n.dag.Get(m.Digest)
	if !in {
		n.drop()
		return
	}
	n.send(from, api.Msg{Kind: api.MCert, Cert: c})
}

func (n *Node) takeAskBlock(from int, m api.Msg) { n.answer(from, n.proposals, m.Digest) }

// answer sends a message that is kept to somebody.
func (n *Node) answer(to int, kept *table.Table, id string) {
	s, _, in := kept.Get(id)
	if !in {
		n.drop()
		return
	}
	n.put(to, s)
}
