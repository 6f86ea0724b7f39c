package node

import (
	"maps"
	"slices"

	"tusk/api"
	"tusk/block"
	"tusk/header"
	"tusk/msg"
)

// Tick is a tick.
func (n *Node) Tick() {
	n.tickWorker()
	n.tickDag()
	if n.pace.Tick() {
		n.goOn()
	}
	n.tickRetry()
	for _, a := range n.desk.Tick() {
		n.ask(a.Id, a.To)
	}
	n.propose()
}

// tickWorker sends a batch of its own, if one is sealed.
func (n *Node) tickWorker() {
	b, digest, ok := n.worker.Tick()
	if !ok {
		return
	}
	s, _ := msg.Encode(api.Msg{Kind: api.MBatch, Batch: b})
	n.keepSealed(digest, s)
	n.batches.Put(digest, 0, s) // if there is no room, it is not in
	n.putAll(s)
}

// keepSealed keeps a batch as long as it is on its way.
func (n *Node) keepSealed(digest, s string) {
	n.sealed[digest] = s
	onWay := n.worker.Words()
	maps.DeleteFunc(n.sealed, func(d, _ string) bool { return !slices.Contains(onWay, d) })
}

// tickDag sends a header of its own, if it is time for one.
func (n *Node) tickDag() {
	// The worker's Refs are taken for good, so it is asked for them only if there is a header; the dag does not look at them.
	h, ok := n.dag.Next(nil)
	if !ok {
		return
	}
	h.Refs = n.worker.Refs(api.MaxRefs)
	id := header.Id(h)
	n.votes.Close(header.Id(n.own))
	n.votes.Open(id)
	n.own = h
	// A header of its own is right, of a round of its own, and its parents are in: no error is left.
	x, _ := n.dag.Vote(h)
	n.votes.Add(id, x)
	n.sendAll(api.Msg{Kind: api.MHeader, Header: h})
}

// tickRetry sends what is its own once more, every Retry ticks.
func (n *Node) tickRetry() {
	n.ticks++
	if n.ticks < n.retry {
		return
	}
	n.ticks = 0
	for _, digest := range n.worker.Words() { // those on their way, in the order in which they were sealed
		n.putAll(n.sealed[digest])
	}
	id := header.Id(n.own)
	if slices.Contains(n.votes.Words(), id) {
		n.sendAll(api.Msg{Kind: api.MHeader, Header: n.own})
	} else if c, in := n.dag.Get(id); in {
		n.sendAll(api.Msg{Kind: api.MCert, Cert: c})
	}
}

// ask asks somebody for what is wanted.
func (n *Node) ask(id string, to int) {
	kind, digest := 0, id[1:]
	switch id[:1] {
	case aBatch:
		kind = api.MAskBatch
	case aCert:
		kind = api.MAskCert
	case aBlock:
		kind = api.MAskBlock
	}
	n.send(to, api.Msg{Kind: kind, Digest: digest})
}

// goOn is that self goes on to the pace's view.
func (n *Node) goOn() {
	view, high := n.pace.View(), n.chain.High()
	n.chain.Skip(view - 1)
	n.came[n.self] = max(n.came[n.self], view)
	x := n.sign(msg.NewView, newViewWord(view, high))
	n.sendAll(api.Msg{Kind: api.MNewView, View: view, Qc: high, Tag: x})
}

// cameTo is how many came to a view.
func (n *Node) cameTo(view int) int {
	count := 0
	for _, v := range n.came {
		if v >= view {
			count++
		}
	}
	return count
}

// propose proposes a block, if it is self's turn.
func (n *Node) propose() {
	view, high := n.pace.View(), n.chain.High()
	if n.pace.Leader(view) != n.self || n.proposed == view {
		return
	}
	if high.View != view-1 && n.cameTo(view) < n.validators.Need() {
		return
	}
	n.proposed = view
	b := api.Block{View: view, Qc: high, Certs: n.newMarks(high.Block)}
	p := proposal{b, n.sign(msg.Propose, block.Id(b))}
	n.sendAll(proposed(p))
	n.blockComes(p, n.self)
}

// newMarks is the marks of the latest certificates that a block upon another one may carry.
func (n *Node) newMarks(upon string) []string {
	carried := n.chain.Carried(upon)
	var l []string
	// A certificate has enough of the round ahead below it, so none is of a round above the next one.
	for round := n.told.Low; round <= n.dag.Round()+1; round++ {
		for _, id := range n.idsByAuthor(round) {
			mark := block.Mark(round, id)
			if !n.graph.Emitted(id) && !slices.Contains(carried, mark) {
				l = append(l, mark)
			}
		}
	}
	return l[max(len(l)-api.MaxCerts, 0):]
}

// idsByAuthor is the certificates of a round that are in, by their authors rising.
func (n *Node) idsByAuthor(round int) []string {
	ids := make([]string, n.validators.N())
	for _, id := range n.dag.Ids(round) {
		c, _ := n.dag.Get(id)
		ids[c.Header.Author] = id
	}
	return slices.DeleteFunc(ids, func(id string) bool { return id == "" })
}
