package node

import (
	"tusk/api"
	"tusk/block"
	"tusk/msg"
)

// commit commits blocks.
func (n *Node) commit(ids []string) {
	for _, id := range ids {
		b, _ := n.chain.Get(id)
		n.told.Blocks = append(n.told.Blocks, id)
		n.marks = append(n.marks, b.Certs...)
	}
	n.flatten()
}

// flatten flattens the histories of what was committed, as far as nothing is missing.
func (n *Node) flatten() {
	for len(n.marks) > 0 {
		round, id, _ := block.Unmark(n.marks[0])
		if round >= n.told.Low && !n.flattenOne(round, id) {
			break
		}
		n.marks = n.marks[1:]
	}
	n.runLine()
}

// flattenOne flattens a certificate's history: whether nothing of it is missing.
func (n *Node) flattenOne(round int, id string) bool {
	ids, missing := n.graph.Emit(id)
	for _, x := range missing {
		n.want(aCert+x, n.others()...)
	}
	if len(missing) > 0 {
		return false
	}
	n.told.Order = append(n.told.Order, ids...)
	for _, x := range ids {
		c, _ := n.dag.Get(x)
		for _, r := range c.Header.Refs {
			n.lineUp(r)
		}
	}
	n.raiseLow(round - api.Depth)
	return true
}

// lineUp lines a batch up, if it was not yet, and wants it of those who said that they have it.
func (n *Node) lineUp(r api.Ref) {
	if _, was := n.lined[r.Digest]; was {
		return
	}
	n.lined[r.Digest] = struct{}{}
	n.told.Line = append(n.told.Line, r.Digest)
	n.line.Push(r.Digest)
	if n.hasBatch(r.Digest) {
		return
	}
	var holders []int
	for _, x := range r.Acks {
		holders = append(holders, x.Who)
	}
	n.want(aBatch+r.Digest, holders...)
}

func (n *Node) hasBatch(digest string) bool {
	_, _, in := n.batches.Get(digest)
	return in
}

// raiseLow lets go of all rounds below one. (The low never falls.)
func (n *Node) raiseLow(round int) {
	if round <= n.told.Low {
		return
	}
	n.told.Low = round
	n.dag.Low(round)
	n.graph.Low(round)
}

// runLine does the batches that are next, as far as they are there.
func (n *Node) runLine() {
	for digest, ok := n.line.Next(n.hasBatch); ok; digest, ok = n.line.Next(n.hasBatch) {
		s, _, _ := n.batches.Get(digest)
		m, _ := msg.Decode(s)
		n.exec.Run(m.Batch.Txs)
	}
}
