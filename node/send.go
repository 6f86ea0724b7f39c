package node

import (
	"tusk/api"
	"tusk/msg"
)

// What a wish is for: the letter ahead of its digest.
const (
	aBatch = "b"
	aCert  = "c"
	aBlock = "k"
)

// send sends a message to somebody.
func (n *Node) send(to int, m api.Msg) {
	if to == n.self {
		n.do(n.self, m)
		return
	}
	// What a validator makes is right, so no error is left.
	s, _ := msg.Encode(m)
	n.put(to, s)
}

// sendAll sends a message to all others.
func (n *Node) sendAll(m api.Msg) {
	s, _ := msg.Encode(m)
	n.putAll(s)
}

func (n *Node) put(to int, s string) {
	n.out = append(n.out, api.Env{From: n.self, To: to, Bytes: s})
}

func (n *Node) putAll(s string) {
	for _, to := range n.others() {
		n.put(to, s)
	}
}

// others is all validators but self, rising.
func (n *Node) others() []int {
	var l []int
	for who := range n.validators.N() {
		if who != n.self {
			l = append(l, who)
		}
	}
	return l
}

// sign is self's tag of a word. (Self is a validator, so no error is left.)
func (n *Node) sign(kind, word string) api.Tag {
	x, _ := n.validators.Sign(n.self, kind, word)
	return x
}

func (n *Node) drop() { n.told.Drops++ }

// want wants something of some, but never of self. (Of nobody, once more, or without room: then it is as it was.)
func (n *Node) want(id string, of ...int) {
	var others []int
	for _, who := range of {
		if who != n.self {
			others = append(others, who)
		}
	}
	n.desk.Want(id, others)
}
