package node_test

import (
	"fmt"
	"reflect"
	"slices"
	"strings"
	"testing"

	"tusk/api"
	"tusk/auth"
	"tusk/batch"
	"tusk/block"
	"tusk/header"
	"tusk/msg"
	"tusk/node"
	"tusk/wire"
)

func config() api.Config {
	return api.Config{F: 1, Seed: "seed", Size: 1, Wait: 1, Cap: 40, Retry: 100, Rich: []string{"a"}, Funds: 10}
}

func pay(from, to string, amount, nonce uint64) api.Tx {
	return api.Tx{Kind: api.Transfer, From: from, To: to, Amount: amount, Nonce: nonce, Writes: []string{"a:" + min(from, to), "a:" + max(from, to)}}
}

// sent is a message that was put out.
type sent struct {
	to int
	m  api.Msg
}

// String is the message in short.
func (x sent) String() string {
	s, _ := msg.Encode(x.m)
	return fmt.Sprintf("%d of kind %d: %.80x", x.to, x.m.Kind, s)
}

// lab is one validator of four, and the keys of all, by which any word of the others can be made.
type lab struct {
	t    *testing.T
	self int
	keys *auth.Table
	n    *node.Node
}

func newLab(t *testing.T, self int) *lab { return newLabOf(t, self, config()) }

func newLabOf(t *testing.T, self int, c api.Config) *lab {
	t.Helper()
	n, e := node.New(c, self)
	if e != api.OK {
		t.Fatalf("New: %v", e)
	}
	keys, _ := auth.New(c.F, c.Seed)
	return &lab{t, self, keys, n}
}

func (l *lab) out() []sent {
	l.t.Helper()
	var got []sent
	for _, x := range l.n.Out() {
		m, e := msg.Decode(x.Bytes)
		if e != api.OK || x.From != l.self || x.To == l.self {
			l.t.Fatalf("put out: from %d to %d, %v", x.From, x.To, e)
		}
		got = append(got, sent{x.To, m})
	}
	return got
}

func (l *lab) recv(from int, m api.Msg) []sent {
	l.t.Helper()
	s, e := msg.Encode(m)
	if e != api.OK {
		l.t.Fatalf("a message that is not right: %v", e)
	}
	l.n.Recv(from, s)
	return l.out()
}

// takes is recv of something that is not dropped.
func (l *lab) takes(from int, m api.Msg) []sent {
	l.t.Helper()
	before := l.n.Tell().Drops
	got := l.recv(from, m)
	if d := l.n.Tell().Drops; d != before {
		l.t.Fatalf("a message of kind %d: %d drops more", m.Kind, d-before)
	}
	return got
}

// drops is recv of something that is dropped, and nothing else happens.
func (l *lab) drops(from int, m api.Msg, why string) {
	l.t.Helper()
	s, e := msg.Encode(m)
	if e != api.OK {
		l.t.Fatalf("%s: a message that is not right: %v", why, e)
	}
	l.dropsText(from, s, why)
}

func (l *lab) dropsText(from int, s, why string) {
	l.t.Helper()
	want := l.n.Tell()
	want.Drops++
	l.n.Recv(from, s)
	if got := l.out(); len(got) > 0 {
		l.t.Errorf("%s: put out %v", why, got)
	}
	if got := l.n.Tell(); !sameView(got, want) {
		l.t.Errorf("%s: tells %+v, not %+v", why, got, want)
	}
}

func (l *lab) tick() []sent {
	l.n.Tick()
	return l.out()
}

func (l *lab) tag(who int, kind, word string) api.Tag {
	x, _ := l.keys.Sign(who, kind, word)
	return x
}

// tags is the first validators', as many as are enough.
func (l *lab) tags(kind, word string) []api.Tag {
	var tags []api.Tag
	for who := range l.keys.Need() {
		tags = append(tags, l.tag(who, kind, word))
	}
	return tags
}

func (l *lab) cert(h api.Header) api.Cert {
	return api.Cert{Header: h, Votes: l.tags(header.Vote, header.Id(h))}
}

func (l *lab) ref(d string) api.Ref { return api.Ref{Digest: d, Acks: l.tags(header.Ack, d)} }

// giveRound gives it certificates of some authors in a round upon all parents: their ids, rising.
func (l *lab) giveRound(round int, parents []string, authors ...int) []string {
	l.t.Helper()
	var ids []string
	for _, author := range authors {
		h := api.Header{Author: author, Round: round, Parents: parents}
		l.takes((l.self+1)%4, api.Msg{Kind: api.MCert, Cert: l.cert(h)})
		ids = append(ids, header.Id(h))
	}
	slices.Sort(ids)
	return ids
}

func (l *lab) qc(b api.Block) api.Qc {
	id := block.Id(b)
	return api.Qc{View: b.View, Block: id, Votes: l.tags(block.Agree, block.Word(b.View, id))}
}

func firstQc() api.Qc { return api.Qc{Block: block.Genesis()} }

// propose is the message of a block with its leader's tag.
func (l *lab) propose(b api.Block) api.Msg {
	return api.Msg{Kind: api.MPropose, Block: b, Tag: l.tag(b.View%4, msg.Propose, block.Id(b))}
}

// blocks is so many blocks, each upon the one ahead, of views from 1 on; the first one carries marks.
func (l *lab) blocks(many int, marks ...string) []api.Block {
	var made []api.Block
	q := firstQc()
	for view := 1; view <= many; view++ {
		b := api.Block{View: view, Qc: q, Certs: marks}
		made = append(made, b)
		q, marks = l.qc(b), nil
	}
	return made
}

func (l *lab) agree(who int, b api.Block) api.Msg {
	id := block.Id(b)
	return api.Msg{Kind: api.MAgree, View: b.View, Digest: id, Tag: l.tag(who, block.Agree, block.Word(b.View, id))}
}

func (l *lab) newView(who, view int, q api.Qc) api.Msg {
	return api.Msg{Kind: api.MNewView, View: view, Qc: q, Tag: l.tag(who, msg.NewView, wire.Int(int64(view))+block.EncodeQc(q))}
}

func ask(kind int, digest string) api.Msg { return api.Msg{Kind: kind, Digest: digest} }

func someBatch(author, number int) api.Batch {
	return api.Batch{Author: author, Number: number, Txs: []api.Tx{pay("a", "b", 1, 0)}}
}

func batchMsg(b api.Batch) api.Msg { return api.Msg{Kind: api.MBatch, Batch: b} }

// is tells what was put out, if it is other than that.
func (l *lab) is(got []sent, what string, want ...sent) {
	l.t.Helper()
	if len(got) != len(want) {
		l.t.Fatalf("%s: put out %v, not %v", what, got, want)
	}
	for i := range got {
		if !sameMsg(got[i], want[i]) {
			l.t.Errorf("%s: put out at %d: %v, not %v", what, i, got[i], want[i])
		}
	}
}

// sameMsg: lists that are empty are the same, so messages are held against each other by their bytes.
func sameMsg(a, b sent) bool {
	x, _ := msg.Encode(a.m)
	y, _ := msg.Encode(b.m)
	return a.to == b.to && x == y
}

// toAll is a message to all others.
func (l *lab) toAll(m api.Msg) []sent {
	var all []sent
	for to := range l.keys.N() {
		if to != l.self {
			all = append(all, sent{to, m})
		}
	}
	return all
}

// of is those of a kind.
func of(kind int, l []sent) []sent {
	return slices.DeleteFunc(slices.Clone(l), func(x sent) bool { return x.m.Kind != kind })
}

// kinds is the kinds of messages, each once where it stands several times behind one another.
func kinds(l []sent) []int {
	var k []int
	for _, x := range l {
		k = append(k, x.m.Kind)
	}
	return slices.Compact(k)
}

// asks is what is asked for, and of whom.
func asks(l []sent) []sent {
	return slices.DeleteFunc(slices.Clone(l), func(x sent) bool { return x.m.Kind < api.MAskBatch })
}

func text32(c string) string { return strings.Repeat(c, 32) }

func hasSame(t *testing.T, what string, got, want any) {
	t.Helper()
	if !reflect.DeepEqual(got, want) {
		t.Errorf("%s: %v, not %v", what, got, want)
	}
}

func digestOf(b api.Batch) string { return batch.Digest(b) }
