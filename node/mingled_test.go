package node_test

import (
	"math/rand"
	"slices"
	"strconv"
	"testing"

	"tusk/api"
	"tusk/auth"
	"tusk/batch"
	"tusk/block"
	"tusk/header"
	"tusk/msg"
	"tusk/node"
	"tusk/wire"
)

// world is validators beside their models, what is on its way between them, and somebody who has all keys.
type world struct {
	t       *testing.T
	r       *rand.Rand
	c       api.Config
	n       int
	keys    *auth.Table
	nodes   []*node.Node
	plains  []*plain
	bag     []api.Env
	headers []api.Header
	certs   []api.Cert
	blocks  []api.Block
	qcs     []api.Qc
	batches []api.Batch
	digests []string
	texts   []string
	nonces  map[string]uint64
	absent  int   // whose words nobody gets, so that there is room for those made up in its name; or -1
	kinds   []int // of what is made up; none: all
	steps   int
}

func newWorld(t *testing.T, r *rand.Rand, c api.Config, did map[string]int) *world {
	w := &world{t: t, r: r, c: c, n: 3*c.F + 1, absent: -1, nonces: map[string]uint64{}}
	w.keys, _ = auth.New(c.F, c.Seed)
	for i := range w.n {
		x, e := node.New(c, i)
		if e != api.OK {
			t.Fatalf("New: %v", e)
		}
		w.nodes = append(w.nodes, x)
		w.plains = append(w.plains, newPlain(c, i, did))
	}
	w.qcs = []api.Qc{{Block: block.Genesis()}}
	return w
}

// same holds a validator against its model, and takes what it has put out.
func (w *world) same(who int, what string) {
	w.t.Helper()
	w.steps++
	p := w.plains[who]
	out, want := w.nodes[who].Out(), p.out
	p.out = nil
	if !slices.Equal(out, want) {
		w.t.Fatalf("step %d, %s: %d puts out %v, not %v", w.steps, what, who, kindsOf(out), kindsOf(want))
	}
	if told, want := w.nodes[who].Tell(), p.tell(); !sameView(told, want) {
		w.t.Fatalf("step %d, %s: %d tells %+v, not %+v", w.steps, what, who, told, want)
	}
	for _, e := range out {
		if who == w.absent {
			continue
		}
		w.learn(e.Bytes)
		if len(w.bag) < 2000 {
			w.bag = append(w.bag, e)
		}
	}
}

func sameView(a, b node.View) bool {
	return slices.Equal(a.Blocks, b.Blocks) && slices.Equal(a.Order, b.Order) && slices.Equal(a.Line, b.Line) && slices.Equal(a.Results, b.Results) &&
		a.View == b.View && a.Round == b.Round && a.Low == b.Low && a.Done == b.Done && a.Digest == b.Digest && a.Drops == b.Drops
}

// kindsOf is messages in short.
func kindsOf(l []api.Env) []string {
	var told []string
	for _, e := range l {
		m, err := msg.Decode(e.Bytes)
		told = append(told, strconv.Itoa(m.Kind)+" to "+strconv.Itoa(e.To)+" ("+strconv.Itoa(int(err))+")")
	}
	return told
}

// learn remembers what is in a message, for those that are made up.
func (w *world) learn(s string) {
	w.texts = append(w.texts, s)
	m, e := msg.Decode(s)
	if e != api.OK {
		w.t.Fatalf("put out: no message: %v", e)
	}
	switch m.Kind {
	case api.MBatch:
		w.batches = append(w.batches, m.Batch)
		w.digests = append(w.digests, batch.Digest(m.Batch))
	case api.MHeader:
		w.headers = append(w.headers, m.Header)
		w.digests = append(w.digests, header.Id(m.Header))
	case api.MCert:
		w.certs = append(w.certs, m.Cert)
	case api.MPropose:
		w.addBlock(m.Block)
	}
}

func (w *world) addBlock(b api.Block) {
	w.blocks = append(w.blocks, b)
	w.digests = append(w.digests, block.Id(b))
}

// pick is one of a list, rather a late one; ok, if there is one.
func pick[T any](w *world, l []T) (x T, ok bool) {
	if len(l) == 0 {
		return x, false
	}
	if w.r.Intn(3) > 0 {
		l = l[max(0, len(l)-12):]
	}
	return l[w.r.Intn(len(l))], true
}

// tags is tags of enough, or of one less or more.
func (w *world) tags(kind, word string, enough int) []api.Tag {
	who := w.r.Perm(w.n)
	k := w.keys.Need() + w.r.Intn(2)
	if w.r.Intn(12) == 0 {
		k = enough - 1
	}
	who = who[:min(k, w.n)]
	slices.Sort(who)
	var l []api.Tag
	for _, i := range who {
		x, _ := w.keys.Sign(i, kind, word)
		l = append(l, x)
	}
	return l
}

// tag is somebody's, mostly the one's.
func (w *world) tag(who int, kind, word string) api.Tag {
	switch w.r.Intn(16) {
	case 0:
		who = w.r.Intn(w.n)
	case 1:
		word += "x"
	case 2:
		kind = "other"
	}
	x, _ := w.keys.Sign(who, kind, word)
	return x
}

func (w *world) makeTx() api.Tx {
	names := []string{"a", "b", "c", "d"}
	from, to := names[w.r.Intn(4)], names[w.r.Intn(4)]
	t := api.Tx{Kind: api.Transfer, From: from, To: to, Amount: uint64(w.r.Intn(5)), Nonce: w.nonces[from], Writes: []string{"a:" + min(from, to), "a:" + max(from, to)}}
	if from == to {
		t.Writes = t.Writes[:1]
	}
	if w.r.Intn(8) > 0 {
		w.nonces[from]++
	}
	return t
}

func (w *world) makeBatch() api.Batch {
	b := api.Batch{Author: w.r.Intn(w.n), Number: 1 + w.r.Intn(1000)}
	for range 1 + w.r.Intn(3) {
		b.Txs = append(b.Txs, w.makeTx())
	}
	w.batches = append(w.batches, b)
	w.digests = append(w.digests, batch.Digest(b))
	return b
}

// makeHeader is a header upon known certificates, or some that are not.
func (w *world) makeHeader(author int) api.Header {
	h := api.Header{Author: author, Round: 1}
	for range w.r.Intn(3) {
		b := w.makeBatch()
		if x, ok := pick(w, w.batches); ok && w.r.Intn(2) == 0 {
			b = x
		}
		d := batch.Digest(b)
		if len(h.Refs) == 0 || h.Refs[len(h.Refs)-1].Digest < d {
			h.Refs = append(h.Refs, api.Ref{Digest: d, Acks: w.tags(header.Ack, d, w.keys.Need())})
		}
	}
	c, ok := pick(w, w.certs)
	if !ok || w.r.Intn(8) == 0 {
		return h
	}
	h.Round = c.Header.Round + 1
	of := c.Header.Round
	if w.r.Intn(16) == 0 {
		of++
	}
	ids := map[string]int{}
	for _, x := range w.certs {
		if x.Header.Round == of {
			ids[header.Id(x.Header)]++
		}
	}
	var l []string
	for id := range ids {
		l = append(l, id)
	}
	slices.Sort(l)
	w.r.Shuffle(len(l), func(i, j int) { l[i], l[j] = l[j], l[i] })
	l = l[:min(len(l), w.keys.Need())]
	if d, ok := pick(w, w.digests); ok && w.r.Intn(6) == 0 {
		l = append(l[:max(0, len(l)-1)], d)
	}
	slices.Sort(l)
	h.Parents = slices.Compact(l)
	return h
}

func (w *world) makeCert() api.Cert {
	h, ok := pick(w, w.headers)
	if !ok || w.r.Intn(2) == 0 {
		author := w.r.Intn(w.n)
		if w.absent >= 0 {
			author = w.absent
		}
		h = w.makeHeader(author)
		w.headers = append(w.headers, h)
	}
	id := header.Id(h)
	c := api.Cert{Header: h, Votes: w.tags(header.Vote, id, w.keys.Need())}
	w.certs = append(w.certs, c)
	w.digests = append(w.digests, id)
	return c
}

func (w *world) makeQc() api.Qc {
	b, ok := pick(w, w.blocks)
	if x, has := pick(w, w.qcs); has && (!ok || w.r.Intn(3) == 0) {
		return x
	}
	id := block.Id(b)
	b.View += w.r.Intn(16) / 15
	q := api.Qc{View: b.View, Block: id, Votes: w.tags(block.Agree, block.Word(b.View, id), w.keys.Need())}
	w.qcs = append(w.qcs, q)
	return q
}

func (w *world) makeBlock() api.Block {
	q := w.makeQc()
	b := api.Block{View: q.View + 1 + w.r.Intn(2)*w.r.Intn(3), Qc: q}
	for range w.r.Intn(4) {
		c, ok := pick(w, w.certs)
		if ok && w.r.Intn(4) == 0 {
			c = w.certs[w.r.Intn(len(w.certs))]
		}
		if ok {
			round := c.Header.Round
			if w.r.Intn(10) == 0 {
				round = 1 + w.r.Intn(20)
			}
			b.Certs = append(b.Certs, block.Mark(round, header.Id(c.Header)))
		}
	}
	w.addBlock(b)
	return b
}

// madeUp is a message to somebody, from whoever it says.
func (w *world) madeUp(to int) (int, api.Msg) {
	from := (to + 1 + w.r.Intn(w.n-1)) % w.n
	d, _ := pick(w, w.digests)
	kind := 1 + w.r.Intn(11)
	if len(w.kinds) > 0 {
		kind = w.kinds[w.r.Intn(len(w.kinds))]
	}
	switch kind {
	case api.MBatch:
		b, ok := pick(w, w.batches)
		if !ok || w.r.Intn(4) == 0 {
			b = w.makeBatch()
		}
		if w.r.Intn(3) > 0 {
			from = b.Author
		}
		return from, api.Msg{Kind: kind, Batch: b}
	case api.MAck:
		d = w.open(d, w.plains[to].w.Words())
		return from, api.Msg{Kind: kind, Digest: d, Tag: w.tag(from, header.Ack, d)}
	case api.MHeader:
		h, ok := pick(w, w.headers)
		if !ok || w.r.Intn(3) > 0 {
			h = w.makeHeader(from)
			w.headers = append(w.headers, h)
		}
		if w.r.Intn(6) > 0 {
			from = h.Author
		}
		return from, api.Msg{Kind: kind, Header: h}
	case api.MVote:
		d = w.open(d, w.plains[to].votes.Words())
		return from, api.Msg{Kind: kind, Digest: d, Tag: w.tag(from, header.Vote, d)}
	case api.MCert:
		return from, api.Msg{Kind: kind, Cert: w.makeCert()}
	case api.MPropose:
		b, ok := pick(w, w.blocks)
		if !ok || w.r.Intn(2) == 0 {
			b = w.makeBlock()
		}
		return from, api.Msg{Kind: kind, Block: b, Tag: w.tag(b.View%w.n, msg.Propose, block.Id(b))}
	case api.MAgree:
		b, _ := pick(w, w.blocks)
		id := block.Id(b)
		view := b.View + w.r.Intn(8)/7
		return from, api.Msg{Kind: kind, View: view, Digest: id, Tag: w.tag(from, block.Agree, block.Word(view, id))}
	case api.MNewView:
		q := w.makeQc()
		view := max(q.View+w.r.Intn(3), w.nodes[to].Tell().View+w.r.Intn(3)-1)
		return from, api.Msg{Kind: kind, View: view, Qc: q, Tag: w.tag(from, msg.NewView, wire.Int(int64(view))+block.EncodeQc(q))}
	default:
		return from, api.Msg{Kind: kind, Digest: d}
	}
}

// open is one of those that somebody waits for, if there is such a one, or another one.
func (w *world) open(other string, words []string) string {
	if x, ok := pick(w, words); ok && w.r.Intn(4) > 0 {
		return x
	}
	return other
}

func (w *world) recv(to, from int, s, what string) {
	w.t.Helper()
	w.nodes[to].Recv(from, s)
	w.plains[to].recv(from, s)
	w.same(to, what)
}

func (w *world) tick(who int) {
	w.t.Helper()
	w.nodes[who].Tick()
	w.plains[who].tick()
	w.same(who, "tick")
}

func (w *world) submit(who int) {
	w.t.Helper()
	x := w.makeTx()
	if a, b := w.nodes[who].Submit(x), w.plains[who].w.Submit(x); a != b {
		w.t.Fatalf("submit: %v, not %v", a, b)
	}
	w.same(who, "submit")
}

// deliver takes a place out of the bag.
func (w *world) deliver(i int) {
	w.t.Helper()
	e := w.bag[i]
	w.bag = slices.Delete(w.bag, i, i+1)
	w.recv(e.To, e.From, e.Bytes, "delivered "+kindsOf([]api.Env{e})[0])
}

func (w *world) inject() {
	w.t.Helper()
	to := w.r.Intn(w.n)
	from, m := w.madeUp(to)
	s, e := msg.Encode(m)
	if e != api.OK {
		s = "no message"
	}
	switch w.r.Intn(40) {
	case 0:
		from = w.r.Intn(12) - 3
	case 1:
		from = to
	case 2:
		l := []byte(s)
		l[w.r.Intn(len(l))] ^= 1 << w.r.Intn(8)
		s = string(l)
	case 3:
		if x, ok := pick(w, w.texts); ok {
			s = x
		}
	}
	w.recv(to, from, s, "made up "+strconv.Itoa(m.Kind)+" from "+strconv.Itoa(from))
}

// mood is how often what happens, and how the bag is emptied.
type mood struct {
	inject, lose, late, double, submit int
	kinds                              []int // of what is made up; none: all
}

// turn is a tick of all, and much of what is on its way.
func (w *world) turn(m mood) {
	w.t.Helper()
	w.kinds = m.kinds
	for who := range w.n {
		if w.r.Intn(100) < m.submit {
			w.submit(w.r.Intn(w.n))
		}
		w.tick(who)
		for w.r.Intn(100) < m.inject {
			w.inject()
		}
	}
	for k := 0; len(w.bag) > 0 && k < 400; k++ {
		i := 0
		if w.r.Intn(100) < m.late {
			i = w.r.Intn(len(w.bag))
		}
		switch {
		case w.r.Intn(100) < m.lose:
			w.bag = slices.Delete(w.bag, i, i+1)
		case w.r.Intn(100) < m.double:
			w.bag = append(w.bag, w.bag[i])
		default:
			w.deliver(i)
		}
		if w.r.Intn(100) < m.inject {
			w.inject()
		}
	}
}

func moods() []mood {
	return []mood{
		{submit: 30},
		{lose: 2, submit: 40},
		{lose: 20, submit: 30},
		{late: 60, double: 10, submit: 40},
		{late: 100, lose: 5, submit: 30},
		{inject: 10, submit: 20},
		{inject: 30, late: 30, submit: 20},
		{inject: 60, lose: 10, submit: 20},
		{inject: 85, lose: 60, late: 50, submit: 20},
		{inject: 30, submit: 20, kinds: []int{api.MBatch, api.MHeader, api.MCert}},
		{inject: 10, submit: 20, kinds: []int{api.MPropose, api.MNewView, api.MAskBlock}},
		{inject: 20, submit: 20, kinds: []int{api.MBatch, api.MCert, api.MPropose}},
	}
}

// mingle lets all validators be told whatever comes.
func mingle(t *testing.T, many int, did map[string]int) {
	for seed := range many {
		r := rand.New(rand.NewSource(int64(seed)))
		c := api.Config{F: 1 + seed/36, Seed: "seed", Size: 1 + r.Intn(3), Wait: 1 + r.Intn(3), Cap: 3 + r.Intn(30), Retry: 1 + r.Intn(4), Rich: []string{"a", "b"}, Funds: 100}
		w := newWorld(t, r, c, did)
		if seed/12%2 == 1 {
			w.absent = w.n - 1
		}
		m := moods()[seed%12]
		for range 24 {
			w.turn(m)
			if r.Intn(20) == 0 {
				m = moods()[r.Intn(12)]
			}
		}
	}
}

// come is what is to be come to often, or else little was held against the model.
func come() []string {
	return []string{
		"ack", "agree", "agreed", "ask b", "ask c", "ask k", "batch acked", "batch again", "batch done", "batch given", "batch once more", "batch that was wanted",
		"block given", "block in", "block waits", "block waits already", "block waits no more", "carried", "cert given", "cert in", "cert once more", "cert waits", "cert waits already", "cert waits no more",
		"committed", "desk full", "did not propose", "emitted", "flattened", "followed", "header forgotten", "header once more", "header voted for", "header waits", "header waits no more",
		"line waits", "lined up", "lined up already", "low rises", "mark below the low", "newview", "not agreed", "own cert", "own header", "own header forgotten", "passed over",
		"proposed as enough came", "proposed upon High", "qc", "sealed", "self goes on", "the last of the marks", "vote", "want b", "want c", "want k", "wanted already", "word closed",
		"drop: ack of another", "drop: ack: error 10", "drop: ack: error 13", "drop: ack: error 14",
		"drop: agree of another", "drop: agree: error 10", "drop: agree: error 13", "drop: agree: no such block", "drop: agree: not above High", "drop: batch of another",
		"drop: block: 16 wait", "drop: block: another round", "drop: block: error 9", "drop: block: in the chain", "drop: block: old",
		"drop: cert: 16 wait", "drop: cert: error 10", "drop: cert: error 11", "drop: cert: error 12", "drop: cert: error 13", "drop: cert: error 15", "drop: cert: error 9",
		"drop: from nobody", "drop: from self", "drop: no message",
		"drop: header of another", "drop: header: error 10", "drop: header: error 11", "drop: header: error 12", "drop: header: error 15", "drop: header: error 9",
		"drop: newview of another", "drop: newview: not above", "drop: newview: qc", "drop: newview: tag", "drop: no such batch", "drop: no such block", "drop: no such cert",
		"drop: propose: block", "drop: propose: not the leader", "drop: propose: tag", "drop: vote of another", "drop: vote: error 10", "drop: vote: error 13", "drop: vote: error 14",
	}
}

// TestMingled: whatever comes, a validator does what the chapter's words say.
func TestMingled(t *testing.T) {
	did := map[string]int{}
	mingle(t, 48, did)
	tellStories(t, 60, did)
	tellCounts(t, did)
	for _, what := range come() {
		if did[what] < 3 {
			t.Errorf("%s: come to %d times", what, did[what])
		}
	}
}

// tellCounts tells how often each sentence was come to.
func tellCounts(t *testing.T, did map[string]int) {
	var l []string
	for what, n := range did {
		l = append(l, what+": "+strconv.Itoa(n))
	}
	slices.Sort(l)
	for _, x := range l {
		t.Log(x)
	}
}
