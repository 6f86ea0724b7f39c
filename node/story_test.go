package node_test

import (
	"math/rand"
	"slices"
	"testing"

	"tusk/api"
	"tusk/batch"
	"tusk/block"
	"tusk/header"
	"tusk/msg"
	"tusk/wire"
)

// told is a message of a story, and who it is from.
type told struct {
	from int
	m    api.Msg
	when int
}

// story is what others have done, for one validator to be told of it in some order.
type story struct {
	w       *world
	self    int
	rounds  [][]api.Cert
	blocks  []api.Block
	batches []api.Batch
	all     []told
	answers map[string]told // what may be asked for: to a kind's letter and a digest
}

func (s *story) other() int { return (s.self + 1 + s.w.r.Intn(s.w.n-1)) % s.w.n }

func (s *story) tell(from, when int, m api.Msg) {
	s.all = append(s.all, told{from, m, when})
}

// addBatch is a batch of somebody else, of which not everybody has heard.
func (s *story) addBatch(round int) api.Batch {
	r := s.w.r
	if len(s.batches) > 0 && r.Intn(5) == 0 {
		return s.batches[r.Intn(len(s.batches))]
	}
	b := api.Batch{Author: s.other(), Number: len(s.batches) + 1}
	for range 1 + r.Intn(2) {
		b.Txs = append(b.Txs, s.w.makeTx())
	}
	s.batches = append(s.batches, b)
	m := api.Msg{Kind: api.MBatch, Batch: b}
	if r.Intn(3) > 0 {
		s.tell(b.Author, 10*round, m)
	}
	s.answers["b"+batch.Digest(b)] = told{m: m}
	return b
}

// addRound is a round's certificates, each upon enough of the round ahead.
func (s *story) addRound(round int) {
	w := s.w
	var certs []api.Cert
	for author := range w.n {
		left := w.n - author - 1 // behind this one
		if len(certs)+left >= w.keys.Need() && w.r.Intn(8) == 0 {
			continue
		}
		h := api.Header{Author: author, Round: round}
		for range w.r.Intn(3) {
			d := batch.Digest(s.addBatch(round))
			if len(h.Refs) == 0 || h.Refs[0].Digest < d {
				h.Refs = append(h.Refs, api.Ref{Digest: d, Acks: s.enough(header.Ack, d)})
			}
		}
		if round > 1 {
			for _, i := range w.r.Perm(len(s.rounds[round-2]))[:w.keys.Need()] {
				h.Parents = append(h.Parents, header.Id(s.rounds[round-2][i].Header))
			}
			slices.Sort(h.Parents)
		}
		c := api.Cert{Header: h, Votes: s.enough(header.Vote, header.Id(h))}
		certs = append(certs, c)
		m := api.Msg{Kind: api.MCert, Cert: c}
		s.tell(s.other(), 10*round+2, m)
		s.answers["c"+header.Id(h)] = told{m: m}
		if author != s.self && w.r.Intn(3) == 0 {
			s.tell(author, 10*round+1, api.Msg{Kind: api.MHeader, Header: h})
		}
	}
	s.rounds = append(s.rounds, certs)
}

// enough is tags of enough.
func (s *story) enough(kind, word string) []api.Tag {
	who := s.w.r.Perm(s.w.n)[:s.w.keys.Need()]
	slices.Sort(who)
	var l []api.Tag
	for _, i := range who {
		x, _ := s.w.keys.Sign(i, kind, word)
		l = append(l, x)
	}
	return l
}

// addBlock is a block upon the last one, or one that is not; and what is said of it.
func (s *story) addBlock(round int) {
	w, r := s.w, s.w.r
	parent := api.Block{}
	q := api.Qc{Block: block.Genesis()}
	if k := len(s.blocks); k > 0 {
		parent = s.blocks[k-1]
		if r.Intn(12) == 0 {
			parent = s.blocks[max(0, k-2)]
		}
		id := block.Id(parent)
		q = api.Qc{View: parent.View, Block: id, Votes: s.enough(block.Agree, block.Word(parent.View, id))}
		if r.Intn(2) == 0 {
			s.newView(round, q, q.View+1)
		}
	}
	b := api.Block{View: q.View + 1, Qc: q}
	if r.Intn(8) == 0 {
		b.View++
	}
	for range r.Intn(5) {
		of := max(1, round-r.Intn(3))
		if r.Intn(6) == 0 {
			of = 1 + r.Intn(round)
		}
		c := s.rounds[of-1][r.Intn(len(s.rounds[of-1]))]
		if r.Intn(100) == 0 {
			of += r.Intn(20)
		}
		mark := block.Mark(of, header.Id(c.Header))
		if !slices.Contains(b.Certs, mark) {
			b.Certs = append(b.Certs, mark)
		}
	}
	s.blocks = append(s.blocks, b)
	id := block.Id(b)
	tag, _ := w.keys.Sign(b.View%w.n, msg.Propose, id)
	m := api.Msg{Kind: api.MPropose, Block: b, Tag: tag}
	s.tell(s.other(), 10*round+5, m)
	s.answers["k"+id] = told{m: m}
	for who := range w.n {
		if who != s.self && r.Intn(4) > 0 {
			tag, _ := w.keys.Sign(who, block.Agree, block.Word(b.View, id))
			s.tell(who, 10*round+6, api.Msg{Kind: api.MAgree, View: b.View, Digest: id, Tag: tag})
		}
	}
}

func (s *story) newView(round int, q api.Qc, view int) {
	who := s.other()
	tag, _ := s.w.keys.Sign(who, msg.NewView, wire.Int(int64(view))+block.EncodeQc(q))
	s.tell(who, 10*round, api.Msg{Kind: api.MNewView, View: view, Qc: q, Tag: tag})
}

// listen tells the validator all of it, each thing somewhat late, and answers some of what it asks for.
func (s *story) listen(late int) {
	w := s.w
	for i := range s.all {
		s.all[i].when += w.r.Intn(late)
		if w.r.Intn(30) == 0 {
			s.all[i].when += w.r.Intn(200)
		}
	}
	slices.SortStableFunc(s.all, func(a, b told) int { return a.when - b.when })
	for i, x := range s.all {
		if w.r.Intn(40) == 0 {
			continue
		}
		text, e := msg.Encode(x.m)
		if e != api.OK {
			w.t.Fatalf("a story's message: %v", e)
		}
		w.recv(s.self, x.from, text, "told")
		if w.r.Intn(40) == 0 {
			w.recv(s.self, s.other(), text, "told again")
		}
		if i%8 == 0 {
			w.tick(s.self)
			s.answer()
		}
		if w.r.Intn(30) == 0 {
			w.submit(s.self)
		}
	}
}

// answer answers what was asked for, mostly.
func (s *story) answer() {
	w := s.w
	asked := w.bag
	w.bag = nil
	for _, e := range asked {
		m, _ := msg.Decode(e.Bytes)
		letter := map[int]string{api.MAskBatch: "b", api.MAskCert: "c", api.MAskBlock: "k"}[m.Kind]
		x, ok := s.answers[letter+m.Digest]
		if letter == "" || !ok || w.r.Intn(3) == 0 {
			continue
		}
		text, _ := msg.Encode(x.m)
		w.recv(s.self, e.To, text, "answered")
	}
}

// tellStories tells one validator each of so many stories.
func tellStories(t *testing.T, many int, did map[string]int) {
	for seed := range many {
		r := rand.New(rand.NewSource(int64(seed)))
		c := api.Config{F: 1 + seed%5/4, Seed: "seed", Size: 1 + r.Intn(3), Wait: 1 + r.Intn(3), Cap: 3 + r.Intn(30), Retry: 1 + r.Intn(4), Rich: []string{"a", "b"}, Funds: 100}
		w := newWorld(t, r, c, did)
		s := &story{w: w, self: r.Intn(w.n), answers: map[string]told{}}
		for round := 1; round <= 20+4*(seed%4); round++ {
			s.addRound(round)
			s.addBlock(round)
			if r.Intn(3) == 0 {
				s.addBlock(round)
			}
		}
		s.listen([]int{1, 10, 30, 100}[seed%4])
	}
}
