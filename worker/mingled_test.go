package worker_test

import (
	"math/bits"
	"reflect"
	"slices"
	"strconv"
	"testing"

	"tusk/api"
	"tusk/auth"
	"tusk/batch"
	"tusk/worker"
)

// plain is a worker by lists: of each batch the set of those whose tags are in.
type plain struct {
	table        *auth.Table
	self         int
	sealer       *batch.Sealer
	onWay, ready []entry
}

type entry struct {
	digest string
	in     uint
}

// tick is what Tick is to answer.
func (p *plain) tick() (api.Batch, string, bool) {
	if len(p.onWay) >= 8 {
		return api.Batch{}, "", false
	}
	b, ok := p.sealer.Tick()
	if !ok {
		return api.Batch{}, "", false
	}
	p.onWay = append(p.onWay, entry{digest: batch.Digest(b), in: 1 << p.self})
	return b, batch.Digest(b), true
}

// acked is what Acked is to answer, of a tag that is right or is not.
func (p *plain) acked(digest string, who int, right bool) api.Errno {
	i := slices.IndexFunc(p.onWay, func(x entry) bool { return x.digest == digest })
	switch {
	case i < 0:
		return api.ErrNone
	case who < 0 || who >= p.table.N():
		return api.ErrRange
	case !right:
		return api.ErrTag
	case p.onWay[i].in>>who&1 == 1:
		return api.ErrTwice
	}
	p.onWay[i].in |= 1 << who
	if bits.OnesCount(p.onWay[i].in) == p.table.Need() {
		p.ready = append(p.ready, p.onWay[i])
		p.onWay = slices.Delete(p.onWay, i, i+1)
	}
	return api.OK
}

// refs is what Refs is to answer.
func (p *plain) refs(t *testing.T, most int) []api.Ref {
	t.Helper()
	var l []api.Ref
	for len(l) < most && len(p.ready) > 0 {
		x := p.ready[0]
		p.ready = p.ready[1:]
		ref := api.Ref{Digest: x.digest}
		for who := range p.table.N() {
			if x.in>>who&1 == 1 {
				ref.Acks = append(ref.Acks, sign(t, p.table, who, "ack", x.digest))
			}
		}
		l = append(l, ref)
	}
	return rising(l...)
}

// pair is a worker and the plain one that it is held against, with all digests so far, and how often each came in a Ref.
type pair struct {
	t     *testing.T
	w     *worker.Worker
	plain *plain
	sent  []string
	refs  map[string]int
}

func newPair(t *testing.T, x *auth.Table, self, size, wait int) *pair {
	t.Helper()
	s, e := batch.NewSealer(self, size, wait)
	if e != api.OK {
		t.Fatalf("NewSealer(%d, %d, %d): error %d", self, size, wait, e)
	}
	return &pair{t: t, w: made(t, x, self, size, wait), plain: &plain{table: x, self: self, sealer: s}, refs: map[string]int{}}
}

func (p *pair) submit(x api.Tx) api.Errno {
	p.t.Helper()
	e, want := p.w.Submit(x), p.plain.sealer.Add(x)
	if e != want {
		p.t.Fatalf("Submit: error %d, want %d", e, want)
	}
	return e
}

func (p *pair) tick() {
	p.t.Helper()
	b, d, ok := p.w.Tick()
	want, digest, wantOK := p.plain.tick()
	if !reflect.DeepEqual(b, want) || d != digest || ok != wantOK {
		p.t.Fatalf("Tick: %v, %x, %v, want %v, %x, %v", b, d, ok, want, digest, wantOK)
	}
	if ok {
		p.sent = append(p.sent, d)
	}
	spoil(b.Txs, api.Tx{From: "spoilt"})
}

func (p *pair) acked(digest string, who int, right bool) api.Errno {
	p.t.Helper()
	x, kind := p.plain.table, "ack"
	if !right {
		kind = "vote"
	}
	tag := api.Tag{Who: who}
	if who >= 0 && who < x.N() {
		tag = sign(p.t, x, who, kind, digest)
	}
	e, want := p.w.Acked(digest, tag), p.plain.acked(digest, who, right)
	if e != want {
		p.t.Fatalf("Acked(%x, %d's): error %d, want %d", digest, who, e, want)
	}
	return e
}

// take is one Refs of both: each Ref's Acks are enough.
func (p *pair) take(most int) {
	p.t.Helper()
	l, want := p.w.Refs(most), p.plain.refs(p.t, most)
	if len(l) != len(want) || len(l) > 0 && !reflect.DeepEqual(l, want) {
		p.t.Fatalf("Refs(%d): %x, want %x", most, l, want)
	}
	for _, ref := range l {
		p.refs[ref.Digest]++
		if e := p.plain.table.Enough(ref.Acks, "ack", ref.Digest); e != api.OK {
			p.t.Fatalf("Refs(%d): Enough: error %d", most, e)
		}
		spoil(ref.Acks, api.Tag{Who: 99})
	}
	spoil(l, api.Ref{Digest: "spoilt"})
}

func (p *pair) look() {
	p.t.Helper()
	wantWaits(p.t, "mingled", p.w, p.plain.sealer.Waits(), len(p.plain.onWay), len(p.plain.ready))
	if p.t.Failed() {
		p.t.FailNow()
	}
}

// spoil writes over a list, and over the room behind its end.
func spoil[T any](l []T, gone T) {
	l = l[:cap(l)]
	for i := range l {
		l[i] = gone
	}
}

// steps answers numbers that look like no order, the same ones at every run.
func steps() func(n int) int {
	seed := uint32(1)
	return func(n int) int {
		seed = seed*1664525 + 1013904223
		return int(seed>>8) % n
	}
}

// step is one call, of any kind; its error, if it has one.
func (p *pair) step(next func(n int) int, turn int) api.Errno {
	p.t.Helper()
	switch {
	case next(24) == 0:
		p.take(next(7) - 1)
	case next(4) == 0:
		p.tick()
	case next(4) == 0:
		x := pay(turn)
		if next(9) == 0 {
			x.Kind = 0
		}
		return p.submit(x)
	case len(p.sent) > 0:
		late := next(min(12, len(p.sent))) // those that were sealed last, on their way or not
		d := p.sent[len(p.sent)-1-late]
		if next(20) == 0 {
			d += "'s"
		}
		return p.acked(d, next(p.plain.table.N()+2)-1, next(9) > 0)
	}
	return api.OK
}

// 13.1 to 13.3: all calls in long mingled rows answer as the plain worker does; two workers that are used by turns know nothing of each other; no batch comes in two Refs; what was handed out is nobody's but the caller's.
func TestMingled(t *testing.T) {
	next := steps()
	seen := map[api.Errno]int{}
	full := 0
	for f := 1; f <= api.MaxF; f++ {
		x := table(t, f, "seed")
		for _, size := range []int{1, 2, 5} {
			pairs := []*pair{newPair(t, x, 0, size, 1), newPair(t, x, x.N()-1, size, 4)}
			for turn := range 4000 {
				p := pairs[next(2)]
				seen[p.step(next, turn)]++
				for _, q := range pairs {
					q.look()
					full += len(q.plain.onWay) / 8
				}
			}
			for _, p := range pairs {
				p.end()
			}
		}
	}
	for _, e := range []api.Errno{api.OK, api.ErrKind, api.ErrFull, api.ErrNone, api.ErrRange, api.ErrTag, api.ErrTwice} {
		if seen[e] < 50 {
			t.Errorf("error %d came %d times", e, seen[e])
		}
	}
	if full < 1000 {
		t.Errorf("eight were on their way %d times", full)
	}
}

// end lets all that waits be sealed, be ready and be taken: each batch came in one Ref.
func (p *pair) end() {
	p.t.Helper()
	for a, b, c := p.w.Waits(); a+b+c > 0; a, b, c = p.w.Waits() {
		for _, d := range p.w.Words() {
			for who := range p.plain.table.N() {
				p.acked(d, who, true)
			}
		}
		p.take(3)
		p.tick()
		p.look()
	}
	if len(p.sent) < 20 {
		p.t.Errorf("%d batches were sealed", len(p.sent))
	}
	for i, d := range p.sent {
		if p.refs[d] != 1 {
			p.t.Errorf("batch %d came in %d Refs", i+1, p.refs[d])
		}
	}
}

// R4: what was submitted is the giver's own again, and stays as it was.
func TestSubmittedIsCopied(t *testing.T) {
	x := table(t, 1, "seed")
	w := made(t, x, 0, 1, 1)
	keys := []string{"a:ab", "a:c", "spare"}
	y := pay(1)
	y.Reads, y.Writes = keys[:2], keys[:2]
	want := pay(1)
	want.Reads = []string{"a:ab", "a:c"}
	submit(t, w, y)
	if !slices.Equal(keys, []string{"a:ab", "a:c", "spare"}) {
		t.Errorf("what was handed in has changed: %v", keys)
	}
	spoil(keys, "gone")
	wantSealed(t, "copied", w, api.Batch{Number: 1, Txs: []api.Tx{want}})
}

// R4: no answer shares memory with another, or with what is kept.
func TestNewMemory(t *testing.T) {
	x := table(t, 1, "seed")
	w := made(t, x, 0, 1, 1)
	var want []api.Ref
	for number := 1; number <= 6; number++ {
		submit(t, w, pay(number))
		b, d, _ := w.Tick()
		spoil(b.Txs[0].Reads, "spoilt")
		spoil(b.Txs, api.Tx{From: "spoilt " + strconv.Itoa(number)})
		want = append(want, finish(t, x, w, 0, d))
	}
	one := w.Refs(2)
	kept := rising(want[:2]...)
	for _, ref := range w.Refs(2) {
		spoil(ref.Acks, api.Tag{Who: 99})
	}
	spoil(w.Refs(1), api.Ref{Digest: "spoilt"}) // the room behind the end, where others may stand
	send(t, w, 0, 7)
	if !reflect.DeepEqual(one, kept) {
		t.Errorf("the first Refs are now %x, want %x", one, kept)
	}
	wantRefs(t, "the last", w, 1, want[5])
}
