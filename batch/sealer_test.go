package batch_test

import (
	"math"
	"reflect"
	"slices"
	"strconv"
	"testing"

	"tusk/api"
	"tusk/batch"
	"tusk/tx"
)

// made is a sealer that there must be.
func made(t *testing.T, author, size, wait int) *batch.Sealer {
	t.Helper()
	s, e := batch.NewSealer(author, size, wait)
	if s == nil || e != api.OK {
		t.Fatalf("NewSealer(%d, %d, %d): error %d", author, size, wait, e)
	}
	return s
}

// add adds transactions that must be taken.
func add(t *testing.T, s *batch.Sealer, l ...api.Tx) {
	t.Helper()
	for _, x := range l {
		if e := s.Add(x); e != api.OK {
			t.Errorf("Add(%v): error %d", x, e)
		}
	}
}

// wantNothing is that a tick seals nothing.
func wantNothing(t *testing.T, what string, s *batch.Sealer) {
	t.Helper()
	waits := s.Waits()
	if b, ok := s.Tick(); ok || !reflect.DeepEqual(b, api.Batch{}) {
		t.Errorf("%s: Tick: %v, %v", what, b, ok)
	}
	if s.Waits() != waits {
		t.Errorf("%s: %d wait, want %d", what, s.Waits(), waits)
	}
}

// wantSealed is that a tick seals a batch, and that so many wait behind it.
func wantSealed(t *testing.T, what string, s *batch.Sealer, want api.Batch, waits int) {
	t.Helper()
	b, ok := s.Tick()
	if !ok || !same(b, want) {
		t.Errorf("%s: Tick: %v, %v, want %v", what, b, ok, want)
	}
	if e := batch.Check(b); e != api.OK {
		t.Errorf("%s: the batch is not right: error %d", what, e)
	}
	if s.Waits() != waits {
		t.Errorf("%s: %d wait, want %d", what, s.Waits(), waits)
	}
}

// The chapter's example.
func TestExample(t *testing.T) {
	a, b, c := pay(1), put(2), pay(3)
	s := made(t, 5, 2, 3)
	add(t, s, a)
	wantNothing(t, "the first tick", s)
	wantNothing(t, "the second tick", s)
	wantSealed(t, "the third tick", s, api.Batch{Author: 5, Number: 1, Txs: []api.Tx{a}}, 0)
	add(t, s, a, b, c)
	wantSealed(t, "two of three", s, api.Batch{Author: 5, Number: 2, Txs: []api.Tx{a, b}}, 1)
	wantNothing(t, "the first tick of c", s)
	wantNothing(t, "the second tick of c", s)
	wantSealed(t, "the third tick of c", s, api.Batch{Author: 5, Number: 3, Txs: []api.Tx{c}}, 0)
}

// 5.3: where author, size and wait may be, each with each.
func TestNewSealer(t *testing.T) {
	out := []int{math.MinInt, math.MinInt32, -1, 1001, 1 << 32, 1<<32 + 1, api.MaxInt, math.MaxInt}
	for _, author := range append([]int{0, 1, 2, 3, 4, 5, 6, 7, 8, 256}, out...) {
		for _, size := range append([]int{0, 1, 2, 8, 15, 16, 17, 257}, out...) {
			for _, wait := range append([]int{0, 1, 2, 500, 999, 1000, 1 << 16}, out...) {
				right := author >= 0 && author <= 6 && size >= 1 && size <= 16 && wait >= 1 && wait <= 1000
				s, e := batch.NewSealer(author, size, wait)
				if right && (s == nil || e != api.OK || s.Waits() != 0) || !right && (s != nil || e != api.ErrRange) {
					t.Errorf("NewSealer(%d, %d, %d): %v, error %d", author, size, wait, s, e)
				}
			}
		}
	}
}

// 5.3: a new sealer has nothing to seal, however often it ticks; what comes then waits its whole time.
func TestNothingWaits(t *testing.T) {
	for _, wait := range []int{1, 2, 7} {
		s := made(t, 0, 3, wait)
		for number := 1; number <= 3; number++ {
			for i := range 20 {
				wantNothing(t, "empty "+strconv.Itoa(i), s)
			}
			add(t, s, pay(number))
			for i := range wait - 1 {
				wantNothing(t, "wait "+strconv.Itoa(wait)+", tick "+strconv.Itoa(i), s)
			}
			wantSealed(t, "wait "+strconv.Itoa(wait), s, api.Batch{Number: number, Txs: []api.Tx{pay(number)}}, 0)
		}
	}
}

// 5.3: the greatest wait.
func TestLongWait(t *testing.T) {
	s := made(t, 6, 16, 1000)
	add(t, s, pays(15)...)
	for i := range 999 {
		wantNothing(t, "tick "+strconv.Itoa(i), s)
	}
	wantSealed(t, "tick 1000", s, api.Batch{Author: 6, Number: 1, Txs: pays(15)}, 0)
}

// 5.3: what waits, waits from the first one's coming; those that come later do not begin it anew.
func TestWaitOfFirst(t *testing.T) {
	s := made(t, 0, 4, 3)
	add(t, s, pay(0))
	wantNothing(t, "first", s)
	add(t, s, pay(1))
	wantNothing(t, "second", s)
	add(t, s, pay(2))
	wantSealed(t, "third", s, api.Batch{Number: 1, Txs: []api.Tx{pay(0), pay(1), pay(2)}}, 0)
}

// 5.3: what is left behind a batch waits from the sealing on.
func TestWaitOfRest(t *testing.T) {
	s := made(t, 0, 2, 3)
	add(t, s, pay(0))
	wantNothing(t, "first", s)
	wantNothing(t, "second", s)
	add(t, s, pay(1), pay(2))
	wantSealed(t, "enough", s, api.Batch{Number: 1, Txs: []api.Tx{pay(0), pay(1)}}, 1)
	wantNothing(t, "first of the rest", s)
	wantNothing(t, "second of the rest", s)
	wantSealed(t, "third of the rest", s, api.Batch{Number: 2, Txs: []api.Tx{pay(2)}}, 0)
}

// 5.3: for every size, 4 times as many wait and not one more; then a tick seals one batch, and no tick two.
func TestFull(t *testing.T) {
	for size := 1; size <= 16; size++ {
		s := made(t, 1, size, 1000)
		l := pays(6 * size)
		for i, x := range l[:4*size] {
			add(t, s, x)
			if s.Waits() != i+1 {
				t.Errorf("size %d: %d wait, want %d", size, s.Waits(), i+1)
			}
		}
		for range 3 {
			if e := s.Add(l[4*size]); e != api.ErrFull || s.Waits() != 4*size {
				t.Errorf("size %d: Add: error %d; %d wait", size, e, s.Waits())
			}
		}
		for want, x := range wrongs(t) {
			if e := s.Add(x); e != want || s.Waits() != 4*size {
				t.Errorf("size %d: Add of a wrong one: error %d, want %d; %d wait", size, e, want, s.Waits())
			}
		}
		wantSealed(t, "full", s, api.Batch{Author: 1, Number: 1, Txs: l[:size]}, 3*size)
		add(t, s, l[4*size:5*size]...)
		if e := s.Add(l[5*size]); e != api.ErrFull {
			t.Errorf("size %d: full again: error %d", size, e)
		}
		for n := 2; n <= 5; n++ {
			wantSealed(t, "number "+strconv.Itoa(n), s, api.Batch{Author: 1, Number: n, Txs: l[(n-1)*size : n*size]}, (5-n)*size)
		}
		wantNothing(t, "empty", s)
	}
}

// 5.3: a wrong transaction is refused with tx.Check's error, and nothing has changed: it begins no wait.
func TestAddWrong(t *testing.T) {
	s := made(t, 0, 2, 2)
	for want, x := range wrongs(t) {
		for range 3 {
			if e := s.Add(x); e != want || s.Waits() != 0 {
				t.Errorf("Add: error %d, want %d; %d wait", e, want, s.Waits())
			}
			wantNothing(t, "behind a wrong one", s)
		}
	}
	if e := s.Add(api.Tx{}); e != api.ErrKind {
		t.Errorf("Add of none: error %d", e)
	}
	add(t, s, pay(0))
	wantNothing(t, "first", s)
	wantSealed(t, "second", s, api.Batch{Number: 1, Txs: []api.Tx{pay(0)}}, 0)
}

// 5.3: every author's batches bear its number.
func TestAuthors(t *testing.T) {
	for author := range 7 {
		s := made(t, author, 1, 1)
		add(t, s, great())
		wantSealed(t, strconv.Itoa(author), s, api.Batch{Author: author, Number: 1, Txs: []api.Tx{great()}}, 0)
	}
}

// model is a sealer in the chapter's words: by the ticks at which things happened.
type model struct {
	author, size, wait int
	waiting            []api.Tx
	now, since         int // ticks so far; at which one the wait began
	number             int
}

func (m *model) add(x api.Tx) api.Errno {
	if e := tx.Check(x); e != api.OK {
		return e
	}
	if len(m.waiting) == 4*m.size {
		return api.ErrFull
	}
	if len(m.waiting) == 0 {
		m.since = m.now
	}
	m.waiting = append(slices.Clone(m.waiting), x)
	return api.OK
}

func (m *model) tick() (api.Batch, bool) {
	m.now++
	if len(m.waiting) == 0 || len(m.waiting) < m.size && m.now-m.since < m.wait {
		return api.Batch{}, false
	}
	n := len(m.waiting)
	if n > m.size {
		n = m.size
	}
	m.number++
	m.since = m.now
	b := api.Batch{Author: m.author, Number: m.number, Txs: slices.Clone(m.waiting[:n])}
	m.waiting = slices.Clone(m.waiting[n:])
	return b, true
}

// pair is a sealer and its model, with all that was taken and all that was sealed.
type pair struct {
	t             *testing.T
	s             *batch.Sealer
	m             model
	taken, sealed []api.Tx
}

func newPair(t *testing.T, author, size, wait int) *pair {
	t.Helper()
	return &pair{t: t, s: made(t, author, size, wait), m: model{author: author, size: size, wait: wait}}
}

func (p *pair) add(x api.Tx) {
	p.t.Helper()
	e, want := p.s.Add(x), p.m.add(x)
	if e != want || p.s.Waits() != len(p.m.waiting) {
		p.t.Fatalf("size %d, wait %d: Add: error %d, want %d; %d wait, want %d", p.m.size, p.m.wait, e, want, p.s.Waits(), len(p.m.waiting))
	}
	if e == api.OK {
		p.taken = append(p.taken, x)
	}
}

func (p *pair) tick() {
	p.t.Helper()
	b, ok := p.s.Tick()
	want, wantOK := p.m.tick()
	if ok != wantOK || !same(b, want) || p.s.Waits() != len(p.m.waiting) {
		p.t.Fatalf("size %d, wait %d: Tick: %v, %v, want %v, %v; %d wait, want %d", p.m.size, p.m.wait, b, ok, want, wantOK, p.s.Waits(), len(p.m.waiting))
	}
	if e := batch.Check(b); ok && e != api.OK {
		p.t.Fatalf("size %d, wait %d: a batch is not right: error %d", p.m.size, p.m.wait, e)
	}
	p.sealed = append(p.sealed, copied(b.Txs)...)
	spoil(b)
}

// end ticks until nothing waits: what was sealed is what was taken.
func (p *pair) end() {
	p.t.Helper()
	for range 5 * p.m.wait {
		p.tick()
	}
	if p.s.Waits() != 0 || !slices.EqualFunc(p.sealed, p.taken, sameTx) {
		p.t.Fatalf("size %d, wait %d: %d were sealed, %d taken; %d wait", p.m.size, p.m.wait, len(p.sealed), len(p.taken), p.s.Waits())
	}
}

// 5.3, 5.4: every order of twelve Adds and ticks, of small sizes and waits.
func TestAllOrders(t *testing.T) {
	for size := 1; size <= 3; size++ {
		for wait := 1; wait <= 4; wait++ {
			for order := range 1 << 12 {
				p := newPair(t, order%7, size, wait)
				for i := range 12 {
					if order>>i&1 == 0 {
						p.add(pay(i))
					} else {
						p.tick()
					}
				}
				p.end()
			}
		}
	}
}

// 5.3, 5.4: long runs of Adds, right and wrong, and ticks, of all sizes, in bursts that fill the sealer and in drops that let it wait.
func TestLongRuns(t *testing.T) {
	wrong := wrongs(t)[api.ErrField]
	for size := 1; size <= 16; size++ {
		for _, wait := range []int{1, 2, 5, 40} {
			p := newPair(t, size%7, size, wait)
			dice := uint32(size*1000 + wait)
			for i := range 600 {
				dice = dice*1664525 + 1013904223
				adds := int(dice>>16) % (2 * size)
				if i/100%3 == 0 {
					adds = int(dice>>16) % 40 / 39
				}
				for k := range adds {
					p.add([]api.Tx{pay(i*100 + k), put(i*100 + k)}[k%2])
				}
				if dice>>28 == 0 {
					p.add(wrong)
				}
				p.tick()
			}
			p.end()
		}
	}
}

// R4: what was added is not kept: what its giver does with it later is not to be seen, and what is handed in stays as it was.
func TestAddedIsCopied(t *testing.T) {
	s := made(t, 0, 2, 1)
	keys := []string{"a:ab", "a:c", "spare", "spare"}
	x := pay(1)
	x.Reads, x.Writes = keys[:2], keys[:2]
	want := copied([]api.Tx{x, x})
	add(t, s, x, x)
	if !slices.Equal(keys, []string{"a:ab", "a:c", "spare", "spare"}) {
		t.Errorf("what was handed in has changed: %v", keys)
	}
	for i := range keys {
		keys[i] = "gone"
	}
	b, ok := s.Tick()
	if !ok || !slices.EqualFunc(b.Txs, want, sameTx) {
		t.Errorf("Tick: %v, %v, want %v", b, ok, want)
	}
	// No two lists of the answer share memory, though those that were handed in did.
	lists := [][]string{b.Txs[0].Reads, b.Txs[0].Writes, b.Txs[1].Reads, b.Txs[1].Writes}
	for i, l := range lists {
		l[0] = "list " + strconv.Itoa(i)
	}
	for i, l := range lists {
		if l[0] != "list "+strconv.Itoa(i) {
			t.Errorf("list %d shares memory: %v", i, l)
		}
	}
	if !slices.Equal(keys, []string{"gone", "gone", "gone", "gone"}) {
		t.Errorf("the answer shares memory with what was handed in: %v", keys)
	}
}

// Ways, R4: a batch's room ends with it: nothing that comes later stands in it, and whoever goes on with it does not change what waits.
func TestRoomEnds(t *testing.T) {
	for size := 1; size <= 16; size++ {
		s := made(t, 0, size, 1)
		l := pays(4 * size)
		add(t, s, l...)
		var all []api.Batch
		for s.Waits() > 0 {
			b, ok := s.Tick()
			if !ok || cap(b.Txs) != len(b.Txs) {
				t.Fatalf("size %d: Tick: %v, room for %d of %d", size, ok, cap(b.Txs), len(b.Txs))
			}
			_ = append(b.Txs, api.Tx{From: "mine"})
			all = append(all, b)
			if len(all) < 4 { // what comes into the room behind
				add(t, s, pays(1)...)
				l = append(l, pays(1)...)
			}
		}
		var sealed []api.Tx
		for i, b := range all {
			if b.Number != i+1 {
				t.Errorf("size %d: batch %d has the number %d", size, i, b.Number)
			}
			sealed = append(sealed, b.Txs...)
		}
		if !slices.EqualFunc(sealed, l, sameTx) {
			t.Errorf("size %d: sealed %v, want %v", size, sealed, l)
		}
	}
}

// R4: a batch that was sealed stays as it is, whatever comes later; two sealers know nothing of each other.
func TestSealedStays(t *testing.T) {
	one, two := made(t, 1, 3, 2), made(t, 2, 3, 2)
	var kept []api.Batch
	var ahead []api.Batch
	for i := range 200 {
		add(t, one, pay(i), put(i))
		add(t, two, put(i))
		for _, s := range []*batch.Sealer{one, two} {
			if b, ok := s.Tick(); ok {
				kept = append(kept, b)
				ahead = append(ahead, api.Batch{Author: b.Author, Number: b.Number, Txs: copied(b.Txs)})
			}
		}
	}
	for i := range kept {
		if !same(kept[i], ahead[i]) {
			t.Fatalf("batch %d has changed: %v, want %v", i, kept[i], ahead[i])
		}
	}
	if len(kept) < 200 {
		t.Errorf("only %d batches", len(kept))
	}
}
