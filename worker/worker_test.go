package worker_test

import (
	"math"
	"reflect"
	"slices"
	"strconv"
	"strings"
	"testing"

	"tusk/api"
	"tusk/auth"
	"tusk/batch"
	"tusk/header"
	"tusk/tx"
	"tusk/worker"
)

func table(t *testing.T, f int, seed string) *auth.Table {
	t.Helper()
	x, e := auth.New(f, seed)
	if e != api.OK {
		t.Fatalf("auth.New(%d, %s): error %d", f, seed, e)
	}
	return x
}

// made is a worker that there must be.
func made(t *testing.T, x *auth.Table, self, size, wait int) *worker.Worker {
	t.Helper()
	w, e := worker.New(x, self, size, wait)
	if w == nil || e != api.OK {
		t.Fatalf("New(%d, %d, %d): error %d", self, size, wait, e)
	}
	return w
}

// sign is a validator's tag, of a word of a kind.
func sign(t *testing.T, x *auth.Table, who int, kind, word string) api.Tag {
	t.Helper()
	tag, e := x.Sign(who, kind, word)
	if e != api.OK {
		t.Fatalf("Sign(%d): error %d", who, e)
	}
	return tag
}

// acks is these validators' word that they have a batch.
func acks(t *testing.T, x *auth.Table, digest string, who ...int) []api.Tag {
	t.Helper()
	var l []api.Tag
	for _, one := range who {
		l = append(l, sign(t, x, one, "ack", digest))
	}
	return l
}

// pay is a right transaction; each number makes another one.
func pay(n int) api.Tx {
	return api.Tx{Kind: api.Transfer, From: "ab", To: "c", Amount: 5, Nonce: uint64(n), Reads: []string{"a:r", "k:r"}, Writes: []string{"a:ab", "a:c"}}
}

// submit submits transactions that must be taken.
func submit(t *testing.T, w *worker.Worker, l ...api.Tx) {
	t.Helper()
	for _, x := range l {
		if e := w.Submit(x); e != api.OK {
			t.Errorf("Submit(%v): error %d", x, e)
		}
	}
}

// wantWaits is what Waits is to answer.
func wantWaits(t *testing.T, what string, w *worker.Worker, waiting, onWay, ready int) {
	t.Helper()
	if a, b, c := w.Waits(); a != waiting || b != onWay || c != ready {
		t.Errorf("%s: Waits: %d, %d, %d, want %d, %d, %d", what, a, b, c, waiting, onWay, ready)
	}
}

// wantNothing is that a tick seals nothing.
func wantNothing(t *testing.T, what string, w *worker.Worker) {
	t.Helper()
	a, b, c := w.Waits()
	if x, d, ok := w.Tick(); ok || d != "" || !reflect.DeepEqual(x, api.Batch{}) {
		t.Errorf("%s: Tick: %v, %x, %v", what, x, d, ok)
	}
	wantWaits(t, what, w, a, b, c)
}

// wantSealed is that a tick seals this batch, which is on its way then; its digest.
func wantSealed(t *testing.T, what string, w *worker.Worker, want api.Batch) string {
	t.Helper()
	waiting, onWay, ready := w.Waits()
	b, d, ok := w.Tick()
	if !ok || !reflect.DeepEqual(b, want) {
		t.Fatalf("%s: Tick: %v, %v, want %v", what, b, ok, want)
	}
	if d != batch.Digest(want) || len(d) != api.DigSize {
		t.Fatalf("%s: Tick: the digest %x, want %x", what, d, batch.Digest(want))
	}
	wantWaits(t, what, w, waiting-len(want.Txs), onWay+1, ready)
	return d
}

// wantAcked is that Acked answers so.
func wantAcked(t *testing.T, what string, w *worker.Worker, digest string, x api.Tag, want api.Errno) {
	t.Helper()
	if e := w.Acked(digest, x); e != want {
		t.Errorf("%s: Acked(%.40x, %d's): error %d, want %d", what, digest, x.Who, e, want)
	}
}

// wantRefs is that Refs answers just these.
func wantRefs(t *testing.T, what string, w *worker.Worker, most int, want ...api.Ref) {
	t.Helper()
	l := w.Refs(most)
	if len(l) == 0 && len(want) == 0 {
		return
	}
	if !reflect.DeepEqual(l, want) {
		t.Errorf("%s: Refs(%d): %x, want %x", what, most, l, want)
	}
}

// send submits a transaction to a worker of the size 1, that is sealed at once; the batch's digest.
func send(t *testing.T, w *worker.Worker, author, number int) string {
	t.Helper()
	submit(t, w, pay(number))
	return wantSealed(t, "batch "+strconv.Itoa(number), w, api.Batch{Author: author, Number: number, Txs: []api.Tx{pay(number)}})
}

// finish is that self's batch comes to be ready by the word of the first others; its Ref.
func finish(t *testing.T, x *auth.Table, w *worker.Worker, self int, digest string) api.Ref {
	t.Helper()
	who := []int{self}
	for one := 0; len(who) < x.Need(); one++ {
		if one != self {
			wantAcked(t, "finish", w, digest, sign(t, x, one, "ack", digest), api.OK)
			who = append(who, one)
		}
	}
	slices.Sort(who)
	return api.Ref{Digest: digest, Acks: acks(t, x, digest, who...)}
}

// rising is Refs in the order of their digests.
func rising(l ...api.Ref) []api.Ref {
	return slices.SortedFunc(slices.Values(l), func(a, b api.Ref) int { return strings.Compare(a.Digest, b.Digest) })
}

// The chapter's example.
func TestExample(t *testing.T) {
	x := table(t, 1, "seed")
	w := made(t, x, 0, 1, 9)
	submit(t, w, pay(1))
	d := wantSealed(t, "the example", w, api.Batch{Number: 1, Txs: []api.Tx{pay(1)}})
	wantAcked(t, "by 1", w, d, sign(t, x, 1, "ack", d), api.OK)
	wantWaits(t, "by 1", w, 0, 1, 0)
	wantAcked(t, "by 2", w, d, sign(t, x, 2, "ack", d), api.OK)
	wantWaits(t, "by 2", w, 0, 0, 1)
	wantRefs(t, "the example", w, 4, api.Ref{Digest: d, Acks: acks(t, x, d, 0, 1, 2)})
	wantWaits(t, "taken", w, 0, 0, 0)
}

// 13.1: who is a validator hangs on the table; sizes and waits are the sealer's.
func TestNew(t *testing.T) {
	out := []int{math.MinInt, math.MinInt32, -2, -1, 1001, 1 << 32, 1<<32 + 1, api.MaxInt, math.MaxInt}
	for f := 1; f <= api.MaxF; f++ {
		x := table(t, f, "seed")
		for _, self := range append([]int{0, 1, 2, 3, 4, 5, 6, 7, 8}, out...) {
			for _, size := range append([]int{0, 1, 2, 15, 16, 17}, out...) {
				for _, wait := range append([]int{0, 1, 2, 999, 1000}, out...) {
					want := api.ErrRange
					if self >= 0 && self < x.N() {
						_, want = batch.NewSealer(self, size, wait)
					}
					w, e := worker.New(x, self, size, wait)
					if e != want || (w == nil) != (e != api.OK) {
						t.Fatalf("f %d: New(%d, %d, %d): %v, error %d, want %d", f, self, size, wait, w, e, want)
					}
				}
			}
		}
	}
}

// 13.1, 13.2: with a new worker nothing has happened.
func TestNothingYet(t *testing.T) {
	x := table(t, 1, "seed")
	w := made(t, x, 3, 1, 1)
	for range 20 {
		wantNothing(t, "new", w)
		wantWaits(t, "new", w, 0, 0, 0)
		wantRefs(t, "new", w, 4)
		for _, d := range []string{"", "w", strings.Repeat("d", api.DigSize)} {
			wantAcked(t, "new", w, d, sign(t, x, 0, "ack", d), api.ErrNone)
		}
	}
	submit(t, w, pay(1))
	wantSealed(t, "then", w, api.Batch{Author: 3, Number: 1, Txs: []api.Tx{pay(1)}})
}

// wrongTxs is a transaction for each error that tx.Check has.
func wrongTxs(t *testing.T) map[api.Errno]api.Tx {
	t.Helper()
	l := map[api.Errno]api.Tx{}
	change := func(e api.Errno, do func(x *api.Tx)) {
		x := pay(1)
		do(&x)
		l[e] = x
		if tx.Check(x) != e {
			t.Errorf("%v is no error %d", x, e)
		}
	}
	change(api.ErrKind, func(x *api.Tx) { x.Kind = 3 })
	change(api.ErrField, func(x *api.Tx) { x.From = "Ab" })
	change(api.ErrRange, func(x *api.Tx) { x.Amount = api.MaxInt + 1 })
	change(api.ErrLong, func(x *api.Tx) { x.Reads = slices.Repeat([]string{"a:r"}, api.MaxKeys+1) })
	change(api.ErrOrder, func(x *api.Tx) { x.Writes = []string{"a:c", "a:ab"} })
	return l
}

// 13.1: Submit is the sealer's Add: its errors, its room.
func TestSubmit(t *testing.T) {
	x := table(t, 1, "seed")
	for _, size := range []int{1, 2, 7, 16} {
		w := made(t, x, 1, size, 1000)
		for e, wrong := range wrongTxs(t) {
			if got := w.Submit(wrong); got != e {
				t.Errorf("size %d: Submit: error %d, want %d", size, got, e)
			}
			wantNothing(t, "behind a wrong one", w)
		}
		for i := range 4 * size {
			wantWaits(t, "submitted", w, i, 0, 0)
			submit(t, w, pay(i))
		}
		for e, wrong := range wrongTxs(t) {
			if got := w.Submit(wrong); got != e {
				t.Errorf("size %d, full: Submit: error %d, want %d", size, got, e)
			}
		}
		if e := w.Submit(pay(0)); e != api.ErrFull {
			t.Errorf("size %d: Submit: error %d, want %d", size, e, api.ErrFull)
		}
		wantWaits(t, "full", w, 4*size, 0, 0)
		for n := range 4 {
			var l []api.Tx
			for i := range size {
				l = append(l, pay(n*size+i))
			}
			wantSealed(t, "full", w, api.Batch{Author: 1, Number: n + 1, Txs: l})
		}
		wantNothing(t, "empty", w)
	}
}

// 13.1: a batch of fewer is sealed behind the wait, not ahead of it.
func TestWait(t *testing.T) {
	x := table(t, 1, "seed")
	for _, wait := range []int{1, 2, 5, 1000} {
		w := made(t, x, 2, 2, wait)
		for number := 1; number <= 3; number++ {
			submit(t, w, pay(number))
			for i := range wait - 1 {
				wantNothing(t, "tick "+strconv.Itoa(i), w)
			}
			wantSealed(t, "the last tick", w, api.Batch{Author: 2, Number: number, Txs: []api.Tx{pay(number)}})
			wantNothing(t, "empty", w)
		}
	}
}

// 13.1: self's own tag is in from the beginning, whoever self is, and nobody else's.
func TestOwnTag(t *testing.T) {
	for f := 1; f <= api.MaxF; f++ {
		x := table(t, f, "seed")
		for self := range x.N() {
			w := made(t, x, self, 1, 1)
			d := send(t, w, self, 1)
			wantAcked(t, "own", w, d, sign(t, x, self, "ack", d), api.ErrTwice)
			ref := finish(t, x, w, self, d)
			wantWaits(t, "enough", w, 0, 0, 1)
			wantRefs(t, "enough", w, 1, ref)
		}
	}
}

// 13.1: when 8 are on their way, a tick does nothing; those that are ready do not count.
func TestEight(t *testing.T) {
	x := table(t, 1, "seed")
	w := made(t, x, 0, 1, 1)
	var l []string
	var want []api.Ref
	for number := 1; number <= 30; number++ {
		if len(l) == 8 {
			submit(t, w, pay(number))
			for range 5 {
				wantNothing(t, "eight", w)
			}
			next := (number * 5) % len(l) // not the first one alone
			want = append(want, finish(t, x, w, 0, l[next]))
			l = slices.Delete(l, next, next+1)
			l = append(l, wantSealed(t, "seven", w, api.Batch{Number: number, Txs: []api.Tx{pay(number)}}))
		} else {
			l = append(l, send(t, w, 0, number))
		}
		wantWaits(t, "sent", w, 0, len(l), len(want))
	}
	wantWaits(t, "at last", w, 0, 8, 22)
	wantRefs(t, "at last", w, 22, rising(want...)...)
	submit(t, w, pay(0))
	wantNothing(t, "taken ones make no room", w)
}

// 13.1: a tick that does nothing is none for what waits, either; there is room for it in the sealer as ever.
func TestEightWaits(t *testing.T) {
	x := table(t, 1, "seed")
	w := made(t, x, 0, 2, 3)
	var l []string
	for number := 1; number <= 8; number++ {
		submit(t, w, pay(number), pay(number))
		l = append(l, wantSealed(t, "sent", w, api.Batch{Number: number, Txs: []api.Tx{pay(number), pay(number)}}))
	}
	submit(t, w, pay(9))
	for range 20 {
		wantNothing(t, "eight", w)
	}
	finish(t, x, w, 0, l[3])
	wantNothing(t, "the first tick", w)
	wantNothing(t, "the second tick", w)
	wantSealed(t, "the third tick", w, api.Batch{Number: 9, Txs: []api.Tx{pay(9)}})
	for i := range 8 {
		submit(t, w, pay(i))
	}
	if e := w.Submit(pay(8)); e != api.ErrFull {
		t.Errorf("Submit: error %d, want %d", e, api.ErrFull)
	}
	wantNothing(t, "eight, and full", w)
	wantWaits(t, "eight, and full", w, 8, 8, 1)
	finish(t, x, w, 0, l[0])
	wantSealed(t, "behind it", w, api.Batch{Number: 10, Txs: []api.Tx{pay(0), pay(1)}})
	wantNothing(t, "eight again", w)
}

// Ways: the board's methods are the worker's own: its words are the digests of what is on its way, in the order in which they were sealed.
func TestBoardIsEmbedded(t *testing.T) {
	x := table(t, 1, "seed")
	w := made(t, x, 0, 1, 1)
	var l []string
	for number := 1; number <= 8; number++ {
		l = append(l, send(t, w, 0, number))
		if got := w.Words(); !slices.Equal(got, l) {
			t.Errorf("Words: %x, want %x", got, l)
		}
	}
	finish(t, x, w, 0, l[2])
	l = slices.Delete(l, 2, 3)
	if got := w.Words(); !slices.Equal(got, l) {
		t.Errorf("Words: %x, want %x", got, l)
	}
}

// wrongAcks is tags that a board's Add refuses, with its errors, where who's tags are in.
func wrongAcks(t *testing.T, x *auth.Table, digest string, in ...int) map[api.Tag]api.Errno {
	t.Helper()
	l := map[api.Tag]api.Errno{}
	for _, tag := range acks(t, x, digest, in...) {
		l[tag] = api.ErrTwice
	}
	other := table(t, (x.N()-1)/3, "another seed")
	for who := range x.N() {
		right := sign(t, x, who, "ack", digest)
		l[api.Tag{Who: who}] = api.ErrTag
		l[api.Tag{Who: who, Mac: right.Mac[1:]}] = api.ErrTag
		l[api.Tag{Who: who, Mac: right.Mac + "\x00"}] = api.ErrTag
		l[api.Tag{Who: (who + 1) % x.N(), Mac: right.Mac}] = api.ErrTag
		l[sign(t, x, who, "vote", digest)] = api.ErrTag
		l[sign(t, x, who, "", digest)] = api.ErrTag
		l[sign(t, x, who, "ack", digest[1:])] = api.ErrTag
		l[sign(t, x, who, "ack", digest+"\x00")] = api.ErrTag
		l[sign(t, other, who, "ack", digest)] = api.ErrTag
	}
	for _, who := range []int{math.MinInt, -1, x.N(), x.N() + 1, 1 << 32, api.MaxInt, math.MaxInt} {
		l[api.Tag{Who: who}] = api.ErrRange
		l[api.Tag{Who: who, Mac: sign(t, x, 0, "ack", digest).Mac}] = api.ErrRange
	}
	return l
}

// 13.2: a tag that is wrong is refused as a board refuses it, and nothing is changed by it, however many are in; where nothing is on its way, it is ErrNone ahead of all.
func TestWrongAcks(t *testing.T) {
	for f := 1; f <= api.MaxF; f++ {
		x := table(t, f, "seed")
		w := made(t, x, 0, 1, 1)
		d, second := send(t, w, 0, 1), send(t, w, 0, 2)
		for n := 1; n < x.Need(); n++ {
			var in []int
			for who := range n {
				in = append(in, who)
			}
			for wrong, e := range wrongAcks(t, x, d, in...) {
				wantAcked(t, "wrong", w, d, wrong, e)
				wantAcked(t, "not there", w, d[1:], wrong, api.ErrNone)
				wantAcked(t, "not there", w, "", wrong, api.ErrNone)
			}
			wantWaits(t, "wrong ones", w, 0, 2, 0)
			wantAcked(t, "right", w, d, sign(t, x, n, "ack", d), api.OK)
		}
		wantWaits(t, "enough", w, 0, 1, 1)
		for wrong := range wrongAcks(t, x, d, 0) {
			wantAcked(t, "ready", w, d, wrong, api.ErrNone)
		}
		wantAcked(t, "of the one for the other", w, second, sign(t, x, 1, "ack", d), api.ErrTag)
		ref := api.Ref{Digest: d, Acks: acks(t, x, d, []int{0, 1, 2, 3, 4}[:x.Need()]...)}
		wantRefs(t, "enough", w, 1, ref)
		for who := range x.N() {
			wantAcked(t, "taken", w, d, sign(t, x, who, "ack", d), api.ErrNone)
		}
		wantWaits(t, "at last", w, 0, 1, 0)
	}
}

// orders hands out every order of these.
func orders(l []int, from int, do func(l []int)) {
	if from == len(l) {
		do(l)
		return
	}
	for i := from; i < len(l); i++ {
		l[from], l[i] = l[i], l[from]
		orders(l, from+1, do)
		l[from], l[i] = l[i], l[from]
	}
}

// 13.2, 13.3: in whatever order the others' tags come, the batch is ready by the one that makes them enough, with all of them, rising; those that come later are too late.
func TestOrders(t *testing.T) {
	for f := 1; f <= api.MaxF; f++ {
		x := table(t, f, "seed")
		for _, self := range []int{0, 2, x.N() - 1} {
			w := made(t, x, self, 1, 1)
			var others []int
			for who := range x.N() {
				if who != self {
					others = append(others, who)
				}
			}
			number := 0
			orders(others, 0, func(l []int) {
				number++
				d := send(t, w, self, number)
				for i, who := range l {
					want := api.OK
					if i >= x.Need()-1 {
						want = api.ErrNone
					}
					wantAcked(t, "others", w, d, sign(t, x, who, "ack", d), want)
				}
				in := append([]int{self}, l[:x.Need()-1]...)
				slices.Sort(in)
				ref := api.Ref{Digest: d, Acks: acks(t, x, d, in...)}
				if e := x.Enough(ref.Acks, header.Ack, d); e != api.OK {
					t.Errorf("%x: Enough: error %d", ref.Acks, e)
				}
				wantRefs(t, "others", w, 4, ref)
			})
		}
	}
}

// 13.2: the first ones that became ready are taken, not the first that were sealed, nor the least; the answer has them rising.
func TestRefs(t *testing.T) {
	x := table(t, 1, "seed")
	for most := -1; most <= 9; most++ {
		w := made(t, x, 0, 1, 1)
		var l []string
		for number := 1; number <= 8; number++ {
			l = append(l, send(t, w, 0, number))
		}
		var ready []api.Ref
		for i := range l {
			ready = append(ready, finish(t, x, w, 0, l[i*3%8]))
		}
		n := max(0, min(most, 8))
		wantRefs(t, "first", w, most, rising(ready[:n]...)...)
		wantWaits(t, "first", w, 0, 0, 8-n)
		again := min(2*n, 8)
		wantRefs(t, "again", w, most, rising(ready[n:again]...)...)
		wantWaits(t, "again", w, 0, 0, 8-again)
		for _, few := range []int{0, -1, -2, -1 << 32, math.MinInt32, math.MinInt} {
			wantRefs(t, "none", w, few)
		}
		wantWaits(t, "none", w, 0, 0, 8-again)
		for _, many := range []int{math.MaxInt, api.MaxInt, 1 << 32} {
			wantRefs(t, "all", w, many, rising(ready[again:]...)...)
			again = 8
			wantWaits(t, "all", w, 0, 0, 0)
		}
	}
}

// 13.2: what became ready behind a taking stands behind what was left.
func TestRefsLater(t *testing.T) {
	x := table(t, 1, "seed")
	w := made(t, x, 1, 1, 1)
	var ready []api.Ref
	number, taken := 0, 0
	for turn := range 40 {
		for range 1 + turn%3 {
			number++
			ready = append(ready, finish(t, x, w, 1, send(t, w, 1, number)))
		}
		n := min(2, len(ready)-taken)
		wantRefs(t, "two", w, 2, rising(ready[taken:taken+n]...)...)
		taken += n
		wantWaits(t, "two", w, 0, 0, len(ready)-taken)
	}
	wantRefs(t, "the rest", w, number, rising(ready[taken:]...)...)
}

// 13.3: a header of what Refs has answered is right.
func TestRefsOfHeader(t *testing.T) {
	for f := 1; f <= api.MaxF; f++ {
		x := table(t, f, "seed")
		w := made(t, x, 3, 1, 1)
		for number := 1; number <= 40; number++ {
			finish(t, x, w, 3, send(t, w, 3, number))
		}
		for range 10 {
			h := api.Header{Author: 3, Round: 1, Refs: w.Refs(api.MaxRefs)}
			if e := header.Check(x, h); len(h.Refs) != api.MaxRefs || e != api.OK {
				t.Errorf("%d Refs: Check: error %d", len(h.Refs), e)
			}
		}
		wantRefs(t, "all taken", w, api.MaxRefs)
	}
}
