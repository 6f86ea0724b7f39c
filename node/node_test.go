package node_test

import (
	"slices"
	"strings"
	"testing"

	"tusk/api"
	"tusk/exec"
	"tusk/msg"
	"tusk/node"
)

// The chapter's example: four validators, each ticked once, all that is put out delivered, and so on.
func TestExample(t *testing.T) {
	l := fourOf(t, config())
	for i, x := range []api.Tx{pay("a", "b", 4, 0), pay("b", "c", 1, 0), pay("a", "c", 9, 1), pay("a", "c", 1, 7)} {
		if e := l[i].Submit(x); e != api.OK {
			t.Fatalf("Submit: %v", e)
		}
	}
	for range 24 {
		turn(l)
	}
	first := l[0].Tell()
	if len(first.Blocks) < 8 || first.Low < 5 || first.Round < 12 || first.Done != 4 || len(first.Results) != 4 || len(first.Line) != 4 {
		t.Errorf("tells %+v", first)
	}
	// What was done is the same, whatever order it came in, as the amounts are there.
	x := exec.New([]string{"a"}, 10)
	for _, d := range first.Line {
		x.Run(txOf(t, l[0], d))
	}
	if first.Digest != x.State().Digest() {
		t.Error("the digest is not that of the batches in the line's order")
	}
	for i, n := range l {
		v := n.Tell()
		v.Drops = first.Drops
		if v.Digest != first.Digest || !slices.Equal(v.Line, first.Line) || !slices.Equal(v.Results, first.Results) || v.Done != 4 {
			t.Errorf("%d tells %+v, not %+v", i, v, first)
		}
	}
}

func fourOf(t *testing.T, c api.Config) []*node.Node {
	t.Helper()
	var l []*node.Node
	for i := range 4 {
		n, e := node.New(c, i)
		if e != api.OK {
			t.Fatalf("New of %d: %v", i, e)
		}
		l = append(l, n)
	}
	return l
}

// turn is a tick of all, and all that is put out delivered.
func turn(l []*node.Node) {
	for _, n := range l {
		n.Tick()
	}
	deliverAll(l)
}

func deliverAll(l []*node.Node) {
	for more := true; more; {
		more = false
		for _, n := range l {
			for _, e := range n.Out() {
				l[e.To].Recv(e.From, e.Bytes)
				more = true
			}
		}
	}
}

// txOf is the transactions of a batch, asked of a validator.
func txOf(t *testing.T, n *node.Node, digest string) []api.Tx {
	t.Helper()
	l := &lab{t: t, n: n, self: 0}
	got := l.takes(1, ask(api.MAskBatch, digest))
	if len(got) != 1 || got[0].to != 1 || digestOf(got[0].m.Batch) != digest {
		t.Fatalf("the batch is not answered: %v", got)
	}
	return got[0].m.Batch.Txs
}

// 24.1: what a right configuration is.
func TestCheck(t *testing.T) {
	names := func(many, size int) []string {
		var l []string
		for range many {
			l = append(l, strings.Repeat("a", size))
		}
		return l
	}
	for _, x := range []struct {
		what   string
		change func(c *api.Config)
		want   api.Errno
	}{
		{"as it is", func(c *api.Config) {}, api.OK},
		{"F 2", func(c *api.Config) { c.F = 2 }, api.OK},
		{"F 0", func(c *api.Config) { c.F = 0 }, api.ErrRange},
		{"F 3", func(c *api.Config) { c.F = 3 }, api.ErrRange},
		{"F -1", func(c *api.Config) { c.F = -1 }, api.ErrRange},
		{"F the greatest", func(c *api.Config) { c.F = 1<<63 - 1 }, api.ErrRange},
		{"no Seed", func(c *api.Config) { c.Seed = "" }, api.OK},
		{"a Seed of 32", func(c *api.Config) { c.Seed = text32("s") }, api.OK},
		{"a Seed of 33", func(c *api.Config) { c.Seed = text32("s") + "s" }, api.ErrRange},
		{"Size 0", func(c *api.Config) { c.Size = 0 }, api.ErrRange},
		{"Size 16", func(c *api.Config) { c.Size = 16 }, api.OK},
		{"Size 17", func(c *api.Config) { c.Size = 17 }, api.ErrRange},
		{"Wait 0", func(c *api.Config) { c.Wait = 0 }, api.ErrRange},
		{"Wait 1000", func(c *api.Config) { c.Wait = 1000 }, api.OK},
		{"Wait 1001", func(c *api.Config) { c.Wait = 1001 }, api.ErrRange},
		{"Cap 0", func(c *api.Config) { c.Cap = 0 }, api.ErrRange},
		{"Cap 1", func(c *api.Config) { c.Cap = 1 }, api.OK},
		{"Cap 1000", func(c *api.Config) { c.Cap = 1000 }, api.OK},
		{"Cap 1001", func(c *api.Config) { c.Cap = 1001 }, api.ErrRange},
		{"Retry 0", func(c *api.Config) { c.Retry = 0 }, api.ErrRange},
		{"Retry 1", func(c *api.Config) { c.Retry = 1 }, api.OK},
		{"Retry 1000", func(c *api.Config) { c.Retry = 1000 }, api.OK},
		{"Retry 1001", func(c *api.Config) { c.Retry = 1001 }, api.ErrRange},
		{"Retry the least", func(c *api.Config) { c.Retry = -1 << 63 }, api.ErrRange},
		{"nobody rich", func(c *api.Config) { c.Rich = nil }, api.OK},
		{"16 rich of 32", func(c *api.Config) { c.Rich = names(16, 32) }, api.OK},
		{"17 rich", func(c *api.Config) { c.Rich = names(17, 1) }, api.ErrRange},
		{"very many rich", func(c *api.Config) { c.Rich = names(100000, 0) }, api.ErrRange},
		{"a rich one of 33", func(c *api.Config) { c.Rich = []string{"a", text32("b") + "b"} }, api.ErrRange},
		{"a very long one", func(c *api.Config) { c.Rich = []string{strings.Repeat("a", 1<<20)} }, api.ErrRange},
		{"Funds the greatest", func(c *api.Config) { c.Funds = 1<<64 - 1 }, api.OK},
	} {
		c := config()
		x.change(&c)
		if got := node.Check(c); got != x.want {
			t.Errorf("Check with %s: %v, not %v", x.what, got, x.want)
		}
		// Check's error comes ahead of that of self, which is none.
		n, got := node.New(c, 1)
		if got != x.want || (n != nil) != (got == api.OK) {
			t.Errorf("New with %s: %v, %v, not %v", x.what, n, got, x.want)
		}
	}
	if e := node.Check(api.Config{}); e != api.ErrRange {
		t.Errorf("Check of nothing: %v", e)
	}
}

// 24.1: self is a validator.
func TestSelf(t *testing.T) {
	for f, n := range map[int]int{1: 4, 2: 7} {
		c := config()
		c.F = f
		for _, self := range []int{-1 << 63, -1, n, n + 1, 1<<63 - 1} {
			if x, e := node.New(c, self); x != nil || e != api.ErrRange {
				t.Errorf("New of %d of %d: %v, %v", self, n, x, e)
			}
		}
		for self := range n {
			if x, e := node.New(c, self); x == nil || e != api.OK {
				t.Errorf("New of %d of %d: %v", self, n, e)
			}
		}
	}
}

// 24.1, 24.5: where nothing has happened.
func TestNew(t *testing.T) {
	l := newLab(t, 2)
	want := node.View{View: 1, Low: 1, Digest: exec.New([]string{"a"}, 10).State().Digest()}
	if v := l.n.Tell(); !sameView(v, want) {
		t.Errorf("tells %+v, not %+v", v, want)
	}
	if out := l.n.Out(); len(out) > 0 {
		t.Errorf("has put out %v", out)
	}
}

// 24.1: Submit is the worker's.
func TestSubmit(t *testing.T) {
	l := newLab(t, 0)
	if e := l.n.Submit(api.Tx{Kind: 3}); e != api.ErrKind {
		t.Errorf("of a kind that is none: %v", e)
	}
	if e := l.n.Submit(api.Tx{Kind: api.Transfer, From: "A", To: "b"}); e != api.ErrField {
		t.Errorf("from no name: %v", e)
	}
	for i := range 4 {
		if e := l.n.Submit(pay("a", "b", 1, uint64(i))); e != api.OK {
			t.Errorf("%d: %v", i, e)
		}
	}
	if e := l.n.Submit(pay("a", "b", 1, 4)); e != api.ErrFull {
		t.Errorf("the fifth with Size 1: %v", e)
	}
	if out := l.out(); len(out) > 0 {
		t.Errorf("put out %v", out)
	}
	got := of(api.MBatch, l.tick())
	want := api.Batch{Author: 0, Number: 1, Txs: []api.Tx{pay("a", "b", 1, 0)}}
	l.is(got, "the batch", l.toAll(batchMsg(want))...)
}

// 24.1: Out is what was put out since it was asked last, each time in memory of its own.
func TestOut(t *testing.T) {
	l := newLab(t, 0)
	one, two := someBatch(1, 1), someBatch(2, 1)
	l.n.Recv(1, encoded(t, batchMsg(one)))
	l.n.Recv(2, encoded(t, batchMsg(two)))
	first := l.n.Out()
	if len(first) != 2 || first[0].To != 1 || first[1].To != 2 || first[0].From != 0 || first[1].From != 0 {
		t.Fatalf("put out %v", first)
	}
	if again := l.n.Out(); len(again) != 0 {
		t.Errorf("once more: %v", again)
	}
	kept := slices.Clone(first)
	l.n.Recv(1, encoded(t, batchMsg(one)))
	l.n.Recv(2, encoded(t, batchMsg(two)))
	second := l.n.Out()
	if !slices.Equal(second, kept) || !slices.Equal(first, kept) {
		t.Errorf("put out %v, then %v", first, second)
	}
	second[0].To, second[0].Bytes = 3, ""
	_ = append(second[:1], api.Env{To: 3})
	l.n.Recv(1, encoded(t, batchMsg(one)))
	if third := l.n.Out(); len(third) != 1 || third[0] != kept[0] {
		t.Errorf("then %v", third)
	}
}

func encoded(t *testing.T, m api.Msg) string {
	t.Helper()
	s, e := msg.Encode(m)
	if e != api.OK {
		t.Fatalf("a message that is not right: %v", e)
	}
	return s
}

// 24.1, R4: what a configuration has is not kept.
func TestConfigNotKept(t *testing.T) {
	c := config()
	room := []string{"a", "b", "c"}
	c.Rich = room[:1]
	n, _ := node.New(c, 0)
	before := n.Tell().Digest
	room[0] = "z"
	if n.Tell().Digest != before {
		t.Error("the state has changed with the configuration")
	}
	hasSame(t, "the list's room", room, []string{"z", "b", "c"})
}

// 24.5, R4: what is told is new memory.
func TestTellIsNew(t *testing.T) {
	nodes := fourOf(t, config())
	if e := nodes[0].Submit(pay("a", "b", 1, 0)); e != api.OK {
		t.Fatal(e)
	}
	for range 16 {
		turn(nodes)
	}
	n := nodes[0]
	before, other := n.Tell(), n.Tell()
	if len(before.Blocks) == 0 || len(before.Order) == 0 || len(before.Line) == 0 || len(before.Results) == 0 {
		t.Fatalf("tells %+v", before)
	}
	for _, l := range [][]string{other.Blocks, other.Order, other.Line} {
		for i := range l {
			l[i] = "x"
		}
		_ = append(l, "x")
	}
	other.Results[0] = 77
	if v := n.Tell(); !sameView(v, before) {
		t.Errorf("tells %+v, not %+v", v, before)
	}
	for range 4 {
		turn(nodes)
	}
	later := n.Tell()
	if len(later.Blocks) <= len(before.Blocks) || !slices.Equal(later.Blocks[:len(before.Blocks)], before.Blocks) {
		t.Errorf("blocks were %q, and are %q", before.Blocks, later.Blocks)
	}
	if slices.Contains(later.Order, "x") || slices.Contains(later.Line, "x") || slices.Contains(later.Blocks, "x") {
		t.Errorf("tells what was written into an answer")
	}
}

// 24.4, 24.5: the same calls are answered the same, again and again.
func TestSameAgain(t *testing.T) {
	story := func() []api.Env {
		var all []api.Env
		nodes := fourOf(t, config())
		for i := range 12 {
			nodes[i%4].Submit(pay("a", "b", 1, uint64(i)))
			for _, n := range nodes {
				n.Tick()
			}
			for _, n := range nodes {
				for _, e := range n.Out() {
					all = append(all, e)
					nodes[e.To].Recv(e.From, e.Bytes)
				}
			}
		}
		return all
	}
	first := story()
	for range 5 {
		if again := story(); !slices.Equal(again, first) {
			t.Fatal("the same calls are not answered the same")
		}
	}
}
