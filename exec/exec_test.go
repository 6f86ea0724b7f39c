package exec_test

import (
	"fmt"
	"math"
	"slices"
	"strconv"
	"strings"
	"testing"

	"tusk/api"
	"tusk/exec"
	"tusk/state"
)

// pay is a right transfer that declares what it needs.
func pay(from, to string, amount, nonce uint64) api.Tx {
	keys := []string{"a:" + from, "a:" + to}
	slices.Sort(keys)
	return api.Tx{Kind: api.Transfer, From: from, To: to, Amount: amount, Nonce: nonce, Writes: slices.Compact(keys)}
}

// put is a right Put that declares what it needs.
func put(from, key, value string, nonce uint64) api.Tx {
	return api.Tx{Kind: api.Put, From: from, Key: key, Value: value, Nonce: nonce, Writes: []string{"a:" + from, "k:" + key}}
}

// reads is a transaction that declares that it reads these keys.
func reads(t api.Tx, keys ...string) api.Tx {
	t.Reads = keys
	return t
}

// brief is how a list is told: its beginning, as some are very long.
func brief(l any) string {
	s := fmt.Sprintf("%+v", l)
	return s[:min(len(s), 600)]
}

// row is an Exec, and what it has to have by now: the results of Apply of each transaction, one by one.
type row struct {
	x       *exec.Exec
	state   *state.State
	results []int
	batches int
}

func newRow(funds uint64, rich ...string) *row {
	return &row{x: exec.New(rich, funds), state: state.New(rich, funds)}
}

// agree is that all is kept as it has to be.
func (r *row) agree(t *testing.T) {
	t.Helper()
	if l, n := r.x.Results(); !slices.Equal(l, r.results) || n != r.batches {
		t.Errorf("Results: %s of %d, want %s of %d", brief(l), n, brief(r.results), r.batches)
	}
	if r.x.State().Digest() != r.state.Digest() {
		t.Errorf("State: another digest behind %d batches", r.batches)
	}
}

// done is a batch's results, one by one, which are now among those that have to be.
func (r *row) done(l []api.Tx) []int {
	results := make([]int, len(l))
	for i, x := range l {
		results[i] = r.state.Apply(x)
	}
	r.results = append(r.results, results...)
	r.batches++
	return results
}

// run is that Run answers what Apply does, one by one.
func (r *row) run(t *testing.T, l []api.Tx) []int {
	t.Helper()
	want := r.done(l)
	if got := r.x.Run(l); !slices.Equal(got, want) {
		t.Errorf("Run(%s): %s, want %s", brief(l), brief(got), brief(want))
	}
	r.agree(t)
	return want
}

// order is that Order by a plan that is right answers what Apply does, one by one.
func (r *row) order(t *testing.T, l []api.Tx, plan [][]int) []int {
	t.Helper()
	want := r.done(l)
	if got, e := r.x.Order(l, plan); !slices.Equal(got, want) || e != api.OK {
		t.Errorf("Order(%s, %s): %s, %v, want %s", brief(l), brief(plan), brief(got), e, brief(want))
	}
	r.agree(t)
	return want
}

// refused is that Order answers an error and nothing beside it, and that all is as it was.
func (r *row) refused(t *testing.T, l []api.Tx, plan [][]int, want api.Errno) {
	t.Helper()
	if got, e := r.x.Order(l, plan); len(got) > 0 || e != want {
		t.Errorf("Order(%s, %s): %s, %v, want %v", brief(l), brief(plan), brief(got), e, want)
	}
	r.agree(t)
}

// are is that results are these.
func are(t *testing.T, what string, got []int, want ...int) {
	t.Helper()
	if !slices.Equal(got, want) {
		t.Errorf("%s: %v, want %v", what, got, want)
	}
}

// account is what an account has to have.
func account(t *testing.T, x *exec.Exec, name string, amount, number uint64) {
	t.Helper()
	if a, n := x.State().Account(name); a != amount || n != number {
		t.Errorf("Account(%q): %d, %d, want %d, %d", name, a, n, amount, number)
	}
}

// The chapter's example.
func TestExample(t *testing.T) {
	l := []api.Tx{pay("a", "b", 4, 0), pay("b", "c", 4, 0), pay("a", "c", 1, 1)}
	x := exec.New([]string{"a"}, 10)
	are(t, "Run", x.Run(l), 0, 0, 0)
	account(t, x, "a", 5, 2)
	account(t, x, "b", 0, 1)
	account(t, x, "c", 5, 0)
	results, batches := x.Results()
	are(t, "Results", results, 0, 0, 0)
	if batches != 1 {
		t.Errorf("%d batches", batches)
	}
}

// 23.1: New is with state.New of these, and no batches.
func TestNew(t *testing.T) {
	long := strings.Repeat("z", api.MaxName)
	for _, rich := range [][]string{nil, {}, {"a"}, {"b", "a", "b"}, {"", "A", "a:a", "\xff", "a", long, long + "z"}} {
		for _, funds := range []uint64{0, 1, 10, api.MaxInt - 1, api.MaxInt, api.MaxInt + 1, 1 << 63, math.MaxUint64} {
			r := newRow(funds, rich...)
			r.agree(t)
			if l, n := r.x.Results(); len(l) != 0 || n != 0 {
				t.Errorf("Results: %v of %d", l, n)
			}
			want, _ := state.New(rich, funds).Account("a")
			account(t, r.x, "a", want, 0)
			r.run(t, []api.Tx{pay("a", "b", 1, 0), pay(long, "c", funds, 0), put("d", "a", "v", 0)})
		}
	}
}

// 23.1, 23.2: the results are by the numbers in l, whatever the waves; they stand behind all so far; one batch more.
func TestRun(t *testing.T) {
	r := newRow(10, "a", "d")
	// The waves are 0 3 4, 1, 2 5: in that order the results would be others.
	l := []api.Tx{pay("a", "b", 11, 0), pay("a", "b", 1, 1), pay("a", "b", 1, 0), pay("d", "e", 1, 0), put("x", "k", "v", 1), pay("b", "d", 1, 0)}
	are(t, "Run", r.run(t, l), api.RFunds, api.RNonce, api.RDone, api.RDone, api.RNonce, api.RDone)
	account(t, r.x, "a", 9, 1)
	account(t, r.x, "b", 0, 1)
	account(t, r.x, "d", 10, 1)
	account(t, r.x, "e", 1, 0)
	// The same once more: each batch begins with the state that the one ahead has left.
	are(t, "Run", r.run(t, l), api.RNonce, api.RDone, api.RNonce, api.RNonce, api.RNonce, api.RNonce)
	are(t, "Run", r.run(t, []api.Tx{put("x", "k", "v", 0), put("x", "k", "w", 1)}), api.RDone, api.RDone)
	results, batches := r.x.Results()
	are(t, "Results", results, 3, 2, 0, 0, 2, 0, 2, 0, 2, 2, 2, 2, 0, 0)
	if batches != 3 {
		t.Errorf("%d batches", batches)
	}
	if v, ok := r.x.State().Value("k"); v != "w" || !ok {
		t.Errorf("Value: %q, %v", v, ok)
	}
}

// 23.1: a batch without transactions is one, too.
func TestEmpty(t *testing.T) {
	r := newRow(10, "a")
	are(t, "Run", r.run(t, nil))
	are(t, "Run", r.run(t, []api.Tx{}))
	are(t, "Run", r.run(t, []api.Tx{pay("a", "b", 4, 0)}), api.RDone)
	are(t, "Order", r.order(t, nil, nil))
	are(t, "Order", r.order(t, []api.Tx{}, [][]int{}))
	are(t, "Order", r.order(t, nil, [][]int{{}, nil}))
	are(t, "Run", r.run(t, nil))
	results, batches := r.x.Results()
	are(t, "Results", results, api.RDone)
	if batches != 7 {
		t.Errorf("%d batches", batches)
	}
	r.refused(t, nil, [][]int{{0}}, api.ErrRange)
}

// 23.1: each result that a transaction can have comes out of Run and Order.
func TestEachResult(t *testing.T) {
	bare := pay("r", "b", 1, 0)
	bare.Writes = []string{"a:r"}
	l := []api.Tx{bare, pay("a", "b", 1, 1), pay("a", "b", 1, 0), pay("r", "b", 1, 0), put("r", "x", "v", 0)}
	want := []int{api.RAccess, api.RNonce, api.RFunds, api.ROverflow, api.RDone}
	r := newRow(api.MaxInt, "r", "b")
	are(t, "Run", r.run(t, l), want...)
	r = newRow(api.MaxInt, "r", "b")
	are(t, "Order", r.order(t, l, [][]int{{0}, {1}, {2}, {3}, {4}}), want...)
}

// 23.1: Order answers Check's error, and then nothing has changed.
func TestOrderErrors(t *testing.T) {
	// 0 and 2 are in each other's way, and 2 and 3; 1 is in nobody's.
	l := []api.Tx{pay("a", "b", 4, 0), pay("c", "d", 1, 0), pay("b", "e", 4, 0), put("e", "x", "v", 0)}
	r := newRow(10, "a", "c")
	for range 2 {
		for _, x := range []struct {
			plan [][]int
			want api.Errno
		}{
			{[][]int{{0}, {2}, {3, 4}, {1}}, api.ErrRange},
			{[][]int{{0, 1}, {2}, {-1}, {3}}, api.ErrRange},
			{[][]int{{math.MinInt}, {math.MaxInt}}, api.ErrRange},
			{[][]int{{0}, {0}, {4}}, api.ErrTwice},
			{[][]int{{0, 1}, {2}, {3, 1}}, api.ErrTwice},
			{nil, api.ErrFew},
			{[][]int{{}, {}}, api.ErrFew},
			{[][]int{{0}, {2}, {3}}, api.ErrFew},
			{[][]int{{3}, {2, 0}}, api.ErrFew},
			{[][]int{{0, 2, 1, 3}}, api.ErrClash},
			{[][]int{{0, 1}, {3, 2}}, api.ErrClash},
			{[][]int{{3}, {2, 0}, {1}}, api.ErrClash},
			{[][]int{{0}, {3}, {2, 1}}, api.ErrOrder},
			{[][]int{{2}, {0, 3, 1}}, api.ErrOrder},
		} {
			r.refused(t, l, x.plan, x.want)
		}
		r.run(t, []api.Tx{pay("c", "a", 1, 0)})
	}
	account(t, r.x, "c", 9, 1)
}

// 23.1, 23.3: Order by plans that are right, of as few waves as there can be, or of more, in any order within them.
func TestOrder(t *testing.T) {
	l := []api.Tx{pay("a", "b", 4, 0), pay("c", "d", 1, 0), pay("b", "e", 4, 0), put("e", "x", "v", 1), pay("e", "f", 4, 0)}
	for _, plan := range [][][]int{
		{{0, 1}, {2}, {3}, {4}},
		{{1, 0}, {2}, {3}, {4}},
		{{0}, {1, 2}, {3}, {4}},
		{{0}, {2, 1}, {3}, {4}},
		{{0}, {2}, {3}, {4}, {1}},
		{{1}, {0}, {2}, {3}, {4}},
		{{}, {0}, nil, {}, {2}, {3, 1}, {4}, {}},
		{{0}, {2}, {3}, {1, 4}},
	} {
		r := newRow(10, "a", "c")
		are(t, "Order", r.order(t, l, plan), api.RDone, api.RDone, api.RDone, api.RNonce, api.RDone)
		account(t, r.x, "a", 6, 1)
		account(t, r.x, "d", 1, 0)
		account(t, r.x, "e", 0, 1)
		account(t, r.x, "f", 4, 0)
		if _, ok := r.x.State().Value("x"); ok {
			t.Errorf("%v: a Put that came too early is done", plan)
		}
		r.order(t, l, plan)
		r.run(t, l)
	}
}

// 23.1: a plan holds for those keys that are declared, also where nothing is done to them.
func TestDeclared(t *testing.T) {
	r := newRow(10, "a", "c")
	l := []api.Tx{pay("a", "b", 1, 0), reads(pay("c", "d", 1, 0), "a:a")}
	r.refused(t, l, [][]int{{0, 1}}, api.ErrClash)
	r.refused(t, l, [][]int{{1}, {0}}, api.ErrOrder)
	are(t, "Order", r.order(t, l, [][]int{{0}, {1}}), api.RDone, api.RDone)
	// One that needs a key that it does not declare is in nobody's way by it, and is not done.
	bare := pay("a", "b", 1, 1)
	bare.Writes = []string{"a:b"}
	l = []api.Tx{bare, pay("a", "c", 1, 1)}
	are(t, "Order", r.order(t, l, [][]int{{1}, {0}}), api.RAccess, api.RDone)
	l[1].Nonce = 2
	are(t, "Order", r.order(t, l, [][]int{{1, 0}}), api.RAccess, api.RDone)
}

// R1, R6: transactions that are not right have the result RAccess, and the others beside them theirs.
func TestWrongTxs(t *testing.T) {
	long := strings.Repeat("k", 1<<20)
	l := []api.Tx{
		{},
		{Writes: []string{"", "", "\xff", long}},
		pay("a", "b", 1, 0),
		{Kind: 3, From: "a", Writes: []string{"a:a"}},
		reads(pay("a", "b", 1, 1), "z"),
		pay("a", "b", api.MaxInt+1, 1),
		pay("a", "b", 1, api.MaxInt+1),
		pay("A", "b", 1, 0),
		pay("a", long, 1, 1),
		put("a", "x", long, 1),
		{Kind: -1, From: "a", Reads: make([]string, 1000), Writes: []string{"k:x", "a:a", "a:a"}},
		pay("a", "b", 1, 1),
	}
	r := newRow(10, "a", "A")
	want := slices.Repeat([]int{api.RAccess}, len(l))
	want[2], want[11] = api.RDone, api.RDone
	are(t, "Run", r.run(t, l), want...)
	account(t, r.x, "a", 8, 2)
	account(t, r.x, "b", 2, 0)
}

// R1, R6: batches that are far longer than those that are sealed.
func TestVeryLong(t *testing.T) {
	const many = 100000
	line, apart, plan := make([]api.Tx, many), make([]api.Tx, many), [][]int{make([]int, many)}
	for i := range many {
		line[i] = pay("a", "b", 1, uint64(i))
		apart[i] = put("n"+strconv.Itoa(i), "k"+strconv.Itoa(i), "v", 0)
		plan[0][i] = many - 1 - i
	}
	line[7].Nonce = 8
	line[8].Nonce = 7
	r := newRow(many, "a")
	want := slices.Repeat([]int{api.RNonce}, many)
	copy(want, make([]int, 7))
	want[8] = api.RDone
	are(t, "Run", r.run(t, line)[:20], want[:20]...)
	r.refused(t, line, plan, api.ErrClash)
	r.order(t, apart, plan)
	r.run(t, apart)
	if _, n := r.x.Results(); n != 3 {
		t.Errorf("%d batches", n)
	}
	for range 2000 {
		r.done(apart[:8])
		r.x.Run(apart[:8])
	}
	r.agree(t)
}

// R4: what is handed in is neither changed nor kept, also in the room behind its end.
func TestHandedIn(t *testing.T) {
	rich := []string{"b", "c", "a", "spare"}
	keys := []string{"a:a", "a:b", "spare"}
	l := []api.Tx{{Kind: api.Transfer, From: "a", To: "b", Amount: 1, Writes: keys[:2]}, pay("c", "d", 0, 0), put("spare", "x", "v", 0)}
	numbers := []int{1, 0, 7}
	plan := [][]int{numbers[:2], {9}}
	x := exec.New(rich[:3], 10)
	x.Run(l[:2])
	x.Order(l[:2], plan[:1])
	x.Order(l[:2], plan)
	if !slices.Equal(rich, []string{"b", "c", "a", "spare"}) || !slices.Equal(keys, []string{"a:a", "a:b", "spare"}) || l[2].From != "spare" || l[0].From != "a" || l[1].From != "c" {
		t.Errorf("handed in: %q, %q, %+v", rich, keys, l)
	}
	if !slices.Equal(numbers, []int{1, 0, 7}) || len(plan[0]) != 2 || !slices.Equal(plan[1], []int{9}) {
		t.Errorf("handed in: %v, %v", numbers, plan)
	}
	l[0], l[1], numbers[0], rich[2], keys[0] = put("y", "z", "v", 0), pay("a", "e", 3, 1), 0, "z", "q"
	account(t, x, "a", 9, 1)
	results, batches := x.Results()
	are(t, "Results", results, 0, 0, api.RNonce, api.RNonce)
	if batches != 2 {
		t.Errorf("%d batches", batches)
	}
}

// R4, 23.2: what is handed out is new memory, and a copy of the state.
func TestHandedOut(t *testing.T) {
	x := exec.New([]string{"a"}, 10)
	first := x.State()
	ran := x.Run([]api.Tx{pay("a", "b", 1, 0), pay("a", "b", 1, 0)})
	ordered, _ := x.Order([]api.Tx{pay("a", "b", 1, 0), pay("c", "b", 1, 0)}, [][]int{{0}, {1}})
	one, _ := x.Results()
	two, _ := x.Results()
	for _, l := range [][]int{ran, ordered, one} {
		_ = append(l, 9, 9, 9)
		for i := range l {
			l[i] = 8
		}
	}
	_ = append(two[:1], 7)
	three, _ := x.Results()
	are(t, "Results", three, 0, api.RNonce, api.RNonce, api.RFunds)
	are(t, "Results", two, 0, 7, api.RNonce, api.RFunds)
	last := x.Run([]api.Tx{pay("a", "b", 1, 1)})
	are(t, "Results", three, 0, api.RNonce, api.RNonce, api.RFunds)
	are(t, "Run", last, 0)
	are(t, "Run", ran, 8, 8)

	if a, n := first.Account("a"); a != 10 || n != 0 {
		t.Errorf("a State that was handed out has %d, %d now", a, n)
	}
	s, other := x.State(), x.State()
	s.Apply(pay("a", "b", 5, 2))
	s.Apply(put("a", "x", "v", 3))
	if a, n := other.Account("a"); a != 8 || n != 2 {
		t.Errorf("another State that was handed out has %d, %d now", a, n)
	}
	account(t, x, "a", 8, 2)
	if _, ok := x.State().Value("x"); ok {
		t.Error("what is done on a State that was handed out is done on what is kept")
	}
	x.Run([]api.Tx{pay("a", "b", 8, 2)})
	if a, _ := s.Account("a"); a != 3 {
		t.Errorf("a State that was handed out has %d now", a)
	}
}

// Two Execs have nothing in common.
func TestOfItsOwn(t *testing.T) {
	one, two := newRow(10, "a"), newRow(10, "a")
	one.run(t, []api.Tx{pay("a", "b", 1, 0)})
	two.agree(t)
	two.run(t, []api.Tx{put("a", "x", "v", 0), pay("a", "b", 2, 1)})
	one.agree(t)
}
