package exec_test

import (
	"math/rand"
	"slices"
	"testing"

	"tusk/access"
	"tusk/api"
	"tusk/state"
	"tusk/waves"
)

// someName is one of a few names, so that the same ones come often.
func someName(r *rand.Rand, few int) string { return string(rune('a' + r.Intn(few))) }

// someTx is a transaction of few names; s is where it is to be done, or nearly so: most numbers are right there, and most amounts are there to be sent.
func someTx(r *rand.Rand, s *state.State, few int) api.Tx {
	from, to := someName(r, few), someName(r, few)
	has, nonce := s.Account(from)
	if r.Intn(10) == 0 {
		nonce += uint64(r.Intn(3) - 1)
	}
	amount := r.Uint64() % (has + 1)
	if r.Intn(5) == 0 {
		amount = has + uint64(r.Intn(2))
	}
	t := pay(from, to, amount, nonce)
	if r.Intn(3) == 0 {
		t = put(from, to, someName(r, 26), nonce)
	}
	switch r.Intn(16) {
	case 0:
		t.Writes = t.Writes[1:]
	case 1:
		t.Kind = r.Intn(4)
	case 2, 3:
		t.Reads = []string{"a:" + someName(r, few)}
	case 4:
		t.Reads = []string{"k:" + someName(r, few)}
	case 5:
		t.Writes = append(t.Writes, "k:zz")
	}
	return t
}

// someBatch is transactions of which most go, if they are done one by one upon s.
func someBatch(r *rand.Rand, s *state.State, most int) []api.Tx {
	s = s.Copy()
	l := make([]api.Tx, r.Intn(most+1))
	few := 2 + r.Intn(12)
	for i := range l {
		l[i] = someTx(r, s, few)
		// One that is not in the copy makes the next one's number or amount wrong, now and then.
		if r.Intn(12) > 0 {
			s.Apply(l[i])
		}
	}
	return l
}

// someRight is a plan that is right, of more waves than there need be, in any order within them.
func someRight(r *rand.Rand, l []api.Tx) [][]int {
	var plan [][]int
	at := make([]int, len(l))
	for i := range l {
		for k := range i {
			if access.Clash(l[k], l[i]) {
				at[i] = max(at[i], at[k]+1)
			}
		}
		if r.Intn(3) == 0 {
			at[i] += r.Intn(4)
		}
		for len(plan) <= at[i] {
			plan = append(plan, nil)
		}
		plan[at[i]] = append(plan[at[i]], i)
	}
	shuffled(r, plan)
	return plan
}

// shuffled puts the members of each wave into any order.
func shuffled(r *rand.Rand, plan [][]int) {
	for _, wave := range plan {
		r.Shuffle(len(wave), func(i, k int) { wave[i], wave[k] = wave[k], wave[i] })
	}
}

// backwards is the results of a batch, by their numbers, if the last one is done first, and the digest behind it.
func backwards(s *state.State, l []api.Tx) ([]int, string) {
	s = s.Copy()
	results := make([]int, len(l))
	for i := len(l) - 1; i >= 0; i-- {
		results[i] = s.Apply(l[i])
	}
	return results, s.Digest()
}

// someFunds are small, or so great that two of them are too much for one account.
func someFunds(r *rand.Rand) uint64 {
	l := []uint64{0, 10, 1000, api.MaxInt / 2, api.MaxInt - 1, api.MaxInt, 1 << 63}
	return l[r.Intn(len(l))]
}

// 23.1 to 23.3: long mingled rows of Run and Order answer, and leave, what Apply does, one by one.
func TestMingled(t *testing.T) {
	r := rand.New(rand.NewSource(23))
	told, hang := map[int]int{}, 0
	for range 300 {
		x := newRow(someFunds(r), "a", "c", "d", "a", someName(r, 26))
		for range 30 {
			l := someBatch(r, x.state, 20)
			other, digest := backwards(x.state, l)
			var results []int
			if r.Intn(2) == 0 {
				results = x.run(t, l)
			} else {
				results = x.order(t, l, someRight(r, l))
			}
			if !slices.Equal(other, results) || digest != x.state.Digest() {
				hang++
			}
			for _, result := range results {
				told[result]++
			}
			if t.Failed() {
				return
			}
		}
	}
	if hang < 1000 {
		t.Errorf("only %d batches hang on their order", hang)
	}
	for want := api.RDone; want <= api.ROverflow; want++ {
		if told[want] < 500 {
			t.Errorf("result %d came %d times alone", want, told[want])
		}
	}
}

// 23.1: plans of all sorts, right or not, are answered with Check's error, or done.
func TestAnyPlan(t *testing.T) {
	r := rand.New(rand.NewSource(231))
	told := map[api.Errno]int{}
	x := newRow(1000, "a", "b", "c")
	for range 5000 {
		l := someBatch(r, x.state, 5)
		plan := someRight(r, l)
		for range r.Intn(4) {
			plan = append(plan, []int{})
			from, to := r.Intn(len(plan)), r.Intn(len(plan))
			switch {
			case r.Intn(8) == 0:
				plan[to] = append(plan[to], r.Intn(len(l)+3)-1)
			case r.Intn(2) == 0:
				plan[from], plan[to] = plan[to], plan[from]
			case len(plan[from]) > 0:
				i := plan[from][0]
				plan[from] = plan[from][1:]
				if r.Intn(4) > 0 {
					plan[to] = append(plan[to], i)
				}
			}
		}
		e := waves.Check(l, plan)
		told[e]++
		if e == api.OK {
			x.order(t, l, plan)
		} else {
			x.refused(t, l, plan, e)
		}
		if t.Failed() {
			return
		}
	}
	for _, e := range []api.Errno{api.OK, api.ErrRange, api.ErrTwice, api.ErrFew, api.ErrClash, api.ErrOrder} {
		if told[e] < 50 {
			t.Errorf("%v was told %d times alone", e, told[e])
		}
	}
}

// eachPlan hands out every way in which so many members stand in as many waves.
func eachPlan(members int, yield func([][]int)) {
	at := make([]int, members)
	for {
		plan := make([][]int, members)
		for i, wave := range at {
			plan[wave] = append(plan[wave], i)
		}
		yield(plan)
		i := 0
		for i < members && at[i] == members-1 {
			at[i] = 0
			i++
		}
		if i == members {
			return
		}
		at[i]++
	}
}

// 23.3: by each plan of small batches that is right results and state are as one by one; by any other one nothing is done.
func TestEachPlan(t *testing.T) {
	r := rand.New(rand.NewSource(233))
	right := 0
	for range 150 {
		funds := someFunds(r)
		s := state.New([]string{"a", "b"}, funds)
		l := someBatch(r, s, 4)
		eachPlan(len(l), func(plan [][]int) {
			shuffled(r, plan)
			x := newRow(funds, "a", "b")
			if e := waves.Check(l, plan); e != api.OK {
				x.refused(t, l, plan, e)
				return
			}
			right++
			x.order(t, l, plan)
		})
		if t.Failed() {
			return
		}
	}
	if right < 1000 {
		t.Errorf("only %d plans are right", right)
	}
}

// LANGUAGE 5: what is answered is the same again.
func TestSameAgain(t *testing.T) {
	r := rand.New(rand.NewSource(235))
	for range 30 {
		l := someBatch(r, state.New([]string{"a", "b", "c"}, 100), 60)
		for range 20 {
			newRow(100, "a", "b", "c").run(t, l)
		}
	}
}
