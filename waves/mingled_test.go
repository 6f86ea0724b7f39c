package waves_test

import (
	"math/rand"
	"slices"
	"strconv"
	"testing"

	"tusk/access"
	"tusk/api"
	"tusk/waves"
)

// plainOf is the waves as the chapter says them, word by word.
func plainOf(l []api.Tx) []int {
	of := make([]int, len(l))
	for k := range l {
		for i := range k {
			if access.Clash(l[i], l[k]) {
				of[k] = max(of[k], of[i]+1)
			}
		}
	}
	return of
}

// plainAt is the wave in which each member stands, if every number is in range and none stands twice.
func plainAt(members int, plan [][]int) (map[int]int, api.Errno) {
	at := map[int]int{}
	for wave, l := range plan {
		for _, i := range l {
			if i < 0 || i > members-1 {
				return nil, api.ErrRange
			}
			if _, twice := at[i]; twice {
				return nil, api.ErrTwice
			}
			at[i] = wave
		}
	}
	return at, api.OK
}

// plainCheck goes through all pairs for one error behind the other.
func plainCheck(l []api.Tx, plan [][]int) api.Errno {
	at, e := plainAt(len(l), plan)
	if e != api.OK {
		return e
	}
	if len(at) < len(l) {
		return api.ErrFew
	}
	e = api.OK
	for _, pair := range access.Edges(l) {
		if at[pair[0]] == at[pair[1]] {
			return api.ErrClash
		}
		if at[pair[1]] < at[pair[0]] {
			e = api.ErrOrder
		}
	}
	return e
}

// someKeys are at most so many out of a number of keys, in any order, also one several times.
func someKeys(r *rand.Rand, most, of int) []string {
	var l []string
	for range r.Intn(most + 1) {
		l = append(l, "a:"+strconv.Itoa(r.Intn(of)))
	}
	return l
}

func someTxs(r *rand.Rand, most int) []api.Tx {
	l := make([]api.Tx, r.Intn(most+1))
	reads, writes, of := r.Intn(9), r.Intn(1+r.Intn(9)), 1+r.Intn(1+r.Intn(400))
	for i := range l {
		l[i] = api.Tx{Reads: someKeys(r, reads, of), Writes: someKeys(r, writes, of)}
	}
	return l
}

// mingle changes a plan in one place: a member goes elsewhere, or is left out, or comes twice; two waves are made one, or change places; a wave is put between, or a number that is none.
func mingle(r *rand.Rand, plan [][]int, members int) [][]int {
	if len(plan) == 0 {
		return [][]int{{r.Intn(3) - 1}}
	}
	from, to := r.Intn(len(plan)), r.Intn(len(plan))
	kind := r.Intn(16)
	switch {
	case kind == 0:
		plan[to] = append(plan[to], []int{-1, members, r.Int(), -r.Int()}[r.Intn(4)])
	case kind == 1:
		plan[to] = append(plan[to], r.Intn(members+1))
	case kind == 2 && len(plan[from]) > 0:
		plan[from] = plan[from][1:]
	case kind < 5:
		plan[from], plan[to] = plan[to], plan[from]
	case kind == 5:
		plan[to], plan[from] = append(slices.Clone(plan[from]), plan[to]...), nil
	case kind == 6:
		plan = slices.Insert(plan, to, []int{})
	case kind == 7:
		r.Shuffle(len(plan[to]), func(i, k int) { plan[to][i], plan[to][k] = plan[to][k], plan[to][i] })
	case len(plan[from]) > 0:
		at := r.Intn(len(plan[from]))
		i := plan[from][at]
		plan[from] = slices.Delete(plan[from], at, at+1)
		plan[to] = append(plan[to], i)
	}
	return plan
}

// 21.1, 21.2, 21.3: mingled lists, and plans of them that were changed, are answered as by the chapter's words.
func TestMingled(t *testing.T) {
	r := rand.New(rand.NewSource(21))
	told := map[api.Errno]int{}
	for range 3000 {
		l := someTxs(r, 40)
		want := plainOf(l)
		answers(t, l, want...)
		for range 5 {
			plan := waves.Plan(l)
			for range 1 + r.Intn(4) {
				plan = mingle(r, plan, len(l))
			}
			e := plainCheck(l, plan)
			checks(t, l, plan, e)
			told[e]++
		}
		if t.Failed() {
			return
		}
	}
	for _, e := range []api.Errno{api.OK, api.ErrRange, api.ErrTwice, api.ErrFew, api.ErrClash, api.ErrOrder} {
		if told[e] < 100 {
			t.Errorf("%v was told %d times alone", e, told[e])
		}
	}
}

// eachPlan hands out every way in which so many members stand in as many waves.
func eachPlan(members int, yield func([]int)) {
	at := make([]int, members)
	for {
		yield(at)
		i := 0
		for i < members && at[i] == members-1 {
			at[i] = 0
			i++
		}
		if i == members {
			return
		}
		at[i]++
	}
}

// filled is how many of a plan's waves have members.
func filled(plan [][]int) int {
	n := 0
	for _, wave := range plan {
		if len(wave) > 0 {
			n++
		}
	}
	return n
}

// 21.3: Check of Plan is OK; of all plans none that is OK has fewer waves.
func TestFewestWaves(t *testing.T) {
	r := rand.New(rand.NewSource(213))
	for range 300 {
		l := someTxs(r, 5)
		fewest := len(waves.Plan(l))
		checks(t, l, waves.Plan(l), api.OK)
		right := 0
		eachPlan(len(l), func(at []int) {
			plan := asPlan(at)
			e := plainCheck(l, plan)
			checks(t, l, plan, e)
			if e != api.OK {
				return
			}
			right++
			if filled(plan) < fewest {
				t.Errorf("of %v the plan %v is right, with less than %d waves", l, plan, fewest)
			}
		})
		if right == 0 {
			t.Errorf("of %v no plan is right", l)
		}
		if t.Failed() {
			return
		}
	}
}

// 21.1: those of one wave are not in each other's way, and of two in each other's way the earlier one is in the earlier wave.
func TestWavesKeepTheWay(t *testing.T) {
	r := rand.New(rand.NewSource(211))
	pairs := 0
	for range 500 {
		l := someTxs(r, 60)
		of := waves.Of(l)
		for _, pair := range access.Edges(l) {
			pairs++
			if of[pair[0]] >= of[pair[1]] {
				t.Fatalf("Of(%v): %v, though %v are in each other's way", l, of, pair)
			}
		}
	}
	if pairs == 0 {
		t.Error("none were in each other's way")
	}
}

// LANGUAGE 5: what is answered does not hang on the order in which a map is gone through.
func TestSameAgain(t *testing.T) {
	r := rand.New(rand.NewSource(215))
	for range 50 {
		l := someTxs(r, 40)
		of := waves.Of(l)
		plan := mingle(r, waves.Plan(l), len(l))
		e := waves.Check(l, plan)
		for range 20 {
			answers(t, l, of...)
			checks(t, l, plan, e)
		}
	}
}
