package pace_test

import (
	"math"
	"math/rand"
	"testing"

	"tusk/api"
	"tusk/pace"
)

// plain is a pace as the chapter says it, word by word.
type plain struct{ n, most, view, failures, ticks int }

func (p *plain) wait() int {
	w := 4
	for i := 0; i < p.failures && i < 16; i++ {
		w *= 2
	}
	if w > p.most {
		return p.most
	}
	return w
}

func (p *plain) tick() bool {
	if p.view == api.MaxInt {
		return false
	}
	p.ticks++
	if p.ticks != p.wait() {
		return false
	}
	p.view, p.failures, p.ticks = p.view+1, p.failures+1, 0
	return true
}

func (p *plain) enter(view int) bool {
	failures := p.failures
	p.failures = 0
	if p.follow(view) {
		return true
	}
	p.failures = failures
	return false
}

func (p *plain) follow(view int) bool {
	if view <= p.view || view > api.MaxInt {
		return false
	}
	p.view, p.ticks = view, 0
	return true
}

// someView is a view near that one, mostly, or one of the edges.
func someView(r *rand.Rand, view int) int {
	if r.Intn(12) > 0 {
		return view - 3 + r.Intn(7)
	}
	edges := []int{0, -1, api.MaxInt + 1, math.MaxInt, math.MinInt, view + 1<<20, api.MaxInt - r.Intn(40)}
	return edges[r.Intn(len(edges))]
}

// step does one call to both, and tells whether their answers are the same, and which view was asked for.
func step(r *rand.Rand, p *pace.Pace, q *plain, ticks int) (bool, string, int) {
	view := someView(r, q.view)
	switch k := r.Intn(ticks + 3); k {
	case 0:
		return p.Enter(view) == q.enter(view), "Enter", view
	case 1:
		return p.Follow(view) == q.follow(view), "Follow", view
	case 2:
		return p.Leader(view) == max(view, 0)%q.n, "Leader", view
	}
	return p.Tick() == q.tick(), "Tick", q.view
}

// 18.1, 18.2: long mingled rows of calls answer as a plain pace; 18.3: the view never falls.
func TestMingled(t *testing.T) {
	r := rand.New(rand.NewSource(18))
	for range 400 {
		n, most := 1+r.Intn(7), 1+r.Intn(1+r.Intn(1000))
		p, q := made(t, n, most), &plain{n: n, most: most, view: 1}
		ticks := 1 + r.Intn(1+r.Intn(400))
		for i := range 1500 {
			view := p.View()
			ok, name, at := step(r, p, q, ticks)
			if !ok {
				t.Fatalf("New(%d, %d), call %d: %s (%d) answers otherwise", n, most, i, name, at)
			}
			want(t, name, p, q.view, q.wait(), q.ticks)
			if p.View() < view {
				t.Fatalf("New(%d, %d), call %d: %s: the view falls from %d to %d", n, most, i, name, view, p.View())
			}
		}
	}
}

// 18.3: from any moment on the view rises by 1 within most ticks, if nobody enters.
func TestRisesWithinMost(t *testing.T) {
	r := rand.New(rand.NewSource(183))
	for range 2000 {
		n, most := 1+r.Intn(7), 1+r.Intn(1+r.Intn(1000))
		p, q := made(t, n, most), &plain{n: n, most: most, view: 1}
		for range r.Intn(600) {
			step(r, p, q, 100)
		}
		view := p.View()
		if view == api.MaxInt {
			continue // the last view, from which 18.2 says that it goes on no more
		}
		ticks := 1
		for !p.Tick() {
			if p.View() != view {
				t.Fatalf("New(%d, %d): the view is %d behind a tick that did not end %d", n, most, p.View(), view)
			}
			if ticks++; ticks > most {
				t.Fatalf("New(%d, %d): the view %d lasts more than %d ticks", n, most, view, most)
			}
		}
		if p.View() != view+1 {
			t.Fatalf("New(%d, %d): from the view %d to %d", n, most, view, p.View())
		}
	}
}
