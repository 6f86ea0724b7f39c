package pace_test

import (
	"math"
	"testing"

	"tusk/api"
	"tusk/pace"
)

// made is a pace that New must answer.
func made(t *testing.T, n, most int) *pace.Pace {
	t.Helper()
	p, e := pace.New(n, most)
	if p == nil || e != api.OK {
		t.Fatalf("New(%d, %d): %v, %v", n, most, p, e)
	}
	return p
}

// want is all that a pace tells of itself.
func want(t *testing.T, what string, p *pace.Pace, view, wait, over int) {
	t.Helper()
	if w, k := p.Wait(); p.View() != view || w != wait || k != over {
		t.Fatalf("%s: view %d, wait %d, %d over, want %d, %d, %d", what, p.View(), w, k, view, wait, over)
	}
}

// fail ticks a view to its end, tick by tick, and looks at each.
func fail(t *testing.T, p *pace.Pace, wait int) {
	t.Helper()
	view := p.View()
	for i := range wait {
		want(t, "ahead of a tick", p, view, wait, i)
		if ok := p.Tick(); ok != (i == wait-1) {
			t.Fatalf("view %d: tick %d of %d: %v", view, i+1, wait, ok)
		}
	}
	if _, over := p.Wait(); p.View() != view+1 || over != 0 {
		t.Fatalf("view %d, %d over behind the end of %d", p.View(), over, view)
	}
}

// waits is the wait behind 0, 1, 2 .. failures, where it may be long.
func waits() []int { return []int{4, 8, 16, 32, 64, 128, 256, 512, 1000, 1000, 1000} }

// notAbove is views to which nobody goes on from that one: it and those below it, and what is no view.
func notAbove(view int) []int {
	return []int{view, view - 1, view / 2, 1, 0, -1, -view, -api.MaxInt, math.MinInt32, math.MinInt, api.MaxInt + 1, api.MaxInt + 2, math.MaxInt - 1, math.MaxInt}
}

// TestExample: the chapter's example.
func TestExample(t *testing.T) {
	p := made(t, 4, 10)
	for i := range 4 {
		if ok := p.Tick(); ok != (i == 3) {
			t.Errorf("tick %d: %v", i+1, ok)
		}
	}
	want(t, "four ticks", p, 2, 8, 0)
	for i := range 8 {
		if ok := p.Tick(); ok != (i == 7) {
			t.Errorf("tick %d: %v", i+5, ok)
		}
	}
	want(t, "eight more", p, 3, 10, 0)
	if !p.Enter(5) {
		t.Error("Enter(5): false")
	}
	want(t, "Enter(5)", p, 5, 4, 0)
	if l := p.Leader(5); l != 1 {
		t.Errorf("Leader(5): %d", l)
	}
}

// 18.1: New within its bounds is the view 1, without failures and ticks; else ErrRange, and no pace.
func TestNew(t *testing.T) {
	ns := []int{1, 2, 3, 4, 5, 6, 7, 0, -1, 8, 9, 1 << 32, 1<<32 + 4, api.MaxInt, math.MaxInt, math.MinInt, math.MinInt32}
	mosts := []int{1, 2, 3, 4, 5, 7, 8, 9, 256, 999, 1000, 0, -1, -4, 1001, 1 << 32, 1<<32 + 4, api.MaxInt, math.MaxInt, math.MinInt, math.MinInt32}
	for _, n := range ns {
		for _, most := range mosts {
			if n >= 1 && n <= 7 && most >= 1 && most <= 1000 {
				want(t, "New", made(t, n, most), 1, min(4, most), 0)
			} else if p, e := pace.New(n, most); p != nil || e != api.ErrRange {
				t.Errorf("New(%d, %d): %v, %v", n, most, p, e)
			}
		}
	}
}

// 18.1: Leader is the view mod n, also of views that nobody comes to; 0 below 0. It hangs on the view that is asked for alone.
func TestLeader(t *testing.T) {
	for n := 1; n <= 7; n++ {
		p := made(t, n, 10)
		for _, at := range []int{1, 2, 6, 1000, api.MaxInt} {
			p.Enter(at)
			for view, leader := 0, 0; view < 50; view, leader = view+1, leader+1 {
				if leader == n {
					leader = 0
				}
				if l := p.Leader(view); l != leader {
					t.Errorf("n %d: Leader(%d): %d, want %d", n, view, l, leader)
				}
			}
			for _, view := range []int{1 << 31, 1<<32 + 1, api.MaxInt - 1, api.MaxInt, api.MaxInt + 1, math.MaxInt} {
				if l := p.Leader(view); l != int(uint64(view)%uint64(n)) {
					t.Errorf("n %d: Leader(%d): %d", n, view, l)
				}
			}
			for _, view := range []int{-1, -2, -3, -4, -5, -6, -7, -8, -1 << 32, -api.MaxInt, math.MinInt32, math.MinInt + 1, math.MinInt} {
				if l := p.Leader(view); l != 0 {
					t.Errorf("n %d: Leader(%d): %d, want 0", n, view, l)
				}
			}
			want(t, "Leader", p, at, 4, 0)
		}
	}
}

// 18.1, 18.2: the wait is doubled by each failure, and is at most most, whatever that is.
func TestWaitIsDoubled(t *testing.T) {
	for most := 1; most <= 1000; most++ {
		p := made(t, 4, most)
		for _, w := range waits() {
			fail(t, p, min(w, most))
		}
		want(t, "behind all failures", p, 1+len(waits()), most, 0)
	}
}

// 18.1: behind very many failures the wait is still the longest one; a first view is short again.
func TestManyFailures(t *testing.T) {
	for _, most := range []int{1, 4, 5, 100} {
		p := made(t, 4, most)
		for i := range 300 {
			fail(t, p, min(4<<min(i, 16), most))
		}
		want(t, "300 failures", p, 301, most, 0)
		if !p.Enter(302) {
			t.Error("Enter(302): false")
		}
		want(t, "Enter", p, 302, min(4, most), 0)
		fail(t, p, min(4, most))
		want(t, "a failure anew", p, 303, min(8, most), 0)
	}
}

// 18.2: Enter of a later view is that view, without failures and ticks; Follow likewise, but failures stay.
func TestEnterAndFollow(t *testing.T) {
	for failures, wait := range waits() {
		for _, over := range []int{0, 1, wait - 1} {
			for _, on := range []int{1, 2, 5, 1 << 32, api.MaxInt - 1 - failures} {
				at := func() *pace.Pace {
					p := made(t, 4, 1000)
					for _, w := range waits()[:failures] {
						fail(t, p, w)
					}
					for range over {
						p.Tick()
					}
					want(t, "at first", p, 1+failures, wait, over)
					return p
				}
				view := 1 + failures + on
				if p := at(); !p.Enter(view) {
					t.Errorf("Enter(%d): false", view)
				} else {
					want(t, "Enter", p, view, 4, 0)
				}
				if p := at(); !p.Follow(view) {
					t.Errorf("Follow(%d): false", view)
				} else {
					want(t, "Follow", p, view, wait, 0)
				}
			}
		}
	}
}

// 18.2: a view that was followed lasts as long as its failures say, and its end is one failure more; once entered it is as new.
func TestFailuresBehindFollow(t *testing.T) {
	p := made(t, 4, 1000)
	fail(t, p, 4)
	fail(t, p, 8)
	p.Tick()
	if !p.Follow(9) {
		t.Error("Follow(9): false")
	}
	fail(t, p, 16)
	want(t, "behind its end", p, 10, 32, 0)
	if !p.Follow(11) || !p.Follow(12) {
		t.Error("Follow twice: false")
	}
	want(t, "Follow is no failure", p, 12, 32, 0)
	if !p.Enter(13) || !p.Follow(14) {
		t.Error("Enter, then Follow: false")
	}
	want(t, "Follow behind Enter", p, 14, 4, 0)
	fail(t, p, 4)
	want(t, "a failure anew", p, 15, 8, 0)
}

// 18.2: Enter and Follow of a view that is not above, or is none, are false and change nothing.
func TestNotAbove(t *testing.T) {
	for _, start := range []int{1, 2, 7, 1 << 32, api.MaxInt - 3} {
		p := made(t, 4, 1000)
		p.Enter(start)
		fail(t, p, 4)
		fail(t, p, 8)
		for over := range 16 {
			for _, view := range notAbove(start + 2) {
				if p.Enter(view) || p.Follow(view) {
					t.Errorf("view %d: %d is gone on to", start+2, view)
				}
				want(t, "not above", p, start+2, 16, over)
			}
			if ok := p.Tick(); ok != (over == 15) {
				t.Errorf("view %d: tick %d: %v", start+2, over+1, ok)
			}
		}
		want(t, "its end", p, start+3, 32, 0)
	}
}

// 18.2: the view MaxInt, however it was come to, is the last: no tick is over in it, and nobody goes on.
func TestLastView(t *testing.T) {
	for name, to := range map[string]func(p *pace.Pace) bool{
		"Enter":  func(p *pace.Pace) bool { return p.Enter(api.MaxInt) },
		"Follow": func(p *pace.Pace) bool { return p.Follow(api.MaxInt) },
		"Tick":   func(p *pace.Pace) bool { return p.Follow(api.MaxInt-1) && endsBy(p, 8) },
	} {
		p := made(t, 4, 1000)
		fail(t, p, 4)
		p.Tick()
		if !to(p) {
			t.Errorf("%s: false", name)
		}
		wait := map[string]int{"Enter": 4, "Follow": 8, "Tick": 16}[name]
		want(t, name, p, api.MaxInt, wait, 0)
		for range 2000 {
			if p.Tick() {
				t.Fatalf("%s: a tick ends the last view", name)
			}
			want(t, name+", then ticks", p, api.MaxInt, wait, 0)
		}
		for _, view := range notAbove(api.MaxInt) {
			if p.Enter(view) || p.Follow(view) {
				t.Errorf("%s: %d is gone on to", name, view)
			}
		}
		want(t, name+", then all else", p, api.MaxInt, wait, 0)
	}
}

// endsBy is whether the view ends by just so many ticks.
func endsBy(p *pace.Pace, ticks int) bool {
	for i := range ticks {
		if p.Tick() != (i == ticks-1) {
			return false
		}
	}
	return true
}

// R4: paces share nothing.
func TestPacesApart(t *testing.T) {
	p, q := made(t, 4, 10), made(t, 7, 6)
	fail(t, p, 4)
	want(t, "the other", q, 1, 4, 0)
	q.Tick()
	q.Enter(20)
	want(t, "the one", p, 2, 8, 0)
	if p.Leader(6) != 2 || q.Leader(6) != 6 {
		t.Errorf("Leader(6): %d, %d", p.Leader(6), q.Leader(6))
	}
}
