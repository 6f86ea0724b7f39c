package fetch_test

import (
	"math/rand"
	"slices"
	"strconv"
	"testing"

	"tusk/api"
	"tusk/fetch"
)

// plainWish is a wish as the chapter says it: how often it was asked, and at which tick the last time.
type plainWish struct {
	from        []int
	times, last int
}

// plain is a desk as the chapter says it, word by word.
type plain struct {
	retry, now int
	order      []string
	wishes     map[string]*plainWish
}

func (p *plain) want(id string, from []int) api.Errno {
	if len(from) == 0 {
		return api.ErrFew
	}
	if p.wishes[id] != nil {
		return api.ErrTwice
	}
	if len(p.order) == 64 {
		return api.ErrFull
	}
	p.order = append(p.order, id)
	p.wishes[id] = &plainWish{from: slices.Clone(from)}
	return api.OK
}

func (p *plain) got(id string) bool {
	i := slices.Index(p.order, id)
	if i < 0 {
		return false
	}
	p.order = append(slices.Clone(p.order[:i]), p.order[i+1:]...)
	delete(p.wishes, id)
	return true
}

func (p *plain) tick() []fetch.Ask {
	p.now++
	var l []fetch.Ask
	for _, id := range p.order {
		w := p.wishes[id]
		if w.times == 0 || p.now-w.last == p.retry {
			l = append(l, fetch.Ask{Id: id, To: w.from[w.times%len(w.from)]})
			w.times, w.last = w.times+1, p.now
		}
	}
	return l
}

// some are so many numbers, or fewer.
func some(r *rand.Rand, most int) []int {
	l := make([]int, r.Intn(most+1))
	for i := range l {
		l[i] = r.Intn(9) - 1
	}
	return l
}

// 19.1, 19.2: long mingled rows of calls answer as a plain desk.
func TestMingled(t *testing.T) {
	r := rand.New(rand.NewSource(19))
	full := 0
	for range 300 {
		retry := 1 + r.Intn(1+r.Intn(40))
		d, p := made(t, retry), &plain{retry: retry, wishes: map[string]*plainWish{}}
		ids, gots := 1+r.Intn(100), 1+r.Intn(4)
		for i := range 1200 {
			id := "i" + strconv.Itoa(r.Intn(ids))
			switch k := r.Intn(8 + gots); {
			case k < 4:
				from := some(r, 5)
				a, b := d.Want(id, from), p.want(id, from)
				if a != b {
					t.Fatalf("retry %d, call %d: Want(%q, %v): %v, want %v", retry, i, id, from, a, b)
				}
				if a == api.ErrFull {
					full++
				}
			case k < 8:
				if a, b := d.Tick(), p.tick(); !slices.Equal(a, b) {
					t.Fatalf("retry %d, call %d: Tick: %v, want %v", retry, i, a, b)
				}
			default:
				if a, b := d.Got(id), p.got(id); a != b {
					t.Fatalf("retry %d, call %d: Got(%q): %v", retry, i, id, a)
				}
			}
			wants(t, d, p.order...)
		}
	}
	if full == 0 {
		t.Error("no desk was ever full")
	}
}

// askedWithin is that, of the asks at so many ticks in a row, at least one is of each.
func askedWithin(t *testing.T, what string, ticks [][]int, from []int) {
	t.Helper()
	asked := slices.Concat(ticks...)
	for _, to := range from {
		if !slices.Contains(asked, to) {
			t.Fatalf("%s: wanted of %v, %d is not asked within %d ticks", what, from, to, len(ticks))
		}
	}
}

// 19.4: what is wanted of some, and not got, is asked of each of them within as many times retry ticks as they are, whatever else happens; so it is from any later moment on.
func TestAskedOfEach(t *testing.T) {
	r := rand.New(rand.NewSource(194))
	for range 300 {
		retry := 1 + r.Intn(1+r.Intn(60))
		d := made(t, retry)
		from := append(some(r, 6), 3)
		for i := range r.Intn(30) {
			must(t, d, api.OK, "o"+strconv.Itoa(i), 1, 2)
		}
		must(t, d, api.OK, "x", from...)
		within := retry * len(from)
		var ticks [][]int // of whom x was asked, tick by tick
		for range 4 * within {
			var of []int
			for _, a := range d.Tick() {
				if a.Id == "x" {
					of = append(of, a.To)
				}
			}
			ticks = append(ticks, of)
			d.Got("o" + strconv.Itoa(r.Intn(30)))
			d.Want("o"+strconv.Itoa(r.Intn(30)), some(r, 3))
			d.Want("x", some(r, 3))
		}
		askedWithin(t, "from the first tick on", ticks[:within], from)
		at := r.Intn(3 * within)
		askedWithin(t, "from a later tick on", ticks[at:at+within], from)
	}
}

// 19.3, 19.4: what comes out of a line is what was lined up, in its order, with what stands there told at every call.
func TestMingledLine(t *testing.T) {
	r := rand.New(rand.NewSource(193))
	for range 300 {
		l := fetch.NewLine()
		var in, out []string
		pushes := 1 + r.Intn(6)
		for i := range 800 {
			if r.Intn(6) < pushes {
				id := strconv.Itoa(r.Intn(20))
				l.Push(id)
				in = append(in, id)
			} else {
				there := r.Intn(3) > 0
				id, ok := l.Next(func(string) bool { return there })
				if ok != (there && len(in) > len(out)) || !ok && id != "" {
					t.Fatalf("call %d: Next: %q, %v with %d in and %d out", i, id, ok, len(in), len(out))
				}
				if ok {
					out = append(out, id)
				}
			}
			if l.Len() != len(in)-len(out) {
				t.Fatalf("call %d: Len: %d with %d in and %d out", i, l.Len(), len(in), len(out))
			}
		}
		if !slices.Equal(out, in[:len(out)]) {
			t.Fatalf("lined up %q, out came %q", in, out)
		}
	}
}
