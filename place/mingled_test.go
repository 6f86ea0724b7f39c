package place_test

import (
	"math"
	"slices"
	"testing"

	"tusk/place"
)

// steps answers numbers that look like no order, the same ones at every run.
func steps() func(n int) int {
	x := uint64(1)
	return func(n int) int {
		x = x*6364136223846793005 + 1442695040888963407
		return int(x>>33) % n
	}
}

// part is a part of a complex number: mostly a small number, at times one of the edges, or none at all.
func part(pick func(int) int) float64 {
	switch pick(8) {
	case 0:
		l := odd()
		return l[pick(len(l))]
	case 1:
		return []float64{minus, most, most - 1, most - 2, 6, 7, 0}[pick(7)]
	}
	return float64(pick(8))
}

// numbers is some complex numbers, most of them places.
func numbers(pick func(int) int) []complex128 {
	l := make([]complex128, pick(40))
	for i := range l {
		l[i] = complex(part(pick), part(pick))
	}
	return l
}

// pair is a place as two numbers.
type pair struct{ round, author int }

// plainPair is the round and the author of a place, told by the words of the chapter.
func plainPair(p complex128) (pair, bool) {
	for _, x := range []float64{real(p), imag(p)} {
		if math.IsNaN(x) || math.IsInf(x, 0) || math.Floor(x) != x || x < 0 || x > most {
			return pair{}, false
		}
	}
	return pair{int(real(p)), int(imag(p))}, imag(p) <= 6
}

// ahead tells whether a pair stands ahead of another one.
func (a pair) ahead(b pair) bool {
	return a.round < b.round || a.round == b.round && a.author < b.author
}

// plainSort is what Sort is to answer: each pair goes in ahead of the first that is not ahead of it.
func plainSort(l []complex128) []complex128 {
	var pairs []pair
	for _, p := range l {
		x, ok := plainPair(p)
		if !ok || slices.Contains(pairs, x) {
			continue
		}
		at := 0
		for at < len(pairs) && pairs[at].ahead(x) {
			at++
		}
		pairs = slices.Insert(pairs, at, x)
	}
	var out []complex128
	for _, x := range pairs {
		out = append(out, complex(float64(x.round), float64(x.author)))
	}
	return out
}

// 15.1, 15.2: Sort of mingled lists, and Less and Span of their members, held against plain ones.
func TestMingled(t *testing.T) {
	pick := steps()
	none, less := 0, 0
	for range 3000 {
		l := numbers(pick)
		if got, want := place.Sort(l), plainSort(l); !slices.EqualFunc(got, want, same) {
			t.Fatalf("Sort(%v): %v, not %v", l, got, want)
		}
		for i := 1; i < len(l); i++ {
			p, q := l[i-1], l[i]
			a, okA := plainPair(p)
			b, okB := plainPair(q)
			both := okA && okB
			if place.Less(p, q) != (both && a.ahead(b)) {
				t.Fatalf("Less(%v, %v)", p, q)
			}
			var want complex128
			if both {
				want = complex(float64(b.round-a.round), float64(b.author-a.author))
			} else {
				none++
			}
			if s, ok := place.Span(p, q); !same(s, want) || ok != both {
				t.Fatalf("Span(%v, %v): %v, %v", p, q, s, ok)
			}
			if both && a.ahead(b) {
				less++
			}
		}
	}
	if none < 1000 || less < 1000 {
		t.Errorf("too few of a kind: %d, %d", none, less)
	}
}

// 15.2: the order of the list does not count, and what is sorted stays as it is.
func TestSortAgain(t *testing.T) {
	pick := steps()
	for range 500 {
		l := numbers(pick)
		want := place.Sort(l)
		for i := len(l) - 1; i > 0; i-- {
			j := pick(i + 1)
			l[i], l[j] = l[j], l[i]
		}
		if got := place.Sort(l); !slices.EqualFunc(got, want, same) {
			t.Fatalf("Sort(%v): %v, not %v", l, got, want)
		}
		if got := place.Sort(want); !slices.EqualFunc(got, want, same) {
			t.Fatalf("Sort(%v): %v", want, got)
		}
	}
}

// 15.2: a long list is sorted, too.
func TestSortLong(t *testing.T) {
	pick := steps()
	var l []complex128
	for range 300000 {
		l = append(l, complex(float64(pick(1<<20)), float64(pick(9))))
	}
	got := place.Sort(l)
	for i := 1; i < len(got); i++ {
		if !place.Less(got[i-1], got[i]) {
			t.Fatalf("%v stands ahead of %v", got[i-1], got[i])
		}
	}
	seen := map[complex128]int{}
	for _, p := range l {
		if imag(p) <= 6 {
			seen[p] = 1
		}
	}
	if len(seen) != len(got) {
		t.Errorf("%d places, not %d", len(got), len(seen))
	}
}
