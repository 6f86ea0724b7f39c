package access_test

import (
	"math/rand"
	"slices"
	"strconv"
	"testing"

	"tusk/access"
	"tusk/api"
)

// plainClash is being in each other's way as the chapter says it, word by word.
func plainClash(a, b api.Tx) bool {
	for _, x := range [][2]api.Tx{{a, b}, {b, a}} {
		for _, key := range x[0].Writes {
			if slices.Contains(x[1].Reads, key) || slices.Contains(x[1].Writes, key) {
				return true
			}
		}
	}
	return false
}

func plainEdges(l []api.Tx) [][2]int {
	var pairs [][2]int
	for i := range l {
		for k := i + 1; k < len(l); k++ {
			if plainClash(l[i], l[k]) {
				pairs = append(pairs, [2]int{i, k})
			}
		}
	}
	return pairs
}

// plainGroups lets the least number go from one to those in its way, until nothing changes.
func plainGroups(l []api.Tx) []int {
	g := make([]int, len(l))
	for i := range g {
		g[i] = i
	}
	for changed := true; changed; {
		changed = false
		for i := range l {
			for k := range l {
				if g[k] > g[i] && plainClash(l[i], l[k]) {
					g[k], changed = g[i], true
				}
			}
		}
	}
	return g
}

// someKeys are at most so many out of a number of keys, in any order, also one several times.
func someKeys(r *rand.Rand, most, of int) []string {
	var l []string
	for range r.Intn(most + 1) {
		l = append(l, "a:"+strconv.Itoa(r.Intn(of)))
	}
	return l
}

func someTxs(r *rand.Rand) []api.Tx {
	l := make([]api.Tx, r.Intn(40))
	reads, writes, of := r.Intn(9), r.Intn(1+r.Intn(9)), 1+r.Intn(1+r.Intn(400))
	for i := range l {
		l[i] = api.Tx{Reads: someKeys(r, reads, of), Writes: someKeys(r, writes, of)}
	}
	return l
}

// 20.1: mingled lists are answered as by the chapter's words; 20.2: Clash does not hang on which is the first, and members of different groups are not in each other's way.
func TestMingled(t *testing.T) {
	r := rand.New(rand.NewSource(20))
	apart, together := 0, 0
	for range 2000 {
		l := someTxs(r)
		pairs, g := access.Edges(l), access.Groups(l)
		if want := plainEdges(l); !slices.Equal(pairs, want) {
			t.Fatalf("Edges(%v): %v, want %v", l, pairs, want)
		}
		if want := plainGroups(l); !slices.Equal(g, want) {
			t.Fatalf("Groups(%v): %v, want %v", l, g, want)
		}
		for i, a := range l {
			for k, b := range l {
				is := access.Clash(a, b)
				if is != plainClash(a, b) || is != access.Clash(b, a) {
					t.Fatalf("Clash(%v, %v): %v", a, b, is)
				}
				if is && g[i] != g[k] {
					t.Fatalf("%v and %v are of the groups %d and %d", a, b, g[i], g[k])
				}
				if g[i] != g[k] {
					apart++
				} else if !is {
					together++
				}
			}
		}
	}
	if apart == 0 || together == 0 {
		t.Errorf("%d pairs were apart, %d hung together by others", apart, together)
	}
}

// LANGUAGE 5: what is answered does not hang on the order in which a map is gone through.
func TestSameAgain(t *testing.T) {
	r := rand.New(rand.NewSource(205))
	for range 50 {
		l := someTxs(r)
		pairs, g := access.Edges(l), access.Groups(l)
		for range 20 {
			edges(t, l, pairs...)
			groups(t, l, g...)
		}
	}
}
