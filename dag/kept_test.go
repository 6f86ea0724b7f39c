package dag

import (
	"testing"

	"tusk/api"
	"tusk/auth"
)

// 14.3: votes of rounds below the low are let go, also where no certificate came of them; no answer shows it, so what is kept is looked at.
func TestVotesAreLetGo(t *testing.T) {
	x, e := auth.New(1, "seed")
	if e != api.OK {
		t.Fatalf("auth.New: error %d", e)
	}
	d, e := New(x, 0)
	if e != api.OK {
		t.Fatalf("New: error %d", e)
	}
	parents := []string{string(make([]byte, 31)) + "a", string(make([]byte, 31)) + "b", string(make([]byte, 31)) + "c"}
	for round := 1; round <= 5; round++ {
		d.Low(round)
		if len(d.votes) != 0 {
			t.Errorf("low %d: %d votes are kept", round, len(d.votes))
		}
		h := api.Header{Round: round, Parents: parents}
		if round == 1 {
			h.Parents = nil
		}
		for author := range x.N() {
			h.Author = author
			for range 2 {
				if _, e := d.Vote(h); e != api.OK {
					t.Errorf("Vote for %d's in round %d: error %d", author, round, e)
				}
			}
		}
		if len(d.votes) != x.N() {
			t.Errorf("low %d: %d votes are kept, want %d", round, len(d.votes), x.N())
		}
	}
}
