package walk_test

import (
	"math"
	"slices"
	"strconv"
	"strings"
	"testing"

	"tusk/api"
	"tusk/walk"
)

const (
	mostRound    = 1 << 50
	mostAuthor   = 6
	mostParents  = 7
	mostVertices = 256
)

// wantAdd is that Add answers so.
func wantAdd(t *testing.T, g *walk.Graph, want api.Errno, id string, round, author int, parents ...string) {
	t.Helper()
	if e := g.Add(id, round, author, parents); e != want {
		t.Errorf("Add(%.40q, %d, %d, %d parents): error %d, want %d", id, round, author, len(parents), e, want)
	}
}

// add is that a vertex gets in.
func add(t *testing.T, g *walk.Graph, id string, round, author int, parents ...string) {
	t.Helper()
	wantAdd(t, g, api.OK, id, round, author, parents...)
}

// wantEmit is that Emit answers just these, and none missing.
func wantEmit(t *testing.T, g *walk.Graph, id string, want ...string) {
	t.Helper()
	if l, missing := g.Emit(id); !slices.Equal(l, want) || len(missing) != 0 {
		t.Errorf("Emit(%.40q): %.200q, missing %.200q, want %.200q", id, l, missing, want)
	}
}

// wantMissing is that Emit answers none, and just these missing.
func wantMissing(t *testing.T, g *walk.Graph, id string, want ...string) {
	t.Helper()
	if l, missing := g.Emit(id); len(l) != 0 || !slices.Equal(missing, want) {
		t.Errorf("Emit(%.40q): %.200q, missing %.200q, want missing %.200q", id, l, missing, want)
	}
}

// wantEmitted is what Emitted is to answer of each of these.
func wantEmitted(t *testing.T, g *walk.Graph, want bool, ids ...string) {
	t.Helper()
	for _, id := range ids {
		if g.Emitted(id) != want {
			t.Errorf("Emitted(%.40q): %v", id, !want)
		}
	}
}

// wantLow is how many Low lets go.
func wantLow(t *testing.T, g *walk.Graph, round, want int) {
	t.Helper()
	if n := g.Low(round); n != want {
		t.Errorf("Low(%d): %d, want %d", round, n, want)
	}
}

// wantLen is how many are to be in.
func wantLen(t *testing.T, g *walk.Graph, want int) {
	t.Helper()
	if n := g.Len(); n != want {
		t.Errorf("Len: %d, want %d", n, want)
	}
}

// name is the id of a round and an author.
func name(round, author int) string { return strconv.Itoa(round) + "." + strconv.Itoa(author) }

// names is the ids of all authors in a round.
func names(round int) []string {
	var l []string
	for author := range mostAuthor + 1 {
		l = append(l, name(round, author))
	}
	return l
}

// fill lays in all authors' vertices of these rounds, each upon all of the round ahead of it.
func fill(t *testing.T, g *walk.Graph, from, to int) {
	t.Helper()
	for round := from; round <= to; round++ {
		for author := range mostAuthor + 1 {
			add(t, g, name(round, author), round, author, names(round-1)...)
		}
	}
}

// 16.1, 16.2: the chapter's example.
func TestExample(t *testing.T) {
	g := walk.New()
	add(t, g, "a", 1, 0)
	add(t, g, "b", 1, 1)
	add(t, g, "c", 2, 0, "a", "b")
	wantEmit(t, g, "c", "a", "b", "c")
	wantEmit(t, g, "c")
	g = walk.New()
	add(t, g, "a", 1, 0)
	add(t, g, "c", 2, 0, "a", "b")
	wantMissing(t, g, "c", "b")
	wantEmitted(t, g, false, "a", "b", "c")
}

// 16.1, 16.2: a new graph has no vertices, and another one's are not its own.
func TestNew(t *testing.T) {
	g, other := walk.New(), walk.New()
	wantLen(t, g, 0)
	wantEmitted(t, g, false, "", "a")
	wantLow(t, g, 0, 0)
	wantMissing(t, g, "", "")
	wantMissing(t, g, "a", "a")
	add(t, g, "a", 1, 0)
	wantEmit(t, g, "a", "a")
	wantLow(t, g, 1, 0)
	wantLen(t, other, 0)
	wantEmitted(t, other, false, "a")
	add(t, other, "a", 0, 0)
	wantEmit(t, other, "a", "a")
}

// 16.1: a round from 0 to 2^50, an author from 0 to 6; else ErrRange.
func TestRange(t *testing.T) {
	for _, round := range []int{math.MinInt, -1 << 50, -1, 0, 1, mostRound - 1, mostRound, mostRound + 1, 1<<53 + 1, api.MaxInt, math.MaxInt} {
		for _, author := range []int{math.MinInt, -1 << 32, -1, 0, 1, mostAuthor, mostAuthor + 1, 1 << 32, math.MaxInt} {
			g := walk.New()
			want := api.ErrRange
			if round >= 0 && round <= mostRound && author >= 0 && author <= mostAuthor {
				want = api.OK
			}
			wantAdd(t, g, want, "a", round, author)
			if want == api.OK {
				wantLen(t, g, 1)
				wantEmit(t, g, "a", "a")
				continue
			}
			wantLen(t, g, 0)
			wantMissing(t, g, "a", "a")
		}
	}
}

// 16.1: up to 7 parents; one that stands there twice counts twice.
func TestLong(t *testing.T) {
	for n := range 20 {
		for _, unlike := range []bool{true, false} {
			g := walk.New()
			var parents []string
			for i := range n {
				id := "p"
				if unlike {
					id = name(1, i)
				}
				parents = append(parents, id)
			}
			want := api.OK
			if n > mostParents {
				want = api.ErrLong
			}
			wantAdd(t, g, want, "a", 2, 0, parents...)
			wantAdd(t, g, api.ErrRange, "b", 2, mostAuthor+1, parents...)
		}
	}
	g := walk.New()
	wantAdd(t, g, api.ErrLong, "a", 1, 0, make([]string, 1<<16)...)
	add(t, g, "a", 1, 0)
}

// 16.1: an id is in once, whatever its round, its author and its parents are.
func TestTwice(t *testing.T) {
	g := walk.New()
	add(t, g, "a", 3, 1, "p")
	wantAdd(t, g, api.ErrTwice, "a", 3, 1, "p")
	wantAdd(t, g, api.ErrTwice, "a", 3, 2)
	wantAdd(t, g, api.ErrTwice, "a", 4, 1)
	wantLen(t, g, 1)
	wantMissing(t, g, "a", "p")
	add(t, g, "p", 2, 1)
	wantEmit(t, g, "a", "p", "a")
	wantAdd(t, g, api.ErrTwice, "a", 3, 1)
	add(t, g, "b", 3, 2)
	add(t, g, "c", 4, 1)
	wantLen(t, g, 4)
}

// 16.1: there is one vertex of a round and an author.
func TestClash(t *testing.T) {
	for _, round := range []int{0, 1, 5, mostRound - 1, mostRound} {
		g := walk.New()
		for author := range mostAuthor + 1 {
			add(t, g, name(round, author), round, author)
			wantAdd(t, g, api.ErrClash, "x", round, author)
		}
		wantLen(t, g, mostAuthor+1)
		wantMissing(t, g, "x", "x")
		wantEmit(t, g, name(round, 3), name(round, 3))
		wantAdd(t, g, api.ErrClash, "x", round, 3)
	}
}

// 16.1, 16.2: rounds below the low are old; the low itself is not.
func TestOld(t *testing.T) {
	g := walk.New()
	fill(t, g, 1, 4)
	wantLow(t, g, 3, 14)
	wantAdd(t, g, api.ErrOld, name(1, 0), 1, 0)
	wantAdd(t, g, api.ErrOld, "x", 2, 6)
	wantAdd(t, g, api.ErrOld, "x", 0, 0)
	wantAdd(t, g, api.ErrClash, "x", 3, 0)
	wantLen(t, g, 14)
	wantLow(t, g, 5, 14)
	wantAdd(t, g, api.ErrOld, "x", 4, 0)
	add(t, g, "x", 5, 0)
	add(t, g, name(1, 0), 5, 1)
}

// 16.1: 256 vertices, and room again where some were let go.
func TestFull(t *testing.T) {
	g := walk.New()
	for n := range mostVertices {
		add(t, g, strconv.Itoa(n), n/2, n%2)
		wantLen(t, g, n+1)
	}
	wantAdd(t, g, api.ErrFull, "x", 128, 0)
	wantAdd(t, g, api.ErrFull, "x", 0, 2)
	wantEmit(t, g, "0", "0")
	wantAdd(t, g, api.ErrFull, "x", 128, 0)
	wantLen(t, g, mostVertices)
	wantMissing(t, g, "x", "x")
	wantLow(t, g, 1, 2)
	add(t, g, "x", 128, 0)
	add(t, g, "y", 128, 1)
	wantAdd(t, g, api.ErrFull, "z", 129, 0)
}

// 16.1: the errors in the chapter's order: range, long, twice, old, clash, full.
func TestOrderOfErrors(t *testing.T) {
	g := walk.New()
	wantLow(t, g, 1, 0)
	add(t, g, "in", 1, 0)
	for n := 1; n < mostVertices; n++ {
		add(t, g, strconv.Itoa(n), 1+n/7, n%7)
	}
	many := make([]string, mostParents+1)
	wantAdd(t, g, api.ErrRange, "in", -1, 0, many...)
	wantAdd(t, g, api.ErrRange, "in", 0, 7, many...)
	wantAdd(t, g, api.ErrLong, "in", 0, 0, many...)
	wantAdd(t, g, api.ErrTwice, "in", 0, 0)
	wantAdd(t, g, api.ErrTwice, "in", 1, 0)
	wantAdd(t, g, api.ErrTwice, "in", 99, 0)
	wantAdd(t, g, api.ErrOld, "x", 0, 0)
	wantAdd(t, g, api.ErrClash, "x", 1, 0)
	wantAdd(t, g, api.ErrFull, "x", 99, 0)
	wantLen(t, g, mostVertices)
}

// 16.1, 16.2: ids are any texts; missing ones come in the order of their bytes, each once.
func TestTexts(t *testing.T) {
	l := []string{"", "\x00", "\x00\x00", "\x00\xff", " ", "10", "2", "A", "a", "a\x00", "aa", "b", strings.Repeat("k", api.MaxText+1), "z\xff", "\x7f", "\x80", "é", "日本", "\xff", "\xff\xff"}
	for from := 0; from < len(l); from++ {
		g := walk.New()
		parents := slices.Clone(l[from:min(from+mostParents, len(l))])
		slices.Reverse(parents)
		add(t, g, "top", 2, 0, parents...)
		slices.Sort(parents)
		wantMissing(t, g, "top", parents...)
		var want []string
		for author, id := range parents {
			add(t, g, id, 1, author, id)
			want = append(want, id)
		}
		wantEmit(t, g, "top", append(want, "top")...)
		wantEmitted(t, g, true, parents...)
		wantEmitted(t, g, false, "t", "top\x00")
	}
}

// 16.2: missing ids are told each once, however many name them; those that are in are not.
func TestMissing(t *testing.T) {
	g := walk.New()
	add(t, g, "a", 1, 0, "z", "y", "z")
	add(t, g, "b", 1, 1, "y", "x")
	add(t, g, "c", 2, 0, "b", "w", "a", "b")
	wantMissing(t, g, "c", "w", "x", "y", "z")
	wantMissing(t, g, "a", "y", "z")
	wantMissing(t, g, "w", "w")
	wantEmitted(t, g, false, "a", "b", "c", "w")
	add(t, g, "x", 0, 0)
	add(t, g, "w", 3, 0, "v")
	wantMissing(t, g, "c", "v", "y", "z")
	add(t, g, "y", 0, 1)
	add(t, g, "v", 1, 6)
	wantEmit(t, g, "b", "x", "y", "b")
	wantMissing(t, g, "c", "z")
	add(t, g, "z", 0, 2)
	wantEmit(t, g, "c", "z", "a", "v", "c", "w")
	wantLen(t, g, 8)
}

// 16.2: what was emitted, and what it rests on, is not gone through any more.
func TestEmitOnce(t *testing.T) {
	g := walk.New()
	fill(t, g, 0, 3)
	wantEmit(t, g, name(1, 2), append(names(0), name(1, 2))...)
	wantEmitted(t, g, true, append(names(0), name(1, 2))...)
	wantEmitted(t, g, false, name(1, 0), name(1, 3), name(2, 2))
	wantEmit(t, g, name(0, 5))
	wantEmit(t, g, name(2, 6), name(1, 0), name(1, 1), name(1, 3), name(1, 4), name(1, 5), name(1, 6), name(2, 6))
	wantEmit(t, g, name(2, 0), name(2, 0))
	wantEmit(t, g, name(3, 1), name(2, 1), name(2, 2), name(2, 3), name(2, 4), name(2, 5), name(3, 1))
	for round := range 3 {
		wantEmitted(t, g, true, names(round)...)
	}
	wantLen(t, g, 28)
}

// 16.2: the order is that of rounds, then authors: not of ids, of when they came in, or of who names them.
func TestOrder(t *testing.T) {
	g := walk.New()
	add(t, g, "a", 10, 0, "b", "c")
	add(t, g, "b", 9, 6, "e", "d")
	add(t, g, "c", 9, 5, "f")
	add(t, g, "d", 2, 1)
	add(t, g, "e", 2, 0)
	add(t, g, "f", 1, 3, "g")
	add(t, g, "g", mostRound, 0, "h")
	add(t, g, "h", mostRound-1, 6)
	wantEmit(t, g, "a", "f", "e", "d", "c", "b", "a", "h", "g")
}

// 16.2: parents may be of any round: also those that rest on themselves are gone through once.
func TestRings(t *testing.T) {
	g := walk.New()
	add(t, g, "a", 1, 0, "a", "a")
	add(t, g, "b", 2, 0, "c")
	add(t, g, "c", 3, 0, "d", "b")
	add(t, g, "d", 2, 1, "b", "c", "d", "a")
	add(t, g, "e", 5, 0, "f")
	add(t, g, "f", 5, 1, "e", "g")
	wantEmit(t, g, "b", "a", "b", "d", "c")
	wantEmit(t, g, "a")
	wantMissing(t, g, "e", "g")
	add(t, g, "g", 5, 2, "f", "c")
	wantEmit(t, g, "f", "e", "f", "g")
}

// 16.2: the parents of a vertex at the low do not matter; at first that is the round 0.
func TestAtTheLow(t *testing.T) {
	g := walk.New()
	add(t, g, "a", 0, 0, "x", "b")
	add(t, g, "b", 0, 1, "y")
	add(t, g, "c", 1, 0, "b", "z")
	wantEmit(t, g, "a", "a")
	wantEmitted(t, g, false, "b")
	wantMissing(t, g, "c", "z")
	wantLow(t, g, 1, 2)
	wantEmit(t, g, "c", "c")
	wantEmitted(t, g, false, "a", "b")
	add(t, g, "d", 2, 0, "c", "b")
	wantMissing(t, g, "d", "b")
	add(t, g, "b", 1, 1, "y")
	wantEmit(t, g, "d", "b", "d")
}

// 16.2: what an emitted vertex named when it stood at the low was not emitted with it, and is with another one.
func TestBeyondTheLow(t *testing.T) {
	g := walk.New()
	add(t, g, "a", 0, 0)
	add(t, g, "b", 0, 1, "a")
	add(t, g, "c", 1, 0, "b", "a")
	wantEmit(t, g, "b", "b")
	wantEmit(t, g, "c", "a", "c")
}

// 16.2: Low rises alone, and lets go of what is below it, emitted or not.
func TestLow(t *testing.T) {
	g := walk.New()
	fill(t, g, 0, 5)
	wantEmit(t, g, name(1, 0), append(names(0), name(1, 0))...)
	for _, round := range []int{math.MinInt, -1, 0} {
		wantLow(t, g, round, 0)
	}
	wantLen(t, g, 42)
	wantLow(t, g, 2, 14)
	for _, round := range []int{math.MinInt, -1, 0, 1, 2} {
		wantLow(t, g, round, 0)
	}
	wantLen(t, g, 28)
	wantEmitted(t, g, false, name(0, 0), name(1, 0), name(2, 0))
	wantMissing(t, g, name(1, 0), name(1, 0))
	wantEmit(t, g, name(3, 4), append(names(2), name(3, 4))...)
	wantLow(t, g, 3, 7)
	wantEmitted(t, g, true, name(3, 4))
	wantEmit(t, g, name(4, 0), name(3, 0), name(3, 1), name(3, 2), name(3, 3), name(3, 5), name(3, 6), name(4, 0))
	wantLow(t, g, mostRound, 21)
	wantLen(t, g, 0)
	add(t, g, "last", mostRound, 0, "x")
	wantEmit(t, g, "last", "last")
	wantLow(t, g, math.MaxInt, 1)
	wantLow(t, g, math.MaxInt, 0)
	wantAdd(t, g, api.ErrOld, "last", mostRound, 0)
	wantLow(t, g, mostRound, 0)
	wantLen(t, g, 0)
}

// 16.2: a parent of a round that was let go is missing for a vertex above the low, also if it was emitted.
func TestParentLetGo(t *testing.T) {
	g := walk.New()
	add(t, g, "a", 1, 0)
	add(t, g, "b", 1, 1)
	add(t, g, "c", 3, 0, "b", "a")
	add(t, g, "d", 2, 0, "b", "a")
	wantEmit(t, g, "a", "a")
	wantLow(t, g, 2, 2)
	wantMissing(t, g, "c", "a", "b")
	wantEmit(t, g, "d", "d")
	wantLow(t, g, 3, 1)
	wantEmit(t, g, "c", "c")
}

// 16.2: of a vertex that was let go nothing is known: with its id another one may come in.
func TestIdAgain(t *testing.T) {
	g := walk.New()
	add(t, g, "a", 1, 0)
	wantEmit(t, g, "a", "a")
	wantLow(t, g, 2, 1)
	wantEmitted(t, g, false, "a")
	add(t, g, "a", 2, 0)
	wantEmitted(t, g, false, "a")
	wantEmit(t, g, "a", "a")
	wantEmitted(t, g, true, "a")
}

// 16.1, 16.2: what is refused changes nothing.
func TestRefused(t *testing.T) {
	g := walk.New()
	wantLow(t, g, 1, 0)
	add(t, g, "a", 2, 0, "p")
	add(t, g, "b", 2, 1)
	wantAdd(t, g, api.ErrTwice, "a", 2, 2, "q")
	wantAdd(t, g, api.ErrClash, "c", 2, 0, "q")
	wantAdd(t, g, api.ErrOld, "p", 0, 0)
	wantAdd(t, g, api.ErrRange, "p", 1, 7)
	wantAdd(t, g, api.ErrLong, "p", 1, 0, make([]string, 8)...)
	wantLen(t, g, 2)
	wantMissing(t, g, "a", "p")
	wantMissing(t, g, "c", "c")
	add(t, g, "c", 2, 2, "a", "b")
	add(t, g, "p", 1, 0)
	wantEmit(t, g, "c", "p", "a", "b", "c")
}

// 16.1 (R4): what was handed in is not kept and not changed, also in the spare room behind it.
func TestHandedIn(t *testing.T) {
	room := []string{"q", "p", "r", "spare", "room"}
	g := walk.New()
	if e := g.Add("a", 2, 0, room[:3]); e != api.OK {
		t.Fatalf("Add: error %d", e)
	}
	wantMissing(t, g, "a", "p", "q", "r")
	if !slices.Equal(room, []string{"q", "p", "r", "spare", "room"}) {
		t.Errorf("handed in, and changed: %q", room)
	}
	room[0], room[1], room[2] = "a", "a", "a"
	wantMissing(t, g, "a", "p", "q", "r")
	for author, id := range []string{"p", "q", "r"} {
		add(t, g, id, 1, author)
	}
	wantEmit(t, g, "a", "p", "q", "r", "a")
}

// 16.2 (R4): answers are new memory, whose change changes nothing that is kept.
func TestHandedOut(t *testing.T) {
	g := walk.New()
	add(t, g, "a", 2, 0, "p", "q")
	_, missing := g.Emit("a")
	missing[0], missing[1] = "x", "y"
	_ = append(missing[:0], "z", "z")
	wantMissing(t, g, "a", "p", "q")
	add(t, g, "p", 1, 0)
	add(t, g, "q", 1, 1)
	l, _ := g.Emit("a")
	l[0], l[1], l[2] = "x", "y", "z"
	wantEmitted(t, g, true, "a", "p", "q")
	wantEmitted(t, g, false, "x", "y", "z")
}

// 16.2: a graph as full as may be is flattened whole, also as one long line.
func TestWhole(t *testing.T) {
	g := walk.New()
	fill(t, g, 1, 36)
	wantMissing(t, g, name(36, 0), names(0)...)
	wantLow(t, g, 1, 0)
	var want []string
	for round := 1; round < 36; round++ {
		want = append(want, names(round)...)
	}
	wantEmit(t, g, name(36, 6), append(want, name(36, 6))...)
	g = walk.New()
	want = nil
	for n := range mostVertices {
		add(t, g, strconv.Itoa(n), n, n%7, strconv.Itoa(n-1))
		want = append(want, strconv.Itoa(n))
	}
	wantEmit(t, g, "255", want...)
}
