package table_test

import (
	"math"
	"slices"
	"strconv"
	"strings"
	"testing"

	"tusk/api"
	"tusk/table"
)

// edges is rounds at the ends of what there is, and around what is nothing.
func edges() []int {
	return []int{math.MinInt, math.MinInt + 1, math.MinInt32 - 1, -1 << 32, -2, -1, 0, 1, 2, 1 << 32, api.MaxInt, api.MaxInt + 1, math.MaxInt - 1, math.MaxInt}
}

// texts is ids of all sorts, rising.
func texts() []string {
	l := []string{"", "\x00", "\x00\x00", "\x00\xff", "\n", " ", "1", "10", "2", "A", "a", "a\x00", "aa", "ab", "b", "z", "z\xff", "é", "日本", "\x7f", "\x80", "\xc3", "\xff", "\xff\xfe", "\xff\xff"}
	for n := range 3 {
		l = append(l, strings.Repeat("k", api.DigSize-1+n), strings.Repeat("k", api.MaxText+n))
	}
	slices.SortFunc(l, byBytes)
	return l
}

// byBytes is the order of bytes, one by one.
func byBytes(a, b string) int {
	for i := 0; i < len(a) && i < len(b); i++ {
		if a[i] != b[i] {
			return int(a[i]) - int(b[i])
		}
	}
	return len(a) - len(b)
}

// plain is the same by a list, in the order of what was put.
type plain struct {
	in   []item
	most int
	low  int
}

type item struct {
	id    string
	round int
	s     string
}

// at is where an id is in, or -1.
func (p *plain) at(id string) int {
	return slices.IndexFunc(p.in, func(x item) bool { return x.id == id })
}

// put is what Put is to answer.
func (p *plain) put(id string, round int, s string) api.Errno {
	switch {
	case p.at(id) >= 0:
		return api.ErrTwice
	case round < p.low:
		return api.ErrOld
	case len(p.in) >= p.most:
		return api.ErrFull
	}
	p.in = append(p.in, item{id, round, s})
	return api.OK
}

// ids is what Ids is to answer.
func (p *plain) ids(round int) []string {
	var l []string
	for _, x := range p.in {
		if x.round == round {
			l = append(l, x.id)
		}
	}
	slices.SortFunc(l, byBytes)
	return l
}

// drop is what Drop is to answer.
func (p *plain) drop(round int) int {
	n := len(p.in)
	p.in = slices.DeleteFunc(p.in, func(x item) bool { return x.round < round })
	p.low = max(p.low, round)
	return n - len(p.in)
}

// put is that Put answers so.
func put(t *testing.T, x *table.Table, id string, round int, s string, want api.Errno) {
	t.Helper()
	if e := x.Put(id, round, s); e != want {
		t.Errorf("Put(%.40q, %d, %.40q): error %d, want %d", id, round, s, e, want)
	}
}

// drop is that Drop answers so.
func drop(t *testing.T, x *table.Table, round, want int) {
	t.Helper()
	if n := x.Drop(round); n != want {
		t.Errorf("Drop(%d): %d, want %d", round, n, want)
	}
}

// wantIn is just what is in, by ids and by rounds.
func wantIn(t *testing.T, what string, x *table.Table, in ...item) {
	t.Helper()
	p := plain{in: in}
	if x.Len() != len(in) {
		t.Fatalf("%s: Len: %d, want %d", what, x.Len(), len(in))
	}
	rounds := edges()
	for _, i := range in {
		if s, round, ok := x.Get(i.id); s != i.s || round != i.round || !ok {
			t.Fatalf("%s: Get(%.40q): %.40q, %d, %v, want %.40q, %d", what, i.id, s, round, ok, i.s, i.round)
		}
		rounds = append(rounds, i.round)
	}
	slices.Sort(rounds)
	for _, round := range slices.Compact(rounds) {
		if l := x.Ids(round); !slices.Equal(l, p.ids(round)) {
			t.Fatalf("%s: Ids(%d): %.40q, want %.40q", what, round, l, p.ids(round))
		}
	}
}

// wantNone is that an id is not in.
func wantNone(t *testing.T, x *table.Table, id string) {
	t.Helper()
	if s, round, ok := x.Get(id); s != "" || round != 0 || ok {
		t.Errorf("Get(%.40q): %.40q, %d, %v, want none", id, s, round, ok)
	}
}

// The chapter's example.
func TestExample(t *testing.T) {
	x := table.New(2)
	put(t, x, "b", 1, "x", api.OK)
	put(t, x, "a", 1, "y", api.OK)
	put(t, x, "c", 2, "z", api.ErrFull)
	if l := x.Ids(1); !slices.Equal(l, []string{"a", "b"}) {
		t.Errorf("Ids(1): %q", l)
	}
	drop(t, x, 2, 2)
	put(t, x, "b", 1, "x", api.ErrOld)
	wantIn(t, "at last", x)
}

// 11.1: nothing is in a new table, and each has its own.
func TestNew(t *testing.T) {
	x, other := table.New(3), table.New(3)
	wantIn(t, "new", x)
	for _, id := range texts() {
		wantNone(t, x, id)
	}
	for _, round := range edges() {
		drop(t, table.New(3), round, 0)
	}
	put(t, x, "a", 1, "s", api.OK)
	drop(t, x, 2, 1)
	put(t, x, "a", 2, "s", api.OK)
	wantIn(t, "one of two", x, item{"a", 2, "s"})
	wantIn(t, "the other", other)
	put(t, other, "a", 1, "o", api.OK)
	wantIn(t, "the other has a bound of its own", other, item{"a", 1, "o"})
}

// 11.1: as many as most go in, not one more; below 0 is as 0.
func TestMost(t *testing.T) {
	for _, most := range []int{0, -1, -2, -64, -1 << 32, math.MinInt32, math.MinInt} {
		x := table.New(most)
		for _, round := range edges() {
			put(t, x, "a", round, "s", api.ErrFull)
			put(t, x, "", round, "", api.ErrFull)
		}
		wantIn(t, "most is "+strconv.Itoa(most), x)
		drop(t, x, 1, 0)
		put(t, x, "a", 0, "s", api.ErrOld)
		put(t, x, "a", 1, "s", api.ErrFull)
	}
	for _, most := range []int{1, 2, 3, 8, 9, api.MaxTable - 1, api.MaxTable, api.MaxTable + 1, 256, 257, 1000} {
		x := table.New(most)
		var l []item
		for n := range most {
			l = append(l, item{"id" + strconv.Itoa(n), n % 3, "s" + strconv.Itoa(n)})
			put(t, x, l[n].id, l[n].round, l[n].s, api.OK)
		}
		for _, round := range edges() {
			put(t, x, "more", round, "s", api.ErrFull)
		}
		wantNone(t, x, "more")
		wantIn(t, "full", x, l...)
	}
}

// 11.1: however great most is, it is only a bound.
func TestGreatMost(t *testing.T) {
	for _, most := range []int{1 << 32, api.MaxInt, math.MaxInt - 1, math.MaxInt} {
		x := table.New(most)
		var l []item
		for n := range 1000 {
			l = append(l, item{strconv.Itoa(n), n / 100, "s"})
			put(t, x, l[n].id, l[n].round, l[n].s, api.OK)
		}
		wantIn(t, "most is great", x, l...)
	}
}

// 11.1: any text is an id, and any text is a thing; the empty ones, too.
func TestAnyTexts(t *testing.T) {
	l := texts()
	x := table.New(len(l))
	var in []item
	for n := range l {
		wantNone(t, x, l[n])
		in = append(in, item{l[n], n % 2, l[len(l)-1-n]})
		put(t, x, in[n].id, in[n].round, in[n].s, api.OK)
	}
	wantIn(t, "any texts", x, in...)
	for _, i := range in {
		put(t, x, i.id, i.round, "other", api.ErrTwice)
	}
	wantIn(t, "still", x, in...)
}

// 11.1: what is in by an id stays as it was, in whatever round and as whatever it is put once more.
func TestTwice(t *testing.T) {
	for _, first := range edges() {
		x := table.New(2)
		put(t, x, "a", first, "one", api.OK)
		for _, round := range edges() {
			put(t, x, "a", round, "two", api.ErrTwice)
			put(t, x, "a", round, "one", api.ErrTwice)
			put(t, x, "a", round, "", api.ErrTwice)
		}
		wantIn(t, "twice", x, item{"a", first, "one"})
		put(t, x, "b", first, "one", api.OK)
		wantIn(t, "the same by another id", x, item{"a", first, "one"}, item{"b", first, "one"})
	}
}

// 11.1: of several errors the first is told: ErrTwice, ErrOld, ErrFull; nothing is changed by one.
func TestOrderOfErrors(t *testing.T) {
	x := table.New(1)
	drop(t, x, 5, 0)
	put(t, x, "b", 4, "s", api.ErrOld)
	put(t, x, "a", 7, "s", api.OK)
	in := item{"a", 7, "s"}
	put(t, x, "a", 4, "t", api.ErrTwice) // twice, old and full
	wantIn(t, "twice, old and full", x, in)
	put(t, x, "a", 5, "t", api.ErrTwice) // twice and full
	wantIn(t, "twice and full", x, in)
	put(t, x, "b", 4, "t", api.ErrOld) // old and full
	wantIn(t, "old and full", x, in)
	put(t, x, "b", 5, "t", api.ErrFull)
	wantIn(t, "full", x, in)
	roomy := table.New(2)
	put(t, roomy, "a", 7, "s", api.OK)
	drop(t, roomy, 5, 0)
	put(t, roomy, "a", 4, "t", api.ErrTwice) // twice and old
	wantIn(t, "twice and old", roomy, in)
	put(t, roomy, "b", 5, "t", api.OK)
	wantIn(t, "none", roomy, in, item{"b", 5, "t"})
}

// 11.1, 11.2: at first no round is too old, then those below what Drop was called with, and that one is not.
func TestOld(t *testing.T) {
	for _, round := range edges() {
		x := table.New(1)
		put(t, x, "a", round, "s", api.OK)
		wantIn(t, "at first", x, item{"a", round, "s"})
	}
	for _, bound := range edges() {
		for _, round := range edges() {
			x := table.New(1)
			drop(t, x, bound, 0)
			if round < bound {
				put(t, x, "a", round, "s", api.ErrOld)
				wantIn(t, "old", x)
				continue
			}
			put(t, x, "a", round, "s", api.OK)
			wantIn(t, "not old", x, item{"a", round, "s"})
		}
	}
}

// 11.1, 11.2: the bound is the greatest that Drop was called with, not the last.
func TestBoundOnlyRises(t *testing.T) {
	x := table.New(0) // where what is not old is refused as well, and so changes nothing
	for _, step := range []struct{ round, bound int }{{-5, -5}, {-9, -5}, {math.MinInt, -5}, {3, 3}, {3, 3}, {2, 3}, {-5, 3}, {4, 4}, {0, 4}, {9, 9}, {8, 9}, {math.MaxInt, math.MaxInt}, {0, math.MaxInt}} {
		drop(t, x, step.round, 0)
		put(t, x, "a", step.bound-1, "s", api.ErrOld)
		put(t, x, "a", step.bound, "s", api.ErrFull)
	}
	y := table.New(1)
	drop(t, y, 5, 0)
	put(t, y, "a", 5, "s", api.OK)
	drop(t, y, 5, 0)
	drop(t, y, 4, 0)
	wantIn(t, "at the bound", y, item{"a", 5, "s"})
	drop(t, y, 6, 1)
	put(t, y, "a", 5, "s", api.ErrOld)
}

// 11.2: the ids of each round alone, rising by their bytes, however they were put.
func TestIds(t *testing.T) {
	ids := texts()
	for turn := range 20 {
		x := table.New(2 * len(ids))
		for n := range ids {
			id := ids[(n*7+turn)%len(ids)]
			put(t, x, id, 4, "s", api.OK)
			put(t, x, "other "+id, 4+turn%3+1, "s", api.OK)
		}
		if l := x.Ids(4); !slices.Equal(l, ids) {
			t.Fatalf("Ids(4): %.40q, want %.40q", l, ids)
		}
		for _, round := range edges() {
			if l := x.Ids(round); len(l) != 0 {
				t.Fatalf("Ids(%d): %.40q", round, l)
			}
		}
	}
}

// R4: a list that was handed out is nobody's but the caller's, and stays as it is.
func TestIdsAreNewMemory(t *testing.T) {
	x := table.New(4)
	put(t, x, "a", 1, "s", api.OK)
	put(t, x, "b", 1, "s", api.OK)
	one, two := x.Ids(1), x.Ids(1)
	one[0] = "changed"
	_ = append(one[:1], "over it")
	if !slices.Equal(two, []string{"a", "b"}) {
		t.Errorf("the other list: %q", two)
	}
	wantIn(t, "behind a change", x, item{"a", 1, "s"}, item{"b", 1, "s"})
	put(t, x, "aa", 1, "s", api.OK)
	drop(t, x, 2, 3)
	if !slices.Equal(two, []string{"a", "b"}) {
		t.Errorf("the list behind Put and Drop: %q", two)
	}
}

// 11.2: at every round all of lesser ones are taken out, and no others.
func TestDrop(t *testing.T) {
	for _, bound := range edges() {
		x := table.New(100)
		var kept []item
		gone := 0
		for n, round := range edges() {
			for _, id := range []string{"a" + strconv.Itoa(n), "b" + strconv.Itoa(n)} {
				put(t, x, id, round, "s"+id, api.OK)
				if round < bound {
					gone++
				} else {
					kept = append(kept, item{id, round, "s" + id})
				}
			}
		}
		drop(t, x, bound, gone)
		wantIn(t, "behind Drop("+strconv.Itoa(bound)+")", x, kept...)
		drop(t, x, bound, 0)
		wantIn(t, "once more", x, kept...)
		for n, round := range edges() {
			if round < bound {
				wantNone(t, x, "a"+strconv.Itoa(n))
				put(t, x, "a"+strconv.Itoa(n), round, "s", api.ErrOld)
			}
		}
	}
}

// 11.2: what was taken out leaves room, and its id may be put anew, as something else.
func TestRoomAgain(t *testing.T) {
	for _, most := range []int{1, 2, api.MaxTable, 256} {
		x := table.New(most)
		for round := range 6 {
			var l []item
			for n := range most {
				l = append(l, item{strconv.Itoa(n), round, strconv.Itoa(n * round)})
				put(t, x, l[n].id, round, l[n].s, api.OK)
			}
			put(t, x, "more", round, "s", api.ErrFull)
			wantIn(t, "full", x, l...)
			drop(t, x, round, 0)
			put(t, x, "more", round, "s", api.ErrFull)
			drop(t, x, round+1, most)
			wantIn(t, "empty", x)
			wantNone(t, x, "0")
		}
	}
}

// 11.1, 11.2: all calls in long mingled rows answer as the plain table does; two tables that are used by turns know nothing of each other.
func TestMingled(t *testing.T) {
	seed := uint32(1)
	next := func(n int) int { // numbers that look like no order, the same ones at every run
		seed = seed*1664525 + 1013904223
		return int(seed>>8) % n
	}
	seen := map[api.Errno]int{}
	dropped := 0
	for _, most := range []int{0, 1, 5, 40} {
		tables := [2]*table.Table{table.New(most), table.New(most + 1)}
		plains := [2]*plain{{most: most, low: math.MinInt}, {most: most + 1, low: math.MinInt}}
		for step := range 3000 {
			k := next(2)
			x, p := tables[k], plains[k]
			id, round, s := strconv.Itoa(next(60)), step/50+next(9)-5, strconv.Itoa(step)
			if next(12) == 0 {
				n, want := x.Drop(round), p.drop(round)
				if n != want {
					t.Fatalf("step %d: Drop(%d): %d, want %d", step, round, n, want)
				}
				dropped += n
			} else {
				e, want := x.Put(id, round, s), p.put(id, round, s)
				if e != want {
					t.Fatalf("step %d: Put(%q, %d): error %d, want %d", step, id, round, e, want)
				}
				seen[e]++
			}
			wantIn(t, "step "+strconv.Itoa(step), tables[0], plains[0].in...)
			wantIn(t, "step "+strconv.Itoa(step), tables[1], plains[1].in...)
			if id = strconv.Itoa(next(60)); p.at(id) < 0 {
				wantNone(t, x, id)
			}
		}
	}
	if dropped == 0 || seen[api.OK] == 0 || seen[api.ErrTwice] == 0 || seen[api.ErrOld] == 0 || seen[api.ErrFull] == 0 {
		t.Errorf("the rows never came to all answers: %v, %d dropped", seen, dropped)
	}
}
