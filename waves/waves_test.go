package waves_test

import (
	"fmt"
	"math"
	"slices"
	"strconv"
	"strings"
	"testing"

	"tusk/api"
	"tusk/waves"
)

// list is transactions by what they read and write, as "a b / c", one for each text.
func list(texts ...string) []api.Tx {
	var l []api.Tx
	for _, s := range texts {
		reads, writes, _ := strings.Cut(s, "/")
		l = append(l, api.Tx{Reads: strings.Fields(reads), Writes: strings.Fields(writes)})
	}
	return l
}

// samePlan is that two plans have the same waves, in the same order.
func samePlan(a, b [][]int) bool { return slices.EqualFunc(a, b, slices.Equal[[]int]) }

// asPlan puts members of these waves into a plan.
func asPlan(of []int) [][]int {
	var plan [][]int
	for i, wave := range of {
		for len(plan) <= wave {
			plan = append(plan, nil)
		}
		plan[wave] = append(plan[wave], i)
	}
	return plan
}

// brief is how a list is told: its beginning, as some are very long.
func brief(l any) string {
	s := fmt.Sprint(l)
	return s[:min(len(s), 400)]
}

// answers is that Of and Plan have these waves, and that Check takes the plan.
func answers(t *testing.T, l []api.Tx, want ...int) {
	t.Helper()
	if got := waves.Of(l); !slices.Equal(got, want) {
		t.Errorf("Of(%s): %s, want %s", brief(l), brief(got), brief(want))
	}
	plan := waves.Plan(l)
	if !samePlan(plan, asPlan(want)) {
		t.Errorf("Plan(%s): %s, want %s", brief(l), brief(plan), brief(asPlan(want)))
	}
	checks(t, l, plan, api.OK)
}

// checks is what Check has to answer.
func checks(t *testing.T, l []api.Tx, plan [][]int, want api.Errno) {
	t.Helper()
	if got := waves.Check(l, plan); got != want {
		t.Errorf("Check(%s, %s): %v, want %v", brief(l), brief(plan), got, want)
	}
}

// The chapter's example.
func TestExample(t *testing.T) {
	l := list("/a", "a/", "/b", "/a")
	answers(t, l, 0, 1, 0, 2)
	if plan := waves.Plan(l); !samePlan(plan, [][]int{{0, 2}, {1}, {3}}) {
		t.Errorf("Plan: %v", plan)
	}
}

// Words, 21.1: 0, if no earlier one is in its way; else 1 more than the greatest wave of an earlier one that is.
func TestWaves(t *testing.T) {
	for _, x := range []struct {
		l    []api.Tx
		want []int
	}{
		{nil, nil},
		{[]api.Tx{}, nil},
		{list("/"), []int{0}},
		{list("/", "/", "/"), []int{0, 0, 0}},
		// One alone is not in its own way.
		{list("a/a"), []int{0}},
		{list("a b/b a"), []int{0}},
		{list("/a", "/a", "/a"), []int{0, 1, 2}},
		{list("/a", "/b", "/c"), []int{0, 0, 0}},
		{list("a/", "a/", "a/"), []int{0, 0, 0}},
		// A reader is behind the writer, a writer behind all readers, and these beside each other.
		{list("/a", "a/", "a/", "/a", "a/"), []int{0, 1, 1, 2, 3}},
		{list("a/", "a/", "/a", "a/"), []int{0, 0, 1, 2}},
		{list("a/", "/a"), []int{0, 1}},
		// One that reads and writes a key is as one that writes it.
		{list("a/a", "a/a", "a/", "a/a"), []int{0, 1, 2, 3}},
		{list("a/a", "a/", "a/"), []int{0, 1, 1}},
		// The greatest wave counts, not the last one in its way, and not the first.
		{list("/a", "/a", "/b", "/a b"), []int{0, 1, 0, 2}},
		{list("/b", "/a", "/a", "/b a"), []int{0, 0, 1, 2}},
		{list("/a", "/a", "/a", "/b", "b/", "a b/", "/b"), []int{0, 1, 2, 0, 1, 3, 4}},
		// A reader of a late wave counts for a writer, though one of an early wave stands behind it.
		{list("/b", "/b", "a b/", "a/", "/a"), []int{0, 1, 2, 0, 3}},
		{list("/b", "/b", "a b/", "a/", "a/", "a/"), []int{0, 1, 2, 0, 0, 0}},
		// And a reader of a late wave does not put off other readers.
		{list("/a", "/b", "/b", "a b/", "a/"), []int{0, 0, 1, 2, 1}},
		// Waves go on from one to the next, over keys that are not shared by all.
		{list("/z", "z/y", "y/x", "x/"), []int{0, 1, 2, 3}},
		{list("x/", "y/x", "z/y", "/z"), []int{0, 1, 2, 3}},
		{list("/a", "/b", "a b/c", "/d", "c/d"), []int{0, 0, 1, 0, 2}},
		// Those who are in the way of one alike need not be in each other's.
		{list("/a b", "/a", "/b"), []int{0, 1, 1}},
		// A wave may be made by a key in the reads, in the writes, wherever it stands.
		{list("/c", "a b c/"), []int{0, 1}},
		{list("a b c/d", "/c"), []int{0, 1}},
		{list("/a b c", "/c d"), []int{0, 1}},
		{list("/a:a", "a:aa A:a a/k:a"), []int{0, 0}},
	} {
		answers(t, x.l, x.want...)
	}
}

// 21.1: what they declare counts, not what they do, nor whether they are right.
func TestDeclaredAlone(t *testing.T) {
	a := api.Tx{Kind: api.Transfer, From: "a", To: "b", Amount: 1}
	b := api.Tx{Kind: api.Put, From: "a", Key: "b", Value: "v"}
	answers(t, []api.Tx{a, b, a, b}, 0, 0, 0, 0)
	a.Writes, b.Reads = []string{"k:x"}, []string{"k:x"}
	answers(t, []api.Tx{b, a, b, b, a}, 0, 1, 2, 2, 3)
	a.Kind, a.From, a.To, b.Kind, b.Nonce = 77, "", "?", -1, 1<<63
	answers(t, []api.Tx{b, a, b, b, a}, 0, 1, 2, 2, 3)
}

// 21.1: a wave's members are rising, and every wave up to the last has some.
func TestPlan(t *testing.T) {
	for _, x := range []struct {
		l    []api.Tx
		want [][]int
	}{
		{nil, nil},
		{list("/"), [][]int{{0}}},
		{list("/", "/a", "/"), [][]int{{0, 1, 2}}},
		{list("/a", "/b", "/a", "/b", "/c", "/a"), [][]int{{0, 1, 4}, {2, 3}, {5}}},
		{list("/a", "/a", "/a", "/b", "/b", "/c"), [][]int{{0, 3, 5}, {1, 4}, {2}}},
	} {
		if got := waves.Plan(x.l); !samePlan(got, x.want) {
			t.Errorf("Plan(%v): %v, want %v", x.l, got, x.want)
		}
	}
}

// 21.2: each error by itself, and plans that are right, though Plan would not make them.
func TestCheck(t *testing.T) {
	l := list("/a", "a/", "/b", "/a")
	for _, x := range []struct {
		plan [][]int
		want api.Errno
	}{
		{[][]int{{0, 2}, {1}, {3}}, api.OK},
		{[][]int{{2, 0}, {1}, {3}}, api.OK},
		{[][]int{{0}, {2, 1}, {3}}, api.OK},
		{[][]int{{0}, {1}, {2, 3}}, api.OK},
		{[][]int{{0}, {1}, {3, 2}}, api.OK},
		{[][]int{{2}, {0}, {1}, {3}}, api.OK},
		{[][]int{{0}, {1}, {3}, {2}}, api.OK},
		{[][]int{{}, {0}, nil, {}, {1, 2}, {3}, {}}, api.OK},
		{[][]int{{0, 2}, {1}, {3}, {4}}, api.ErrRange},
		{[][]int{{0, 2}, {1}, {3, -1}}, api.ErrRange},
		{[][]int{{math.MinInt}, {0, 2}, {1}, {3}}, api.ErrRange},
		{[][]int{{0, 2}, {1, math.MaxInt}, {3}}, api.ErrRange},
		{[][]int{{0, 2, 0}, {1}, {3}}, api.ErrTwice},
		{[][]int{{0, 2}, {1}, {3}, {2}}, api.ErrTwice},
		{[][]int{{0, 2}, {1}, {3, 3}}, api.ErrTwice},
		{nil, api.ErrFew},
		{[][]int{}, api.ErrFew},
		{[][]int{{}, {}, {}, {}}, api.ErrFew},
		{[][]int{{0, 2}, {1}}, api.ErrFew},
		{[][]int{{2}, {1}, {3}}, api.ErrFew},
		{[][]int{{0}, {1}, {3}}, api.ErrFew},
		{[][]int{{0, 1}, {2}, {3}}, api.ErrClash},
		{[][]int{{1, 0}, {2}, {3}}, api.ErrClash},
		{[][]int{{0, 2}, {1, 3}}, api.ErrClash},
		{[][]int{{0, 2}, {3, 1}}, api.ErrClash},
		{[][]int{{0, 2, 3}, {1}}, api.ErrClash},
		{[][]int{{0, 1, 2, 3}}, api.ErrClash},
		{[][]int{{1}, {0, 2}, {3}}, api.ErrOrder},
		{[][]int{{0, 2}, {3}, {1}}, api.ErrOrder},
		{[][]int{{3, 2}, {0}, {1}}, api.ErrOrder},
		{[][]int{{1, 2}, {}, {0}, {3}}, api.ErrOrder},
		{[][]int{{3}, {1}, {2}, {0}}, api.ErrOrder},
	} {
		checks(t, l, x.plan, x.want)
	}
}

// 21.2: of no members every plan with a number is out of range; any waves without numbers are right.
func TestCheckOfNone(t *testing.T) {
	for _, l := range [][]api.Tx{nil, {}} {
		checks(t, l, nil, api.OK)
		checks(t, l, [][]int{}, api.OK)
		checks(t, l, [][]int{nil, {}, {}}, api.OK)
		checks(t, l, [][]int{{}, {0}}, api.ErrRange)
		checks(t, l, [][]int{{-1}}, api.ErrRange)
	}
	checks(t, list("/"), [][]int{{0}}, api.OK)
	checks(t, list("/"), [][]int{{1}}, api.ErrRange)
}

// 21.2: which are in each other's way: a reader and a writer either way, two writers, not two readers.
func TestCheckInWay(t *testing.T) {
	for _, x := range []struct {
		a, b  string
		inWay int
	}{
		{"/", "/", 0},
		{"/a", "/b", 0},
		{"a/", "a/", 0},
		{"a/b", "a/c", 0},
		{"/a", "/a", 1},
		{"/a", "a/", 1},
		{"a/", "/a", 1},
		{"a/a", "a/", 1},
		{"a/", "a/a", 1},
		{"a/a", "a/a", 1},
		{"a/b", "b/c", 1},
		{"b/c", "a/b", 1},
		{"a b c/d", "a b c/e", 0},
		{"a b c/d", "e d/", 1},
		{"e d/", "a b c/d", 1},
	} {
		l := list(x.a, x.b)
		errors := [2][2]api.Errno{{api.OK, api.OK}, {api.ErrClash, api.ErrOrder}}[x.inWay]
		checks(t, l, [][]int{{0}, {1}}, api.OK)
		checks(t, l, [][]int{{0, 1}}, errors[0])
		checks(t, l, [][]int{{1, 0}}, errors[0])
		checks(t, l, [][]int{{1}, {0}}, errors[1])
	}
}

// 21.2: of several errors the one that the chapter names first; of ErrRange and ErrTwice the one that comes first, wave by wave.
func TestCheckOrder(t *testing.T) {
	l := list("/a", "a/", "/b", "/a")
	for _, x := range []struct {
		plan [][]int
		want api.Errno
	}{
		{[][]int{{4, 0, 0}, {1}, {2}, {3}}, api.ErrRange},
		{[][]int{{0, 0, 4}, {1}, {2}, {3}}, api.ErrTwice},
		{[][]int{{0, 4}, {1, 0}, {2}, {3}}, api.ErrRange},
		{[][]int{{0}, {1, 0}, {2, 4}, {3}}, api.ErrTwice},
		{[][]int{{0, 1, 2, 3}, {}, {3}, {-1}}, api.ErrTwice},
		{[][]int{{0, 1, 2, 3}, {}, {-1}, {3}}, api.ErrRange},
		{[][]int{{-1, -1}}, api.ErrRange},
		{[][]int{{4}, {4}}, api.ErrRange},
		{[][]int{{0}, {4}}, api.ErrRange},
		{[][]int{{0}, {0}}, api.ErrTwice},
		{[][]int{{0, 1, 4}, {2}, {3}}, api.ErrRange},
		{[][]int{{0, 1, 1}, {2}, {3}}, api.ErrTwice},
		{[][]int{{3}, {2}, {1}, {0}, {5}}, api.ErrRange},
		{[][]int{{3}, {2}, {1}, {0}, {3}}, api.ErrTwice},
		{[][]int{{0, 1}, {3}}, api.ErrFew},
		{[][]int{{3}, {1}, {0}}, api.ErrFew},
		// Two that clash in the last wave are told ahead of two that are out of order in the first ones.
		{[][]int{{1}, {0, 3}, {2}}, api.ErrClash},
		{[][]int{{3}, {2}, {0, 1}}, api.ErrClash},
		{[][]int{{0, 1}, {3}, {2}}, api.ErrClash},
	} {
		checks(t, l, x.plan, x.want)
	}
	// Out of order with one that is far off, while those between are not in the way.
	l = list("/a", "/b", "/c", "/d", "a/")
	checks(t, l, [][]int{{1, 2, 3, 4}, {0}}, api.ErrOrder)
	checks(t, l, [][]int{{1, 2, 3}, {0}, {4}}, api.OK)
	// Only those in each other's way count, not those who hang together by others.
	l = list("/a", "/a b", "/b")
	checks(t, l, [][]int{{0}, {1}, {2}}, api.OK)
	checks(t, l, [][]int{{0, 2}, {1}}, api.ErrOrder)
	l = list("a/", "/b", "a/b")
	checks(t, l, [][]int{{1}, {2}, {0}}, api.OK)
}

// R6: keys may be any texts, in any order, any number of times.
func TestAnyKeys(t *testing.T) {
	long := strings.Repeat("l", 1<<20)
	for _, key := range []string{"", "\x00", "\xff\xfe", "ä", " ", "a:", long} {
		w := api.Tx{Writes: []string{"z", key, "b", key, "b"}}
		r := api.Tx{Reads: []string{"y", "x", key, key}}
		o := api.Tx{Reads: []string{"\x00\x00", "y", "l", "a:a"}, Writes: []string{long + "l", "\xff"}}
		answers(t, []api.Tx{r, o, w, w, r, r, w}, 0, 0, 1, 2, 3, 3, 4)
		checks(t, []api.Tx{r, w}, [][]int{{0, 1}}, api.ErrClash)
		checks(t, []api.Tx{r, w}, [][]int{{1}, {0}}, api.ErrOrder)
		checks(t, []api.Tx{r, o, r}, [][]int{{2, 1, 0}}, api.OK)
	}
}

// numbered are so many keys.
func numbered(before string, many int) []string {
	l := make([]string, many)
	for i := range l {
		l[i] = before + strconv.Itoa(i)
	}
	return l
}

// R1, R6: lists that are far longer than those of right transactions.
func TestLongKeys(t *testing.T) {
	const many = 200000
	a := api.Tx{Reads: numbered("r", many), Writes: numbered("a", many)}
	b := api.Tx{Reads: numbered("r", many), Writes: numbered("b", many)}
	c := api.Tx{Reads: append(numbered("r", many), "b"+strconv.Itoa(many-1))}
	answers(t, []api.Tx{a, b, c, b}, 0, 0, 1, 2)
	checks(t, []api.Tx{a, b, c}, [][]int{{2, 0, 1}}, api.ErrClash)
	same := make([]string, many)
	answers(t, []api.Tx{{Reads: same}, {Writes: same}, {Reads: same, Writes: same}}, 0, 1, 2)
}

// R1, R6: very many transactions, all in each other's way, or of two waves, or of one.
func TestVeryMany(t *testing.T) {
	const many = 200000
	row, fan, apart := make([]api.Tx, many), make([]api.Tx, many), make([]api.Tx, many)
	rising, one := make([]int, many), make([]int, many)
	for i := range many {
		row[i].Writes = []string{"k"}
		fan[i].Reads = []string{"k"}
		apart[i].Writes = []string{strconv.Itoa(i)}
		rising[i], one[i] = i, 1
	}
	fan[0], one[0] = row[0], 0
	answers(t, row, rising...)
	answers(t, fan, one...)
	answers(t, apart, make([]int, many)...)
	plan := waves.Plan(row)
	checks(t, fan, plan, api.OK)
	checks(t, apart, plan, api.OK)
	plan[many-1], plan[many-2] = plan[many-2], plan[many-1]
	checks(t, row, plan, api.ErrOrder)
	plan[many-1][0] = many - 1
	checks(t, row, plan, api.ErrTwice)
	checks(t, row, [][]int{rising}, api.ErrClash)
	checks(t, fan, [][]int{rising}, api.ErrClash)
	checks(t, fan, [][]int{rising[1:], {0}}, api.ErrOrder)
	checks(t, fan, [][]int{rising[1:]}, api.ErrFew)
}

// R4: what is handed in is not changed, also in the room behind its end; answers are new memory, and no two waves share any.
func TestMemory(t *testing.T) {
	room := []string{"c", "a", "b", "a", "spare"}
	l := []api.Tx{{Reads: room[:1], Writes: room[1:4]}, {Reads: room[2:3]}, {Writes: room[:2]}, {From: "spare"}}[:3]
	answers(t, l, 0, 1, 1)
	numbers := []int{0, 2, 1, 7}
	plan := [][]int{numbers[:1], numbers[1:3], {7}}[:2]
	checks(t, l, plan, api.OK)
	checks(t, l, [][]int{numbers[1:3], numbers[:1]}, api.ErrOrder)
	if !slices.Equal(numbers, []int{0, 2, 1, 7}) || !samePlan(plan[:3], [][]int{{0}, {2, 1}, {7}}) {
		t.Errorf("handed in: %v, %v", numbers, plan[:3])
	}
	if !slices.Equal(room, []string{"c", "a", "b", "a", "spare"}) || l[:4][3].From != "spare" {
		t.Errorf("handed in: %q", room)
	}
	of, first, second := waves.Of(l), waves.Plan(l), waves.Plan(l)
	_ = append(of[:1], 8, 9)
	_ = append(first[0], 8, 9, 10)
	_ = append(first[1][:0], 5, 6)
	if !samePlan(first, [][]int{{0}, {5, 6}}) || !samePlan(second, [][]int{{0}, {1, 2}}) {
		t.Errorf("Plan: %v, %v", first, second)
	}
	for i := range room {
		room[i] = "other"
	}
	if !samePlan(second, [][]int{{0}, {1, 2}}) {
		t.Errorf("Plan: %v", second)
	}
}
