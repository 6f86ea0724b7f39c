package access_test

import (
	"slices"
	"strconv"
	"strings"
	"testing"

	"tusk/access"
	"tusk/api"
)

// keys are the words of a text.
func keys(s string) []string { return strings.Fields(s) }

// uses is a transaction that reads and writes these keys.
func uses(reads, writes string) api.Tx {
	return api.Tx{Reads: keys(reads), Writes: keys(writes)}
}

// list is transactions by what they read and write, as "a b / c", one for each text.
func list(texts ...string) []api.Tx {
	var l []api.Tx
	for _, s := range texts {
		reads, writes, _ := strings.Cut(s, "/")
		l = append(l, uses(reads, writes))
	}
	return l
}

// clashes is that two are, or are not, in each other's way, whichever is the first.
func clashes(t *testing.T, a, b api.Tx, want bool) {
	t.Helper()
	if access.Clash(a, b) != want {
		t.Errorf("Clash(%.60v, %.60v): %v", a, b, !want)
	}
	if access.Clash(b, a) != want {
		t.Errorf("Clash(%.60v, %.60v): %v", b, a, !want)
	}
}

// edges is what Edges has to answer.
func edges(t *testing.T, l []api.Tx, want ...[2]int) {
	t.Helper()
	if got := access.Edges(l); !slices.Equal(got, want) {
		t.Errorf("Edges(%.200v): %v, want %v", l, got, want)
	}
}

// groups is what Groups has to answer.
func groups(t *testing.T, l []api.Tx, want ...int) {
	t.Helper()
	if got := access.Groups(l); !slices.Equal(got, want) {
		t.Errorf("Groups(%.200v): %v, want %v", l, got, want)
	}
}

// The chapter's example.
func TestExample(t *testing.T) {
	l := list("/a", "a/", "/b")
	clashes(t, l[0], l[1], true)
	clashes(t, l[0], l[2], false)
	clashes(t, l[1], l[2], false)
	edges(t, l, [2]int{0, 1})
	groups(t, l, 0, 0, 2)
	clashes(t, uses("a", ""), uses("a", ""), false)
	edges(t, list("a/", "a/"))
	groups(t, list("a/", "a/"), 0, 1)
}

// 20.1: a key that one writes and the other reads or writes is enough, wherever it stands; one that both read is not.
func TestClash(t *testing.T) {
	for _, x := range []struct {
		a, b string
		want bool
	}{
		{"/", "/", false},
		{"/", "a/a", false},
		{"/a", "/a", true},
		{"/a", "a/", true},
		{"a/", "a/", false},
		{"/a", "/b", false},
		{"/a", "b/c", false},
		{"a/a", "a/", true},
		{"a/a", "/a", true},
		{"a/b", "a/c", false},
		{"a/b", "b/a", true},
		{"a b c/d", "a b c/e", false},
		{"a b c/d", "a b c d/", true},
		{"a b c/d", "/c", true},
		{"/a b c", "c d e/", true},
		{"/a b c", "/c d e", true},
		{"/a b c", "d/e f", false},
		{"/a:a", "/k:a", false},
		{"/a:a", "a:aa/A:a", false},
		{"/a:a", "/a", false},
		{"/a:1 a:2 a:3 a:4 a:5 a:6 a:7 a:8", "/k:1 k:2 k:3 k:4 k:5 k:6 k:7 k:8", false},
		{"/a:1 a:2 a:3 a:4 a:5 a:6 a:7 a:8", "a:8/k:1 k:2 k:3 k:4 k:5 k:6 k:7 k:8", true},
	} {
		l := list(x.a, x.b)
		clashes(t, l[0], l[1], x.want)
		if x.want {
			edges(t, l, [2]int{0, 1})
			groups(t, l, 0, 0)
		} else {
			edges(t, l)
			groups(t, l, 0, 1)
		}
	}
}

// 20.1: a transaction that writes is in the way of one that declares the same; one that reads alone is not.
func TestClashWithItself(t *testing.T) {
	for s, want := range map[string]bool{"/": false, "a/": false, "a b/": false, "/a": true, "a/b": true, "a/a": true} {
		x := list(s)[0]
		clashes(t, x, x, want)
	}
	// Of one member there is no pair.
	edges(t, list("a/a"))
	groups(t, list("a/a"), 0)
}

// 20.1, Words: what they declare counts, not what they do.
func TestDeclaredAlone(t *testing.T) {
	a := api.Tx{Kind: api.Transfer, From: "a", To: "b", Amount: 1, Nonce: 1}
	b := api.Tx{Kind: api.Put, From: "a", Key: "b", Value: "v"}
	clashes(t, a, a, false)
	clashes(t, a, b, false)
	edges(t, []api.Tx{a, b, a, b})
	groups(t, []api.Tx{a, b, a, b}, 0, 1, 2, 3)
	a.Writes, b.Reads = keys("k:x"), keys("k:x")
	clashes(t, a, b, true)
	edges(t, []api.Tx{b, b, a}, [2]int{0, 2}, [2]int{1, 2})
	groups(t, []api.Tx{b, b, a}, 0, 0, 0)
	// Neither the kind nor a field that is wrong makes a difference.
	a.Kind, a.From, a.To, b.Kind, b.Nonce = 77, "", "?", -1, 1<<63
	clashes(t, a, b, true)
	a.Writes = keys("a:a")
	clashes(t, a, b, false)
}

// 20.1: pairs come with the first number rising, then the second, each once, the lesser number first.
func TestEdges(t *testing.T) {
	edges(t, nil)
	edges(t, []api.Tx{})
	edges(t, list("/"))
	edges(t, list("/a", "/a", "/a"), [2]int{0, 1}, [2]int{0, 2}, [2]int{1, 2})
	edges(t, list("a/", "a/", "/a", "a/"), [2]int{0, 2}, [2]int{1, 2}, [2]int{2, 3})
	// The keys' order is not that of the numbers.
	edges(t, list("/a b c", "c/", "/b", "a/", "/c"), [2]int{0, 1}, [2]int{0, 2}, [2]int{0, 3}, [2]int{0, 4}, [2]int{1, 4})
	edges(t, list("/z", "z/y", "y/x", "x/"), [2]int{0, 1}, [2]int{1, 2}, [2]int{2, 3})
	edges(t, list("/z a", "/y", "/a z", "y z/"), [2]int{0, 2}, [2]int{0, 3}, [2]int{1, 3}, [2]int{2, 3})
	// Several keys that are in the way make one pair.
	edges(t, list("a b c/a b c", "a b c/a b c"), [2]int{0, 1})
}

// 20.1: pairs go no further: those who are in the way of one alike need not be in each other's.
func TestEdgesGoNoFurther(t *testing.T) {
	edges(t, list("/a", "/a b", "/b"), [2]int{0, 1}, [2]int{1, 2})
	edges(t, list("/a", "/b", "a b/"), [2]int{0, 2}, [2]int{1, 2})
}

// 20.1: groups go as far as it hangs together, also by members that come later; each is told by its least number.
func TestGroups(t *testing.T) {
	groups(t, nil)
	groups(t, []api.Tx{})
	groups(t, list("/"), 0)
	groups(t, list("/", "/", "/"), 0, 1, 2)
	groups(t, list("/a", "/a b", "/b"), 0, 0, 0)
	groups(t, list("/a", "/b", "a b/"), 0, 0, 0)
	groups(t, list("/z", "z/y", "y/x", "x/"), 0, 0, 0, 0)
	groups(t, list("/x", "/y", "/x", "/y", "/z"), 0, 1, 0, 1, 4)
	// Two who read a key hang together by one who writes it, wherever that stands.
	groups(t, list("a/", "a/", "/b"), 0, 1, 2)
	groups(t, list("a/", "a/", "/a"), 0, 0, 0)
	groups(t, list("/b", "a/", "/a", "a/"), 0, 1, 1, 1)
	// The last one joins groups that stood apart.
	groups(t, list("/a", "/b", "/c", "/b", "/c", "/d"), 0, 1, 2, 1, 2, 5)
	groups(t, list("/a", "/b", "/c", "/b", "/c", "/d", "b/c"), 0, 1, 1, 1, 1, 5, 1)
	groups(t, list("/d", "/c d", "/b c", "/a b", "/a"), 0, 0, 0, 0, 0)
	groups(t, list("/a", "/b", "/c", "/d", "c/d", "a/b", "b/c"), 0, 0, 0, 0, 0, 0, 0)
	// A key that all read joins nobody.
	groups(t, list("x/a", "x/b", "x/a", "x/"), 0, 1, 0, 3)
}

// R6: keys may be any texts, in any order, any number of times.
func TestAnyKeys(t *testing.T) {
	long := strings.Repeat("l", 1<<20)
	for _, key := range []string{"", "\x00", "\xff\xfe", "ä", " ", "a:", long} {
		w := api.Tx{Writes: []string{"z", key, "b", key, "b"}}
		r := api.Tx{Reads: []string{"y", "x", key, key}}
		o := api.Tx{Reads: []string{"\x00\x00", "y", "l", "a:a"}, Writes: []string{long + "l", "\xff"}}
		clashes(t, w, w, true)
		clashes(t, w, r, true)
		clashes(t, r, r, false)
		clashes(t, w, o, false)
		clashes(t, r, o, false)
		edges(t, []api.Tx{r, o, w, w, r}, [2]int{0, 2}, [2]int{0, 3}, [2]int{2, 3}, [2]int{2, 4}, [2]int{3, 4})
		groups(t, []api.Tx{r, o, w, w, r}, 0, 1, 0, 0, 0)
	}
}

// numbered are so many keys.
func numbered(before string, many int) []string {
	l := make([]string, many)
	for i := range l {
		l[i] = before + strconv.Itoa(i)
	}
	return l
}

// R1, R6: lists that are far longer than those of right transactions.
func TestLongKeys(t *testing.T) {
	const many = 200000
	a := api.Tx{Reads: numbered("r", many), Writes: numbered("a", many)}
	b := api.Tx{Reads: numbered("r", many), Writes: numbered("b", many)}
	c := api.Tx{Reads: append(numbered("r", many), "b"+strconv.Itoa(many-1))}
	clashes(t, a, b, false)
	clashes(t, b, c, true)
	clashes(t, a, c, false)
	edges(t, []api.Tx{a, b, c}, [2]int{1, 2})
	groups(t, []api.Tx{a, b, c}, 0, 1, 1)
	same := make([]string, many)
	one := api.Tx{Writes: []string{""}}
	l := []api.Tx{{Reads: same}, {Writes: same}}
	for range 100 {
		l = append(l, one)
	}
	if n := len(access.Edges(l)); n != 102*101/2 {
		t.Errorf("%d pairs", n)
	}
	groups(t, l, make([]int, len(l))...)
}

// R1, R6: very many transactions, each in the way of the next one alone, or all of the first one.
func TestVeryMany(t *testing.T) {
	const many = 100000
	var row, star []api.Tx
	var pairs, rays [][2]int
	for i := range many {
		k := strconv.Itoa(i)
		row = append(row, api.Tx{Reads: []string{"k" + k}, Writes: []string{"k" + strconv.Itoa(i+1)}})
		star = append(star, api.Tx{Reads: []string{"s"}, Writes: []string{"k" + k}})
		if i > 0 {
			pairs = append(pairs, [2]int{i - 1, i})
			rays = append(rays, [2]int{0, i})
		}
	}
	star[0].Writes = []string{"s"}
	for _, x := range []struct {
		l    []api.Tx
		want [][2]int
	}{{row, pairs}, {star, rays}} {
		if got := access.Edges(x.l); !slices.Equal(got, x.want) {
			t.Errorf("%d pairs, of which the first are %v", len(got), got[:min(len(got), 5)])
		}
		if got := access.Groups(x.l); !slices.Equal(got, make([]int, many)) {
			t.Error("they are not one group")
		}
	}
	slices.Reverse(row)
	if got := access.Groups(row); !slices.Equal(got, make([]int, many)) {
		t.Error("backwards they are not one group")
	}
}

// R4: what is handed in is not changed, also in the room behind its end; answers are new memory.
func TestMemory(t *testing.T) {
	room := []string{"c", "a", "b", "a", "spare"}
	l := []api.Tx{{Reads: room[:1], Writes: room[1:4]}, {Reads: room[2:3]}, {Writes: room[:2]}, {From: "spare"}}[:3]
	edges(t, l, [2]int{0, 1}, [2]int{0, 2})
	groups(t, l, 0, 0, 0)
	clashes(t, l[0], l[1], true)
	clashes(t, l[1], l[2], false)
	if !slices.Equal(room, []string{"c", "a", "b", "a", "spare"}) || l[:4][3].From != "spare" {
		t.Errorf("handed in: %q", room)
	}
	first, second := access.Edges(l), access.Groups(l)
	first[0], second[1] = [2]int{7, 7}, 7
	_ = append(append(first[:1], [2]int{8, 8}), [2]int{9, 9})
	_ = append(second[:1], 8)
	edges(t, l, [2]int{0, 1}, [2]int{0, 2})
	groups(t, l, 0, 0, 0)
	kept, told := access.Edges(l), access.Groups(l)
	for i := range room {
		room[i] = "other"
	}
	if !slices.Equal(kept, [][2]int{{0, 1}, {0, 2}}) || !slices.Equal(told, []int{0, 0, 0}) {
		t.Errorf("told %v, %v", kept, told)
	}
}
