package fetch_test

import (
	"slices"
	"strconv"
	"strings"
	"testing"

	"tusk/fetch"
)

// lined is a line of these.
func lined(ids ...string) *fetch.Line {
	l := fetch.NewLine()
	for _, id := range ids {
		l.Push(id)
	}
	return l
}

func yes(string) bool { return true }

func no(string) bool { return false }

// takes is what has to come out of a line next, and how many are left behind it.
func takes(t *testing.T, l *fetch.Line, id string, left int) {
	t.Helper()
	if got, ok := l.Next(yes); got != id || !ok {
		t.Fatalf("Next: %.40q, %v, want %.40q", got, ok, id)
	}
	if n := l.Len(); n != left {
		t.Fatalf("Len: %d, want %d", n, left)
	}
}

// holds is that nothing may come out of a line.
func holds(t *testing.T, l *fetch.Line, there func(id string) bool) {
	t.Helper()
	before := l.Len()
	if id, ok := l.Next(there); id != "" || ok {
		t.Fatalf("Next: %.40q, %v", id, ok)
	}
	if n := l.Len(); n != before {
		t.Fatalf("Len: %d, then %d", before, n)
	}
}

// 19.3: of a line of nothing nothing comes, and nobody is asked.
func TestLineEmpty(t *testing.T) {
	l := fetch.NewLine()
	if l == nil || l.Len() != 0 {
		t.Fatalf("NewLine: %v", l)
	}
	holds(t, l, func(id string) bool {
		t.Errorf("%q is asked for", id)
		return true
	})
	l.Push("a")
	takes(t, l, "a", 0)
	holds(t, l, func(id string) bool {
		t.Errorf("%q is asked for", id)
		return true
	})
}

// 19.3: the first one alone is asked for, once; while it is not there, what is there behind it waits.
func TestLineWaits(t *testing.T) {
	l := lined("a", "b", "c")
	for _, there := range []string{"", "b", "c", "bc"} {
		var asked []string
		holds(t, l, func(id string) bool {
			asked = append(asked, id)
			return strings.Contains(there, id)
		})
		if !slices.Equal(asked, []string{"a"}) {
			t.Errorf("there is %q: asked for %q", there, asked)
		}
	}
	for i, id := range []string{"a", "b", "c"} {
		var asked []string
		got, ok := l.Next(func(id string) bool {
			asked = append(asked, id)
			return true
		})
		if got != id || !ok || l.Len() != 2-i || !slices.Equal(asked, []string{id}) {
			t.Errorf("Next: %q, %v; asked for %q, %d left", got, ok, asked, l.Len())
		}
		holds(t, l, no)
	}
}

// 19.3: what stands there already may be lined up once more, and comes out as often.
func TestLineTwice(t *testing.T) {
	l := lined("a", "b", "a", "a", "")
	if l.Len() != 5 {
		t.Errorf("Len: %d", l.Len())
	}
	takes(t, l, "a", 4)
	l.Push("a")
	takes(t, l, "b", 4)
	takes(t, l, "a", 3)
	takes(t, l, "a", 2)
	takes(t, l, "", 1)
	takes(t, l, "a", 0)
	holds(t, l, yes)
}

// 19.3, R6: a line has no bound, and its ids may be any texts.
func TestLineOfManyAndLong(t *testing.T) {
	l := fetch.NewLine()
	const many = 300000
	for i := range many {
		l.Push(strconv.Itoa(i))
	}
	if l.Len() != many {
		t.Fatalf("Len: %d", l.Len())
	}
	for i := range many {
		takes(t, l, strconv.Itoa(i), many-1-i)
	}
	long := strings.Repeat("l", 1<<20)
	for _, id := range []string{long, "\x00", "\xff\xfe", long + "l", "ä"} {
		l.Push(id)
		holds(t, l, no)
		takes(t, l, id, 0)
	}
}

// 19.3: a line that is pushed to and taken from by turns stays in order, however often.
func TestLineByTurns(t *testing.T) {
	for _, stay := range []int{1, 2, 3, 8, 100} {
		l := lined(names(stay)...)
		for i := range 5000 {
			l.Push("id" + strconv.Itoa(stay+i))
			takes(t, l, "id"+strconv.Itoa(i), stay)
		}
	}
}

// R1: where no function says what is there, nothing is taken.
func TestLineOfNoFunction(t *testing.T) {
	holds(t, fetch.NewLine(), nil)
	l := lined("a")
	holds(t, l, nil)
	takes(t, l, "a", 0)
}

// R1: what is handed in may look at the line itself.
func TestLineLookedAt(t *testing.T) {
	l := lined("a", "b")
	if id, ok := l.Next(func(id string) bool { return l.Len() == 2 }); id != "a" || !ok {
		t.Errorf("Next: %q, %v", id, ok)
	}
	holds(t, l, func(id string) bool { return l.Len() != 1 })
}

// R4: lines share nothing.
func TestLinesApart(t *testing.T) {
	l, q := lined("a"), fetch.NewLine()
	if q.Len() != 0 {
		t.Errorf("Len: %d", q.Len())
	}
	q.Push("b")
	takes(t, l, "a", 0)
	takes(t, q, "b", 0)
}
