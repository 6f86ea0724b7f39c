package fetch_test

import (
	"math"
	"slices"
	"strconv"
	"strings"
	"testing"

	"tusk/api"
	"tusk/fetch"
)

// made is a desk that New must answer.
func made(t *testing.T, retry int) *fetch.Desk {
	t.Helper()
	d, e := fetch.New(retry)
	if d == nil || e != api.OK {
		t.Fatalf("New(%d): %v, %v", retry, d, e)
	}
	return d
}

// wanted is a desk where these are wanted of 0 and 1, in this order.
func wanted(t *testing.T, retry int, ids ...string) *fetch.Desk {
	t.Helper()
	d := made(t, retry)
	for _, id := range ids {
		must(t, d, api.OK, id, 0, 1)
	}
	return d
}

// must is what Want has to answer.
func must(t *testing.T, d *fetch.Desk, e api.Errno, id string, from ...int) {
	t.Helper()
	if got := d.Want(id, from); got != e {
		t.Fatalf("Want(%.40q, %v): %v, want %v", id, from, got, e)
	}
}

// wants is what has to be wanted, in this order.
func wants(t *testing.T, d *fetch.Desk, ids ...string) {
	t.Helper()
	if l := d.Wants(); !slices.Equal(l, ids) {
		t.Fatalf("Wants: %q, want %q", l, ids)
	}
}

// told is asks in words, of which long ones are cut off.
func told(l []fetch.Ask) string {
	s := ""
	for _, a := range l {
		s += " " + strconv.Quote(a.Id[:min(len(a.Id), 20)]) + " of " + strconv.Itoa(a.To)
	}
	return s
}

// asks is what has to be asked at the next tick.
func asks(t *testing.T, d *fetch.Desk, l ...fetch.Ask) {
	t.Helper()
	if got := d.Tick(); !slices.Equal(got, l) {
		t.Fatalf("Tick:%s, want%s", told(got), told(l))
	}
}

// quiet is ticks at which nothing is asked.
func quiet(t *testing.T, d *fetch.Desk, ticks int) {
	t.Helper()
	for range ticks {
		asks(t, d)
	}
}

// names are so many unlike ids.
func names(n int) []string {
	var l []string
	for i := range n {
		l = append(l, "id"+strconv.Itoa(i))
	}
	return l
}

// TestExample: the chapter's example.
func TestExample(t *testing.T) {
	d := made(t, 3)
	must(t, d, api.OK, "a", 5, 6)
	asks(t, d, fetch.Ask{Id: "a", To: 5})
	quiet(t, d, 2)
	asks(t, d, fetch.Ask{Id: "a", To: 6})
	quiet(t, d, 2)
	asks(t, d, fetch.Ask{Id: "a", To: 5})
}

// 19.1: New from 1 to 1000 wants nothing; else ErrRange, and no desk.
func TestNew(t *testing.T) {
	for _, retry := range []int{1, 2, 3, 256, 999, 1000} {
		d := made(t, retry)
		wants(t, d)
		quiet(t, d, 3)
	}
	for _, retry := range []int{0, -1, -3, -1000, 1001, 1002, 1 << 32, 1<<32 + 3, api.MaxInt, math.MaxInt, math.MinInt, math.MinInt32, math.MinInt + 1} {
		if d, e := fetch.New(retry); d != nil || e != api.ErrRange {
			t.Errorf("New(%d): %v, %v", retry, d, e)
		}
	}
}

// 19.1: Want of nobody is ErrFew, of what is wanted ErrTwice; neither changes anything.
func TestWantRefused(t *testing.T) {
	d := wanted(t, 2, "a", "b")
	if e := d.Want("c", nil); e != api.ErrFew {
		t.Errorf("Want of nil: %v", e)
	}
	must(t, d, api.ErrFew, "c")
	must(t, d, api.ErrTwice, "a", 7)
	must(t, d, api.ErrTwice, "b", 0, 1)
	wants(t, d, "a", "b")
	asks(t, d, fetch.Ask{Id: "a", To: 0}, fetch.Ask{Id: "b", To: 0})
	must(t, d, api.ErrTwice, "a", 8, 9)
	quiet(t, d, 1)
	must(t, d, api.ErrTwice, "b", 8)
	asks(t, d, fetch.Ask{Id: "a", To: 1}, fetch.Ask{Id: "b", To: 1})
	wants(t, d, "a", "b")
}

// 19.1: 64 things have room, one more is ErrFull until one is got; R2: ErrFew, then ErrTwice, then ErrFull.
func TestWantFull(t *testing.T) {
	ids := names(api.MaxTable)
	for _, gone := range []int{0, 1, 31, 62, 63} {
		d := wanted(t, 5, ids...)
		wants(t, d, ids...)
		must(t, d, api.ErrFull, "more", 1)
		must(t, d, api.ErrFull, "", 1)
		must(t, d, api.ErrFew, "more")
		must(t, d, api.ErrFew, ids[gone])
		must(t, d, api.ErrTwice, ids[gone], 4)
		wants(t, d, ids...)
		if n := len(d.Tick()); n != 64 {
			t.Errorf("%d are asked", n)
		}
		if !d.Got(ids[gone]) {
			t.Errorf("Got(%q): false", ids[gone])
		}
		must(t, d, api.OK, "more", 1)
		must(t, d, api.ErrFull, ids[gone], 1)
		wants(t, d, append(slices.Delete(slices.Clone(ids), gone, gone+1), "more")...)
		asks(t, d, fetch.Ask{Id: "more", To: 1})
	}
}

// 19.1, R2: where nobody has it, that is said first, also of what is wanted and where there is no room.
func TestWantOrder(t *testing.T) {
	d := wanted(t, 1, "a")
	must(t, d, api.ErrFew, "a")
	full := wanted(t, 1, names(64)...)
	must(t, full, api.ErrFew, "id3")
	must(t, full, api.ErrTwice, "id3", 1)
	must(t, full, api.ErrFew, "b")
	must(t, full, api.ErrFull, "b", 1)
}

// 19.1: Got is whether it was wanted; it is no longer. What is wanted again is new.
func TestGot(t *testing.T) {
	d := wanted(t, 4, "a", "b", "c")
	for _, id := range []string{"", "d", "A", "a ", "ab", "a\x00"} {
		if d.Got(id) {
			t.Errorf("Got(%q): true", id)
		}
	}
	wants(t, d, "a", "b", "c")
	asks(t, d, fetch.Ask{Id: "a", To: 0}, fetch.Ask{Id: "b", To: 0}, fetch.Ask{Id: "c", To: 0})
	if !d.Got("b") || d.Got("b") {
		t.Error("Got(b) twice: not true, then false")
	}
	wants(t, d, "a", "c")
	must(t, d, api.OK, "b", 8, 9)
	wants(t, d, "a", "c", "b")
	asks(t, d, fetch.Ask{Id: "b", To: 8})
	quiet(t, d, 2)
	asks(t, d, fetch.Ask{Id: "a", To: 1}, fetch.Ask{Id: "c", To: 1})
	if !d.Got("a") || !d.Got("c") {
		t.Error("Got(a), Got(c): false")
	}
	asks(t, d, fetch.Ask{Id: "b", To: 9})
	if !d.Got("b") || d.Got("a") {
		t.Error("Got(b), Got(a): not true, false")
	}
	wants(t, d)
	quiet(t, d, 10)
}

// 19.1, 19.2: what is got as soon as it is wanted is never asked; what is wanted anew behind that is asked at once.
func TestGotAtOnce(t *testing.T) {
	d := made(t, 9)
	must(t, d, api.OK, "a", 1, 2)
	if !d.Got("a") {
		t.Error("Got(a): false")
	}
	quiet(t, d, 2)
	for range 3 {
		must(t, d, api.OK, "a", 1, 2)
		asks(t, d, fetch.Ask{Id: "a", To: 1})
		if !d.Got("a") {
			t.Error("Got(a): false")
		}
	}
	quiet(t, d, 20)
}

// 19.2: one is asked behind the other, just retry ticks apart, behind the last one the first one again.
func TestTurns(t *testing.T) {
	for _, retry := range []int{1, 2, 3, 7, 999, 1000} {
		for _, from := range [][]int{{4}, {4, 4}, {3, 1}, {0, 1, 2}, {6, 6, 5}, {9, 8, 7, 6, 5, 4, 3}} {
			d := made(t, retry)
			quiet(t, d, 2)
			must(t, d, api.OK, "x", from...)
			for range 3 {
				for _, to := range from {
					asks(t, d, fetch.Ask{Id: "x", To: to})
					quiet(t, d, retry-1)
				}
			}
		}
	}
}

// 19.2: things that were wanted at different ticks keep time apart, and are asked in the order in which they were wanted.
func TestApart(t *testing.T) {
	d := wanted(t, 3, "z")
	asks(t, d, fetch.Ask{Id: "z", To: 0})
	must(t, d, api.OK, "y", 7)
	asks(t, d, fetch.Ask{Id: "y", To: 7})
	must(t, d, api.OK, "x", 3, 4)
	must(t, d, api.OK, "w", 5)
	asks(t, d, fetch.Ask{Id: "x", To: 3}, fetch.Ask{Id: "w", To: 5})
	must(t, d, api.OK, "a", 2)
	wants(t, d, "z", "y", "x", "w", "a")
	asks(t, d, fetch.Ask{Id: "z", To: 1}, fetch.Ask{Id: "a", To: 2})
	asks(t, d, fetch.Ask{Id: "y", To: 7})
	asks(t, d, fetch.Ask{Id: "x", To: 4}, fetch.Ask{Id: "w", To: 5})
	asks(t, d, fetch.Ask{Id: "z", To: 0}, fetch.Ask{Id: "a", To: 2})
	wants(t, d, "z", "y", "x", "w", "a")
}

// 19.1, R6: ids may be any texts, and those who have it any numbers, any number of times.
func TestAnything(t *testing.T) {
	d := made(t, 1)
	long := strings.Repeat("l", 1<<20)
	from := []int{math.MinInt, -1, 0, math.MaxInt, 0, 7, 7}
	ids := []string{"", "\x00", "\xff\xfe", long, long + "l", "ä"}
	for _, id := range ids {
		must(t, d, api.OK, id, from...)
		must(t, d, api.ErrTwice, id, from...)
	}
	wants(t, d, ids...)
	for i := range 2 * len(from) {
		var l []fetch.Ask
		for _, id := range ids {
			l = append(l, fetch.Ask{Id: id, To: from[i%len(from)]})
		}
		asks(t, d, l...)
	}
	many := make([]int, 1<<16)
	for i := range many {
		many[i] = -i
	}
	d = made(t, 1)
	must(t, d, api.OK, "m", many...)
	for i := range many {
		asks(t, d, fetch.Ask{Id: "m", To: -i})
	}
	asks(t, d, fetch.Ask{Id: "m", To: 0})
}

// R4: who has it is neither kept nor changed, also in the room behind its end; answers are new memory.
func TestMemory(t *testing.T) {
	d := made(t, 1)
	room := []int{1, 2, 3, 4}
	must(t, d, api.OK, "a", room[:2]...)
	must(t, d, api.OK, "b", room[1:3]...)
	if !slices.Equal(room, []int{1, 2, 3, 4}) {
		t.Errorf("handed in: %v", room)
	}
	for i := range room {
		room[i] = 99
	}
	first := d.Tick()
	second := d.Tick()
	if !slices.Equal(first, []fetch.Ask{{Id: "a", To: 1}, {Id: "b", To: 2}}) || !slices.Equal(second, []fetch.Ask{{Id: "a", To: 2}, {Id: "b", To: 3}}) {
		t.Errorf("asked %v, then %v", first, second)
	}
	if !slices.Equal(room, []int{99, 99, 99, 99}) {
		t.Errorf("handed in: %v", room)
	}
	first[0], second[1] = fetch.Ask{}, fetch.Ask{}
	asks(t, d, fetch.Ask{Id: "a", To: 1}, fetch.Ask{Id: "b", To: 2})
	l := d.Wants()
	_ = append(l[:1], "y")
	l[0] = "x"
	wants(t, d, "a", "b")
	kept := d.Wants()
	d.Got("a")
	must(t, d, api.OK, "c", 1)
	if !slices.Equal(kept, []string{"a", "b"}) {
		t.Errorf("told %q", kept)
	}
	wants(t, d, "b", "c")
}

// R4: desks share nothing.
func TestDesksApart(t *testing.T) {
	d, q := wanted(t, 2, "a"), wanted(t, 3, "a", "b")
	d.Tick()
	if !q.Got("a") {
		t.Error("Got(a): false")
	}
	wants(t, d, "a")
	wants(t, q, "b")
	asks(t, q, fetch.Ask{Id: "b", To: 0})
	asks(t, d)
	asks(t, d, fetch.Ask{Id: "a", To: 1})
	quiet(t, q, 2)
}

// 19.2: telling what is wanted changes nothing, and is no tick.
func TestWantsIsNoTick(t *testing.T) {
	d := wanted(t, 2, "a")
	asks(t, d, fetch.Ask{Id: "a", To: 0})
	for range 5 {
		wants(t, d, "a")
		d.Got("b")
	}
	asks(t, d)
	asks(t, d, fetch.Ask{Id: "a", To: 1})
}
