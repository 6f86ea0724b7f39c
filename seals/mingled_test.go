package seals_test

import (
	"math/bits"
	"slices"
	"strconv"
	"testing"

	"tusk/api"
	"tusk/auth"
	"tusk/seals"
)

// plain is a board by a list: of each open word the set of those whose tags are in.
type plain struct {
	table *auth.Table
	most  int
	open  []entry
}

type entry struct {
	word string
	in   uint
}

// at is where a word is open, or -1.
func (p *plain) at(word string) int {
	return slices.IndexFunc(p.open, func(x entry) bool { return x.word == word })
}

// begin is what Open is to answer.
func (p *plain) begin(word string) api.Errno {
	switch {
	case p.at(word) >= 0:
		return api.ErrTwice
	case len(p.open) >= p.most:
		return api.ErrFull
	}
	p.open = append(p.open, entry{word: word})
	return api.OK
}

// end is what Close is to do.
func (p *plain) end(word string) {
	p.open = slices.DeleteFunc(p.open, func(x entry) bool { return x.word == word })
}

// add is what Add is to answer, of a tag that is right or is not: whose tags, as a set.
func (p *plain) add(word string, who int, right bool) (uint, api.Errno) {
	i := p.at(word)
	switch {
	case i < 0:
		return 0, api.ErrNone
	case who < 0 || who >= p.table.N():
		return 0, api.ErrRange
	case !right:
		return 0, api.ErrTag
	case p.open[i].in>>who&1 == 1:
		return 0, api.ErrTwice
	}
	p.open[i].in |= 1 << who
	in := p.open[i].in
	if bits.OnesCount(in) < p.table.Need() {
		return 0, api.OK
	}
	p.end(word)
	return in, api.OK
}

// words is what Words is to answer.
func (p *plain) words() []string {
	var l []string
	for _, x := range p.open {
		l = append(l, x.word)
	}
	return l
}

// pair is a board, and the plain one that it is held against.
type pair struct {
	board *seals.Board
	plain *plain
}

// add is one Add of both; how many tags were answered, and the error.
func (p pair) add(t *testing.T, word string, who int, right bool) (int, api.Errno) {
	t.Helper()
	x := p.plain.table
	of := word
	if !right {
		of = word + "'s"
	}
	tag := api.Tag{Who: who}
	if who >= 0 && who < x.N() {
		tag = sign(t, x, who, "k", of)
	}
	in, e := p.plain.add(word, who, right)
	var want []api.Tag
	for one := range bits.Len(in) {
		if in>>one&1 == 1 {
			want = append(want, sign(t, x, one, "k", word))
		}
	}
	l, got := p.board.Add(word, tag)
	if !slices.Equal(l, want) || got != e {
		t.Fatalf("Add(%q, %d's): %x, error %d, want %x, error %d", word, who, l, got, want, e)
	}
	if len(l) > 0 && x.Enough(l, "k", word) != api.OK {
		t.Fatalf("Add(%q, %d's): %x are not enough", word, who, l)
	}
	return len(l), got
}

// begin is one Open of both.
func (p pair) begin(t *testing.T, word string) api.Errno {
	t.Helper()
	e, want := p.board.Open(word), p.plain.begin(word)
	if e != want {
		t.Fatalf("Open(%q): error %d, want %d", word, e, want)
	}
	return e
}

// steps answers numbers that look like no order, the same ones at every run.
func steps() func(n int) int {
	seed := uint32(1)
	return func(n int) int {
		seed = seed*1664525 + 1013904223
		return int(seed>>8) % n
	}
}

// 12.1, 12.2: all calls in long mingled rows answer as the plain board does; two boards that are used by turns know nothing of each other.
func TestMingled(t *testing.T) {
	next := steps()
	seen := map[api.Errno]int{}
	answers := 0
	for f := 1; f <= api.MaxF; f++ {
		x := table(t, f, "seed")
		for _, most := range []int{0, 1, 4, 12} {
			pairs := [2]pair{
				{seals.New(x, "k", most), &plain{table: x, most: most}},
				{seals.New(x, "k", most+1), &plain{table: x, most: most + 1}},
			}
			for range 3000 {
				p := pairs[next(2)]
				word := strconv.Itoa(next(most + 4))
				switch next(16) {
				case 0:
					p.board.Close(word)
					p.plain.end(word)
				case 1, 2, 3:
					seen[p.begin(t, word)]++
				default:
					n, e := p.add(t, word, next(x.N()+2)-1, next(9) > 0)
					seen[e]++
					answers += min(n, 1)
				}
				for _, q := range pairs {
					if l := q.board.Words(); !slices.Equal(l, q.plain.words()) {
						t.Fatalf("Words: %q, want %q", l, q.plain.words())
					}
				}
			}
		}
	}
	for _, e := range []api.Errno{api.OK, api.ErrTwice, api.ErrFull, api.ErrNone, api.ErrRange, api.ErrTag} {
		if seen[e] < 100 {
			t.Errorf("error %d came %d times", e, seen[e])
		}
	}
	if answers < 100 {
		t.Errorf("%d words were answered", answers)
	}
}

// 12.3: words that are opened once each are answered at most once, and all of them, when all tags have come, however these are mingled.
func TestOnce(t *testing.T) {
	next := steps()
	for f := 1; f <= api.MaxF; f++ {
		x := table(t, f, "seed")
		words := numbered(api.MaxTable)
		p := pair{seals.New(x, "k", len(words)), &plain{table: x, most: len(words)}}
		for _, w := range words {
			p.begin(t, w)
		}
		var row []int // each word's each tag, three times
		for i := range 3 * x.N() * len(words) {
			row = append(row, i)
		}
		for i := range row {
			k := i + next(len(row)-i)
			row[i], row[k] = row[k], row[i]
		}
		answers := map[string]int{}
		for _, i := range row {
			w := words[i%len(words)]
			if n, _ := p.add(t, w, i/len(words)%x.N(), true); n > 0 {
				answers[w]++
			}
		}
		for _, w := range words {
			if answers[w] != 1 {
				t.Errorf("%q was answered %d times", w, answers[w])
			}
		}
		wantOpen(t, "behind all tags", p.board)
	}
}
