package place_test

import (
	"math"
	"slices"
	"testing"

	"tusk/place"
)

const most = 1 << 50

// minus is -0, which no constant is.
var minus = math.Copysign(0, -1)

// odd is parts of which none is a round: not whole, out of bounds, or no number.
func odd() []float64 {
	return []float64{
		0.5, 1.5, -0.5, -1, -most, most + 1, most + 0.25, most - 0.25, 1 << 53, 1 << 62, 1 << 63, 1 << 64, -1 << 63,
		math.SmallestNonzeroFloat64, -math.SmallestNonzeroFloat64, math.MaxFloat64, -math.MaxFloat64,
		math.Nextafter(0, 1), math.Nextafter(1, 0), math.Nextafter(1, 2), math.Nextafter(most, 0), math.Nextafter(most, most+1),
		math.NaN(), math.Inf(1), math.Inf(-1),
	}
}

// noPlaces is complex numbers that are no places: one part, the other or both are wrong.
func noPlaces() []complex128 {
	l := []complex128{complex(0, 7), complex(3, 8), complex(most, 7), complex(0, math.Nextafter(6, 7)), complex(1, most)}
	for _, x := range odd() {
		l = append(l, complex(x, 0), complex(x, 6), complex(0, x), complex(most, x), complex(x, x), complex(x, minus), complex(minus, x))
	}
	return l
}

// same tells whether two complex numbers are the same bit for bit, so -0 is not 0.
func same(p, q complex128) bool {
	return math.Float64bits(real(p)) == math.Float64bits(real(q)) && math.Float64bits(imag(p)) == math.Float64bits(imag(q))
}

// TestExample: the chapter's example.
func TestExample(t *testing.T) {
	if p, ok := place.Of(3, 1); p != 3+1i || !ok {
		t.Errorf("Of: %v, %v", p, ok)
	}
	if !place.Less(3+1i, 3+2i) {
		t.Error("Less: no")
	}
	if l := place.Sort([]complex128{3 + 1i, 2 + 6i, 3 + 1i, 1.5}); !slices.Equal(l, []complex128{2 + 6i, 3 + 1i}) {
		t.Errorf("Sort: %v", l)
	}
	if s, ok := place.Span(2+6i, 3+1i); s != 1-5i || !ok {
		t.Errorf("Span: %v, %v", s, ok)
	}
}

// 15.1, 15.3: Of within its bounds is the place of both, and taken apart it is both again.
func TestOf(t *testing.T) {
	for _, round := range []int{0, 1, 2, 3, 1<<31 - 1, 1 << 31, 1 << 32, 1<<49 + 1, most - 2, most - 1, most} {
		for author := 0; author <= 6; author++ {
			p, ok := place.Of(round, author)
			if !same(p, complex(float64(round), float64(author))) || !ok {
				t.Errorf("Of(%d, %d): %v, %v", round, author, p, ok)
			}
			if r, ok := place.Round(p); r != round || !ok {
				t.Errorf("Round(%v): %d, %v", p, r, ok)
			}
			if a, ok := place.Author(p); a != author || !ok {
				t.Errorf("Author(%v): %d, %v", p, a, ok)
			}
		}
	}
}

// 15.1: Of of what is out of bounds is 0 and false.
func TestOfOut(t *testing.T) {
	rounds := []int{-1, -2, math.MinInt, -most, most + 1, most + 2, 1 << 51, 1 << 53, 1<<53 + 1, 1 << 62, math.MaxInt}
	authors := []int{-1, 7, 8, -6, 1 << 8, 1 << 16, 1 << 32, 1<<32 + 1, -1 << 32, math.MinInt, math.MaxInt}
	out := func(round, author int) {
		if p, ok := place.Of(round, author); !same(p, 0) || ok {
			t.Errorf("Of(%d, %d): %v, %v", round, author, p, ok)
		}
	}
	for _, round := range rounds {
		out(round, 0)
		out(round, 6)
		for _, author := range authors {
			out(round, author)
		}
	}
	for _, author := range authors {
		out(0, author)
		out(3, author)
		out(most, author)
	}
}

// 15.1: of what is no place Round and Author are 0 and false, also where the part asked for is right.
func TestApartOut(t *testing.T) {
	for _, p := range noPlaces() {
		if r, ok := place.Round(p); r != 0 || ok {
			t.Errorf("Round(%v): %d, %v", p, r, ok)
		}
		if a, ok := place.Author(p); a != 0 || ok {
			t.Errorf("Author(%v): %d, %v", p, a, ok)
		}
	}
}

// 15.1: a part that is -0 is 0.
func TestMinusZero(t *testing.T) {
	for _, c := range []struct {
		p             complex128
		round, author int
	}{{complex(minus, minus), 0, 0}, {complex(minus, 0), 0, 0}, {complex(0, minus), 0, 0}, {complex(minus, 6), 0, 6}, {complex(most, minus), most, 0}} {
		if r, ok := place.Round(c.p); r != c.round || !ok {
			t.Errorf("Round(%v): %d, %v", c.p, r, ok)
		}
		if a, ok := place.Author(c.p); a != c.author || !ok {
			t.Errorf("Author(%v): %d, %v", c.p, a, ok)
		}
	}
	if place.Less(complex(minus, 0), 0) || place.Less(0, complex(minus, 0)) || place.Less(complex(0, minus), 0) || place.Less(0, complex(0, minus)) {
		t.Error("Less: -0 is not 0")
	}
	if !place.Less(complex(minus, minus), 1i) || !place.Less(complex(1, 6), complex(2, minus)) {
		t.Error("Less: no place with a -0")
	}
}

// 15.1, 15.2: answers hold no -0, whichever form of a place comes first.
func TestMinusZeroOut(t *testing.T) {
	zeros := []complex128{0, complex(minus, 0), complex(0, minus), complex(minus, minus)}
	for i := range zeros {
		l := append(slices.Clone(zeros[i:]), zeros[:i]...)
		if got := place.Sort(l); len(got) != 1 || !same(got[0], 0) {
			t.Errorf("Sort(%v): %v", l, got)
		}
		for _, q := range zeros {
			if s, ok := place.Span(zeros[i], q); !same(s, 0) || !ok {
				t.Errorf("Span(%v, %v): %v, %v", zeros[i], q, s, ok)
			}
		}
	}
	if s, ok := place.Span(complex(3, 2), complex(minus, minus)); !same(s, -3-2i) || !ok {
		t.Errorf("Span: %v, %v", s, ok)
	}
	if got := place.Sort([]complex128{complex(2, minus), complex(minus, 4)}); len(got) != 2 || !same(got[0], 4i) || !same(got[1], 2) {
		t.Errorf("Sort: %v", got)
	}
}

// ordered is places in their order, each neighbour by one of the ways in which two may differ.
func ordered() []complex128 {
	return []complex128{
		0, 1i, 5i, 6i, 1, 1 + 6i, 2, 2 + 1i, 2 + 6i, 3 + 1i, 3 + 2i, 10, 1 << 32, 1<<32 + 1i, 1<<32 + 1,
		most - 1, most - 1 + 6i, most, most + 1i, most + 6i,
	}
}

// 15.2: Less goes by rounds, then by authors; a place is not less than itself.
func TestLess(t *testing.T) {
	l := ordered()
	for i, p := range l {
		for j, q := range l {
			if place.Less(p, q) != (i < j) {
				t.Errorf("Less(%v, %v)", p, q)
			}
		}
	}
}

// 15.2: what is no place is less than nothing, and nothing is less than it.
func TestLessOut(t *testing.T) {
	for _, p := range noPlaces() {
		for _, q := range []complex128{0, 3 + 1i, most + 6i, p, -1, 7i} {
			if place.Less(p, q) || place.Less(q, p) {
				t.Errorf("Less of %v and %v", p, q)
			}
		}
	}
}

// 15.2: Sort brings places into their order, each once, and leaves out all else.
func TestSort(t *testing.T) {
	for _, l := range [][]complex128{nil, {}, noPlaces()} {
		if got := place.Sort(l); len(got) != 0 {
			t.Errorf("Sort(%v): %v", l, got)
		}
	}
	want := ordered()
	back := slices.Clone(want)
	slices.Reverse(back)
	for _, l := range [][]complex128{want, back, append(back, want...), append(noPlaces(), back...), append(append(slices.Clone(back), noPlaces()...), want...)} {
		if got := place.Sort(l); !slices.EqualFunc(got, want, same) {
			t.Errorf("Sort(%v): %v", l, got)
		}
	}
	if got := place.Sort([]complex128{5, 5, 5}); !slices.Equal(got, []complex128{5}) {
		t.Errorf("Sort: %v", got)
	}
}

// 15.2: Sort changes nothing of its list, nor behind its end, and answers memory of its own.
func TestSortMemory(t *testing.T) {
	room := []complex128{3, 1, 2, 1, 0.5, 9, 8}
	kept := slices.Clone(room)
	got := place.Sort(room[:5])
	if !slices.Equal(room, kept) {
		t.Errorf("the list is %v now", room)
	}
	for i := range room {
		room[i] = 77
	}
	if !slices.Equal(got, []complex128{1, 2, 3}) {
		t.Errorf("the answer is %v now", got)
	}
	sorted := []complex128{1, 2, 3}
	got = place.Sort(sorted)
	got = got[:cap(got)]
	for i := range got {
		got[i] = 77
	}
	if !slices.Equal(sorted, []complex128{1, 2, 3}) {
		t.Errorf("the list is %v now", sorted)
	}
}

// 15.2, 15.3: Span is by how much both parts differ, and added to the first place it is the second.
func TestSpan(t *testing.T) {
	l := ordered()
	for _, p := range l {
		for _, q := range l {
			s, ok := place.Span(p, q)
			if !same(s, complex(real(q)-real(p), imag(q)-imag(p))) || !ok {
				t.Errorf("Span(%v, %v): %v, %v", p, q, s, ok)
			}
			if p+s != q {
				t.Errorf("%v and %v are %v, not %v", p, s, p+s, q)
			}
		}
	}
	if s, _ := place.Span(most+6i, 0); !same(s, -most-6i) {
		t.Errorf("Span: %v", s)
	}
}

// 15.2: with one that is no place Span is 0 and false.
func TestSpanOut(t *testing.T) {
	for _, p := range noPlaces() {
		for _, q := range []complex128{0, 3 + 1i, most + 6i, p, -1} {
			if s, ok := place.Span(p, q); !same(s, 0) || ok {
				t.Errorf("Span(%v, %v): %v, %v", p, q, s, ok)
			}
			if s, ok := place.Span(q, p); !same(s, 0) || ok {
				t.Errorf("Span(%v, %v): %v, %v", q, p, s, ok)
			}
		}
	}
}
