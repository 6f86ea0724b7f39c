package net_test

import (
	"math"
	"slices"
	"strconv"
	"strings"
	"testing"

	"tusk/api"
	"tusk/net"
)

// env is one of many, each unlike the others in every field.
func env(n int) api.Env {
	return api.Env{From: n, To: n + 1, Bytes: "bytes " + strconv.Itoa(n)}
}

// envs is env of all numbers from one up to below another.
func envs(from, to int) []api.Env {
	var l []api.Env
	for n := from; n < to; n++ {
		l = append(l, env(n))
	}
	return l
}

// nowhere is places where nothing lies while so many are in.
func nowhere(size int) []int {
	return []int{size, size + 1, size + 255, size + 256, size + 1<<32, api.MaxBag, api.MaxBag + 1, api.MaxInt, math.MaxInt, -1, -2, -size - 1, -api.MaxBag, -1 << 32, math.MinInt32, math.MinInt}
}

// send lays things in that there must be room for.
func send(t *testing.T, b *net.Bag, l ...api.Env) {
	t.Helper()
	for _, e := range l {
		if !b.Send(e) {
			t.Errorf("Send(%v): false", e)
		}
	}
}

// filled is a bag with envs of 0 up to below a number.
func filled(t *testing.T, size int) *net.Bag {
	t.Helper()
	b := net.New()
	send(t, b, envs(0, size)...)
	return b
}

// wantIn is what is in, place by place, with nothing ahead of it and behind it, and how often something was lost.
func wantIn(t *testing.T, what string, b *net.Bag, l []api.Env, lost int) {
	t.Helper()
	if b.Len() != len(l) {
		t.Fatalf("%s: Len: %d, want %d", what, b.Len(), len(l))
	}
	for i, want := range l {
		if e, ok := b.At(i); e != want || !ok {
			t.Fatalf("%s: At(%d): %v, %v, want %v", what, i, e, ok, want)
		}
	}
	for _, i := range []int{-1, len(l)} {
		if e, ok := b.At(i); ok || e != (api.Env{}) {
			t.Fatalf("%s: At(%d) of %d: %v, %v", what, i, len(l), e, ok)
		}
	}
	if b.Lost() != lost {
		t.Fatalf("%s: Lost: %d, want %d", what, b.Lost(), lost)
	}
}

// wantTake is what Take answers.
func wantTake(t *testing.T, what string, b *net.Bag, i int, want api.Env) {
	t.Helper()
	if e, ok := b.Take(i); e != want || !ok {
		t.Errorf("%s: Take(%d): %v, %v, want %v", what, i, e, ok, want)
	}
}

// wantNone is that At, Take and Twice find nothing at a place.
func wantNone(t *testing.T, what string, b *net.Bag, i int) {
	t.Helper()
	if e, ok := b.At(i); ok || e != (api.Env{}) {
		t.Errorf("%s: At(%d): %v, %v", what, i, e, ok)
	}
	if e, ok := b.Take(i); ok || e != (api.Env{}) {
		t.Errorf("%s: Take(%d): %v, %v", what, i, e, ok)
	}
	if b.Twice(i) {
		t.Errorf("%s: Twice(%d): true", what, i)
	}
}

// The chapter's example.
func TestExample(t *testing.T) {
	one, two, three := api.Env{Bytes: "a"}, api.Env{Bytes: "b"}, api.Env{Bytes: "c"}
	b := net.New()
	send(t, b, one, two, three)
	wantTake(t, "example", b, 1, two)
	wantIn(t, "behind Take", b, []api.Env{one, three}, 0)
	if !b.Twice(0) {
		t.Errorf("Twice(0): false")
	}
	wantIn(t, "behind Twice", b, []api.Env{one, three, one}, 0)
}

// 10.1: nothing is in a new bag, and each has its own.
func TestNew(t *testing.T) {
	b, other := net.New(), net.New()
	wantIn(t, "new", b, nil, 0)
	for _, i := range nowhere(0) {
		wantNone(t, "new", b, i)
	}
	send(t, b, env(1))
	wantIn(t, "one of two", b, envs(1, 2), 0)
	wantIn(t, "the other", other, nil, 0)
}

// 10.1: what is sent lies behind all others, until MaxBag are in; then it is refused, and nothing is changed but Lost.
func TestSend(t *testing.T) {
	b := net.New()
	l := envs(0, api.MaxBag)
	for n := range l {
		wantIn(t, "with room", b, l[:n], 0)
		if !b.Send(l[n]) {
			t.Errorf("Send with %d in: false", n)
		}
	}
	for lost := range 2 * api.MaxBag {
		wantIn(t, "full", b, l, lost)
		if b.Send(env(api.MaxBag + lost)) {
			t.Errorf("Send when full: true")
		}
	}
	wantIn(t, "still full", b, l, 2*api.MaxBag)
}

// 10.1: whatever it is, it lies there as it was: nobody looks into it, and what is the same lies there as often as it was sent.
func TestAnything(t *testing.T) {
	all := ""
	for n := range 256 {
		all += string([]byte{byte(n)})
	}
	var l []api.Env
	for _, n := range []int{0, 1, -1, 7, 1 << 40, api.MaxInt, math.MaxInt, math.MinInt} {
		for _, s := range []string{"", "\x00", "\xff\xfe", all, strings.Repeat("x", api.MaxText+1)} {
			l = append(l, api.Env{From: n, Bytes: s}, api.Env{To: n, Bytes: s}, api.Env{From: n, To: n, Bytes: s})
		}
	}
	b := net.New()
	send(t, b, l...)
	wantIn(t, "anything", b, l, 0)
	for i := range l {
		wantTake(t, "anything", b, 0, l[i])
	}
	wantIn(t, "all taken", b, nil, 0)
}

// 10.1, 10.2: at a place that is none nothing is found, and nothing is changed; nothing is lost by it, also when it is full.
func TestNowhere(t *testing.T) {
	for _, size := range []int{0, 1, 2, 17, api.MaxBag - 1, api.MaxBag} {
		b := filled(t, size)
		for _, i := range nowhere(size) {
			wantNone(t, strconv.Itoa(size)+" in", b, i)
			wantIn(t, "behind none", b, envs(0, size), 0)
		}
	}
}

// 10.1: At changes nothing, however often and at whatever place it looks.
func TestAtLooksOnly(t *testing.T) {
	for _, size := range []int{1, 3, api.MaxBag} {
		b := filled(t, size)
		for range 2 {
			for i := size - 1; i >= 0; i-- {
				if e, ok := b.At(i); e != env(i) || !ok {
					t.Errorf("At(%d) of %d: %v, %v", i, size, e, ok)
				}
			}
		}
		wantIn(t, "behind At", b, envs(0, size), 0)
	}
}

// 10.2: of every size at every place the one there is taken out, and those behind it alone move up.
func TestTake(t *testing.T) {
	for _, size := range []int{1, 2, 3, 4, 5, 8, 9, 40, api.MaxBag - 1, api.MaxBag} {
		for i := range size {
			b := filled(t, size)
			wantTake(t, strconv.Itoa(size)+" in", b, i, env(i))
			wantIn(t, "behind Take", b, append(envs(0, i), envs(i+1, size)...), 0)
		}
	}
}

// 10.2: taken from the front they come in their order, from the end in the other one.
func TestTakeAll(t *testing.T) {
	b := filled(t, api.MaxBag)
	for n := range api.MaxBag {
		wantTake(t, "front", b, 0, env(n))
		wantIn(t, "front", b, envs(n+1, api.MaxBag), 0)
	}
	wantNone(t, "front", b, 0)
	send(t, b, envs(0, api.MaxBag)...)
	for n := api.MaxBag - 1; n >= 0; n-- {
		wantTake(t, "end", b, n, env(n))
		wantIn(t, "end", b, envs(0, n), 0)
	}
	wantNone(t, "end", b, 0)
}

// 10.2: a full bag has room for one again when one is taken out, and what is sent then lies behind all others; Lost stays.
func TestRoomAgain(t *testing.T) {
	for _, i := range []int{0, 1, 100, api.MaxBag - 2, api.MaxBag - 1} {
		b := filled(t, api.MaxBag)
		l := envs(0, api.MaxBag)
		for n := range 5 {
			if b.Send(env(-1)) {
				t.Errorf("Send when full: true")
			}
			wantTake(t, "full", b, i, l[i])
			l = slices.Delete(l, i, i+1)
			wantIn(t, "room for one", b, l, n+1)
			send(t, b, env(1000+n))
			l = append(l, env(1000+n))
			wantIn(t, "full again", b, l, n+1)
		}
	}
}

// 10.2: the one at a place lies once more behind all others, and where it was.
func TestTwice(t *testing.T) {
	for _, size := range []int{1, 2, 3, 8, api.MaxBag - 1} {
		for i := range size {
			b := filled(t, size)
			if !b.Twice(i) {
				t.Errorf("Twice(%d) of %d: false", i, size)
			}
			wantIn(t, "behind Twice", b, append(envs(0, size), env(i)), 0)
			wantTake(t, "the first", b, i, env(i))
			wantIn(t, "the second is left", b, append(append(envs(0, i), envs(i+1, size)...), env(i)), 0)
		}
	}
}

// 10.2: one alone is doubled until it is full; then each Twice is lost, but those at places that are none.
func TestTwiceWhenFull(t *testing.T) {
	b := net.New()
	send(t, b, env(3))
	for n := 1; n < api.MaxBag; n++ {
		if !b.Twice(n - 1) {
			t.Errorf("Twice with %d in: false", n)
		}
	}
	l := slices.Repeat(envs(3, 4), api.MaxBag)
	wantIn(t, "full", b, l, 0)
	for i := range api.MaxBag {
		if b.Twice(i) || b.Twice(i+api.MaxBag) || b.Twice(-i-1) {
			t.Errorf("Twice when full: true")
		}
		wantIn(t, "full", b, l, i+1)
	}
	if b.Send(env(4)) {
		t.Errorf("Send when full: true")
	}
	wantIn(t, "Send and Twice are lost alike", b, l, api.MaxBag+1)
}

// plain is a bag as the chapter says it, with every list anew.
type plain struct {
	in   []api.Env
	lost int
}

// send is what Send is to answer.
func (p *plain) send(e api.Env) bool {
	if len(p.in) >= 256 {
		p.lost++
		return false
	}
	p.in = append(slices.Clone(p.in), e)
	return true
}

// take is what Take is to answer.
func (p *plain) take(i int) (api.Env, bool) {
	if i < 0 || i >= len(p.in) {
		return api.Env{}, false
	}
	e := p.in[i]
	p.in = slices.Concat(p.in[:i], p.in[i+1:])
	return e, true
}

// twice is what Twice is to answer.
func (p *plain) twice(i int) bool {
	return i >= 0 && i < len(p.in) && p.send(p.in[i])
}

// 10.1, 10.2: all calls in long mingled rows, which drift to full and to empty, answer as the plain bag does; two bags that are used by turns know nothing of each other.
func TestMingled(t *testing.T) {
	bags := [2]*net.Bag{net.New(), net.New()}
	plains := [2]*plain{{}, {}}
	seed := uint32(1)
	next := func(n int) int { // numbers that look like no order, the same ones at every run
		seed = seed*1664525 + 1013904223
		return int(seed>>8) % n
	}
	fullest := 0
	for step := range 12000 {
		k := next(2)
		b, p := bags[k], plains[k]
		i := next(len(p.in)+4) - 2
		takes := 2
		if step/1500%2 == 1 {
			takes = 7
		}
		switch n := next(10); {
		case n < takes:
			e, ok := b.Take(i)
			if want, there := p.take(i); e != want || ok != there {
				t.Fatalf("step %d: Take(%d): %v, %v, want %v, %v", step, i, e, ok, want, there)
			}
		case n == 9:
			if ok, want := b.Twice(i), p.twice(i); ok != want {
				t.Fatalf("step %d: Twice(%d): %v", step, i, ok)
			}
		default:
			if ok, want := b.Send(env(step)), p.send(env(step)); ok != want {
				t.Fatalf("step %d: Send: %v", step, ok)
			}
		}
		fullest = max(fullest, len(p.in))
		wantIn(t, "step "+strconv.Itoa(step), bags[0], plains[0].in, plains[0].lost)
		wantIn(t, "step "+strconv.Itoa(step), bags[1], plains[1].in, plains[1].lost)
	}
	if fullest != api.MaxBag || plains[0].lost == 0 || plains[1].lost == 0 {
		t.Errorf("the rows never were full: %d, lost %d and %d", fullest, plains[0].lost, plains[1].lost)
	}
}
