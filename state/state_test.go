package state_test

import (
	"encoding/hex"
	"math"
	"slices"
	"strconv"
	"strings"
	"testing"

	"tusk/api"
	"tusk/state"
)

// pay is a right transfer that declares what it needs.
func pay(from, to string, amount, nonce uint64) api.Tx {
	keys := []string{"a:" + from, "a:" + to}
	slices.Sort(keys)
	return api.Tx{Kind: api.Transfer, From: from, To: to, Amount: amount, Nonce: nonce, Writes: slices.Compact(keys)}
}

// put is a right Put that declares what it needs.
func put(from, key, value string, nonce uint64) api.Tx {
	return api.Tx{Kind: api.Put, From: from, Key: key, Value: value, Nonce: nonce, Writes: []string{"a:" + from, "k:" + key}}
}

// rich is a state in which those have so much.
func rich(funds uint64, names ...string) *state.State { return state.New(names, funds) }

// apply is that Apply answers so.
func apply(t *testing.T, s *state.State, x api.Tx, want int) {
	t.Helper()
	if r := s.Apply(x); r != want {
		t.Errorf("Apply(%+v): %d, want %d", x, r, want)
	}
}

// account is what an account has to have.
func account(t *testing.T, s *state.State, name string, amount, number uint64) {
	t.Helper()
	if a, n := s.Account(name); a != amount || n != number {
		t.Errorf("Account(%.40q): %d, %d, want %d, %d", name, a, n, amount, number)
	}
}

// value is that a text stands under a name.
func value(t *testing.T, s *state.State, name, want string) {
	t.Helper()
	if v, ok := s.Value(name); v != want || !ok {
		t.Errorf("Value(%.40q): %q, %v, want %q", name, v, ok, want)
	}
}

// noValue is that nothing stands under a name.
func noValue(t *testing.T, s *state.State, name string) {
	t.Helper()
	if v, ok := s.Value(name); v != "" || ok {
		t.Errorf("Value(%.40q): %q, %v, want none", name, v, ok)
	}
}

// digest is the digest that a state has to have, by its hexadecimal digits.
func digest(t *testing.T, what string, s *state.State, want string) {
	t.Helper()
	if d := hex.EncodeToString([]byte(s.Digest())); d != want {
		t.Errorf("%s: Digest: %s, want %s", what, d, want)
	}
}

// same is that two states have one digest.
func same(t *testing.T, what string, a, b *state.State) {
	t.Helper()
	if a.Digest() != b.Digest() {
		t.Errorf("%s: digests differ", what)
	}
}

// refused is that Apply answers so, and that the state is as it was.
func refused(t *testing.T, s *state.State, x api.Tx, want int) {
	t.Helper()
	ahead, names := s.Copy(), []string{x.From, x.To, "a", "b"}
	apply(t, s, x, want)
	same(t, "refused", s, ahead)
	for _, name := range names {
		amount, number := ahead.Account(name)
		account(t, s, name, amount, number)
	}
	v, in := ahead.Value(x.Key)
	if now, ok := s.Value(x.Key); now != v || ok != in {
		t.Errorf("refused: Value(%q): %q, %v, want %q, %v", x.Key, now, ok, v, in)
	}
}

// noNames are texts that are no names.
func noNames() []string {
	return []string{"", "A", "Ab", "aB", "a b", " ", "a:a", "k:a", "a_", "a-b", "/", ":", "@", "[", "`", "{", "\x00", "a\x00", "é", "ａ", "\xff", "\x80a", strings.Repeat("a", api.MaxName+1), strings.Repeat("a", 1<<20)}
}

// edgeNames are names at the ends of what there is, rising.
func edgeNames() []string {
	return []string{"0", "00", "9", "a", "a0", "aa", "k", "z", "z9", strings.Repeat("z", api.MaxName-1), strings.Repeat("z", api.MaxName)}
}

// The chapter's example.
func TestExample(t *testing.T) {
	s := rich(10, "a")
	apply(t, s, pay("a", "b", 4, 0), api.RDone)
	account(t, s, "a", 6, 1)
	account(t, s, "b", 4, 0)
	apply(t, s, pay("a", "b", 4, 0), api.RNonce)
	apply(t, s, pay("a", "b", 9, 1), api.RFunds)
	x := pay("a", "b", 4, 1)
	x.Writes = []string{"a:a"}
	apply(t, s, x, api.RAccess)
	account(t, s, "a", 6, 1)
	account(t, s, "b", 4, 0)
}

// 22.1: each name in rich has the funds, once; all others have nothing.
func TestNew(t *testing.T) {
	for _, names := range [][]string{nil, {}, {"a"}, {"b", "a"}, {"a", "a"}, {"b", "a", "b", "a", "c", "b"}, edgeNames()} {
		s := rich(10, names...)
		for _, name := range append(edgeNames(), "b", "c", "d") {
			if slices.Contains(names, name) {
				account(t, s, name, 10, 0)
			} else {
				account(t, s, name, 0, 0)
			}
			noValue(t, s, name)
		}
		apply(t, s, pay("0", "d", 0, 0), api.RDone)
	}
}

// 22.1: names that are none are passed over, wherever they stand.
func TestNewPassesOver(t *testing.T) {
	s := rich(7, append(noNames(), "a")...)
	account(t, s, "a", 7, 0)
	same(t, "names that are none", s, rich(7, "a"))
	same(t, "names that are none", rich(7, append([]string{"a"}, noNames()...)...), s)
	for _, name := range noNames() {
		account(t, s, name, 0, 0)
		noValue(t, s, name)
		same(t, "no name", rich(7, name), rich(0))
		same(t, "names around one that is none", rich(7, "b", name, "c"), rich(7, "b", "c"))
	}
}

// 22.1: the amount is the funds, at most MaxInt.
func TestNewFunds(t *testing.T) {
	for _, x := range [][2]uint64{
		{0, 0}, {1, 1}, {2, 2}, {127, 127}, {128, 128}, {1 << 32, 1 << 32}, {api.MaxInt - 1, api.MaxInt - 1}, {api.MaxInt, api.MaxInt},
		{api.MaxInt + 1, api.MaxInt}, {api.MaxInt + 2, api.MaxInt}, {1<<63 - 1, api.MaxInt}, {1 << 63, api.MaxInt}, {1<<63 + 5, api.MaxInt}, {math.MaxUint64, api.MaxInt},
	} {
		s := rich(x[0], "a", "b", "a")
		account(t, s, "a", x[1], 0)
		account(t, s, "b", x[1], 0)
		same(t, "funds", s, rich(x[1], "a", "b"))
		if x[1] < api.MaxInt {
			refused(t, s, pay("a", "c", x[1]+1, 0), api.RFunds)
		}
		apply(t, s, pay("a", "c", x[1], 0), api.RDone)
		account(t, s, "a", 0, 1)
		account(t, s, "c", x[1], 0)
	}
}

// 22.1: who is rich at first may be very many.
func TestManyRich(t *testing.T) {
	names := make([]string, 100000)
	for i := range names {
		names[i] = "n" + strconv.Itoa(i/2)
	}
	s := rich(3, names...)
	account(t, s, "n0", 3, 0)
	account(t, s, "n49999", 3, 0)
	account(t, s, "n50000", 0, 0)
	slices.Reverse(names)
	same(t, "the other way round", s, rich(3, names...))
}

// 22.2: of a Transfer Amount goes from From to To, and From's number is one more.
func TestTransfer(t *testing.T) {
	s := rich(10, "a", "b")
	apply(t, s, pay("a", "b", 3, 0), api.RDone)
	account(t, s, "a", 7, 1)
	account(t, s, "b", 13, 0)
	apply(t, s, pay("b", "c", 13, 0), api.RDone)
	account(t, s, "b", 0, 1)
	account(t, s, "c", 13, 0)
	apply(t, s, pay("c", "a", 1, 0), api.RDone)
	account(t, s, "c", 12, 1)
	account(t, s, "a", 8, 1)
	apply(t, s, pay("a", "b", 0, 1), api.RDone)
	account(t, s, "a", 8, 2)
	account(t, s, "b", 0, 1)
	apply(t, s, pay("b", "x", 0, 1), api.RDone)
	account(t, s, "b", 0, 2)
	account(t, s, "x", 0, 0)
	apply(t, s, pay("nobody", "x", 0, 0), api.RDone)
	account(t, s, "nobody", 0, 1)
	account(t, s, "x", 0, 0)
	refused(t, s, pay("nobody", "x", 1, 1), api.RFunds)
	for _, name := range []string{"a", "b", "c", "x", "nobody"} {
		noValue(t, s, name)
	}
}

// 22.2: to itself nothing goes, but its number is one more; what it does not have it can't send there either.
func TestTransferToItself(t *testing.T) {
	for _, funds := range []uint64{0, 1, 10, api.MaxInt} {
		s := rich(funds, "a")
		apply(t, s, pay("a", "a", funds, 0), api.RDone)
		account(t, s, "a", funds, 1)
		apply(t, s, pay("a", "a", 0, 1), api.RDone)
		account(t, s, "a", funds, 2)
		if funds < api.MaxInt {
			refused(t, s, pay("a", "a", funds+1, 2), api.RFunds)
			refused(t, s, pay("a", "a", api.MaxInt, 2), api.RFunds)
		}
		apply(t, s, pay("a", "a", funds/2, 2), api.RDone)
		account(t, s, "a", funds, 3)
		refused(t, s, pay("a", "a", 0, 2), api.RNonce)
	}
}

// 22.2: of a Put the value under Key is Value, From's number is one more, and nothing goes anywhere.
func TestPut(t *testing.T) {
	s := rich(10, "a")
	apply(t, s, put("a", "x", "one", 0), api.RDone)
	value(t, s, "x", "one")
	account(t, s, "a", 10, 1)
	account(t, s, "x", 0, 0)
	noValue(t, s, "a")
	// Somebody who has nothing, and over what another one put.
	apply(t, s, put("b", "x", "two", 0), api.RDone)
	value(t, s, "x", "two")
	account(t, s, "b", 0, 1)
	// A text that is empty is one.
	apply(t, s, put("a", "y", "", 1), api.RDone)
	value(t, s, "y", "")
	apply(t, s, put("a", "x", "", 2), api.RDone)
	value(t, s, "x", "")
	apply(t, s, put("b", "x", "two", 1), api.RDone)
	value(t, s, "x", "two")
	// A value may have the name of an account, its author's too.
	apply(t, s, put("a", "a", "mine", 3), api.RDone)
	value(t, s, "a", "mine")
	account(t, s, "a", 10, 4)
	noValue(t, s, "b")
	noValue(t, s, "k:a")
	noValue(t, s, "k:x")
	noValue(t, s, "")
	account(t, s, "a:a", 0, 0)
	account(t, s, "", 0, 0)
}

// 22.2: every name may be a key, every text of at most MaxValue bytes a value.
func TestPutEdges(t *testing.T) {
	s, number := rich(1), uint64(0)
	for _, key := range edgeNames() {
		for _, text := range []string{"v", "\x00", "\xff\xfe", "é", " ", "a:a", strings.Repeat("\x80", api.MaxValue), ""} {
			apply(t, s, put("p", key, text, number), api.RDone)
			number++
			value(t, s, key, text)
		}
		refused(t, s, put("p", key, strings.Repeat("v", api.MaxValue+1), number), api.RAccess)
	}
	for _, key := range edgeNames() {
		value(t, s, key, "")
	}
	account(t, s, "p", 0, number)
}

// 22.2: RAccess, if not all that is needed is among the Writes.
func TestAccess(t *testing.T) {
	for _, writes := range [][]string{nil, {"a:a"}, {"a:b"}, {"a:a", "a:c"}, {"a:a", "k:b"}, {"k:a", "k:b"}, {"a:aa", "a:b"}, {"a:a", "a:bb"}} {
		s := rich(10, "a", "b")
		x := pay("a", "b", 4, 0)
		x.Writes, x.Reads = writes, []string{"a:a", "a:b"}
		refused(t, s, x, api.RAccess)
		x = pay("b", "a", 4, 0)
		x.Writes = writes
		refused(t, s, x, api.RAccess)
	}
	for _, writes := range [][]string{nil, {"a:a"}, {"k:b"}, {"a:b", "k:b"}, {"a:a", "a:b"}, {"a:a", "k:a"}, {"a:a", "k:bb"}} {
		s := rich(10, "a", "b")
		x := put("a", "b", "v", 0)
		x.Writes, x.Reads = writes, []string{"a:a", "k:b"}
		refused(t, s, x, api.RAccess)
	}
	s := rich(10, "a")
	x := pay("a", "a", 1, 0)
	for _, writes := range [][]string{nil, {"k:a"}, {"a:b"}} {
		x.Writes = writes
		refused(t, s, x, api.RAccess)
	}
	// What is declared beside that does not matter.
	x = pay("a", "b", 4, 0)
	x.Reads, x.Writes = []string{"a:a", "k:z"}, []string{"a:0", "a:a", "a:b", "a:c", "k:a"}
	apply(t, s, x, api.RDone)
	y := put("a", "b", "v", 1)
	y.Reads, y.Writes = []string{"a:b", "k:b"}, []string{"a:0", "a:a", "a:b", "k:a", "k:b", "k:c"}
	apply(t, s, y, api.RDone)
	account(t, s, "a", 6, 2)
	account(t, s, "b", 4, 0)
	value(t, s, "b", "v")
	noValue(t, s, "a")
	noValue(t, s, "c")
}

// wrong are changes that make a transfer of a to b, or a Put of a under b, one that is not right.
func wrong() []func(x *api.Tx) {
	long := strings.Repeat("a", api.MaxName+1)
	keys := func(n int) []string {
		l := []string{"a:a", "a:b"}
		for i := range n - 3 {
			l = append(l, "a:b"+strconv.Itoa(i))
		}
		return append(l, "k:b")
	}
	l := []func(x *api.Tx){
		func(x *api.Tx) { x.Kind = 0 },
		func(x *api.Tx) { x.Kind = 3 - x.Kind },
		func(x *api.Tx) { x.Kind = 3 },
		func(x *api.Tx) { x.Kind = -1 },
		func(x *api.Tx) { x.Kind += 1 << 32 },
		func(x *api.Tx) { x.From = "" },
		func(x *api.Tx) { x.From = long },
		func(x *api.Tx) { x.From = "A" },
		func(x *api.Tx) { x.Amount = api.MaxInt + 1 },
		func(x *api.Tx) { x.Amount = math.MaxUint64 },
		func(x *api.Tx) { x.Nonce = api.MaxInt + 1 },
		func(x *api.Tx) { x.Nonce = math.MaxUint64 },
		func(x *api.Tx) { x.Reads = keys(api.MaxKeys + 1) },
		func(x *api.Tx) { x.Reads = []string{"b"} },
		func(x *api.Tx) { x.Reads = []string{"a:b", "a:a"} },
		func(x *api.Tx) { x.Reads = []string{"a:a", "a:a"} },
		func(x *api.Tx) { x.Writes = keys(api.MaxKeys + 1) },
		func(x *api.Tx) { x.Writes = []string{"a:a", "a:b", "k:b", "z"} },
		func(x *api.Tx) { x.Writes = []string{"a:b", "a:a", "k:b"} },
		func(x *api.Tx) { x.Writes = []string{"a:a", "a:b", "k:b", "k:b"} },
		func(x *api.Tx) { x.Writes = []string{"k:b", "a:a", "a:b"} },
	}
	for _, to := range append(noNames(), "b") {
		l = append(l, func(x *api.Tx) {
			if x.Kind == api.Transfer && to != "b" || x.Kind == api.Put && to != "" {
				x.To = to
			} else {
				x.Kind = 7
			}
		})
	}
	for _, key := range append(noNames(), "b") {
		l = append(l, func(x *api.Tx) {
			if x.Kind == api.Transfer && key != "" || x.Kind == api.Put && key != "b" {
				x.Key = key
			} else {
				x.Kind = 8
			}
		})
	}
	return append(l, func(x *api.Tx) {
		if x.Kind == api.Put {
			x.Amount = 1
		} else {
			x.Value = "v"
		}
	})
}

// 22.2: RAccess of all that is not right, whatever else it has; R1: none panics.
func TestNotRight(t *testing.T) {
	s := rich(10, "a", "b")
	for i, change := range wrong() {
		for _, x := range []api.Tx{pay("a", "b", 4, 0), put("a", "b", "v", 0), pay("a", "b", 99, 5), put("a", "b", "v", 5)} {
			change(&x)
			refused(t, s, x, api.RAccess)
		}
		if t.Failed() {
			t.Fatalf("change %d", i)
		}
	}
	refused(t, s, api.Tx{}, api.RAccess)
	account(t, s, "a", 10, 0)
	account(t, s, "b", 10, 0)
	noValue(t, s, "b")
}

// R6: also of what is far longer than any limit.
func TestVeryLong(t *testing.T) {
	s, long := rich(10, "a"), strings.Repeat("a", 1<<24)
	many := make([]string, 1<<20)
	for i := range many {
		many[i] = "a:a"
	}
	refused(t, s, pay(long, "b", 1, 0), api.RAccess)
	refused(t, s, pay("a", long, 1, 0), api.RAccess)
	refused(t, s, put("a", long, "v", 0), api.RAccess)
	refused(t, s, put("a", "b", long, 0), api.RAccess)
	x := pay("a", "a", 1, 0)
	x.Writes = many
	refused(t, s, x, api.RAccess)
	x = pay("a", "a", 1, 0)
	x.Reads = many
	refused(t, s, x, api.RAccess)
	account(t, s, long, 0, 0)
	noValue(t, s, long)
}

// 22.2: RNonce, if the Nonce is not the number of From: neither lesser nor greater, and of no other account.
func TestNonce(t *testing.T) {
	s := rich(10, "a", "b")
	for number := range uint64(5) {
		for _, nonce := range []uint64{0, 1, 2, 3, 4, 5, 6, api.MaxInt} {
			if nonce != number {
				refused(t, s, pay("a", "b", 1, nonce), api.RNonce)
				refused(t, s, pay("a", "a", 1, nonce), api.RNonce)
				refused(t, s, put("a", "b", "v", nonce), api.RNonce)
			}
		}
		account(t, s, "b", 10+(number+1)/2, 0)
		if number%2 == 0 {
			apply(t, s, pay("a", "b", 1, number), api.RDone)
		} else {
			apply(t, s, put("a", "c", "v", number), api.RDone)
		}
		account(t, s, "a", 9-number/2, number+1)
	}
	refused(t, s, pay("b", "a", 1, 5), api.RNonce)
	refused(t, s, pay("nobody", "a", 0, 1), api.RNonce)
	refused(t, s, put("nobody", "c", "w", 5), api.RNonce)
	value(t, s, "c", "v")
}

// 22.2: RFunds, if From has less than Amount; just as much is enough.
func TestFunds(t *testing.T) {
	for _, funds := range []uint64{0, 1, 10, 127, 128, api.MaxInt - 1} {
		s := rich(funds, "a", "b")
		refused(t, s, pay("a", "c", funds+1, 0), api.RFunds)
		refused(t, s, pay("a", "c", api.MaxInt, 0), api.RFunds)
		refused(t, s, pay("c", "a", 1, 0), api.RFunds)
		apply(t, s, pay("a", "c", funds, 0), api.RDone)
		refused(t, s, pay("a", "c", 1, 1), api.RFunds)
		apply(t, s, put("a", "x", "v", 1), api.RDone)
		account(t, s, "a", 0, 2)
		account(t, s, "c", funds, 0)
		account(t, s, "b", funds, 0)
	}
}

// 22.2: ROverflow, if To is another account, and would have more than MaxInt; MaxInt itself it may have.
func TestOverflow(t *testing.T) {
	s := rich(api.MaxInt, "a", "b")
	refused(t, s, pay("a", "b", 1, 0), api.ROverflow)
	refused(t, s, pay("a", "b", api.MaxInt, 0), api.ROverflow)
	refused(t, s, pay("b", "a", 1, 0), api.ROverflow)
	apply(t, s, pay("a", "b", 0, 0), api.RDone)
	apply(t, s, pay("a", "a", api.MaxInt, 1), api.RDone)
	account(t, s, "a", api.MaxInt, 2)
	apply(t, s, pay("a", "c", 5, 2), api.RDone)
	refused(t, s, pay("b", "a", 6, 0), api.ROverflow)
	refused(t, s, pay("b", "a", api.MaxInt, 0), api.ROverflow)
	apply(t, s, pay("b", "a", 5, 0), api.RDone)
	account(t, s, "a", api.MaxInt, 3)
	account(t, s, "b", api.MaxInt-5, 1)
	refused(t, s, pay("b", "a", 1, 1), api.ROverflow)
	apply(t, s, put("a", "b", "v", 3), api.RDone)
	apply(t, s, pay("c", "b", 5, 0), api.RDone)
	account(t, s, "b", api.MaxInt, 1)
	account(t, s, "c", 0, 1)
}

// 22.2: of several results the one that the chapter names first.
func TestOrderOfResults(t *testing.T) {
	s := rich(api.MaxInt, "a", "full")
	apply(t, s, pay("a", "b", 5, 0), api.RDone)
	for _, x := range []struct {
		from        string
		amount      uint64
		nonce       uint64
		undeclared  bool
		want, alone int
	}{
		{"b", 6, 1, true, api.RAccess, api.RNonce},
		{"b", 6, 1, false, api.RNonce, api.RNonce},
		{"b", 6, 0, true, api.RAccess, api.RFunds},
		{"b", 6, 0, false, api.RFunds, api.RFunds},
		{"b", 5, 1, false, api.RNonce, api.RNonce},
		{"b", 5, 0, true, api.RAccess, api.ROverflow},
		{"b", 5, 0, false, api.ROverflow, api.ROverflow},
		{"b", 0, 0, true, api.RAccess, api.RDone},
		{"b", 0, 1, true, api.RAccess, api.RNonce},
		{"b", 0, 1, false, api.RNonce, api.RNonce},
		{"a", api.MaxInt, 0, false, api.RNonce, api.RNonce},
		{"a", api.MaxInt, 1, false, api.RFunds, api.RFunds},
		{"a", api.MaxInt - 5, 1, false, api.ROverflow, api.ROverflow},
	} {
		p := pay(x.from, "full", x.amount, x.nonce)
		if x.undeclared {
			p.Writes = p.Writes[:1]
		}
		refused(t, s, p, x.want)
		if r := s.Copy().Apply(pay(x.from, "full", x.amount, x.nonce)); r != x.alone {
			t.Errorf("%+v: declared it is %d", x, r)
		}
	}
	p := put("b", "x", "v", 1)
	refused(t, s, p, api.RNonce)
	p.Writes = p.Writes[:1]
	refused(t, s, p, api.RAccess)
}

// 22.3: digests that were worked out from the chapter's words by another program.
func TestDigest(t *testing.T) {
	const none = "69217a3079908094e11121d042354a7c1f55b6482ca1a51e1b250dfd1ed0eef9"
	digest(t, "nothing", rich(10), none)
	digest(t, "nobody has anything", rich(0, "a", "b"), none)
	digest(t, "no names", rich(10, noNames()...), none)
	s := rich(10, "a")
	digest(t, "a 10", s, "3d894345c57c2949112931208609f8f878a4951f4bbc8cadf1c6d709396b68a1")
	apply(t, s, pay("a", "b", 4, 0), api.RDone)
	digest(t, "a 6, b 4", s, "7b37ef9edeb3380030d40f24b376469d94f0f5fbdb3421c62c82b34b8cca871e")
	s = rich(math.MaxUint64, "9", "aa", "b", strings.Repeat("z", 32), "10", "a", "0", "9")
	digest(t, "the greatest amounts", s, "8d788a8f11f1c722a14efea1b45f83591c2baf1e4b5ea1ef899a92a129dca160")
	s = rich(300, "a")
	for number := range uint64(200) {
		apply(t, s, pay("a", "b", 0, number), api.RDone)
	}
	apply(t, s, pay("b", "c", 0, 0), api.RDone)
	digest(t, "great numbers, and an account that has a number alone", s, "8a1a4a7a1ed9e054941c3505f7cedd0eb1ea8b8b74acfbeca9d5e4a6998b4f9c")
	s = rich(10, "a")
	apply(t, s, put("a", strings.Repeat("k", 32), strings.Repeat("\x00\xff", 32), 0), api.RDone)
	apply(t, s, put("a", "a", "v", 1), api.RDone)
	apply(t, s, put("a", "0", "", 2), api.RDone)
	digest(t, "values", s, "dec90706c39c4d91d1e12ccf44645a821e4c5e702e26971d244881e354ad907d")
}

// 22.3: an account counts, if its amount or its number is not 0; the way to a state does not matter, and all in it does.
func TestDigestTellsStates(t *testing.T) {
	start := rich(10, "a", "b")
	l := []*state.State{rich(0), rich(10, "a"), rich(10, "b"), start, rich(11, "a", "b"), rich(10, "a", "b", "c")}
	for _, row := range [][]api.Tx{
		{pay("a", "a", 0, 0)},
		{pay("b", "b", 0, 0)},
		{pay("z", "a", 0, 0)},
		{pay("a", "c", 10, 0)},
		{pay("a", "b", 10, 0)},
		{pay("a", "b", 10, 0), pay("b", "a", 10, 0)},
		{pay("a", "a", 0, 0), pay("a", "a", 0, 1)},
		{put("a", "a", "", 0)},
		{put("a", "a", "b", 0)},
		{put("a", "b", "a", 0)},
		{put("a", "ab", "", 0)},
		{put("a", "b", "", 0), put("a", "a", "", 1)},
		{put("a", "b", "", 0), put("a", "c", "", 1)},
		{put("b", "a", "", 0)},
	} {
		s := start.Copy()
		for _, x := range row {
			apply(t, s, x, api.RDone)
		}
		l = append(l, s)
	}
	for i := range l {
		for k := range i {
			if l[i].Digest() == l[k].Digest() {
				t.Errorf("states %d and %d have one digest", k, i)
			}
		}
	}
	one, two := start.Copy(), start.Copy()
	for _, x := range []api.Tx{put("a", "x", "", 0), put("a", "y", "w", 1), pay("a", "c", 2, 2), pay("b", "d", 0, 0), pay("b", "a", 3, 1)} {
		apply(t, one, x, api.RDone)
	}
	for _, x := range []api.Tx{put("b", "y", "w", 0), pay("b", "a", 9, 1), pay("a", "b", 6, 0), put("a", "x", "v", 1), pay("a", "c", 2, 2)} {
		apply(t, two, x, api.RDone)
	}
	if one.Digest() == two.Digest() {
		t.Error("a value counts for nothing")
	}
	apply(t, one, put("c", "x", "v", 0), api.RDone)
	apply(t, two, pay("c", "e", 0, 0), api.RDone)
	same(t, "the same by two ways", one, two)
}

// 22.3: a copy has the same, and is a state of its own.
func TestCopy(t *testing.T) {
	s := rich(10, "a", "b")
	apply(t, s, put("a", "x", "v", 0), api.RDone)
	c := s.Copy()
	same(t, "copy", s, c)
	account(t, c, "a", 10, 1)
	account(t, c, "b", 10, 0)
	value(t, c, "x", "v")
	apply(t, c, pay("a", "b", 4, 1), api.RDone)
	apply(t, c, put("c", "x", "w", 0), api.RDone)
	apply(t, c, put("c", "y", "z", 1), api.RDone)
	account(t, s, "a", 10, 1)
	account(t, s, "b", 10, 0)
	account(t, s, "c", 0, 0)
	value(t, s, "x", "v")
	noValue(t, s, "y")
	apply(t, s, pay("b", "a", 10, 0), api.RDone)
	apply(t, s, put("d", "u", "", 0), api.RDone)
	account(t, c, "a", 6, 2)
	account(t, c, "b", 14, 0)
	account(t, c, "d", 0, 0)
	value(t, c, "x", "w")
	noValue(t, c, "u")
	// Of one in which nothing is, too; and a copy of a copy.
	e := rich(0).Copy().Copy()
	same(t, "copy of nothing", e, rich(5))
	apply(t, e, put("a", "x", "v", 0), api.RDone)
	value(t, e, "x", "v")
	account(t, e, "a", 0, 1)
}

// R4: what is handed in is not changed and not kept, also in the room behind its end.
func TestMemory(t *testing.T) {
	names := []string{"b", "a", "A", "b", "spare"}
	s := state.New(names[:4], 10)
	if !slices.Equal(names, []string{"b", "a", "A", "b", "spare"}) {
		t.Errorf("handed in: %q", names)
	}
	names[0], names[1] = "x", "y"
	account(t, s, "a", 10, 0)
	account(t, s, "b", 10, 0)
	account(t, s, "x", 0, 0)
	reads, writes := []string{"a:z", "spare"}, []string{"a:a", "a:b", "spare"}
	x := api.Tx{Kind: api.Transfer, From: "a", To: "b", Amount: 1, Reads: reads[:1], Writes: writes[:2]}
	apply(t, s, x, api.RDone)
	apply(t, s, x, api.RNonce)
	if !slices.Equal(reads, []string{"a:z", "spare"}) || !slices.Equal(writes, []string{"a:a", "a:b", "spare"}) {
		t.Errorf("handed in: %q, %q", reads, writes)
	}
	writes[0], reads[0] = "a:b", "a:a"
	account(t, s, "a", 9, 1)
	account(t, s, "b", 11, 0)
}

// Two states share nothing.
func TestApart(t *testing.T) {
	one, two := rich(10, "a"), rich(10, "a")
	apply(t, one, pay("a", "b", 4, 0), api.RDone)
	apply(t, one, put("a", "x", "v", 1), api.RDone)
	account(t, two, "a", 10, 0)
	account(t, two, "b", 0, 0)
	noValue(t, two, "x")
}
