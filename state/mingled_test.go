package state_test

import (
	"math/big"
	"math/rand"
	"slices"
	"strings"
	"testing"

	"tusk/access"
	"tusk/api"
	"tusk/mix"
	"tusk/state"
	"tusk/tx"
	"tusk/wire"
)

// plainAccount is an account as the chapter says it; amounts are numbers that have no end.
type plainAccount struct {
	amount *big.Int
	number uint64
}

// plain is a state as the chapter says it, word by word: of each name that may come an account, also of those in which nothing is.
type plain struct {
	names    []string // rising
	accounts map[string]*plainAccount
	values   map[string][]string // none, or one
}

func newPlain(names, rich []string, funds uint64) *plain {
	p := &plain{names, map[string]*plainAccount{}, map[string][]string{}}
	amount := new(big.Int).SetUint64(funds)
	if amount.Cmp(big.NewInt(api.MaxInt)) > 0 {
		amount = big.NewInt(api.MaxInt)
	}
	for _, name := range names {
		p.accounts[name] = &plainAccount{amount: new(big.Int)}
		if slices.Contains(rich, name) {
			p.accounts[name].amount = amount
		}
	}
	return p
}

// result is what there is against a transaction.
func (p *plain) result(t api.Tx) int {
	if !tx.Fits(t) {
		return api.RAccess
	}
	from := p.accounts[t.From]
	if t.Nonce != from.number {
		return api.RNonce
	}
	if t.Kind != api.Transfer {
		return api.RDone
	}
	amount := new(big.Int).SetUint64(t.Amount)
	if from.amount.Cmp(amount) < 0 {
		return api.RFunds
	}
	sum := new(big.Int).Add(p.accounts[t.To].amount, amount)
	if t.From != t.To && sum.Cmp(big.NewInt(api.MaxInt)) > 0 {
		return api.ROverflow
	}
	return api.RDone
}

func (p *plain) apply(t api.Tx) int {
	if r := p.result(t); r != api.RDone {
		return r
	}
	from := p.accounts[t.From]
	from.number++
	if t.Kind == api.Put {
		p.values[t.Key] = []string{t.Value}
		return api.RDone
	}
	if t.From != t.To {
		to, amount := p.accounts[t.To], new(big.Int).SetUint64(t.Amount)
		from.amount = new(big.Int).Sub(from.amount, amount)
		to.amount = new(big.Int).Add(to.amount, amount)
	}
	return api.RDone
}

func (p *plain) digest() string {
	s := ""
	for _, name := range p.names {
		a := p.accounts[name]
		if a.amount.Sign() != 0 || a.number != 0 {
			s += wire.Text("a:"+name) + wire.Int(a.amount.Int64()) + wire.Int(int64(a.number))
		}
	}
	for _, name := range p.names {
		for _, text := range p.values[name] {
			s += wire.Text("k:"+name) + wire.Text(text)
		}
	}
	return mix.Sum(s)
}

func (p *plain) copied() *plain {
	c := newPlain(p.names, nil, 0)
	for name, a := range p.accounts {
		*c.accounts[name] = *a
	}
	for name, l := range p.values {
		c.values[name] = l
	}
	return c
}

// sum is that of all amounts of a state.
func sum(s *state.State, names []string) *big.Int {
	n := new(big.Int)
	for _, name := range names {
		amount, _ := s.Account(name)
		n.Add(n, new(big.Int).SetUint64(amount))
	}
	return n
}

// agree is that a state has just what a plain one has.
func agree(t *testing.T, what string, s *state.State, p *plain) {
	t.Helper()
	for _, name := range p.names {
		account(t, s, name, p.accounts[name].amount.Uint64(), p.accounts[name].number)
		if l := p.values[name]; len(l) > 0 {
			value(t, s, name, l[0])
		} else {
			noValue(t, s, name)
		}
	}
	if s.Digest() != p.digest() {
		t.Errorf("%s: another digest", what)
	}
	if t.Failed() {
		t.FailNow()
	}
}

// someNames are some of the names, in any order, also one several times.
func someNames(r *rand.Rand, names []string) []string {
	var l []string
	for range r.Intn(2 * len(names)) {
		l = append(l, names[r.Intn(len(names))])
	}
	return l
}

// someFunds are small, or near the ends of what there is.
func someFunds(r *rand.Rand) uint64 {
	l := []uint64{0, 1, 10, 300, api.MaxInt / 2, api.MaxInt - 3, api.MaxInt, api.MaxInt + 1, 1 << 63, 1<<64 - 1}
	return l[r.Intn(len(l))]
}

// someAmount is a part of what somebody has, mostly; or what somebody else would get too much by, just or just not.
func someAmount(r *rand.Rand, has, other uint64) uint64 {
	switch r.Intn(8) {
	case 0:
		return has
	case 1:
		return has + 1
	case 2:
		return has - 1
	case 3:
		return api.MaxInt - other + uint64(r.Intn(3))
	case 4:
		return uint64(r.Intn(3))
	case 5:
		return r.Uint64()
	}
	return r.Uint64() % (has + 1)
}

// someTx is a transaction of these names, with the right number, mostly.
func someTx(r *rand.Rand, s *state.State, names []string) api.Tx {
	from, to := names[r.Intn(len(names))], names[r.Intn(len(names))]
	has, nonce := s.Account(from)
	other, _ := s.Account(to)
	if r.Intn(8) == 0 {
		nonce += uint64(r.Intn(3) - 1)
	}
	x := pay(from, to, someAmount(r, has, other), nonce)
	if r.Intn(3) == 0 {
		x = put(from, to, strings.Repeat(string(rune('a'+r.Intn(26))), r.Intn(api.MaxValue+2)), nonce)
	}
	switch r.Intn(20) {
	case 0:
		x.Writes = x.Writes[:len(x.Writes)-1]
	case 1:
		x.Kind = r.Intn(5)
	case 2:
		x.Reads = []string{"a:" + to}
	case 3:
		x.Writes = append(x.Writes, "k:zz")
	case 4:
		x.Writes = append(x.Writes, "a:"+from)
	}
	return x
}

// allNames are some names, rising; few of them, so that the same ones come often.
func allNames(r *rand.Rand) []string {
	l := append(edgeNames(), "b", "c", "d", "10", "2")
	r.Shuffle(len(l), func(i, k int) { l[i], l[k] = l[k], l[i] })
	l = l[:2+r.Intn(len(l)-1)]
	slices.Sort(l)
	return l
}

// 22.1 to 22.3: long mingled rows of calls answer as a plain state, and so do copies that were made on the way.
// 22.4: the sum of all amounts never changes.
func TestMingled(t *testing.T) {
	r := rand.New(rand.NewSource(22))
	told := map[int]int{}
	for range 300 {
		names := allNames(r)
		some, funds := someNames(r, names), someFunds(r)
		s, p := state.New(append(some, noNames()[r.Intn(9)]), funds), newPlain(names, some, funds)
		agree(t, "New", s, p)
		all := sum(s, names)
		old, oldPlain := s.Copy(), p.copied()
		for range 200 {
			x := someTx(r, s, names)
			want := p.apply(x)
			apply(t, s, x, want)
			told[want]++
			if r.Intn(20) == 0 {
				agree(t, "copy", old, oldPlain)
				old, oldPlain = s.Copy(), p.copied()
			}
			if r.Intn(40) == 0 {
				// It goes on with the copy.
				s, old, p, oldPlain = old, s, oldPlain, p
			}
			agree(t, "Apply", s, p)
			if n := sum(s, names); n.Cmp(all) != 0 {
				t.Fatalf("the sum of all amounts goes from %v to %v by %+v", all, n, x)
			}
		}
	}
	for want := api.RDone; want <= api.ROverflow; want++ {
		if told[want] < 500 {
			t.Errorf("result %d came %d times alone", want, told[want])
		}
	}
}

// 22.4: two transactions that fit, and are not in each other's way, may be done in either order.
func TestEitherOrder(t *testing.T) {
	r := rand.New(rand.NewSource(224))
	told := map[[2]int]int{}
	for range 1500 {
		names := allNames(r)
		s := state.New(someNames(r, names), someFunds(r))
		for range 40 {
			x, y := someTx(r, s, names), someTx(r, s, names)
			if tx.Fits(x) && tx.Fits(y) && !access.Clash(x, y) {
				told[eitherOrder(t, s, x, y)]++
			}
			s.Apply(x)
		}
	}
	if told[[2]int{api.RDone, api.RDone}] < 1000 || told[[2]int{api.RFunds, api.RDone}] < 100 || told[[2]int{api.RDone, api.ROverflow}] < 100 {
		t.Errorf("results of those that are not in each other's way: %v", told)
	}
}

// eitherOrder is the results of two transactions, which have to be the same in either order.
func eitherOrder(t *testing.T, s *state.State, x, y api.Tx) [2]int {
	t.Helper()
	one, two := s.Copy(), s.Copy()
	a := [2]int{one.Apply(x), one.Apply(y)}
	var b [2]int
	b[1] = two.Apply(y)
	b[0] = two.Apply(x)
	if a != b || one.Digest() != two.Digest() {
		t.Fatalf("%+v and %+v: results %v, the other way round %v", x, y, a, b)
	}
	return a
}

// 22.4, of each pair of transactions among a few accounts and values: those that are not in each other's way do not hang on their order, and some that are do.
func TestEachPair(t *testing.T) {
	names := []string{"a", "b", "c", "d"}
	s := state.New(names[:3], 5)
	apply(t, s, pay("a", "b", 5, 0), api.RDone)
	var l []api.Tx
	for _, from := range names {
		_, number := s.Account(from)
		for _, to := range names {
			for _, amount := range []uint64{0, 5, 6, api.MaxInt} {
				l = append(l, pay(from, to, amount, number))
			}
			l = append(l, put(from, to, from, number), put(from, to, from, number+1))
		}
	}
	apart := 0
	for _, x := range l {
		for _, y := range l {
			if !access.Clash(x, y) {
				apart++
				eitherOrder(t, s, x, y)
			}
		}
	}
	if apart < 1000 {
		t.Errorf("only %d pairs are not in each other's way", apart)
	}
	one, two := s.Copy(), s.Copy()
	x, y := pay("b", "d", 6, 0), pay("d", "c", 6, 0)
	apply(t, one, x, api.RDone)
	apply(t, one, y, api.RDone)
	apply(t, two, y, api.RFunds)
	apply(t, two, x, api.RDone)
}

// LANGUAGE 5: a digest does not hang on the order in which a map is gone through.
func TestSameAgain(t *testing.T) {
	r := rand.New(rand.NewSource(225))
	for range 20 {
		names := allNames(r)
		s := state.New(names, 1000)
		for range 100 {
			s.Apply(someTx(r, s, names))
		}
		for range 20 {
			same(t, "again", s, s)
			same(t, "copy", s, s.Copy())
		}
	}
}
