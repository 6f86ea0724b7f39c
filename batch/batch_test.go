package batch_test

import (
	"math"
	"reflect"
	"slices"
	"strconv"
	"strings"
	"testing"

	"tusk/api"
	"tusk/batch"
	"tusk/mix"
	"tusk/tx"
	"tusk/wire"
)

// pay is a right Transfer, put a right Put; each number makes another one.
func pay(n int) api.Tx {
	return api.Tx{Kind: api.Transfer, From: "ab", To: "c", Amount: 5, Nonce: uint64(n), Reads: []string{"a:r", "k:r"}, Writes: []string{"a:ab", "a:c"}}
}

func put(n int) api.Tx {
	return api.Tx{Kind: api.Put, From: "ab", Nonce: uint64(n), Key: "c", Value: "V \x00\xff", Reads: []string{"a:r"}, Writes: []string{"a:ab", "k:c"}}
}

// great is a transaction with as many bytes as there may be.
func great() api.Tx {
	long := strings.Repeat("z", api.MaxName)
	var keys []string
	for i := range api.MaxKeys {
		keys = append(keys, "k:"+strconv.Itoa(i)+long[1:])
	}
	return api.Tx{Kind: api.Transfer, From: long, To: long, Amount: api.MaxInt, Nonce: api.MaxInt, Reads: keys, Writes: keys}
}

// pays are n right transactions, no two alike.
func pays(n int) []api.Tx {
	var l []api.Tx
	for i := range n {
		l = append(l, []api.Tx{pay(i), put(i)}[i%2])
	}
	return l
}

// some is a right batch.
func some() api.Batch {
	return api.Batch{Author: 3, Number: 200, Txs: pays(2)}
}

// rawTx is a transaction's bytes, right or not.
func rawTx(t api.Tx) string {
	return wire.Int(int64(t.Kind)) + wire.Text(t.From) + wire.Text(t.To) + wire.Int(int64(t.Amount)) + wire.Int(int64(t.Nonce)) +
		wire.Text(t.Key) + wire.Text(t.Value) + wire.List(t.Reads) + wire.List(t.Writes)
}

// raw is a batch's bytes, right or not.
func raw(b api.Batch) string {
	var l []string
	for _, t := range b.Txs {
		l = append(l, rawTx(t))
	}
	return wire.Int(int64(b.Author)) + wire.Int(int64(b.Number)) + wire.List(l)
}

// sameTx tells whether two are alike; an empty list is as none.
func sameTx(a, b api.Tx) bool {
	equal := slices.Equal(a.Reads, b.Reads) && slices.Equal(a.Writes, b.Writes)
	a.Reads, a.Writes, b.Reads, b.Writes = nil, nil, nil, nil
	return equal && reflect.DeepEqual(a, b)
}

func same(a, b api.Batch) bool {
	return a.Author == b.Author && a.Number == b.Number && slices.EqualFunc(a.Txs, b.Txs, sameTx)
}

// copied are transactions in memory of their own.
func copied(l []api.Tx) []api.Tx {
	l = slices.Clone(l)
	for i := range l {
		l[i].Reads, l[i].Writes = slices.Clone(l[i].Reads), slices.Clone(l[i].Writes)
	}
	return l
}

// wantWrong is that all functions refuse a batch in the way that belongs to the error.
func wantWrong(t *testing.T, what string, b api.Batch, want api.Errno) {
	t.Helper()
	if e := batch.Check(b); e != want {
		t.Errorf("%s: Check: error %d, want %d", what, e, want)
	}
	if s, e := batch.Encode(b); s != "" || e != want {
		t.Errorf("%s: Encode: %.40x, error %d, want %d", what, s, e, want)
	}
	if d := batch.Digest(b); d != "" {
		t.Errorf("%s: Digest: %x", what, d)
	}
}

// wantRight is that a batch is right, and goes to bytes and back.
func wantRight(t *testing.T, what string, b api.Batch) {
	t.Helper()
	if e := batch.Check(b); e != api.OK {
		t.Errorf("%s: Check: error %d", what, e)
	}
	s, e := batch.Encode(b)
	if s != raw(b) || e != api.OK {
		t.Errorf("%s: Encode: %.40x, error %d, want %.40x", what, s, e, raw(b))
	}
	if d := batch.Digest(b); d != mix.Sum(raw(b)) || len(d) != api.DigSize {
		t.Errorf("%s: Digest: %x, want %x", what, d, mix.Sum(raw(b)))
	}
	if c, e := batch.Decode(s); !same(b, c) || e != api.OK {
		t.Errorf("%s: Decode: %v, error %d", what, c, e)
	}
}

// wantNone is that bytes are refused.
func wantNone(t *testing.T, what, s string, want api.Errno) {
	t.Helper()
	if b, e := batch.Decode(s); e != want || !reflect.DeepEqual(b, api.Batch{}) {
		t.Errorf("%s: Decode: %v, error %d, want %d", what, b, e, want)
	}
}

// Words: a batch's bytes and digest, written out.
func TestBytes(t *testing.T) {
	b := api.Batch{Author: 6, Number: 128, Txs: []api.Tx{
		{Kind: api.Transfer, From: "ab", To: "c", Amount: 5, Nonce: 1, Writes: []string{"a:ab", "a:c"}},
		{Kind: api.Put, From: "f", Key: "k9", Value: "v\x00"},
	}}
	bytes := "\x06\x80\x01\x02" +
		"\x15\x01\x02ab\x01c\x05\x01\x00\x00\x00\x02\x04a:ab\x03a:c" +
		"\x0e\x02\x01f\x00\x00\x00\x02k9\x02v\x00\x00\x00"
	digest := "\x39\xb7\x4b\xed\x5a\x85\xba\x70\x55\xa8\x18\x28\x42\xdb\xff\xef\x93\xdc\xb8\xd7\x86\x06\x9e\xe9\x23\xda\x48\x03\x4a\xc5\x14\x92"
	if s, e := batch.Encode(b); s != bytes || e != api.OK {
		t.Errorf("Encode: %x, error %d", s, e)
	}
	if c, e := batch.Decode(bytes); !same(b, c) || e != api.OK {
		t.Errorf("Decode: %v, error %d", c, e)
	}
	if d := batch.Digest(b); d != digest {
		t.Errorf("Digest: %x", d)
	}
}

// 5.1: where Author and Number may be.
func TestNumbers(t *testing.T) {
	for n := range 7 {
		b := some()
		b.Author = n
		wantRight(t, "author "+strconv.Itoa(n), b)
	}
	for _, n := range []int{-1, -6, 7, 8, 127, 256, 1 << 32, 1<<32 + 1, api.MaxInt, api.MaxInt + 1, math.MaxInt, math.MinInt} {
		b := some()
		b.Author = n
		wantWrong(t, "author "+strconv.Itoa(n), b, api.ErrRange)
	}
	for _, n := range []int{1, 2, 127, 128, 1 << 32, api.MaxInt - 1, api.MaxInt} {
		b := some()
		b.Number = n
		wantRight(t, "number "+strconv.Itoa(n), b)
	}
	for _, n := range []int{0, -1, -200, api.MaxInt + 1, math.MaxInt, math.MinInt} {
		b := some()
		b.Number = n
		wantWrong(t, "number "+strconv.Itoa(n), b, api.ErrRange)
	}
}

// 5.1: how many transactions there may be.
func TestCounts(t *testing.T) {
	for n := 1; n <= 16; n++ {
		wantRight(t, strconv.Itoa(n), api.Batch{Number: 1, Txs: pays(n)})
	}
	wantRight(t, "the greatest", api.Batch{Author: 6, Number: api.MaxInt, Txs: slices.Repeat([]api.Tx{great()}, 16)})
	for _, l := range [][]api.Tx{nil, {}, make([]api.Tx, 0, 5)} {
		wantWrong(t, "none", api.Batch{Number: 1, Txs: l}, api.ErrFew)
	}
	wantWrong(t, "a zero batch", api.Batch{}, api.ErrRange)
	for _, n := range []int{17, 18, 32, 255, 256, 257, 1 << 16} {
		wantWrong(t, strconv.Itoa(n), api.Batch{Number: 1, Txs: pays(n)}, api.ErrLong)
		wantWrong(t, strconv.Itoa(n)+" wrong ones", api.Batch{Number: 1, Txs: make([]api.Tx, n)}, api.ErrLong)
	}
}

// wrongs are transactions with unlike errors.
func wrongs(t *testing.T) map[api.Errno]api.Tx {
	t.Helper()
	field, great, long, order, kind := pay(1), pay(1), pay(1), put(1), pay(1)
	field.From, great.Nonce, long.Reads, order.Writes, kind.Kind = "A", api.MaxInt+1, make([]string, 9), []string{"a:b", "a:a"}, 0
	m := map[api.Errno]api.Tx{api.ErrField: field, api.ErrRange: great, api.ErrLong: long, api.ErrOrder: order, api.ErrKind: kind}
	for want, x := range m {
		if e := tx.Check(x); e != want {
			t.Fatalf("%v: error %d, want %d", x, e, want)
		}
	}
	return m
}

// 5.1: the error of the first transaction that has one, wherever it stands.
func TestTxErrors(t *testing.T) {
	for want, x := range wrongs(t) {
		for at := range 16 {
			b := api.Batch{Number: 1, Txs: pays(16)}
			b.Txs[at] = x
			what := "a wrong one at " + strconv.Itoa(at)
			wantWrong(t, what, b, want)
			for later, y := range wrongs(t) {
				for i := at + 1; i < 16; i++ {
					b.Txs[i] = y
				}
				wantWrong(t, what+", then error "+strconv.Itoa(int(later)), b, want)
			}
		}
	}
}

// 5.1: of any two faults the one that the chapter names first is told.
func TestCheckOrder(t *testing.T) {
	for _, where := range []api.Batch{{Author: -1, Number: 1}, {Author: 7, Number: 1}, {Number: 0}, {Number: -1}, {Number: api.MaxInt + 1}, {Author: 7, Number: 0}} {
		for _, l := range [][]api.Tx{nil, {{}}, pays(17), make([]api.Tx, 17)} {
			where.Txs = l
			wantWrong(t, "numbers and "+strconv.Itoa(len(l)), where, api.ErrRange)
		}
	}
	wantWrong(t, "too many wrong ones", api.Batch{Number: 1, Txs: make([]api.Tx, 17)}, api.ErrLong)
}

// 5.2: bytes that end too early, or go on.
func TestDecodeEnds(t *testing.T) {
	s := raw(some())
	for i := range len(s) {
		wantNone(t, "the first "+strconv.Itoa(i), s[:i], api.ErrShort)
	}
	for _, more := range []string{"\x00", "\x80", s, strings.Repeat("\xff", 99), strings.Repeat("\x00", 1<<20)} {
		wantNone(t, "more", s+more, api.ErrMore)
	}
}

// 5.2: in each field the errors that wire has for it, whatever is wrong ahead of it and behind it.
func TestDecodeFields(t *testing.T) {
	nine := strings.Repeat("\xff", 9)
	number := map[string]api.Errno{"": api.ErrShort, "\x80": api.ErrShort, "\x80\x00": api.ErrField, "\x81\x80\x00": api.ErrField, nine: api.ErrRange, strings.Repeat("\x80", 8) + "\x40": api.ErrRange}
	list := map[string]api.Errno{"": api.ErrShort, "\x80\x00": api.ErrField, nine: api.ErrRange, "\x11": api.ErrLong, wire.Int(api.MaxInt): api.ErrLong,
		"\x10": api.ErrShort, "\x01": api.ErrShort, "\x01\x02a": api.ErrShort, "\x02\x01a\x80\x00": api.ErrField, "\x01\x81\x80\x04": api.ErrLong, "\x02\x03abc\x03": api.ErrShort}
	for _, numbers := range [][2]int64{{0, 1}, {6, api.MaxInt}, {7, 1}, {api.MaxInt, 1}, {0, 0}, {7, 0}} {
		l := []string{wire.Int(numbers[0]), wire.Int(numbers[1])}
		for i, form := range []map[string]api.Errno{number, number, list} {
			for bytes, want := range form {
				what := "field " + strconv.Itoa(i) + " as " + strconv.QuoteToASCII(bytes)
				s := strings.Join(l[:i], "") + bytes
				wantNone(t, what, s, want)
				if want != api.ErrShort {
					wantNone(t, what+" and more", s+strings.Repeat("\xff", 99), want)
				}
			}
		}
	}
}

// 5.2: a list of at most 16.
func TestDecodeCounts(t *testing.T) {
	for _, n := range []int{17, 18, 128, 300} {
		b := api.Batch{Number: 1, Txs: pays(n)}
		wantNone(t, strconv.Itoa(n), raw(b), api.ErrLong)
		b.Txs = make([]api.Tx, n)
		wantNone(t, strconv.Itoa(n)+" wrong ones", raw(b), api.ErrLong)
	}
	b := api.Batch{Number: 1}
	wantNone(t, "none", raw(b), api.ErrFew)
	wantNone(t, "none, and more", raw(b)+"\x00", api.ErrMore)
}

// members are texts that are no right transaction, with tx.Decode's error.
func members(t *testing.T) map[string]api.Errno {
	t.Helper()
	m := map[string]api.Errno{}
	for want, x := range wrongs(t) {
		if want != api.ErrRange { // a number that is too great has no bytes
			m[rawTx(x)] = want
		}
	}
	right := rawTx(pay(1))
	above := pay(1)
	above.Kind = 3
	for s, want := range map[string]api.Errno{"": api.ErrShort, right[:len(right)-1]: api.ErrShort, right + "\x00": api.ErrMore, rawTx(above): api.ErrRange, "\x80\x00": api.ErrField, strings.Repeat("\xff", 9): api.ErrRange} {
		m[s] = want
	}
	for s, want := range m {
		if _, e := tx.Decode(s); e != want {
			t.Fatalf("tx.Decode(%x): error %d, want %d", s, e, want)
		}
	}
	return m
}

// 5.2: behind wire's errors the first wrong member's, then bytes that are left, then the numbers.
func TestDecodeOrder(t *testing.T) {
	right := rawTx(pay(1))
	for _, numbers := range [][2]int64{{0, 1}, {7, 1}, {api.MaxInt, 1}, {0, 0}, {1<<32 + 1, 1}} {
		ahead := wire.Int(numbers[0]) + wire.Int(numbers[1])
		for s, want := range members(t) {
			for _, l := range [][]string{{s}, {right, s}, {s, right}, {right, s, ""}, {s, "\xff"}, append(slices.Repeat([]string{right}, 15), s)} {
				what := "member " + strconv.QuoteToASCII(s)
				wantNone(t, what, ahead+wire.List(l), want)
				wantNone(t, what+" and more", ahead+wire.List(l)+"\x00", want)
			}
			list := wire.List([]string{s, right})
			wantNone(t, "a list that ends too early", ahead+list[:len(list)-1], api.ErrShort)
		}
		if numbers == [2]int64{0, 1} {
			continue
		}
		for _, l := range [][]string{nil, {right}} {
			what := "numbers " + strconv.FormatInt(numbers[0], 10) + " " + strconv.FormatInt(numbers[1], 10)
			wantNone(t, what, ahead+wire.List(l), api.ErrRange)
			wantNone(t, what+" and more", ahead+wire.List(l)+"\x00", api.ErrMore)
		}
	}
}

// plain is the chapter's words on Decode, one by one.
func plain(s string) (api.Batch, api.Errno) {
	var n [2]int64
	for i := range n {
		var size int
		var e api.Errno
		if n[i], size, e = wire.GetInt(s); e != api.OK {
			return api.Batch{}, e
		}
		s = s[size:]
	}
	l, size, e := wire.GetList(s, 16)
	if e != api.OK {
		return api.Batch{}, e
	}
	var txs []api.Tx
	for _, m := range l {
		x, e := tx.Decode(m)
		if e != api.OK {
			return api.Batch{}, e
		}
		txs = append(txs, x)
	}
	switch {
	case len(s) > size:
		return api.Batch{}, api.ErrMore
	case n[0] > 6 || n[1] < 1:
		return api.Batch{}, api.ErrRange
	case len(txs) == 0:
		return api.Batch{}, api.ErrFew
	}
	return api.Batch{Author: int(n[0]), Number: int(n[1]), Txs: txs}, api.OK
}

// 5.2: right bytes with each byte as each other one, left out or doubled: as the chapter's words say; what is read is written as it was.
func TestDecodeNear(t *testing.T) {
	right := 0
	look := func(s string) {
		b, e := batch.Decode(s)
		c, want := plain(s)
		if e != want || !same(b, c) {
			t.Errorf("Decode(%x): %v, error %d, want %v, error %d", s, b, e, c, want)
		}
		if e != api.OK {
			return
		}
		right++
		if again, e := batch.Encode(b); again != s || e != api.OK {
			t.Errorf("Encode of Decode(%x): %x, error %d", s, again, e)
		}
	}
	s := raw(some())
	for i := range len(s) {
		for b := range 256 {
			look(s[:i] + string([]byte{byte(b)}) + s[i+1:])
		}
		look(s[:i] + s[i+1:])
		look(s[:i] + s[i:i+1] + s[i:])
	}
	if right < 500 {
		t.Errorf("only %d of them were right", right)
	}
}

// Words: unlike batches have unlike bytes and digests; empty lists are as none.
func TestUnlike(t *testing.T) {
	seen := map[string]int{}
	made := 0
	for _, author := range []int{0, 1, 6} {
		for _, number := range []int{1, 6, 128, api.MaxInt} {
			for _, l := range [][]api.Tx{pays(1), pays(2), {pay(1), pay(0)}, {pay(0), pay(1)}, {pay(0), pay(0)}, {great()}, pays(16)} {
				b := api.Batch{Author: author, Number: number, Txs: l}
				wantRight(t, "made", b)
				seen[batch.Digest(b)]++
				made++
			}
		}
	}
	if len(seen) != made {
		t.Errorf("%d batches have %d digests", made, len(seen))
	}
	x, y := pay(1), pay(1)
	x.Reads, y.Reads = nil, []string{}
	one, two := api.Batch{Number: 1, Txs: []api.Tx{x}}, api.Batch{Number: 1, Txs: []api.Tx{y}}
	if batch.Digest(one) != batch.Digest(two) {
		t.Errorf("an empty list is not as none")
	}
}

// R4: what is handed in stays as it was, with the room behind the list's end; what is handed out is memory of its own.
func TestMemory(t *testing.T) {
	spare := append(pays(2), pay(98), pay(99))
	b := api.Batch{Author: 3, Number: 200, Txs: spare[:2]}
	ahead := copied(spare)
	s, _ := batch.Encode(b)
	batch.Check(b)
	batch.Digest(b)
	if !slices.EqualFunc(spare, ahead, sameTx) {
		t.Errorf("what was handed in has changed: %v", spare)
	}
	c, _ := batch.Decode(s)
	spoil(c)
	if d, e := batch.Decode(s); !same(d, b) || e != api.OK {
		t.Errorf("the next Decode: %v, error %d", d, e)
	}
}

// spoil writes over all that can be reached from a batch, the room behind its lists' ends, too.
func spoil(b api.Batch) {
	for i := range b.Txs {
		for _, l := range [][]string{b.Txs[i].Reads, b.Txs[i].Writes} {
			for k := range l {
				l[k] = "gone"
			}
			l = l[:cap(l)]
			for k := range l {
				l[k] = "gone"
			}
		}
	}
	l := b.Txs[:cap(b.Txs)]
	for i := range l {
		l[i] = api.Tx{From: "gone"}
	}
}
