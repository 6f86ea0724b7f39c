package tx_test

import (
	"math"
	"reflect"
	"slices"
	"strconv"
	"strings"
	"testing"

	"tusk/api"
	"tusk/tx"
	"tusk/wire"
)

// pay is a right Transfer that fits, put a right Put that does, too.
func pay() api.Tx {
	return api.Tx{Kind: api.Transfer, From: "ab", To: "c", Amount: 5, Nonce: 1, Reads: []string{"a:r", "k:r"}, Writes: []string{"a:ab", "a:c"}}
}

func put() api.Tx {
	return api.Tx{Kind: api.Put, From: "ab", Nonce: 300, Key: "c", Value: "V \x00\xff", Reads: []string{"a:r"}, Writes: []string{"a:ab", "k:c"}}
}

// raw is a transaction's bytes, right or not.
func raw(t api.Tx) string {
	return strings.Join(fields(t), "")
}

// fields are the bytes of each field, in their order.
func fields(t api.Tx) []string {
	return []string{
		wire.Int(int64(t.Kind)), wire.Text(t.From), wire.Text(t.To), wire.Int(int64(t.Amount)), wire.Int(int64(t.Nonce)),
		wire.Text(t.Key), wire.Text(t.Value), wire.List(t.Reads), wire.List(t.Writes),
	}
}

// same tells whether two are alike; an empty list is as none.
func same(a, b api.Tx) bool {
	equal := slices.Equal(a.Reads, b.Reads) && slices.Equal(a.Writes, b.Writes)
	a.Reads, a.Writes, b.Reads, b.Writes = nil, nil, nil, nil
	return equal && reflect.DeepEqual(a, b)
}

// copied is a transaction with lists of its own.
func copied(t api.Tx) api.Tx {
	t.Reads, t.Writes = slices.Clone(t.Reads), slices.Clone(t.Writes)
	return t
}

// wantWrong is that all functions refuse a transaction in the way that belongs to the error.
func wantWrong(t *testing.T, what string, x api.Tx, want api.Errno) {
	t.Helper()
	if e := tx.Check(x); e != want {
		t.Errorf("%s: Check: error %d, want %d", what, e, want)
	}
	if s, e := tx.Encode(x); s != "" || e != want {
		t.Errorf("%s: Encode: %.40x, error %d, want %d", what, s, e, want)
	}
	if l := tx.Needs(x); len(l) != 0 {
		t.Errorf("%s: Needs: %v", what, l)
	}
	if tx.Fits(x) {
		t.Errorf("%s: it fits", what)
	}
}

// wantRight is that a transaction is right, and goes to bytes and back.
func wantRight(t *testing.T, what string, x api.Tx) {
	t.Helper()
	if e := tx.Check(x); e != api.OK {
		t.Errorf("%s: Check: error %d", what, e)
	}
	s, e := tx.Encode(x)
	if s != raw(x) || e != api.OK {
		t.Errorf("%s: Encode: %.40x, error %d, want %.40x", what, s, e, raw(x))
	}
	if y, e := tx.Decode(s); !same(x, y) || e != api.OK {
		t.Errorf("%s: Decode: %v, error %d", what, y, e)
	}
}

// wantNone is that bytes are refused.
func wantNone(t *testing.T, what, s string, want api.Errno) {
	t.Helper()
	if x, e := tx.Decode(s); e != want || !reflect.DeepEqual(x, api.Tx{}) {
		t.Errorf("%s: Decode: %v, error %d, want %d", what, x, e, want)
	}
}

// The chapter's example.
func TestExample(t *testing.T) {
	x := api.Tx{Kind: api.Transfer, From: "ab", To: "c", Amount: 5, Nonce: 1, Writes: []string{"a:ab", "a:c"}}
	bytes := "\x01\x02\x61\x62\x01\x63\x05\x01\x00\x00\x00\x02\x04\x61\x3a\x61\x62\x03\x61\x3a\x63"
	if s, e := tx.Encode(x); s != bytes || e != api.OK {
		t.Errorf("Encode: %x, error %d", s, e)
	}
	if y, e := tx.Decode(bytes); !same(x, y) || e != api.OK {
		t.Errorf("Decode: %v, error %d", y, e)
	}
	if l := tx.Needs(x); !slices.Equal(l, []string{"a:ab", "a:c"}) || !tx.Fits(x) {
		t.Errorf("Needs: %v; it fits: %v", l, tx.Fits(x))
	}
	x.From = "Ab"
	wantWrong(t, "From Ab", x, api.ErrField)
	wantNone(t, "From Ab", raw(x), api.ErrField)
}

// A Put's bytes, written out: each field stands in its place.
func TestPutBytes(t *testing.T) {
	x := api.Tx{Kind: api.Put, From: "f", Nonce: 128, Key: "k9", Value: "v\x00", Reads: []string{"a:0"}, Writes: []string{"a:f", "k:k9"}}
	bytes := "\x02\x01f\x00\x00\x80\x01\x02k9\x02v\x00\x01\x03a:0\x02\x03a:f\x04k:k9"
	if s, e := tx.Encode(x); s != bytes || e != api.OK {
		t.Errorf("Encode: %x, error %d", s, e)
	}
	if y, e := tx.Decode(bytes); !same(x, y) || e != api.OK {
		t.Errorf("Decode: %v, error %d", y, e)
	}
}

// names are texts, and whether each is a name.
func names() map[string]bool {
	m := map[string]bool{"": false, "a b": false, "é": false, "a\xff": false, "a:b": false, "\x00": false, "ab\n": false, "az09": true}
	for _, size := range []int{1, 2, 31, 32} {
		m[strings.Repeat("z", size)] = true
	}
	for _, size := range []int{33, 64, 65, api.MaxText, api.MaxText + 1, 1 << 20} {
		m[strings.Repeat("z", size)] = false
	}
	for b := range 256 {
		name := b >= 'a' && b <= 'z' || b >= '0' && b <= '9'
		for _, s := range []string{string([]byte{byte(b)}), "a" + string([]byte{byte(b)}), string([]byte{byte(b)}) + "9", strings.Repeat("q", 31) + string([]byte{byte(b)})} {
			m[s] = name
		}
	}
	return m
}

// Words: a name is 1 to 32 small letters and digits, where a name is asked for.
func TestNames(t *testing.T) {
	for name, right := range names() {
		var l [5]api.Tx
		for i := range l {
			l[i] = pay()
			if i == 2 {
				l[i] = put()
			}
		}
		l[0].From, l[1].To, l[2].Key = name, name, name
		l[3].Reads, l[4].Writes = []string{"a:" + name}, []string{"k:" + name}
		for i, x := range l {
			what := strconv.Itoa(i) + ": name " + strconv.QuoteToASCII(name[:min(len(name), 40)])
			if right {
				wantRight(t, what, x)
				continue
			}
			wantWrong(t, what, x, api.ErrField)
			size := len(name)
			if i >= 3 {
				size += len("a:")
			}
			if size <= api.MaxText {
				wantNone(t, what, raw(x), api.ErrField)
			} else {
				wantNone(t, what, raw(x), api.ErrLong)
			}
		}
	}
}

// Words: a key is a: or k: and a name, and nothing else.
func TestKeys(t *testing.T) {
	for _, k := range []string{"", "a", "k", ":", "a:", "k:", "ab", "abc", "b:x", "A:x", "K:x", ":a:x", "a::x", "aa:x", "a;x", "a x", "x:a", "k:a:x", "a:k:x", "a:X", " a:x", "a:x ", "0:x", "\x00:x", "v:x"} {
		for _, l := range [][]string{{k}, {"a:0", k}, {k, "k:zz"}} {
			x, y := pay(), pay()
			x.Reads, y.Writes = l, l
			wantWrong(t, "reads "+k, x, api.ErrField)
			wantWrong(t, "writes "+k, y, api.ErrField)
			wantNone(t, "reads "+k, raw(x), api.ErrField)
			wantNone(t, "writes "+k, raw(y), api.ErrField)
		}
	}
}

// numbered are n keys, rising.
func numbered(n int) []string {
	var l []string
	for i := range n {
		l = append(l, "a:"+strconv.Itoa(100000+i))
	}
	return l
}

// Words: at most eight keys, strictly rising byte by byte.
func TestLists(t *testing.T) {
	for _, c := range []struct {
		l    []string
		want api.Errno
	}{
		{nil, api.OK},
		{[]string{}, api.OK},
		{[]string{"k:x"}, api.OK},
		{numbered(7), api.OK},
		{numbered(8), api.OK},
		{[]string{"a:0", "a:00", "a:9", "a:a", "a:aa", "a:b", "a:z", "k:0"}, api.OK},
		{[]string{"a:zz", "k:0"}, api.OK},
		{[]string{"a:a", "a:a"}, api.ErrOrder},
		{[]string{"a:b", "a:a"}, api.ErrOrder},
		{[]string{"a:aa", "a:a"}, api.ErrOrder},
		{[]string{"a:a", "a:9"}, api.ErrOrder},
		{[]string{"a:b", "a:aa"}, api.ErrOrder},
		{[]string{"a:9", "a:10"}, api.ErrOrder},
		{[]string{"k:a", "a:b"}, api.ErrOrder},
		{[]string{"a:a", "a:c", "a:b"}, api.ErrOrder},
		{append(numbered(7), "a:0"), api.ErrOrder},
		{append(numbered(7), numbered(7)[6]), api.ErrOrder},
		{[]string{"a:b", "a:a", "x"}, api.ErrOrder},
		{[]string{"a:b", "x", "a:a"}, api.ErrField},
		{[]string{"x", "a:b", "a:a"}, api.ErrField},
		{[]string{"a:b", "A"}, api.ErrField},
		{[]string{"x", "x"}, api.ErrField},
		{numbered(9), api.ErrLong},
		{append([]string{"x"}, numbered(8)...), api.ErrLong},
		{slices.Repeat([]string{"a:a"}, 9), api.ErrLong},
		{numbered(1 << 16), api.ErrLong},
		{make([]string, 300), api.ErrLong},
	} {
		for i, base := range []api.Tx{pay(), put()} {
			reads, writes := base, base
			reads.Reads, writes.Writes = c.l, c.l
			for _, x := range []api.Tx{reads, writes} {
				what := strconv.Itoa(i) + ": " + strings.Join(c.l[:min(len(c.l), 9)], " ")
				if c.want == api.OK {
					wantRight(t, what, x)
					continue
				}
				wantWrong(t, what, x, c.want)
				wantNone(t, what, raw(x), c.want)
			}
		}
	}
}

// Words: which fields a Transfer has, and which a Put, and how far each goes.
func TestFields(t *testing.T) {
	for i, c := range []struct {
		change func(x *api.Tx)
		pay    api.Errno
		put    api.Errno
	}{
		{func(x *api.Tx) {}, api.OK, api.OK},
		{func(x *api.Tx) { x.From = "" }, api.ErrField, api.ErrField},
		{func(x *api.Tx) { x.To = "" }, api.ErrField, api.OK},
		{func(x *api.Tx) { x.To = "x" }, api.OK, api.ErrField},
		{func(x *api.Tx) { x.To = x.From }, api.OK, api.ErrField},
		{func(x *api.Tx) { x.Key = "" }, api.OK, api.ErrField},
		{func(x *api.Tx) { x.Key = "x" }, api.ErrField, api.OK},
		{func(x *api.Tx) { x.Key = x.From }, api.ErrField, api.OK},
		{func(x *api.Tx) { x.Value = "" }, api.OK, api.OK},
		{func(x *api.Tx) { x.Value = "\x00" }, api.ErrField, api.OK},
		{func(x *api.Tx) { x.Value = strings.Repeat("\xff", 63) }, api.ErrField, api.OK},
		{func(x *api.Tx) { x.Value = strings.Repeat("\xff", 64) }, api.ErrField, api.OK},
		{func(x *api.Tx) { x.Value = strings.Repeat("v", 65) }, api.ErrField, api.ErrField},
		{func(x *api.Tx) { x.Value = strings.Repeat("v", api.MaxText) }, api.ErrField, api.ErrField},
		{func(x *api.Tx) { x.Amount = 0 }, api.OK, api.OK},
		{func(x *api.Tx) { x.Amount = 1 }, api.OK, api.ErrField},
		{func(x *api.Tx) { x.Amount = api.MaxInt }, api.OK, api.ErrField},
		{func(x *api.Tx) { x.Nonce = 0 }, api.OK, api.OK},
		{func(x *api.Tx) { x.Nonce = api.MaxInt }, api.OK, api.OK},
		{func(x *api.Tx) { x.Reads, x.Writes = nil, nil }, api.OK, api.OK},
	} {
		for k, want := range []api.Errno{c.pay, c.put} {
			x := []api.Tx{pay(), put()}[k]
			c.change(&x)
			what := strconv.Itoa(i) + " of kind " + strconv.Itoa(x.Kind)
			if want == api.OK {
				wantRight(t, what, x)
				continue
			}
			wantWrong(t, what, x, want)
			wantNone(t, what, raw(x), want)
		}
	}
}

// 4.1: numbers above MaxInt, which have no bytes.
func TestGreat(t *testing.T) {
	for _, n := range []uint64{api.MaxInt + 1, api.MaxInt + 2, math.MaxInt64, math.MaxInt64 + 1, math.MaxUint64} {
		x, y, z, w := pay(), pay(), put(), put()
		x.Amount, y.Nonce, z.Nonce, w.Amount = n, n, n, n
		what := strconv.FormatUint(n, 10)
		wantWrong(t, "amount "+what, x, api.ErrRange)
		wantWrong(t, "nonce "+what, y, api.ErrRange)
		wantWrong(t, "a put's nonce "+what, z, api.ErrRange)
		wantWrong(t, "a put's amount "+what, w, api.ErrField)
	}
}

// 4.1: a Kind that is none.
func TestKinds(t *testing.T) {
	for _, kind := range []int{0, -1, -2, 3, 4, 255, 257, 258, 1<<32 + 1, 1<<32 + 2, api.MaxInt, math.MaxInt, math.MinInt} {
		for _, x := range []api.Tx{pay(), put(), {}} {
			x.Kind = kind
			wantWrong(t, "kind "+strconv.Itoa(kind), x, api.ErrKind)
		}
	}
}

// 4.1: of any two faults the one that the chapter names first is told.
func TestCheckOrder(t *testing.T) {
	faults := []struct {
		want   api.Errno
		change func(x *api.Tx)
	}{
		{api.ErrKind, func(x *api.Tx) { x.Kind = 3 }},
		{api.ErrField, func(x *api.Tx) { x.From = "A" }},
		{api.ErrField, func(x *api.Tx) { x.To = "A" }},
		{api.ErrField, func(x *api.Tx) { x.Key = "A" }},
		{api.ErrField, func(x *api.Tx) { x.Value = strings.Repeat("v", 65) }},
		{api.ErrRange, func(x *api.Tx) { x.Nonce = api.MaxInt + 1 }},
		{api.ErrLong, func(x *api.Tx) { x.Reads = make([]string, 9) }},
		{api.ErrField, func(x *api.Tx) { x.Reads = []string{"a:b", "x", "a:a"} }},
		{api.ErrOrder, func(x *api.Tx) { x.Reads = []string{"a:b", "a:a", "x"} }},
		{api.ErrLong, func(x *api.Tx) { x.Writes = make([]string, 9) }},
		{api.ErrField, func(x *api.Tx) { x.Writes = []string{"a:b", "x", "a:a"} }},
		{api.ErrOrder, func(x *api.Tx) { x.Writes = []string{"a:b", "a:a", "x"} }},
	}
	for i, first := range faults {
		for k, later := range faults[i:] {
			for _, x := range []api.Tx{pay(), put()} {
				later.change(&x)
				first.change(&x)
				wantWrong(t, strconv.Itoa(i)+" and "+strconv.Itoa(i+k), x, first.want)
			}
		}
	}
}

// 4.1: a Put's Amount is told as a field's error, ahead of what is too great; a Transfer's is not.
func TestAmountOrder(t *testing.T) {
	x, y := put(), pay()
	x.Amount, x.Nonce, x.Reads = 1, api.MaxInt+1, make([]string, 9)
	y.Amount, y.Nonce, y.Reads = api.MaxInt+1, 1, make([]string, 9)
	wantWrong(t, "a put", x, api.ErrField)
	wantWrong(t, "a transfer", y, api.ErrRange)
}

// 4.2: bytes that end too early, or go on.
func TestDecodeEnds(t *testing.T) {
	for _, x := range []api.Tx{pay(), put()} {
		s := raw(x)
		for i := range len(s) {
			wantNone(t, "the first "+strconv.Itoa(i), s[:i], api.ErrShort)
		}
		for _, more := range []string{"\x00", "\x80", s, strings.Repeat("\xff", 99)} {
			wantNone(t, "more", s+more, api.ErrMore)
		}
	}
}

// 4.2: in each field the errors that wire has for it, whatever is wrong behind it.
func TestDecodeFields(t *testing.T) {
	nine := strings.Repeat("\xff", 9)
	number := map[string]api.Errno{"": api.ErrShort, "\x80": api.ErrShort, "\x80\x00": api.ErrField, "\x81\x80\x00": api.ErrField, nine: api.ErrRange, strings.Repeat("\x80", 8) + "\x40": api.ErrRange}
	text := map[string]api.Errno{"": api.ErrShort, "\x80\x00": api.ErrField, nine: api.ErrRange, "\x02a": api.ErrShort, "\x81\x80\x04": api.ErrLong, wire.Int(api.MaxInt): api.ErrLong, "\x80\x80\x04": api.ErrShort}
	list := map[string]api.Errno{"": api.ErrShort, "\x80\x00": api.ErrField, nine: api.ErrRange, "\x09": api.ErrLong, wire.Int(api.MaxInt): api.ErrLong, "\x08": api.ErrShort, "\x01": api.ErrShort, "\x01\x02a": api.ErrShort, "\x02\x03a:a\x80\x00": api.ErrField, "\x01\x81\x80\x04": api.ErrLong, "\x02\x03a:b\x03": api.ErrShort}
	forms := []map[string]api.Errno{number, text, text, number, number, text, text, list, list}
	for _, x := range []api.Tx{pay(), put(), {Kind: 3}, {Kind: 0}, {Kind: 9, From: "A", To: "A", Key: "A", Reads: []string{"x"}}} {
		l := fields(x)
		for i, form := range forms {
			for bytes, want := range form {
				what := "field " + strconv.Itoa(i) + " as " + strconv.QuoteToASCII(bytes)
				wantNone(t, what, strings.Join(l[:i], "")+bytes, want)
				if want != api.ErrShort && bytes != nine {
					wantNone(t, what+" and more", strings.Join(l[:i], "")+bytes+strings.Repeat("\xff", 99), want)
				}
			}
		}
	}
}

// 4.2: behind wire's errors a Kind above 2, then bytes that are left, then Check's error.
func TestDecodeOrder(t *testing.T) {
	for _, kind := range []int{3, 4, 127, 128, 257, 258, 1<<32 + 1, 1<<32 + 2, api.MaxInt} {
		for _, x := range []api.Tx{pay(), put(), {From: "A"}, {Reads: []string{"x"}}} {
			x.Kind = kind
			s := raw(x)
			what := "kind " + strconv.Itoa(kind)
			wantNone(t, what, s, api.ErrRange)
			wantNone(t, what+" and more", s+"\x00", api.ErrRange)
			wantNone(t, what+" and less", s[:len(s)-1], api.ErrShort)
		}
	}
	for _, x := range []api.Tx{{}, {Kind: 0, From: "A"}, {Kind: 1}, {Kind: 2, From: "a", Key: "b", Amount: 1}} {
		want := tx.Check(x)
		if want == api.OK {
			t.Fatalf("%v is right", x)
		}
		wantNone(t, "wrong", raw(x), want)
		wantNone(t, "wrong and more", raw(x)+"\x00", api.ErrMore)
	}
	none := pay()
	none.Kind = 0
	wantNone(t, "kind 0", raw(none), api.ErrKind)
}

// plain is the chapter's words on Decode, one by one, without a throw.
func plain(s string) (api.Tx, api.Errno) {
	var n [3]int64
	var l [4]string
	var keys [2][]string
	for _, c := range []struct {
		kind byte
		at   int
	}{{'n', 0}, {'t', 0}, {'t', 1}, {'n', 1}, {'n', 2}, {'t', 2}, {'t', 3}, {'l', 0}, {'l', 1}} {
		var size int
		var e api.Errno
		switch c.kind {
		case 'n':
			n[c.at], size, e = wire.GetInt(s)
		case 't':
			l[c.at], size, e = wire.GetText(s)
		case 'l':
			keys[c.at], size, e = wire.GetList(s, 8)
		}
		if e != api.OK {
			return api.Tx{}, e
		}
		s = s[size:]
	}
	if n[0] > 2 {
		return api.Tx{}, api.ErrRange
	}
	if s != "" {
		return api.Tx{}, api.ErrMore
	}
	x := api.Tx{Kind: int(n[0]), From: l[0], To: l[1], Amount: uint64(n[1]), Nonce: uint64(n[2]), Key: l[2], Value: l[3], Reads: keys[0], Writes: keys[1]}
	if e := tx.Check(x); e != api.OK {
		return api.Tx{}, e
	}
	return x, api.OK
}

// 4.2, 4.4: right bytes with each byte as each other one, left out or doubled: as the chapter's words say; what is read is written as it was.
func TestDecodeNear(t *testing.T) {
	right := 0
	look := func(s string) {
		x, e := tx.Decode(s)
		y, want := plain(s)
		if e != want || !same(x, y) {
			t.Errorf("Decode(%x): %v, error %d, want %v, error %d", s, x, e, y, want)
		}
		if e != api.OK {
			return
		}
		right++
		if again, e := tx.Encode(x); again != s || e != api.OK {
			t.Errorf("Encode of Decode(%x): %x, error %d", s, again, e)
		}
	}
	for _, x := range []api.Tx{pay(), put()} {
		s := raw(x)
		for i := range len(s) {
			for b := range 256 {
				look(s[:i] + string([]byte{byte(b)}) + s[i+1:])
			}
			look(s[:i] + s[i+1:])
			look(s[:i] + s[i:i+1] + s[i:])
		}
	}
	if right < 500 {
		t.Errorf("only %d of them were right", right)
	}
}

// 4.4: Decode of Encode is the transaction, of all that may be made of some values, the greatest among them.
func TestRound(t *testing.T) {
	long := strings.Repeat("z", 32)
	numbers := []uint64{0, 1, 127, 128, 1 << 32, api.MaxInt}
	lists := [][]string{nil, {"a:x"}, {"a:" + long, "k:" + long}, numbered(8)}
	seen := map[string]int{}
	made := 0
	look := func(x api.Tx) {
		wantRight(t, "made", x)
		s, _ := tx.Encode(x)
		seen[s]++
		made++
	}
	for _, from := range []string{"a", "0", long} {
		for _, other := range []string{"b", "9z", long} {
			for _, n := range numbers {
				for _, reads := range lists {
					for _, writes := range lists {
						for _, m := range numbers {
							look(api.Tx{Kind: 1, From: from, To: other, Amount: m, Nonce: n, Reads: reads, Writes: writes})
						}
						for _, v := range []string{"", "\x00", strings.Repeat("\xff", 64)} {
							look(api.Tx{Kind: 2, From: from, Key: other, Value: v, Nonce: n, Reads: reads, Writes: writes})
						}
					}
				}
			}
		}
	}
	if len(seen) != made {
		t.Errorf("%d transactions have %d sorts of bytes", made, len(seen))
	}
}

// 4.3: what is needed, strictly rising, whatever is declared.
func TestNeeds(t *testing.T) {
	for _, c := range []struct {
		kind        int
		from, other string
		want        []string
	}{
		{1, "ab", "c", []string{"a:ab", "a:c"}},
		{1, "c", "ab", []string{"a:ab", "a:c"}},
		{1, "a", "ab", []string{"a:a", "a:ab"}},
		{1, "ab", "a", []string{"a:a", "a:ab"}},
		{1, "b", "aa", []string{"a:aa", "a:b"}},
		{1, "a", "9", []string{"a:9", "a:a"}},
		{1, "9", "10", []string{"a:10", "a:9"}},
		{1, "c", "c", []string{"a:c"}},
		{2, "ab", "c", []string{"a:ab", "k:c"}},
		{2, "c", "ab", []string{"a:c", "k:ab"}},
		{2, "c", "c", []string{"a:c", "k:c"}},
	} {
		x := api.Tx{Kind: c.kind, From: c.from}
		if c.kind == api.Put {
			x.Key = c.other
		} else {
			x.To = c.other
		}
		for _, l := range [][]string{nil, {"a:x"}, c.want} {
			x.Reads, x.Writes = l, l
			if got := tx.Needs(x); !slices.Equal(got, c.want) {
				t.Errorf("%v: needs %v, want %v", x, got, c.want)
			}
		}
	}
}

// 4.3: it fits, if all is in Writes, in whatever company; Reads do not count.
func TestFits(t *testing.T) {
	for _, c := range []struct {
		kind          int
		from, other   string
		reads, writes string
		want          bool
	}{
		{1, "a", "b", "", "a:a a:b", true},
		{1, "b", "a", "", "a:a a:b", true},
		{1, "b", "d", "", "a:a a:b a:c a:d a:e k:a", true},
		{1, "a", "b", "", "a:a", false},
		{1, "a", "b", "", "a:b", false},
		{1, "a", "b", "", "", false},
		{1, "a", "b", "a:a a:b", "", false},
		{1, "a", "b", "a:a", "a:b", false},
		{1, "a", "b", "a:b", "a:a", false},
		{1, "a", "b", "", "a:a a:ab", false},
		{1, "a", "b", "", "k:a k:b", false},
		{1, "a", "b", "", "a:a k:b", false},
		{1, "a", "a", "", "a:a", true},
		{1, "a", "a", "", "k:a", false},
		{1, "a", "a", "", "", false},
		{2, "a", "b", "", "a:a k:b", true},
		{2, "a", "a", "", "a:a k:a", true},
		{2, "a", "b", "a:a k:b", "a:0 a:a a:b k:a k:b k:c", true},
		{2, "a", "b", "", "a:a", false},
		{2, "a", "b", "", "k:b", false},
		{2, "a", "b", "k:b", "a:a", false},
		{2, "a", "b", "", "a:a a:b", false},
		{2, "a", "a", "", "a:a", false},
		{2, "a", "b", "", "a:a k:bb", false},
	} {
		x := api.Tx{Kind: c.kind, From: c.from, Reads: strings.Fields(c.reads), Writes: strings.Fields(c.writes)}
		if c.kind == api.Put {
			x.Key = c.other
		} else {
			x.To = c.other
		}
		wantRight(t, "fits", x)
		if got := tx.Fits(x); got != c.want {
			t.Errorf("%v: fits %v, want %v", x, got, c.want)
		}
	}
}

// 4.3: one that is wrong needs nothing and does not fit, though all its keys are there.
func TestWrongFitsNot(t *testing.T) {
	for i, change := range []func(x *api.Tx){
		func(x *api.Tx) { x.Kind = 0 },
		func(x *api.Tx) { x.Kind = 3 },
		func(x *api.Tx) { x.Value = strings.Repeat("v", 65) },
		func(x *api.Tx) { x.Nonce = api.MaxInt + 1 },
		func(x *api.Tx) { x.Amount = math.MaxUint64 },
		func(x *api.Tx) { x.Reads = []string{"x"} },
		func(x *api.Tx) { x.Reads = numbered(9) },
		func(x *api.Tx) { x.Writes = append(slices.Clone(x.Writes), x.Writes[0]) },
		func(x *api.Tx) { x.Writes = append(slices.Clone(x.Writes), "x") },
		func(x *api.Tx) { x.Writes = append(numbered(7), x.Writes...) },
	} {
		for _, x := range []api.Tx{pay(), put()} {
			change(&x)
			if l := tx.Needs(x); len(l) != 0 || tx.Fits(x) {
				t.Errorf("%d: needs %v, fits %v", i, l, tx.Fits(x))
			}
		}
	}
}

// R4: what is handed in stays as it was, with the room behind the lists' ends; what is handed out is memory of its own.
func TestMemory(t *testing.T) {
	for _, x := range []api.Tx{pay(), put()} {
		reads, writes := append(x.Reads, "spare", "spare"), append(x.Writes, "spare", "spare")
		x.Reads, x.Writes = reads[:len(x.Reads)], writes[:len(x.Writes)]
		ahead := copied(x)
		s, _ := tx.Encode(x)
		tx.Check(x)
		tx.Fits(x)
		first := tx.Needs(x)
		want := slices.Clone(first)
		for i := range first {
			first[i] = "gone"
		}
		if l := tx.Needs(x); !slices.Equal(l, want) || !same(x, ahead) {
			t.Errorf("needs %v, want %v; %v, want %v", l, want, x, ahead)
		}
		if !slices.Equal(reads[len(reads)-2:], []string{"spare", "spare"}) || !slices.Equal(writes[len(writes)-2:], []string{"spare", "spare"}) {
			t.Errorf("the room behind the lists has changed: %v, %v", reads, writes)
		}
		y, _ := tx.Decode(s)
		y.Reads[0], y.Writes[0] = "gone", "gone"
		y.Reads, y.Writes = append(y.Reads, "more"), append(y.Writes, "more")
		if z, e := tx.Decode(s); !same(z, ahead) || e != api.OK {
			t.Errorf("the next Decode: %v, error %d, want %v", z, e, ahead)
		}
	}
}
