package block_test

import (
	"reflect"
	"slices"
	"strconv"
	"strings"
	"testing"

	"tusk/api"
	"tusk/block"
	"tusk/header"
	"tusk/wire"
)

// mac is some 16 bytes.
const mac = "0123456789abcdef"

// least is the bytes of a Qc, as a text.
const least = "\x03\x00\x00\x00"

// nine is a number of too many bytes.
var nine = strings.Repeat("\xff", 9)

// voters are n tags, with unlike Macs.
func voters(n int) []api.Tag {
	var l []api.Tag
	for i := range n {
		l = append(l, api.Tag{Who: i % 7, Mac: strconv.Itoa(100+i) + mac[3:]})
	}
	return l
}

// wantBackQc is that a Qc has its bytes, is got from them, and they from it.
func wantBackQc(t *testing.T, what string, q api.Qc) {
	t.Helper()
	s := block.EncodeQc(q)
	if s != rawQc(q) {
		t.Errorf("%s: EncodeQc: %.60x, want %.60x", what, s, rawQc(q))
	}
	g, e := block.DecodeQc(s)
	if !sameQc(g, q) || e != api.OK {
		t.Errorf("%s: DecodeQc of EncodeQc: %v, error %d", what, g, e)
	}
	if block.EncodeQc(g) != s {
		t.Errorf("%s: EncodeQc of DecodeQc: %.60x, want %.60x", what, block.EncodeQc(g), s)
	}
}

// wantBack is that a block and its Qc have their bytes, are got from them, and they from them.
func wantBack(t *testing.T, what string, b api.Block) {
	t.Helper()
	wantBackQc(t, what, b.Qc)
	s := block.Encode(b)
	if s != raw(b) {
		t.Errorf("%s: Encode: %.60x, want %.60x", what, s, raw(b))
	}
	g, e := block.Decode(s)
	if !same(g, b) || e != api.OK {
		t.Errorf("%s: Decode of Encode: %v, error %d", what, g, e)
	}
	if block.Encode(g) != s {
		t.Errorf("%s: Encode of Decode: %.60x, want %.60x", what, block.Encode(g), s)
	}
	if block.Id(g) != block.Id(b) {
		t.Errorf("%s: the id is another one", what)
	}
}

// wantNone is that bytes are refused as a block.
func wantNone(t *testing.T, what, s string, want api.Errno) {
	t.Helper()
	if b, e := block.Decode(s); e != want || !reflect.DeepEqual(b, api.Block{}) {
		t.Errorf("%s: Decode: %v, error %d, want %d", what, b, e, want)
	}
}

// wantNoQc is that bytes are refused as a Qc, and by the same error as a block's, whatever is behind them.
func wantNoQc(t *testing.T, what, s string, want api.Errno) {
	t.Helper()
	if q, e := block.DecodeQc(s); e != want || !reflect.DeepEqual(q, api.Qc{}) {
		t.Errorf("%s: DecodeQc: %v, error %d, want %d", what, q, e, want)
	}
	if len(s) > api.MaxText {
		want = api.ErrLong
	}
	for _, behind := range []string{"", "\x00", "\x00\x00", wire.List(marked(3)), "\x09", nine, "\x80\x00"} {
		wantNone(t, what+" in a block", "\x05"+wire.Text(s)+behind, want)
	}
}

// wrongNumbers are bytes with no number at their front, with wire.GetInt's error.
func wrongNumbers() map[string]api.Errno {
	return map[string]api.Errno{
		"":                              api.ErrShort,
		"\x80":                          api.ErrShort,
		"\xff\xff":                      api.ErrShort,
		strings.Repeat("\x80", 8):       api.ErrShort,
		"\x80\x00":                      api.ErrField,
		"\x81\x80\x00":                  api.ErrField,
		nine:                            api.ErrRange,
		strings.Repeat("\x80", 8) + "@": api.ErrRange,
	}
}

// wrongTexts are bytes with no text at their front, with wire.GetText's error.
func wrongTexts() map[string]api.Errno {
	m := wrongNumbers()
	m["\x01"] = api.ErrShort
	m["\x20abc"] = api.ErrShort
	m["\x80\x80\x04"] = api.ErrShort
	m["\x81\x80\x04"] = api.ErrLong
	m[wire.Int(api.MaxInt)] = api.ErrLong
	m[wire.Int(1<<32+3)+least[1:]] = api.ErrLong
	m[wire.Text(strings.Repeat("\x00", api.MaxText+1))] = api.ErrLong
	return m
}

// wrongTags are bytes with no tags at their front, with header.GetTags's error.
func wrongTags(t *testing.T) map[string]api.Errno {
	t.Helper()
	m := wrongNumbers()
	m["\x01"] = api.ErrShort
	m["\x02\x11\x00"+mac] = api.ErrShort
	m["\x01\x00"] = api.ErrShort
	m["\x08"] = api.ErrLong
	m[header.Tags(voters(8))] = api.ErrLong
	m[wire.Int(api.MaxInt)] = api.ErrLong
	m["\x01\x11\x07"+mac] = api.ErrRange
	m["\x01\x10\x00"+mac[1:]] = api.ErrField
	m["\x01\x12\x00"+mac+"\x00"] = api.ErrField
	for s, e := range m {
		if _, _, got := header.GetTags(s); got != e {
			t.Fatalf("header.GetTags(%x): error %d, want %d", s, got, e)
		}
	}
	return m
}

// wrongLists are bytes with no list of at most eight texts at their front, with wire.GetList's error.
func wrongLists() map[string]api.Errno {
	m := wrongNumbers()
	m["\x01"] = api.ErrShort
	m["\x08"] = api.ErrShort
	m["\x01\x02a"] = api.ErrShort
	m["\x02\x01a"] = api.ErrShort
	m["\x09"] = api.ErrLong
	m["\x80\x01"] = api.ErrLong
	m[wire.Int(1<<32+1)] = api.ErrLong
	m[wire.Int(api.MaxInt)] = api.ErrLong
	m[wire.List(marked(9))] = api.ErrLong
	m["\x01\x81\x80\x04"] = api.ErrLong
	m["\x02\x01a\x80\x00"] = api.ErrField
	m["\x02\x00"+nine] = api.ErrRange
	return m
}

// ends tells whether bytes are refused because they end, so that what follows would be read with them.
func ends(e api.Errno) bool { return e == api.ErrShort }

// 8.2: DecodeQc: in each field the errors of its own, whatever is behind it; ErrMore last.
func TestDecodeQcFields(t *testing.T) {
	for s, e := range wrongNumbers() {
		wantNoQc(t, "view "+strconv.QuoteToASCII(s), s, e)
		if !ends(e) {
			wantNoQc(t, "view and more", s+"\x00\x00\x00"+nine, e)
		}
	}
	for _, view := range []string{"\x00", "\x01", "\xac\x02", wire.Int(api.MaxInt)} {
		for s, e := range wrongTexts() {
			what := "block " + strconv.QuoteToASCII(s[:min(len(s), 40)])
			wantNoQc(t, what, view+s, e)
			if !ends(e) {
				wantNoQc(t, what+" and more", view+s+"\x00"+nine, e)
			}
		}
		for _, id := range []string{"", "b", digest(1), strings.Repeat("b", 33)} {
			for s, e := range wrongTags(t) {
				what := "votes " + strconv.QuoteToASCII(s)
				wantNoQc(t, what, view+wire.Text(id)+s, e)
				if !ends(e) || s == "\x01\x00" {
					wantNoQc(t, what+" and more", view+wire.Text(id)+s+nine, e)
				}
			}
			for n := range 8 {
				s := view + wire.Text(id) + header.Tags(voters(n))
				for _, more := range []string{"\x00", "\x80", s, nine, strings.Repeat("\x00", 1<<17)} {
					wantNoQc(t, strconv.Itoa(n)+" votes and more", s+more, api.ErrMore)
				}
			}
		}
	}
}

// 8.2: Decode: in each field the errors of its own, whatever is behind it; ErrMore last.
func TestDecodeFields(t *testing.T) {
	for s, e := range wrongNumbers() {
		wantNone(t, "view "+strconv.QuoteToASCII(s), s, e)
		if !ends(e) {
			wantNone(t, "view and more", s+least+"\x00"+nine, e)
		}
	}
	texts := []string{least, wire.Text(block.EncodeQc(genesis())), wire.Text(block.EncodeQc(api.Qc{View: 9, Block: "b", Votes: voters(7)}))}
	for _, view := range []string{"\x00", "\x01", "\xac\x02", wire.Int(api.MaxInt)} {
		for s, e := range wrongTexts() {
			what := "Qc " + strconv.QuoteToASCII(s[:min(len(s), 40)])
			wantNone(t, what, view+s, e)
			if !ends(e) {
				wantNone(t, what+" and more", view+s+"\x00"+nine, e)
			}
		}
		for _, text := range texts {
			for s, e := range wrongLists() {
				what := "certs " + strconv.QuoteToASCII(s[:min(len(s), 40)])
				wantNone(t, what, view+text+s, e)
				if !ends(e) {
					wantNone(t, what+" and more", view+text+s+nine, e)
				}
			}
			for n := range 9 {
				s := view + text + wire.List(marked(n))
				for _, more := range []string{"\x00", "\x80", s, nine, strings.Repeat("\x00", 1<<20)} {
					wantNone(t, strconv.Itoa(n)+" certs and more", s+more, api.ErrMore)
				}
			}
		}
	}
}

// 8.2: bytes that end too early; within the Qc's text too, which says where it ends.
func TestDecodeEnds(t *testing.T) {
	b := some(t, table(t, 2, "seed"))
	s, q := raw(b), rawQc(b.Qc)
	for i := range len(s) {
		wantNone(t, "the first "+strconv.Itoa(i), s[:i], api.ErrShort)
	}
	for i := range len(q) {
		wantNoQc(t, "the Qc's first "+strconv.Itoa(i), q[:i], api.ErrShort)
	}
	wantNone(t, "certs within the text", "\x07"+wire.Text(q+wire.List(b.Certs)), api.ErrMore)
	// The Qc's View is taken for the text's length: five bytes, of which a Qc needs three.
	wantNone(t, "a Qc without its length", "\x07"+q+wire.List(b.Certs), api.ErrMore)
	wantNone(t, "nothing", "", api.ErrShort)
}

// 8.2, 8.3: Qcs and blocks that are not right, but whose fields are such as can be read.
func TestBackOfWrong(t *testing.T) {
	for _, view := range []int{0, 1, 127, 128, 1 << 32, api.MaxInt} {
		for n := range 8 {
			for _, id := range []string{"", "b", digest(1), strings.Repeat("b", 300), "\x00\x00\x00"} {
				q := api.Qc{View: view, Block: id, Votes: voters(n)}
				wantBackQc(t, "a Qc", q)
				for _, certs := range [][]string{nil, {}, {""}, {"b", "a", "a"}, marked(8), make([]string, 8), {strings.Repeat("c", api.MaxText)}, {least, raw(api.Block{})}} {
					wantBack(t, "a block", api.Block{View: api.MaxInt - view, Qc: q, Certs: certs})
				}
			}
		}
	}
	falling := []api.Tag{{Who: 6, Mac: mac}, {Who: 6, Mac: mac}, {Mac: mac}}
	wantBack(t, "falling", api.Block{Qc: api.Qc{View: 3, Votes: falling}, Certs: []string{"b", "a"}})
	wantBackQc(t, "as long as can be", api.Qc{Block: strings.Repeat("l", api.MaxText)})
	// A block's Qc has a byte for its View, three for its Block's length, and one for no Votes.
	b := api.Block{Qc: api.Qc{Block: strings.Repeat("l", api.MaxText-5)}}
	wantBack(t, "as long as can be in a block", b)
	b.Qc.Block += "l"
	wantBackQc(t, "longer", b.Qc)
	wantNone(t, "longer than can be in a block", block.Encode(b), api.ErrLong)
}

// 8.3: the right block and Qc that have the most bytes.
func TestBackOfGreatest(t *testing.T) {
	x := table(t, 2, "seed")
	b := api.Block{View: api.MaxInt, Qc: qc(t, x, api.MaxInt-1, strings.Repeat("\xff", 32), first(x.N())...)}
	for i := range api.MaxCerts {
		b.Certs = append(b.Certs, block.Mark(api.MaxInt-i, strings.Repeat("\xff", 32)))
	}
	wantRight(t, "the greatest", x, b)
}

// plainQc is the chapter's words on DecodeQc, one by one.
func plainQc(s string) (api.Qc, api.Errno) {
	view, n, e := wire.GetInt(s)
	if e != api.OK {
		return api.Qc{}, e
	}
	id, m, e := wire.GetText(s[n:])
	if e != api.OK {
		return api.Qc{}, e
	}
	votes, k, e := header.GetTags(s[n+m:])
	if e != api.OK {
		return api.Qc{}, e
	}
	if n+m+k != len(s) {
		return api.Qc{}, api.ErrMore
	}
	return api.Qc{View: int(view), Block: id, Votes: votes}, api.OK
}

// plain is the chapter's words on Decode, one by one.
func plain(s string) (api.Block, api.Errno) {
	view, n, e := wire.GetInt(s)
	if e != api.OK {
		return api.Block{}, e
	}
	text, m, e := wire.GetText(s[n:])
	if e != api.OK {
		return api.Block{}, e
	}
	q, e := plainQc(text)
	if e != api.OK {
		return api.Block{}, e
	}
	certs, k, e := wire.GetList(s[n+m:], 8)
	if e != api.OK {
		return api.Block{}, e
	}
	if n+m+k != len(s) {
		return api.Block{}, api.ErrMore
	}
	return api.Block{View: int(view), Qc: q, Certs: certs}, api.OK
}

// look is that bytes are read as the chapter's words say, as a block and as a Qc, and written again as they were; it tells of which of both they are.
func look(t *testing.T, s string) (isBlock, isQc bool) {
	t.Helper()
	b, e := block.Decode(s)
	c, want := plain(s)
	if e != want || !same(b, c) || e != api.OK && !reflect.DeepEqual(b, api.Block{}) {
		t.Errorf("Decode(%x): %v, error %d, want %v, error %d", s, b, e, c, want)
	}
	isBlock = e == api.OK
	if isBlock && block.Encode(b) != s {
		t.Errorf("Encode of Decode(%x): %x", s, block.Encode(b))
	}
	q, e := block.DecodeQc(s)
	p, want := plainQc(s)
	if e != want || !sameQc(q, p) || e != api.OK && !reflect.DeepEqual(q, api.Qc{}) {
		t.Errorf("DecodeQc(%x): %v, error %d, want %v, error %d", s, q, e, p, want)
	}
	isQc = e == api.OK
	if isQc && block.EncodeQc(q) != s {
		t.Errorf("EncodeQc of DecodeQc(%x): %x", s, block.EncodeQc(q))
	}
	return isBlock, isQc
}

// 8.2, 8.3: right bytes with each byte as each other one, left out or doubled.
func TestDecodeNear(t *testing.T) {
	q := api.Qc{View: 200, Block: "id", Votes: voters(3)}
	blocks, qcs := 0, 0
	try := func(s string) {
		isBlock, isQc := look(t, s)
		if isBlock {
			blocks++
		}
		if isQc {
			qcs++
		}
	}
	for _, s := range []string{rawQc(q), raw(api.Block{View: 300, Qc: q, Certs: []string{"ab", "", marked(1)[0]}})} {
		for i := range len(s) {
			for b := range 256 {
				try(s[:i] + string([]byte{byte(b)}) + s[i+1:])
			}
			try(s[:i] + s[i+1:])
			try(s[:i] + s[i:i+1] + s[i:])
		}
	}
	if blocks < 10000 || qcs < 10000 {
		t.Errorf("only %d of them were blocks, and %d Qcs", blocks, qcs)
	}
}

// 8.2, 8.3: all texts of up to seven of the bytes at the edges.
func TestDecodeShort(t *testing.T) {
	blocks, qcs := 0, 0
	eachList([]byte("\x00\x01\x03\x04\x08\x09\x80"), 7, func(l []byte) {
		isBlock, isQc := look(t, string(l))
		if isBlock {
			blocks++
		}
		if isQc {
			qcs++
		}
	})
	if blocks < 20 || qcs < 100 {
		t.Errorf("only %d of them were blocks, and %d Qcs", blocks, qcs)
	}
}

// R4: what is handed out is memory of its own.
func TestHandedOut(t *testing.T) {
	b := api.Block{View: 9, Qc: api.Qc{View: 8, Block: "id", Votes: voters(5)}, Certs: []string{"p", "q", "r"}}
	one, _ := block.Decode(raw(b))
	two, _ := block.Decode(raw(b))
	q, _ := block.DecodeQc(rawQc(b.Qc))
	spoil(one.Qc.Votes, api.Tag{Who: 99})
	spoil(one.Certs, "gone")
	spoil(q.Votes, api.Tag{Who: 98})
	three, _ := block.Decode(raw(b))
	if !same(two, b) || !same(three, b) {
		t.Errorf("other answers have changed: %v, %v", two, three)
	}
	if r, _ := block.DecodeQc(rawQc(b.Qc)); !sameQc(r, b.Qc) {
		t.Errorf("another Qc has changed: %v", r)
	}
}

// spoil writes over a list, and over the room behind its end.
func spoil[T any](l []T, gone T) {
	l = l[:cap(l)]
	for i := range l {
		l[i] = gone
	}
}

// eachList hands out every list of at most size of these.
func eachList[T any](choice []T, size int, do func(l []T)) {
	var grow func(l []T)
	grow = func(l []T) {
		do(l)
		if len(l) == size {
			return
		}
		for _, c := range choice {
			grow(append(slices.Clone(l), c))
		}
	}
	grow(nil)
}
