package cert_test

import (
	"reflect"
	"slices"
	"strconv"
	"strings"
	"testing"

	"tusk/api"
	"tusk/cert"
	"tusk/header"
	"tusk/wire"
)

// mac is some 16 bytes.
const mac = "0123456789abcdef"

// nine is a number of too many bytes.
var nine = strings.Repeat("\xff", 9)

// least is the bytes of a header, as a text.
const least = "\x04\x01\x01\x00\x00"

// marks are n tags, with unlike Macs.
func marks(n int) []api.Tag {
	var l []api.Tag
	for i := range n {
		l = append(l, api.Tag{Who: i % 7, Mac: strconv.Itoa(100+i) + mac[3:]})
	}
	return l
}

// wantBack is that a certificate has its bytes, is got from them, and they from it.
func wantBack(t *testing.T, what string, c api.Cert) {
	t.Helper()
	s := cert.Encode(c)
	if s != raw(c) {
		t.Errorf("%s: Encode: %.60x, want %.60x", what, s, raw(c))
	}
	g, e := cert.Decode(s)
	if !same(g, c) || e != api.OK {
		t.Errorf("%s: Decode of Encode: %v, error %d", what, g, e)
	}
	if cert.Encode(g) != s {
		t.Errorf("%s: Encode of Decode: %.60x, want %.60x", what, cert.Encode(g), s)
	}
}

// wantNone is that bytes are refused.
func wantNone(t *testing.T, what, s string, want api.Errno) {
	t.Helper()
	if c, e := cert.Decode(s); e != want || !reflect.DeepEqual(c, api.Cert{}) {
		t.Errorf("%s: Decode: %v, error %d, want %d", what, c, e, want)
	}
}

// 7.1: wire.GetText's error comes first, whatever the text and what is behind it would be.
func TestDecodeText(t *testing.T) {
	for s, e := range map[string]api.Errno{
		"":                              api.ErrShort,
		"\x80":                          api.ErrShort,
		"\x05\x01\x01\x00\x00":          api.ErrShort,
		"\x01":                          api.ErrShort,
		"\xff\xff\x03":                  api.ErrShort,
		"\x80\x00" + least:              api.ErrField,
		"\x84\x00" + least[1:] + "\x00": api.ErrField,
		nine + least:                    api.ErrRange,
		nine:                            api.ErrRange,
		strings.Repeat("\x80", 8) + "@": api.ErrRange,
		wire.Int(api.MaxText+1) + least: api.ErrLong,
		wire.Int(api.MaxInt):            api.ErrLong,
		wire.Int(1<<32+4) + least[1:]:   api.ErrLong,
		wire.Text(strings.Repeat("\x00", api.MaxText+1)) + "\x00": api.ErrLong,
	} {
		wantNone(t, "text "+strconv.QuoteToASCII(s[:min(len(s), 40)]), s, e)
		if e != api.ErrShort {
			wantNone(t, "text and more", s+nine, e)
		}
	}
}

// wrongHeaderBytes are bytes that are no header, with header.Decode's error.
func wrongHeaderBytes(t *testing.T) map[string]api.Errno {
	t.Helper()
	m := map[string]api.Errno{
		"":                             api.ErrShort,
		"\x01\x01\x00":                 api.ErrShort,
		"\x01\x01\x00\x01":             api.ErrShort,
		"\x01\x01\x00\x00\x00":         api.ErrMore,
		"\x07\x01\x00\x00":             api.ErrRange,
		"\x07\x01\x00\x00\x00":         api.ErrMore,
		nine:                           api.ErrRange,
		"\x80\x00\x01\x00\x00":         api.ErrField,
		"\x01\x01\x05\x00":             api.ErrLong,
		"\x01\x01\x00\x08":             api.ErrLong,
		"\x01\x01\x01\x00\x08\x00":     api.ErrLong,
		"\x01\x01\x01\x00\x01\x01\x07": api.ErrRange,
		"\x01\x01\x01\x00\x01\x01\x06": api.ErrField,
	}
	for s, e := range m {
		if _, got := header.Decode(s); got != e {
			t.Fatalf("header.Decode(%x): error %d, want %d", s, got, e)
		}
	}
	return m
}

// wrongTagBytes are bytes with no tags at their front, with header.GetTags's error.
func wrongTagBytes(t *testing.T) map[string]api.Errno {
	t.Helper()
	m := map[string]api.Errno{
		"":                            api.ErrShort,
		"\x80":                        api.ErrShort,
		"\x01":                        api.ErrShort,
		"\x02\x11\x00" + mac:          api.ErrShort,
		"\x01\x00":                    api.ErrShort,
		"\x80\x00":                    api.ErrField,
		nine:                          api.ErrRange,
		"\x08":                        api.ErrLong,
		header.Tags(marks(8)):         api.ErrLong,
		wire.Int(api.MaxInt):          api.ErrLong,
		"\x01\x11\x07" + mac:          api.ErrRange,
		"\x01\x10\x00" + mac[1:]:      api.ErrField,
		"\x01\x12\x00" + mac + "\x00": api.ErrField,
	}
	for s, e := range m {
		if _, _, got := header.GetTags(s); got != e {
			t.Fatalf("header.GetTags(%x): error %d, want %d", s, got, e)
		}
	}
	return m
}

// 7.1: header.Decode's error comes next, whatever is behind the text; then header.GetTags's, and ErrMore last.
func TestDecodeParts(t *testing.T) {
	for h, e := range wrongHeaderBytes(t) {
		what := "header " + strconv.QuoteToASCII(h)
		for _, behind := range []string{"", "\x00", "\x00\x00", header.Tags(marks(3)), nine, "\x08"} {
			wantNone(t, what, wire.Text(h)+behind, e)
		}
		for tags := range wrongTagBytes(t) {
			wantNone(t, what+" and wrong tags", wire.Text(h)+tags, e)
		}
	}
	for tags, e := range wrongTagBytes(t) {
		wantNone(t, "tags "+strconv.QuoteToASCII(tags), least+tags, e)
		if e != api.ErrShort || tags == "\x01\x00" {
			wantNone(t, "wrong tags and more", least+tags+nine, e)
		}
	}
	for n := range 8 {
		s := least + header.Tags(marks(n))
		wantBack(t, strconv.Itoa(n)+" votes", api.Cert{Header: api.Header{Author: 1, Round: 1}, Votes: marks(n)})
		for _, more := range []string{"\x00", "\x80", s, nine, strings.Repeat("\x00", 1<<20)} {
			wantNone(t, strconv.Itoa(n)+" votes and more", s+more, api.ErrMore)
		}
	}
}

// 7.1: bytes that end too early; within the header's text too, which says where it ends.
func TestDecodeEnds(t *testing.T) {
	c := right(t, table(t, 2, "seed"), some(t, table(t, 2, "seed")))
	s, h := raw(c), header.Encode(c.Header)
	for i := range len(s) {
		wantNone(t, "the first "+strconv.Itoa(i), s[:i], api.ErrShort)
	}
	for i := range len(h) {
		wantNone(t, "the header's first "+strconv.Itoa(i), wire.Text(h[:i])+header.Tags(c.Votes), api.ErrShort)
	}
	wantNone(t, "votes within the text", wire.Text(h+header.Tags(c.Votes)), api.ErrMore)
	wantNone(t, "a header without its length", least[1:]+header.Tags(c.Votes), api.ErrShort)
	wantNone(t, "votes as a text", wire.Text(h)+wire.Text(header.Tags(c.Votes)), api.ErrLong)
}

// 7.1: certificates that are not right, but whose lists and tags are such as can be read.
func TestBackOfWrong(t *testing.T) {
	long := strings.Repeat("l", api.MaxText-7)
	for what, c := range map[string]api.Cert{
		"a zero one":          {},
		"empty lists":         {Header: api.Header{Refs: []api.Ref{}, Parents: []string{}}, Votes: []api.Tag{}},
		"empty members":       {Header: api.Header{Refs: make([]api.Ref, 4), Parents: make([]string, 7)}},
		"falling":             {Header: api.Header{Parents: []string{"b", "a"}}, Votes: []api.Tag{{Who: 6, Mac: mac}, {Who: 6, Mac: mac}, {Mac: mac}}},
		"all there is":        {Header: api.Header{Author: 6, Round: api.MaxInt, Refs: slices.Repeat([]api.Ref{{Digest: "d", Acks: marks(7)}}, 4), Parents: make([]string, 7)}, Votes: marks(7)},
		"as long as can be":   {Header: api.Header{Parents: []string{long}}, Votes: marks(1)},
		"bytes like it":       {Header: api.Header{Round: 1, Parents: []string{least, least + "\x00"}}, Votes: marks(2)},
		"acks among the rest": {Header: api.Header{Round: 1, Refs: []api.Ref{{Digest: "d", Acks: marks(3)}}}, Votes: marks(3)},
	} {
		wantBack(t, what, c)
	}
	c := api.Cert{Header: api.Header{Parents: []string{long}}, Votes: marks(1)}
	if n := len(header.Encode(c.Header)); n != api.MaxText {
		t.Fatalf("the long header has %d bytes", n)
	}
	c.Header.Parents[0] += "l"
	wantNone(t, "longer than can be", cert.Encode(c), api.ErrLong)
}

// plain is the chapter's words on Decode, one by one.
func plain(s string) (api.Cert, api.Errno) {
	text, n, e := wire.GetText(s)
	if e != api.OK {
		return api.Cert{}, e
	}
	h, e := header.Decode(text)
	if e != api.OK {
		return api.Cert{}, e
	}
	votes, m, e := header.GetTags(s[n:])
	if e != api.OK {
		return api.Cert{}, e
	}
	if n+m != len(s) {
		return api.Cert{}, api.ErrMore
	}
	return api.Cert{Header: h, Votes: votes}, api.OK
}

// look is that bytes are read as the chapter's words say, and written again as they were; it tells whether they are a certificate's.
func look(t *testing.T, s string) bool {
	t.Helper()
	c, e := cert.Decode(s)
	g, want := plain(s)
	if e != want || !same(c, g) || e != api.OK && !reflect.DeepEqual(c, api.Cert{}) {
		t.Errorf("Decode(%x): %v, error %d, want %v, error %d", s, c, e, g, want)
	}
	if e == api.OK && cert.Encode(c) != s {
		t.Errorf("Encode of Decode(%x): %x", s, cert.Encode(c))
	}
	return e == api.OK
}

// 7.1: right bytes with each byte as each other one, left out or doubled.
func TestDecodeNear(t *testing.T) {
	s := raw(api.Cert{
		Header: api.Header{Author: 2, Round: 200, Refs: []api.Ref{{Digest: "ab", Acks: marks(2)}, {}}, Parents: []string{"p", "", "qr"}},
		Votes:  marks(3),
	})
	certs := 0
	try := func(s string) {
		if look(t, s) {
			certs++
		}
	}
	for i := range len(s) {
		for b := range 256 {
			try(s[:i] + string([]byte{byte(b)}) + s[i+1:])
		}
		try(s[:i] + s[i+1:])
		try(s[:i] + s[i:i+1] + s[i:])
	}
	if certs < 10000 {
		t.Errorf("only %d of them were certificates", certs)
	}
}

// 7.1: all texts of up to seven of the bytes at the edges.
func TestDecodeShort(t *testing.T) {
	certs := 0
	eachList([]byte("\x00\x01\x04\x05\x07\x08\x80"), 7, func(l []byte) {
		if look(t, string(l)) {
			certs++
		}
	})
	if certs < 20 {
		t.Errorf("only %d of them were certificates", certs)
	}
}

// R4: what Decode hands out is memory of its own, and no two lists of it share any.
func TestDecodeHandsOut(t *testing.T) {
	c := api.Cert{Header: api.Header{Author: 6, Round: 7, Refs: []api.Ref{{Digest: "a", Acks: marks(3)}}, Parents: []string{"p", "q", "r"}}, Votes: marks(3)}
	s := raw(c)
	one, _ := cert.Decode(s)
	two, _ := cert.Decode(s)
	spoil(one.Votes, api.Tag{Who: 99})
	if !slices.Equal(one.Header.Refs[0].Acks, marks(3)) {
		t.Errorf("Votes and Acks share memory")
	}
	spoil(one.Header.Refs[0].Acks, api.Tag{Who: 99})
	spoil(one.Header.Refs, api.Ref{Digest: "gone"})
	spoil(one.Header.Parents, "gone")
	three, _ := cert.Decode(s)
	if !same(two, c) || !same(three, c) {
		t.Errorf("other answers have changed: %v, %v", two, three)
	}
}

// spoil writes over a list, and over the room behind its end.
func spoil[T any](l []T, gone T) {
	l = l[:cap(l)]
	for i := range l {
		l[i] = gone
	}
}

// eachList hands out every list of at most size of these.
func eachList[T any](choice []T, size int, do func(l []T)) {
	var grow func(l []T)
	grow = func(l []T) {
		do(l)
		if len(l) == size {
			return
		}
		for _, c := range choice {
			grow(append(slices.Clone(l), c))
		}
	}
	grow(nil)
}
