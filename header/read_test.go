package header_test

import (
	"math"
	"reflect"
	"slices"
	"strconv"
	"strings"
	"testing"

	"tusk/api"
	"tusk/header"
	"tusk/wire"
)

// mac is some 16 bytes.
const mac = "0123456789abcdef"

// nine is a number of too many bytes.
var nine = strings.Repeat("\xff", 9)

// wantBack is that a header is got from its bytes, and these from it.
func wantBack(t *testing.T, what string, h api.Header) {
	t.Helper()
	s := header.Encode(h)
	g, e := header.Decode(s)
	if !same(g, h) || e != api.OK {
		t.Errorf("%s: Decode of Encode: %v, error %d", what, g, e)
	}
	if header.Encode(g) != s {
		t.Errorf("%s: Encode of Decode: %.60x, want %.60x", what, header.Encode(g), s)
	}
}

// wantNone is that bytes are refused.
func wantNone(t *testing.T, what, s string, want api.Errno) {
	t.Helper()
	if h, e := header.Decode(s); e != want || !reflect.DeepEqual(h, api.Header{}) {
		t.Errorf("%s: Decode: %v, error %d, want %d", what, h, e, want)
	}
}

// wantTags is what GetTags answers.
func wantTags(t *testing.T, what, s string, l []api.Tag, size int, e api.Errno) {
	t.Helper()
	if gl, gs, ge := header.GetTags(s); !slices.Equal(gl, l) || gs != size || ge != e {
		t.Errorf("%s: GetTags(%.40x): %v, %d, error %d, want %v, %d, error %d", what, s, gl, gs, ge, l, size, e)
	}
}

// wantNoTags is that bytes are refused as tags, by the same error as Acks of a header, whatever follows.
func wantNoTags(t *testing.T, what, s string, e api.Errno) {
	t.Helper()
	wantTags(t, what, s, nil, 0, e)
	wantNone(t, what+" as Acks", "\x01\x01\x01\x00"+s, e)
	wantNone(t, what+" as Acks of the second Ref", "\x07\x01\x02\x00\x00\x01d"+s, e)
	if e != api.ErrShort {
		wantTags(t, what+" and more", s+nine, nil, 0, e)
		wantNone(t, what+" as Acks, and more", "\x01\x01\x01\x00"+s+nine, e)
	}
}

// marks are n tags of 0 and so on, with unlike Macs.
func marks(n int) []api.Tag {
	var l []api.Tag
	for i := range n {
		l = append(l, api.Tag{Who: i % 7, Mac: strconv.Itoa(100+i) + mac[3:]})
	}
	return l
}

// 6.2: tags' bytes, both ways, whatever follows.
func TestTags(t *testing.T) {
	l := []api.Tag{{Who: 6, Mac: mac}, {Who: 0, Mac: strings.Repeat("\x00", 16)}, {Who: 6, Mac: mac}}
	bytes := "\x03\x11\x06" + mac + "\x11\x00" + strings.Repeat("\x00", 16) + "\x11\x06" + mac
	if s := header.Tags(l); s != bytes {
		t.Errorf("Tags: %x, want %x", s, bytes)
	}
	wantTags(t, "written out", bytes, l, len(bytes), api.OK)
	for n := range 8 {
		l := marks(n)
		s := header.Tags(l)
		if s != rawTags(l) {
			t.Errorf("Tags of %d: %x, want %x", n, s, rawTags(l))
		}
		for _, rest := range []string{"", "\x00", "\x80", nine, s, strings.Repeat("\x00", 1<<18)} {
			wantTags(t, strconv.Itoa(n)+" tags", s+rest, l, len(s), api.OK)
		}
	}
	for _, l := range [][]api.Tag{nil, {}} {
		if s := header.Tags(l); s != "\x00" {
			t.Errorf("Tags of none: %x", s)
		}
	}
}

// 6.2: the bytes of any tags.
func TestTagsOfAny(t *testing.T) {
	for _, l := range [][]api.Tag{
		marks(8),
		marks(300),
		{{Who: -1}},
		{{Who: 7, Mac: mac}},
		{{Who: 128, Mac: "m"}, {Who: math.MinInt, Mac: mac}},
		{{Who: api.MaxInt, Mac: strings.Repeat("m", api.MaxText+1)}},
		{{Who: api.MaxInt + 1, Mac: mac}, {Who: math.MaxInt}},
		{{}},
	} {
		if s := header.Tags(l); s != rawTags(l) {
			t.Errorf("Tags of %.40v: %.60x, want %.60x", l, s, rawTags(l))
		}
	}
}

// 6.2: wire.GetList's errors, with at most 7 members.
func TestGetTagsList(t *testing.T) {
	right := rawTags(marks(7))
	for i := range len(right) {
		wantNoTags(t, "the first "+strconv.Itoa(i), right[:i], api.ErrShort)
	}
	for _, n := range []int64{8, 9, 127, 128, 1 << 32, 1<<32 + 1, api.MaxInt} {
		what := strconv.FormatInt(n, 10)
		wantNoTags(t, what, wire.Int(n), api.ErrLong)
		wantNoTags(t, what+" with some", wire.Int(n)+right[1:], api.ErrLong)
	}
	wantNoTags(t, "eight", rawTags(marks(8)), api.ErrLong)
	for s, e := range map[string]api.Errno{"\x80\x00": api.ErrField, "\x87\x00": api.ErrField, nine: api.ErrRange, strings.Repeat("\x80", 8) + "\x40": api.ErrRange} {
		wantNoTags(t, "the number", s, e)
		wantNoTags(t, "a member", "\x01"+s, e)
		wantNoTags(t, "the second member", "\x02\x11\x01"+mac+s, e)
		wantNoTags(t, "the second member, behind a wrong one", "\x02\x01\x07"+s, e)
	}
	wantNoTags(t, "a long member", "\x01"+wire.Text(strings.Repeat("m", api.MaxText+1)), api.ErrLong)
	wantNoTags(t, "a long member behind a wrong one", "\x02\x00\x81\x80\x04", api.ErrLong)
	wantNoTags(t, "a list that ends behind wrong ones", "\x03\x00\x01\x07", api.ErrShort)
}

// wrongMembers are texts that are no tag, with their error.
func wrongMembers() map[string]api.Errno {
	m := map[string]api.Errno{
		"":                            api.ErrShort,
		"\x80":                        api.ErrShort,
		"\xff\xff":                    api.ErrShort,
		strings.Repeat("\x80", 8):     api.ErrShort,
		"\x80\x00" + mac:              api.ErrField,
		"\x86\x00" + mac:              api.ErrField,
		nine + mac:                    api.ErrRange,
		nine:                          api.ErrRange,
		"\x00" + mac + "\x00":         api.ErrField,
		"\x06" + mac + mac:            api.ErrField,
		"\x06":                        api.ErrField,
		"\x06" + mac[1:]:              api.ErrField,
		"\x06" + mac[8:]:              api.ErrField,
		"\x00" + mac[1:]:              api.ErrField,
		strings.Repeat("\x06", 65536): api.ErrField,
		"\x07":                        api.ErrRange,
		"\x07" + mac[1:]:              api.ErrRange,
		"\x7f" + mac + mac:            api.ErrRange,
	}
	for _, n := range []int64{7, 8, 127, 128, 134, 256, 1 << 32, 1<<32 + 1, api.MaxInt} {
		m[wire.Int(n)+mac] = api.ErrRange
	}
	return m
}

// 6.2: of the members that are no tags the first one's error, wherever it stands.
func TestGetTagsMembers(t *testing.T) {
	right := "\x02" + mac
	for s, e := range wrongMembers() {
		what := "member " + strconv.QuoteToASCII(s[:min(len(s), 40)])
		for at := range 7 {
			l := slices.Repeat([]string{right}, 7)
			l[at] = s
			wantNoTags(t, what+" at "+strconv.Itoa(at), wire.List(l), e)
			wantNoTags(t, what+" as the last", wire.List(l[:at+1]), e)
		}
		for later := range wrongMembers() {
			wantNoTags(t, what+" and another", wire.List([]string{s, later}), e)
		}
	}
	for who := range 7 {
		tag := api.Tag{Who: who, Mac: mac}
		wantTags(t, "a tag", wire.List([]string{wire.Int(int64(who)) + mac}), []api.Tag{tag}, 19, api.OK)
	}
}

// 6.2: bytes that end too early, or go on.
func TestDecodeEnds(t *testing.T) {
	s := raw(some(t, table(t, 2, "seed")))
	for i := range len(s) {
		wantNone(t, "the first "+strconv.Itoa(i), s[:i], api.ErrShort)
	}
	for _, more := range []string{"\x00", "\x80", s, nine, strings.Repeat("\x00", 1<<20)} {
		wantNone(t, "more", s+more, api.ErrMore)
		wantNone(t, "author 7 and more", "\x07"+s[1:]+more, api.ErrMore)
	}
}

// 6.2: in each field the errors that wire has for it, whatever is wrong ahead of it and behind it.
func TestDecodeFields(t *testing.T) {
	number := map[string]api.Errno{"": api.ErrShort, "\x80": api.ErrShort, "\x80\x00": api.ErrField, "\x81\x80\x00": api.ErrField, nine: api.ErrRange, strings.Repeat("\x80", 8) + "\x40": api.ErrRange}
	count := map[string]api.Errno{"\x05": api.ErrLong, "\x80\x01": api.ErrLong, wire.Int(1<<32 + 1): api.ErrLong, wire.Int(api.MaxInt): api.ErrLong}
	text := map[string]api.Errno{"\x01": api.ErrShort, "\x20abc": api.ErrShort, "\x81\x80\x04": api.ErrLong, wire.Int(api.MaxInt): api.ErrLong}
	list := map[string]api.Errno{"\x08": api.ErrLong, wire.Int(api.MaxInt): api.ErrLong, "\x07": api.ErrShort, "\x01": api.ErrShort, "\x01\x02a": api.ErrShort, "\x02\x01a\x80\x00": api.ErrField, "\x01\x81\x80\x04": api.ErrLong}
	for s, e := range number {
		count[s], text[s], list[s] = e, e, e
	}
	ref := "\x02ab\x01\x11\x06" + mac
	for _, author := range []string{"\x00", "\x06", "\x07", wire.Int(api.MaxInt)} {
		for what, c := range map[string]struct {
			ahead string
			form  map[string]api.Errno
		}{
			"author":      {"", number},
			"round":       {author, number},
			"refs":        {author + "\x00", count},
			"a digest":    {author + "\x01\x01", text},
			"a 4th one":   {author + "\x01\x04" + ref + ref + ref, text},
			"parents":     {author + "\x01\x00", list},
			"its parents": {author + wire.Int(api.MaxInt) + "\x02" + ref + ref, list},
		} {
			for bytes, e := range c.form {
				what := what + " as " + strconv.QuoteToASCII(bytes)
				wantNone(t, what, c.ahead+bytes, e)
				if e != api.ErrShort {
					wantNone(t, what+" and more", c.ahead+bytes+nine, e)
				}
			}
		}
	}
}

// 6.2: how long the lists may be; ErrLong is told as soon as a number is read.
func TestDecodeCounts(t *testing.T) {
	x := table(t, 2, "seed")
	for n := range 12 {
		h := some(t, x)
		h.Refs = refs(t, x, n)
		what := strconv.Itoa(n)
		if n <= 4 {
			wantBack(t, what+" refs", h)
		} else {
			wantNone(t, what+" refs", raw(h), api.ErrLong)
			wantNone(t, what+" refs claimed", "\x07\x00"+wire.Int(int64(n)), api.ErrLong)
		}
		h = some(t, x)
		h.Parents = digests(n)
		g := some(t, x)
		g.Refs[2].Acks = marks(n)
		if n <= 7 {
			wantBack(t, what+" parents", h)
			wantBack(t, what+" acks", g)
		} else {
			wantNone(t, what+" parents", raw(h), api.ErrLong)
			wantNone(t, what+" acks", raw(g), api.ErrLong)
		}
	}
}

// 6.2: an Author above 6 is told last; nothing else of a header need be right.
func TestDecodeAuthors(t *testing.T) {
	for _, n := range []int{7, 8, 127, 128, 256, 1 << 32, 1<<32 + 1, api.MaxInt} {
		for _, h := range []api.Header{{}, {Round: 1}, some(t, table(t, 1, "seed"))} {
			h.Author = n
			what := "author " + strconv.Itoa(n)
			wantNone(t, what, raw(h), api.ErrRange)
			wantNone(t, what+" and more", raw(h)+"\x00", api.ErrMore)
			wantNone(t, what+" and less", raw(h)[:len(raw(h))-1], api.ErrShort)
		}
	}
	for author := range 7 {
		for _, round := range []int{0, 1, 127, 128, 1 << 32, api.MaxInt} {
			wantBack(t, "numbers", api.Header{Author: author, Round: round})
		}
	}
}

// 6.3: headers that are not right, but whose lists and tags are such as can be read.
func TestBackOfWrong(t *testing.T) {
	long := strings.Repeat("l", api.MaxText)
	for what, h := range map[string]api.Header{
		"a zero header": {},
		"empty lists":   {Refs: []api.Ref{}, Parents: []string{}},
		"empty members": {Refs: make([]api.Ref, 4), Parents: make([]string, 7)},
		"long texts":    {Author: 6, Round: 1, Refs: []api.Ref{{Digest: long}, {Digest: long}}, Parents: []string{long, long}},
		"alike":         {Round: 1, Refs: []api.Ref{{Digest: "d"}, {Digest: "d"}}, Parents: []string{"p", "p"}},
		"falling":       {Round: 9, Refs: []api.Ref{{Digest: "e", Acks: []api.Tag{{Who: 6, Mac: mac}, {Who: 0, Mac: mac}}}, {Digest: "d"}}, Parents: []string{"b", "a"}},
		"all there is":  {Author: 6, Round: api.MaxInt, Refs: slices.Repeat([]api.Ref{{Digest: long, Acks: marks(7)}}, 4), Parents: slices.Repeat([]string{long}, 7)},
		"bytes like it": {Round: 1, Refs: []api.Ref{{Digest: "\x01\x01\x00\x00"}}, Parents: []string{"\x01\x01\x00\x00", "\x80", nine}},
	} {
		wantBytes(t, what, h)
		wantBack(t, what, h)
	}
	x := table(t, 1, "seed")
	right := some(t, x)
	right.Round = 1
	want(t, "parents in the round 1", x, right, api.ErrField)
	wantBack(t, "parents in the round 1", right)
}

// plainTags is the chapter's words on GetTags, one by one.
func plainTags(s string) ([]api.Tag, int, api.Errno) {
	members, size, e := wire.GetList(s, 7)
	if e != api.OK {
		return nil, 0, e
	}
	var l []api.Tag
	for _, m := range members {
		who, n, e := wire.GetInt(m)
		switch {
		case e != api.OK:
			return nil, 0, e
		case who > 6:
			return nil, 0, api.ErrRange
		case len(m) != n+16:
			return nil, 0, api.ErrField
		}
		l = append(l, api.Tag{Who: int(who), Mac: m[n:]})
	}
	return l, size, api.OK
}

// plain is the chapter's words on Decode, one by one.
func plain(s string) (api.Header, api.Errno) {
	var n [3]int64
	for i := range n {
		var size int
		var e api.Errno
		if n[i], size, e = wire.GetInt(s); e != api.OK {
			return api.Header{}, e
		}
		s = s[size:]
	}
	if n[2] > 4 {
		return api.Header{}, api.ErrLong
	}
	h := api.Header{Author: int(n[0]), Round: int(n[1])}
	for range n[2] {
		d, size, e := wire.GetText(s)
		if e != api.OK {
			return api.Header{}, e
		}
		s = s[size:]
		acks, size, e := plainTags(s)
		if e != api.OK {
			return api.Header{}, e
		}
		s = s[size:]
		h.Refs = append(h.Refs, api.Ref{Digest: d, Acks: acks})
	}
	parents, size, e := wire.GetList(s, 7)
	switch {
	case e != api.OK:
		return api.Header{}, e
	case size < len(s):
		return api.Header{}, api.ErrMore
	case h.Author > 6:
		return api.Header{}, api.ErrRange
	}
	h.Parents = parents
	return h, api.OK
}

// look is that bytes are read as the chapter's words say, as a header and as tags, and written again as they were; it tells of which of both they are.
func look(t *testing.T, s string) (isHeader, isTags bool) {
	t.Helper()
	h, e := header.Decode(s)
	g, want := plain(s)
	if e != want || !same(h, g) || e != api.OK && !reflect.DeepEqual(h, api.Header{}) {
		t.Errorf("Decode(%x): %v, error %d, want %v, error %d", s, h, e, g, want)
	}
	isHeader = e == api.OK
	if isHeader && header.Encode(h) != s {
		t.Errorf("Encode of Decode(%x): %x", s, header.Encode(h))
	}
	l, size, e := plainTags(s)
	wantTags(t, "near", s, l, size, e)
	isTags = e == api.OK
	if isTags && header.Tags(l) != s[:size] {
		t.Errorf("Tags of GetTags(%x): %x", s, header.Tags(l))
	}
	return isHeader, isTags
}

// 6.2, 6.3: right bytes with each byte as each other one, left out or doubled.
func TestDecodeNear(t *testing.T) {
	h := api.Header{Author: 2, Round: 200, Refs: []api.Ref{{Digest: "ab", Acks: marks(2)}, {Digest: "", Acks: marks(1)}}, Parents: []string{"p", "", "qr"}}
	headers, tags := 0, 0
	try := func(s string) {
		isHeader, isTags := look(t, s)
		if isHeader {
			headers++
		}
		if isTags {
			tags++
		}
	}
	for _, s := range []string{raw(h), rawTags(marks(4))} {
		for i := range len(s) {
			for b := range 256 {
				try(s[:i] + string([]byte{byte(b)}) + s[i+1:])
			}
			try(s[:i] + s[i+1:])
			try(s[:i] + s[i:i+1] + s[i:])
		}
	}
	if headers < 10000 || tags < 10000 {
		t.Errorf("only %d of them were headers, and %d tags", headers, tags)
	}
}

// 6.2, 6.3: all texts of up to seven of the bytes at the edges.
func TestDecodeShort(t *testing.T) {
	headers := 0
	eachList([]byte("\x00\x01\x02\x05\x07\x08\x80"), 7, func(l []byte) {
		if isHeader, _ := look(t, string(l)); isHeader {
			headers++
		}
	})
	if headers < 100 {
		t.Errorf("only %d of them were headers", headers)
	}
}

// R4: what is handed out is memory of its own, and no two lists of it share any.
func TestHandedOut(t *testing.T) {
	h := api.Header{Author: 6, Round: 7, Refs: []api.Ref{{Digest: "a", Acks: marks(3)}, {Digest: "b", Acks: marks(3)}}, Parents: []string{"p", "q", "r"}}
	s := raw(h)
	one, _ := header.Decode(s)
	two, _ := header.Decode(s)
	for i := range one.Refs {
		spoil(one.Refs[i].Acks, api.Tag{Who: 99})
		if i == 0 && !sameRef(one.Refs[1], h.Refs[1]) {
			t.Errorf("two Refs share their Acks")
		}
	}
	spoil(one.Refs, api.Ref{Digest: "gone"})
	spoil(one.Parents, "gone")
	three, _ := header.Decode(s)
	if !same(two, h) || !same(three, h) {
		t.Errorf("other answers have changed: %v, %v", two, three)
	}
	tags := rawTags(marks(3))
	l, _, _ := header.GetTags(tags)
	other, _, _ := header.GetTags(tags)
	spoil(l, api.Tag{Who: 99})
	if !slices.Equal(other, marks(3)) {
		t.Errorf("another answer has changed: %v", other)
	}
	wantTags(t, "again", tags, marks(3), len(tags), api.OK)
}

// spoil writes over a list, and over the room behind its end.
func spoil[T any](l []T, gone T) {
	l = l[:cap(l)]
	for i := range l {
		l[i] = gone
	}
}
