package msg_test

import (
	"reflect"
	"slices"
	"strconv"
	"strings"
	"testing"

	"tusk/api"
	"tusk/batch"
	"tusk/block"
	"tusk/cert"
	"tusk/header"
	"tusk/msg"
	"tusk/wire"
)

// nine is a number of too many bytes.
var nine = strings.Repeat("\xff", 9)

// wantNone is that bytes are refused.
func wantNone(t *testing.T, what, s string, want api.Errno) {
	t.Helper()
	if m, e := msg.Decode(s); e != want || !reflect.DeepEqual(m, api.Msg{}) {
		t.Errorf("%s: Decode: %v, error %d, want %d", what, m, e, want)
	}
}

// 9.2: GetInt's error of the kind, and a kind that is none, whatever is behind it.
func TestDecodeKind(t *testing.T) {
	behinds := []string{"", "\x00", nine, "\x20" + digest(1), strings.Repeat("\x00", 1<<17)}
	for s, e := range map[string]api.Errno{
		nine:                            api.ErrRange,
		strings.Repeat("\x80", 8) + "@": api.ErrRange,
		"\x80\x00":                      api.ErrField,
		"\x89\x00":                      api.ErrField,
		"\x89\x80\x00":                  api.ErrField,
		"\x00":                          api.ErrKind,
		"\x0c":                          api.ErrKind,
		"\x0d":                          api.ErrKind,
		"\x7f":                          api.ErrKind,
		"\x80\x01":                      api.ErrKind,
		"\x89\x02":                      api.ErrKind,
		wire.Int(1<<32 + 9):             api.ErrKind,
		wire.Int(api.MaxInt):            api.ErrKind,
	} {
		for _, behind := range behinds {
			wantNone(t, "kind "+strconv.QuoteToASCII(s), s+behind, e)
		}
	}
	wantNone(t, "nothing", "", api.ErrShort)
	wantNone(t, "half a kind", "\x89", api.ErrShort)
	wantNone(t, "half a great kind", strings.Repeat("\x80", 8), api.ErrShort)
}

// 9.2: bytes that end too early.
func TestDecodeEnds(t *testing.T) {
	for _, m := range authentic(t) {
		s := raw(m)
		for i := range len(s) {
			wantNone(t, "kind "+strconv.Itoa(m.Kind)+", the first "+strconv.Itoa(i), s[:i], api.ErrShort)
		}
		for _, more := range []string{"\x00", "\x80", nine, s, strings.Repeat("\x00", 1<<17)} {
			wantNone(t, "kind "+strconv.Itoa(m.Kind)+" and more", s+more, api.ErrMore)
		}
	}
}

// piece is bytes of a field: read with an error, or with none but refused by Check (late), or right.
type piece struct {
	s    string
	e    api.Errno
	late bool
}

// wrongTexts are pieces that have wire.GetText's error.
func wrongTexts() []piece {
	return []piece{
		{s: nine, e: api.ErrRange},
		{s: strings.Repeat("\x80", 8) + "@", e: api.ErrRange},
		{s: "\x80\x00", e: api.ErrField},
		{s: "\xa0\x00" + digest(1), e: api.ErrField},
		{s: wire.Int(api.MaxText + 1), e: api.ErrLong},
		{s: wire.Int(api.MaxInt), e: api.ErrLong},
		{s: wire.Text(strings.Repeat("\x00", api.MaxText+1)), e: api.ErrLong},
		{s: "", e: api.ErrShort},
		{s: "\x80", e: api.ErrShort},
		{s: "\x20" + digest(1)[1:], e: api.ErrShort},
		{s: "\x80\x80\x04", e: api.ErrShort},
	}
}

// pieces are those of a field.
func pieces(name string) []piece {
	switch name {
	case "Digest":
		l := []piece{{s: wire.Text(digest(1))}, {s: wire.Text(digest(2))}, {s: wire.Text(strings.Repeat("d", api.MaxText)), late: true}}
		for _, size := range wrongSizes {
			l = append(l, piece{s: wire.Text(strings.Repeat("d", size)), late: true})
		}
		return append(l, wrongTexts()...)
	case "View":
		return []piece{
			{s: "\x00"}, {s: "\x81\x01"}, {s: wire.Int(api.MaxInt)},
			{s: nine, e: api.ErrRange}, {s: strings.Repeat("\x80", 8) + "@", e: api.ErrRange}, {s: "\x80\x00", e: api.ErrField},
			{s: "", e: api.ErrShort}, {s: "\x80", e: api.ErrShort},
		}
	case "Tag":
		l := []piece{{s: rawTags(marks(1))}, {s: "\x01\x11\x00" + mac}, {s: "\x00", e: api.ErrFew}}
		for n := 2; n <= 7; n++ {
			l = append(l, piece{s: rawTags(marks(n)), e: api.ErrFew})
		}
		return append(l, wrongTagPieces()...)
	}
	l := wrongTexts()
	for _, x := range insides(name) {
		l = append(l, piece{s: wire.Text(x.s), e: x.e, late: x.late})
	}
	return l
}

// wrongTagPieces are pieces that have header.GetTags's error.
func wrongTagPieces() []piece {
	return []piece{
		{s: nine, e: api.ErrRange},
		{s: "\x80\x00", e: api.ErrField},
		{s: "\x08", e: api.ErrLong},
		{s: rawTags(marks(8)), e: api.ErrLong},
		{s: wire.Int(api.MaxInt), e: api.ErrLong},
		{s: "\x01\x11\x07" + mac, e: api.ErrRange},
		{s: "\x02\x11\x00" + mac + "\x11\x07" + mac, e: api.ErrRange},
		{s: "\x01\x10\x00" + mac[1:], e: api.ErrField},
		{s: "\x01\x12\x00" + mac + "\x00", e: api.ErrField},
		{s: "\x01\x01\x00", e: api.ErrField},
		{s: "\x01\x12\x80\x00" + mac, e: api.ErrField},
		{s: "\x01\x81\x80\x04", e: api.ErrLong},
		{s: "\x01\x00", e: api.ErrShort},
		{s: "", e: api.ErrShort},
		{s: "\x01", e: api.ErrShort},
		{s: "\x02\x11\x00" + mac, e: api.ErrShort},
		{s: "\x01\x11\x00" + mac[1:], e: api.ErrShort},
	}
}

// insides are texts of a field that is a text: read by its layer or not, and refused by Check or not.
func insides(name string) []piece {
	var l []piece
	m := some(map[string]int{"Batch": 1, "Header": 3, "Cert": 5, "Block": 6, "Qc": 8}[name])
	inside := func() string {
		s, _, _ := wire.GetText(rawField(m, name))
		return s
	}
	right := inside()
	l = append(l, piece{s: right}, piece{s: right + "\x00", e: api.ErrMore}, piece{s: right + right, e: api.ErrMore}, piece{s: nine, e: api.ErrRange}, piece{s: "\x80\x00", e: api.ErrField})
	for i := range len(right) {
		// A text that ends too early is a fault of its own layer's bytes: it is short, though more is behind it.
		l = append(l, piece{s: right[:i], e: api.ErrShort})
	}
	switch name {
	case "Batch":
		return append(l, piece{s: "\x07\x01\x01" + right[3:], e: api.ErrRange}, piece{s: "\x00\x01\x00", e: api.ErrFew}, piece{s: "\x00\x01\x11", e: api.ErrLong}, piece{s: "\x07\x01\x00", e: api.ErrRange})
	case "Header":
		l = append(l, piece{s: "\x07\x01\x00\x00", e: api.ErrRange}, piece{s: "\x01\x01\x05", e: api.ErrLong}, piece{s: "\x01\x01\x00\x08", e: api.ErrLong}, piece{s: "\x01\x01\x00\x00"})
	case "Cert":
		l = append(l, piece{s: "\x04\x07\x01\x00\x00\x00", e: api.ErrRange}, piece{s: "\x05\x01\x01\x00\x00\x00\x00", e: api.ErrMore}, piece{s: "\x04\x01\x01\x00\x00\x08", e: api.ErrLong}, piece{s: "\x04\x01\x01\x00\x00\x00"})
	case "Block":
		l = append(l, piece{s: "\x01\x03\x00\x00\x00\x09", e: api.ErrLong}, piece{s: "\x01\x03\x00\x00\x00\x00", late: true}, piece{s: "\x01\x03\x00\x00\x08\x00", e: api.ErrLong}, piece{s: "\x01\x04\x00\x00\x00\x00\x00", e: api.ErrMore})
	case "Qc":
		l = append(l, piece{s: "\x00\x00\x00", late: true}, piece{s: "\x00\x00\x08", e: api.ErrLong}, piece{s: "\x01\x20" + digest(1) + "\x00"})
	}
	return append(l, lateOnes(name)...)
}

// lateOnes are texts that their layer reads, but whose parts are of wrong sizes.
func lateOnes(name string) []piece {
	var l []piece
	add := func(change func(m *api.Msg)) {
		m := some(map[string]int{"Header": 3, "Cert": 5, "Block": 6, "Qc": 8}[name])
		m = copied(m)
		change(&m)
		s, _, _ := wire.GetText(rawField(m, name))
		l = append(l, piece{s: s, late: true})
	}
	for _, size := range []int{0, 31, 33, 40} {
		text := strings.Repeat("s", size)
		switch name {
		case "Header":
			add(func(m *api.Msg) { m.Header.Refs[1].Digest = text })
			add(func(m *api.Msg) { m.Header.Parents[2] = text })
		case "Cert":
			add(func(m *api.Msg) { m.Cert.Header.Refs[0].Digest = text })
			add(func(m *api.Msg) { m.Cert.Header.Parents[0] = text })
		case "Block":
			add(func(m *api.Msg) { m.Block.Qc.Block = text })
			add(func(m *api.Msg) { m.Block.Certs[1] = text[:min(size, 39)] })
		case "Qc":
			add(func(m *api.Msg) { m.Qc.Block = text })
		}
	}
	return l
}

// 9.2: of all pieces of the fields, each with each: the first one's error that has one; ErrMore; then Check's.
func TestDecodeFields(t *testing.T) {
	counts := map[api.Errno]int{}
	for kind, own := range fieldsOf() {
		var grow func(s string, fields []string, late bool)
		grow = func(s string, fields []string, late bool) {
			if len(fields) == 0 {
				e := api.OK
				if late {
					e = api.ErrField
				}
				counts[e]++
				wantBytes(t, s, e)
				wantBytes(t, s+"\x00", api.ErrMore)
				return
			}
			for _, p := range pieces(fields[0]) {
				switch {
				case p.e == api.OK:
					grow(s+p.s, fields[1:], late || p.late)
				case p.e == api.ErrShort:
					counts[p.e]++
					wantBytes(t, s+p.s, p.e)
				default:
					counts[p.e]++
					wantBytes(t, s+p.s, p.e)
					wantBytes(t, s+p.s+nine, p.e)
				}
			}
		}
		grow(string([]byte{byte(kind)}), own, false)
	}
	for _, e := range []api.Errno{api.OK, api.ErrShort, api.ErrRange, api.ErrField, api.ErrMore, api.ErrLong, api.ErrFew} {
		if counts[e] == 0 {
			t.Errorf("no bytes have error %d", e)
		}
	}
}

// wantBytes is that bytes are read, and written again as they were; or refused.
func wantBytes(t *testing.T, s string, want api.Errno) {
	t.Helper()
	if want != api.OK {
		wantNone(t, strconv.QuoteToASCII(s[:min(len(s), 60)]), s, want)
		return
	}
	m, e := msg.Decode(s)
	if e != api.OK {
		t.Errorf("Decode(%.60x): error %d", s, e)
	}
	if again, e := msg.Encode(m); again != s || e != api.OK {
		t.Errorf("Encode of Decode(%.60x): %.60x, error %d", s, again, e)
	}
}

// 9.2: what is short within a text is told ahead of what is wrong behind it.
func TestDecodeWithin(t *testing.T) {
	tag := rawTags(marks(1))
	for _, behind := range []string{"", tag, tag + "\x00", nine, "\x00", "\x08"} {
		wantNone(t, "half a block", "\x06\x01\x01"+behind, api.ErrShort)
		wantNone(t, "no Qc", "\x08\x01\x00"+behind, api.ErrShort)
		wantNone(t, "a block and more", "\x06\x07\x01\x03\x00\x00\x00\x00\x00"+behind, api.ErrMore)
	}
	for _, behind := range []string{"", nine, "\x00", "\x08"} {
		wantNone(t, "half a batch", "\x01\x01\x01"+behind, api.ErrShort)
		wantNone(t, "half a header", "\x03\x01\x01"+behind, api.ErrShort)
		wantNone(t, "half a certificate", "\x05\x01\x01"+behind, api.ErrShort)
	}
	wantNone(t, "a Digest of the wrong size and no tag", "\x02\x01d\x00", api.ErrFew)
	wantNone(t, "a Digest of the wrong size and more", "\x02\x01d"+tag+"\x00", api.ErrMore)
	wantNone(t, "a Digest of the wrong size", "\x02\x01d"+tag, api.ErrField)
	wantNone(t, "no tag and more", "\x02\x20"+digest(1)+"\x00\x00", api.ErrFew)
}

// inner is the chapter's words on a text of another layer's.
func inner[T any](s *string, e *api.Errno, decode func(s string) (T, api.Errno)) T {
	var none T
	text, n, wrong := wire.GetText(*s)
	if wrong != api.OK {
		*e = wrong
		return none
	}
	*s = (*s)[n:]
	x, wrong := decode(text)
	*e = wrong
	return x
}

// plain is the chapter's words on Decode, one by one.
func plain(s string) (api.Msg, api.Errno) {
	kind, n, e := wire.GetInt(s)
	if e != api.OK {
		return api.Msg{}, e
	}
	if kind < 1 || kind > 11 {
		return api.Msg{}, api.ErrKind
	}
	m := api.Msg{Kind: int(kind)}
	s = s[n:]
	for _, name := range fieldsOf()[int(kind)] {
		switch name {
		case "Digest":
			m.Digest, n, e = wire.GetText(s)
			s = s[n:]
		case "View":
			var view int64
			view, n, e = wire.GetInt(s)
			m.View, s = int(view), s[n:]
		case "Tag":
			var l []api.Tag
			l, n, e = header.GetTags(s)
			s = s[n:]
			if e == api.OK && len(l) != 1 {
				e = api.ErrFew
			}
			if e == api.OK {
				m.Tag = l[0]
			}
		case "Batch":
			m.Batch = inner(&s, &e, batch.Decode)
		case "Header":
			m.Header = inner(&s, &e, header.Decode)
		case "Cert":
			m.Cert = inner(&s, &e, cert.Decode)
		case "Block":
			m.Block = inner(&s, &e, block.Decode)
		case "Qc":
			m.Qc = inner(&s, &e, block.DecodeQc)
		}
		if e != api.OK {
			return api.Msg{}, e
		}
	}
	if s != "" {
		return api.Msg{}, api.ErrMore
	}
	if e := msg.Check(m); e != api.OK {
		return api.Msg{}, e
	}
	return m, api.OK
}

// look is that bytes are read as the chapter's words say, and written again as they were.
func look(t *testing.T, s string) api.Errno {
	t.Helper()
	m, e := msg.Decode(s)
	want, wrong := plain(s)
	if e != wrong || !same(m, want) {
		t.Errorf("Decode(%x): %v, error %d, want %v, error %d", s, m, e, want, wrong)
	}
	if e == api.OK {
		wantBytes(t, s, api.OK)
	}
	return e
}

// 9.2, 9.4: right bytes with each byte as each other one, left out or doubled.
func TestDecodeNear(t *testing.T) {
	for _, m := range authentic(t) {
		s := raw(m)
		right := 0
		try := func(s string) {
			if look(t, s) == api.OK {
				right++
			}
		}
		for i := range len(s) {
			for b := range 256 {
				try(s[:i] + string([]byte{byte(b)}) + s[i+1:])
			}
			try(s[:i] + s[i+1:])
			try(s[:i] + s[i:i+1] + s[i:])
		}
		if right < 500 {
			t.Errorf("kind %d: only %d of them were messages", m.Kind, right)
		}
	}
}

// 9.2: all texts of a kind and up to five of the bytes at the edges.
func TestDecodeShort(t *testing.T) {
	for kind := range 14 {
		eachList([]byte("\x00\x01\x03\x04\x06\x07\x80"), 5, func(l []byte) {
			look(t, string([]byte{byte(kind)})+string(l))
		})
	}
}

// eachList hands out every list of at most size of these.
func eachList[T any](choice []T, size int, do func(l []T)) {
	var grow func(l []T)
	grow = func(l []T) {
		do(l)
		if len(l) == size {
			return
		}
		for _, c := range choice {
			grow(append(slices.Clone(l), c))
		}
	}
	grow(nil)
}
