package msg_test

import (
	"encoding/hex"
	"math"
	"reflect"
	"slices"
	"strconv"
	"strings"
	"testing"

	"tusk/api"
	"tusk/auth"
	"tusk/batch"
	"tusk/block"
	"tusk/header"
	"tusk/msg"
	"tusk/wire"
)

// mac is some 16 bytes.
const mac = "0123456789abcdef"

// wrongMacs are texts that no tag has.
var wrongMacs = []string{"", "m", mac[1:], mac + "0", mac + mac, strings.Repeat("m", 4096)}

// wrongSizes are those that no digest and no mark has.
var wrongSizes = []int{0, 1, 16, 31, 33, 39, 41, 64, 288}

// fieldsOf is the chapter's table: the fields of each kind, in the order of their bytes.
func fieldsOf() map[int][]string {
	return map[int][]string{
		1:  {"Batch"},
		2:  {"Digest", "Tag"},
		3:  {"Header"},
		4:  {"Digest", "Tag"},
		5:  {"Cert"},
		6:  {"Block", "Tag"},
		7:  {"View", "Digest", "Tag"},
		8:  {"View", "Qc", "Tag"},
		9:  {"Digest"},
		10: {"Digest"},
		11: {"Digest"},
	}
}

// all is every field's name.
var all = []string{"Digest", "View", "Tag", "Batch", "Header", "Cert", "Block", "Qc"}

func table(t *testing.T, f int, seed string) *auth.Table {
	t.Helper()
	x, e := auth.New(f, seed)
	if e != api.OK {
		t.Fatalf("New(%d, %s): error %d", f, seed, e)
	}
	return x
}

// tags are those of validators, of a word of a kind.
func tags(t *testing.T, x *auth.Table, kind, word string, whos ...int) []api.Tag {
	t.Helper()
	var l []api.Tag
	for _, who := range whos {
		tag, e := x.Sign(who, kind, word)
		if e != api.OK {
			t.Fatalf("Sign(%d): error %d", who, e)
		}
		l = append(l, tag)
	}
	return l
}

// digest is some 32 bytes.
func digest(i int) string { return strings.Repeat("d", 31) + string([]byte{byte(i)}) }

// several are n texts of a size.
func several(n, size int) []string {
	var l []string
	for i := range n {
		l = append(l, strings.Repeat(string([]byte{byte('a' + n - i)}), size))
	}
	return l
}

// marks are n tags that are plain, with unlike Macs, not rising.
func marks(n int) []api.Tag {
	var l []api.Tag
	for i := range n {
		l = append(l, api.Tag{Who: (i*3 + 6) % 7, Mac: strconv.Itoa(100+i) + mac[3:]})
	}
	return l
}

// refs are n Refs with Acks.
func refs(n int) []api.Ref {
	var l []api.Ref
	for i := range n {
		l = append(l, api.Ref{Digest: digest(9 - i), Acks: marks(i + 1)})
	}
	return l
}

func pay() api.Tx {
	return api.Tx{Kind: api.Transfer, From: "ab", To: "c", Amount: 5, Nonce: 1, Writes: []string{"a:ab", "a:c"}}
}

// sealed is a right batch.
func sealed() api.Batch { return api.Batch{Author: 1, Number: 2, Txs: []api.Tx{pay()}} }

// some is a right message of a kind: all of its fields set, none of the others.
func some(kind int) api.Msg {
	m := api.Msg{Kind: kind}
	for _, name := range fieldsOf()[kind] {
		set(&m, name, full(name))
	}
	return m
}

// set puts a value into a field by its name.
func set(m *api.Msg, name string, v any) {
	reflect.ValueOf(m).Elem().FieldByName(name).Set(reflect.ValueOf(v))
}

// fullHeader, fullQc: plain ones with something in every part.
func fullHeader() api.Header {
	return api.Header{Author: 2, Round: 300, Refs: refs(2), Parents: several(3, 32)}
}

func fullQc() api.Qc { return api.Qc{View: 200, Block: digest(4), Votes: marks(3)} }

// full is a right value of a field.
func full(name string) any {
	switch name {
	case "Digest":
		return digest(1)
	case "View":
		return 129
	case "Tag":
		return api.Tag{Who: 5, Mac: mac}
	case "Batch":
		return sealed()
	case "Header":
		return fullHeader()
	case "Cert":
		return api.Cert{Header: fullHeader(), Votes: marks(4)}
	case "Block":
		return api.Block{View: 77, Qc: fullQc(), Certs: several(2, 40)}
	}
	return fullQc()
}

// copied is a value in new memory; an empty list is as none.
func copied[T any](x T) T {
	return deep(reflect.ValueOf(x)).Interface().(T)
}

func deep(v reflect.Value) reflect.Value {
	c := reflect.New(v.Type()).Elem()
	switch {
	case v.Kind() == reflect.Struct:
		for i := range v.NumField() {
			c.Field(i).Set(deep(v.Field(i)))
		}
	case v.Kind() == reflect.Slice && v.Len() > 0:
		c.Set(reflect.MakeSlice(v.Type(), v.Len(), v.Len()))
		for i := range v.Len() {
			c.Index(i).Set(deep(v.Index(i)))
		}
	case v.Kind() != reflect.Slice:
		c.Set(v)
	}
	return c
}

// same tells whether two are alike; an empty list is as none.
func same[T any](a, b T) bool {
	return reflect.DeepEqual(a, b) || reflect.DeepEqual(copied(a), copied(b))
}

// rawTags, rawHeader, rawQc: bytes as the chapters' words have them.
func rawTags(l []api.Tag) string {
	s := wire.Int(int64(len(l)))
	for _, x := range l {
		s += wire.Text(wire.Int(int64(x.Who)) + x.Mac)
	}
	return s
}

func rawHeader(h api.Header) string {
	s := wire.Int(int64(h.Author)) + wire.Int(int64(h.Round)) + wire.Int(int64(len(h.Refs)))
	for _, x := range h.Refs {
		s += wire.Text(x.Digest) + rawTags(x.Acks)
	}
	return s + wire.List(h.Parents)
}

func rawQc(q api.Qc) string {
	return wire.Int(int64(q.View)) + wire.Text(q.Block) + rawTags(q.Votes)
}

// rawField is a field's bytes as the chapter's words have them.
func rawField(m api.Msg, name string) string {
	switch name {
	case "Digest":
		return wire.Int(int64(len(m.Digest))) + m.Digest
	case "View":
		return wire.Int(int64(m.View))
	case "Tag":
		return rawTags([]api.Tag{m.Tag})
	case "Batch":
		s, _ := batch.Encode(m.Batch)
		return wire.Text(s)
	case "Header":
		return wire.Text(rawHeader(m.Header))
	case "Cert":
		return wire.Text(wire.Text(rawHeader(m.Cert.Header)) + rawTags(m.Cert.Votes))
	case "Block":
		return wire.Text(wire.Int(int64(m.Block.View)) + wire.Text(rawQc(m.Block.Qc)) + wire.List(m.Block.Certs))
	}
	return wire.Text(rawQc(m.Qc))
}

// raw is a message's bytes as the chapter's words have them, right or not.
func raw(m api.Msg) string {
	s := wire.Int(int64(m.Kind))
	for _, name := range fieldsOf()[m.Kind] {
		s += rawField(m, name)
	}
	return s
}

// wantRight is that a message is right, and goes to its bytes and back.
func wantRight(t *testing.T, what string, m api.Msg) {
	t.Helper()
	if e := msg.Check(m); e != api.OK {
		t.Errorf("%s: Check: error %d", what, e)
	}
	s, e := msg.Encode(m)
	if s != raw(m) || e != api.OK {
		t.Errorf("%s: Encode: %.60x, error %d, want %.60x", what, s, e, raw(m))
	}
	g, e := msg.Decode(raw(m))
	if !same(g, m) || e != api.OK {
		t.Errorf("%s: Decode of Encode: %v, error %d", what, g, e)
	}
	if again, e := msg.Encode(g); again != raw(m) || e != api.OK {
		t.Errorf("%s: Encode of Decode: %.60x, error %d", what, again, e)
	}
}

// wantWrong is that a message is refused; it has no bytes and no words.
func wantWrong(t *testing.T, what string, m api.Msg, want api.Errno) {
	t.Helper()
	if e := msg.Check(m); e != want {
		t.Errorf("%s: Check: error %d, want %d", what, e, want)
	}
	if s, e := msg.Encode(m); s != "" || e != want {
		t.Errorf("%s: Encode: %.60x, error %d, want %d", what, s, e, want)
	}
	if l := msg.Words(m); len(l) != 0 {
		t.Errorf("%s: Words: %v", what, l)
	}
}

// The chapter's example.
func TestExample(t *testing.T) {
	d := strings.Repeat("\x07", 32)
	m := api.Msg{Kind: api.MAskBatch, Digest: d}
	if s, e := msg.Encode(m); s != "\x09\x20"+d || e != api.OK {
		t.Errorf("Encode: %x, error %d", s, e)
	}
	wantRight(t, "32 bytes 7", m)
	m.Digest = d[1:]
	wantWrong(t, "31 bytes", m, api.ErrField)
	wantNone(t, "31 bytes", "\x09\x1f"+d[1:], api.ErrField)
	wantWrong(t, "the kind 12", api.Msg{Kind: 12, Digest: d}, api.ErrKind)
	wantNone(t, "the kind 12", "\x0c\x20"+d, api.ErrKind)
}

// Words: kinds of messages are numbers, kinds of words are texts.
func TestKinds(t *testing.T) {
	kinds := []int{api.MBatch, api.MAck, api.MHeader, api.MVote, api.MCert, api.MPropose, api.MAgree, api.MNewView, api.MAskBatch, api.MAskCert, api.MAskBlock}
	for i, kind := range kinds {
		if kind != i+1 {
			t.Errorf("a kind is %d, want %d", kind, i+1)
		}
	}
	for text, want := range map[string]string{header.Ack: "ack", header.Vote: "vote", block.Agree: "agree", msg.Propose: "propose", msg.NewView: "newview"} {
		if text != want {
			t.Errorf("%s, want %s", text, want)
		}
	}
}

// authentic are messages of all kinds, whose tags are those of four validators.
func authentic(t *testing.T) []api.Msg {
	t.Helper()
	x := table(t, 1, "seed")
	one := func(who int, kind, word string) api.Tag { return tags(t, x, kind, word, who)[0] }
	d := batch.Digest(sealed())
	h := api.Header{Author: 1, Round: 1, Refs: []api.Ref{{Digest: d, Acks: tags(t, x, "ack", d, 0, 1, 2)}}}
	id := header.Id(h)
	b := api.Block{View: 1, Qc: api.Qc{Block: block.Genesis()}, Certs: []string{block.Mark(1, id)}}
	q := api.Qc{View: 1, Block: block.Id(b), Votes: tags(t, x, "agree", "\x01"+block.Id(b), 0, 2, 3)}
	c := api.Block{View: 300, Qc: q}
	return []api.Msg{
		{Kind: 1, Batch: sealed()},
		{Kind: 2, Digest: d, Tag: one(3, "ack", d)},
		{Kind: 3, Header: h},
		{Kind: 4, Digest: id, Tag: one(0, "vote", id)},
		{Kind: 5, Cert: api.Cert{Header: h, Votes: tags(t, x, "vote", id, 1, 2, 3)}},
		{Kind: 6, Block: c, Tag: one(2, "propose", block.Id(c))},
		{Kind: 7, View: 300, Digest: block.Id(c), Tag: one(1, "agree", "\xac\x02"+block.Id(c))},
		{Kind: 8, View: 301, Qc: q, Tag: one(3, "newview", "\xad\x02"+block.EncodeQc(q))},
		{Kind: 9, Digest: d},
		{Kind: 10, Digest: id},
		{Kind: 11, Digest: block.Id(c)},
	}
}

// Parts of bytes by another program.
const (
	batchDigest = "618962b264db06c4fea75490547ead82efd3caaaec0f8055ca8ca46d945ddbc8"
	headerId    = "d27c1cfe10a0a3b9f31a15dcfc7dccc8fca1154c05d2c5f5d77e36f37204acd1"
	blockId     = "1e21c9ea7da3ebc75f8a0e60880ba29f25308b4c641e63f47bc0fcc5f685dce6"
	headerBytes = "01010120" + batchDigest + "0311001ae4bf3a6d457843bce02e054a82f82d1101ace2a1cce198dcc6ee633e406519ae4f1102120d29bb3a8bfb779cb9d036df78595400"
	qcBytes     = "01207af33d70c3bcf400b8487d520c78640ce8b09595a9c3b49c5c114ea464e224340311003976b38f49e1971dbf28b7868f99d3b211026e3ddbef693c69c15fa8e69a0a95d27611038091bed499f394c2cc7091f2178c92e1"
)

// Words, 9.1: bytes of every kind, by another program.
func TestBytes(t *testing.T) {
	bytes := []string{
		"0119" + "0102011501026162016305010000000204613a616203613a63",
		"0220" + batchDigest + "01110365fc9b27f3d2c8a70fa9135ffd7f0a6f",
		"035c" + headerBytes,
		"0420" + headerId + "011100556c2e25fa0a3782de6799d4d74b35bf",
		"059401" + "5c" + headerBytes + "03110124a63c26ec78835a594c917d0318a4691102297686224b5a59cd20f686902da6767e1103b011dfb03a532cc23309dc6d8fc1b867",
		"065d" + "ac0259" + qcBytes + "00" + "011102578a99028f09bb4654fe87fdec1a2a95",
		"07ac0220" + blockId + "011101af342170e05b2400c60a8f2b46b0cf54",
		"08ad0259" + qcBytes + "011103937fa5d13e7ebc051b67c57ebe785ca8",
		"0920" + batchDigest,
		"0a20" + headerId,
		"0b20" + blockId,
	}
	for i, m := range authentic(t) {
		if s, e := msg.Encode(m); hex.EncodeToString([]byte(s)) != bytes[i] || e != api.OK {
			t.Errorf("kind %d: Encode: %x, error %d, want %s", m.Kind, s, e, bytes[i])
		}
		wantRight(t, "kind "+strconv.Itoa(m.Kind), m)
	}
}

// 9.1: a kind that is none, whatever the fields are.
func TestNoKind(t *testing.T) {
	for _, kind := range []int{0, -1, -9, 12, 13, 127, 128, 256 + 9, 1<<32 + 9, api.MaxInt, api.MaxInt + 1, math.MaxInt, math.MinInt} {
		what := "kind " + strconv.Itoa(kind)
		wantWrong(t, what, api.Msg{Kind: kind}, api.ErrKind)
		for own := range fieldsOf() {
			m := some(own)
			m.Kind = kind
			wantWrong(t, what+" with fields", m, api.ErrKind)
		}
		for name, values := range notZero() {
			for _, v := range values {
				m := api.Msg{Kind: kind}
				set(&m, name, v)
				wantWrong(t, what+" with "+name, m, api.ErrKind)
			}
		}
	}
}

// notZero are values of each field in which just one part is not zero, and some whole ones.
func notZero() map[string][]any {
	m := map[string][]any{
		"Digest": {"d", "\x00", digest(0), strings.Repeat("\x00", 32), strings.Repeat("d", 1<<17)},
		"View":   {1, -1, 7, api.MaxInt, math.MinInt},
		"Tag":    {api.Tag{Who: 1}, api.Tag{Who: -1}, api.Tag{Mac: "m"}, api.Tag{Mac: "\x00"}, api.Tag{Mac: mac}},
		"Batch":  {api.Batch{Author: 1}, api.Batch{Author: -1}, api.Batch{Number: 1}, api.Batch{Number: -1}, api.Batch{Txs: make([]api.Tx, 1)}, api.Batch{Txs: make([]api.Tx, 300)}},
	}
	headers := []api.Header{{Author: 1}, {Author: -1}, {Round: 1}, {Round: -1}, {Refs: make([]api.Ref, 1)}, {Parents: make([]string, 1)}, {Parents: make([]string, 300)}}
	for _, h := range headers {
		m["Header"] = append(m["Header"], h)
		m["Cert"] = append(m["Cert"], api.Cert{Header: h})
	}
	m["Cert"] = append(m["Cert"], api.Cert{Votes: make([]api.Tag, 1)}, api.Cert{Votes: marks(3)})
	qcs := []api.Qc{{View: 1}, {View: -1}, {Block: "b"}, {Block: block.Genesis()}, {Votes: make([]api.Tag, 1)}}
	for _, q := range qcs {
		m["Qc"] = append(m["Qc"], q)
		m["Block"] = append(m["Block"], api.Block{Qc: q})
	}
	m["Block"] = append(m["Block"], api.Block{View: 1}, api.Block{View: -1}, api.Block{Certs: make([]string, 1)}, api.Block{Certs: several(1, 40)})
	for _, name := range all {
		m[name] = append(m[name], full(name))
	}
	return m
}

// 9.1: a field that does not belong to the kind and is not zero; told ahead of what is wrong with one that does, a Batch too.
func TestForeign(t *testing.T) {
	for kind, own := range fieldsOf() {
		for name, values := range notZero() {
			if slices.Contains(own, name) {
				continue
			}
			for _, v := range values {
				m := some(kind)
				set(&m, name, v)
				what := "kind " + strconv.Itoa(kind) + " with " + name
				wantWrong(t, what, m, api.ErrField)
				n := api.Msg{Kind: kind}
				set(&n, name, v)
				wantWrong(t, what+" alone", n, api.ErrField)
			}
		}
	}
	m := some(api.MBatch)
	m.Digest = digest(1)
	m.Batch.Number = 0
	wantWrong(t, "a wrong Batch and a Digest", m, api.ErrField)
}

// 9.1, R3: empty lists of fields that do not belong to the kind are as none.
func TestEmptyIsZero(t *testing.T) {
	h := api.Header{Refs: []api.Ref{}, Parents: make([]string, 0, 3)}
	q := api.Qc{Votes: []api.Tag{}}
	for kind, own := range fieldsOf() {
		m := some(kind)
		for name, v := range map[string]any{
			"Batch":  api.Batch{Txs: []api.Tx{}},
			"Header": h,
			"Cert":   api.Cert{Header: h, Votes: []api.Tag{}},
			"Block":  api.Block{Qc: q, Certs: []string{}},
			"Qc":     q,
		} {
			if !slices.Contains(own, name) {
				set(&m, name, v)
			}
		}
		wantRight(t, "kind "+strconv.Itoa(kind), m)
	}
}

// eachPlace hands out, for each place of a list, a copy with one put there.
func eachPlace[T any](l []T, one T, do func(l []T)) {
	for i := range l {
		c := slices.Clone(l)
		c[i] = one
		do(c)
	}
}

// wrongNumbers are those that no view and no round is.
var wrongNumbers = []int{-1, -2, math.MinInt, api.MaxInt + 1, math.MaxInt}

// wrongTags are single tags that are not right.
func wrongTags() []api.Tag {
	var l []api.Tag
	for _, who := range []int{-1, 7, 8, 128, 1 << 32, api.MaxInt, math.MinInt, math.MaxInt} {
		l = append(l, api.Tag{Who: who, Mac: mac})
	}
	for _, m := range wrongMacs {
		l = append(l, api.Tag{Who: 3, Mac: m})
	}
	return l
}

// wrongTagLists are lists of tags that are not plain.
func wrongTagLists() [][]api.Tag {
	l := [][]api.Tag{marks(8), marks(9), marks(300), make([]api.Tag, 7)}
	for _, x := range wrongTags() {
		eachPlace(marks(7), x, func(c []api.Tag) { l = append(l, c) })
		l = append(l, []api.Tag{x})
	}
	return l
}

// wrongDigestLists are lists of digests that are not plain, because of their members.
func wrongDigestLists(n, size int) [][]string {
	l := [][]string{several(n+1, size), several(n+2, size), several(300, size), make([]string, n)}
	for _, s := range append(wrongSizes, 32, 40) {
		if s != size {
			eachPlace(several(n, size), strings.Repeat("s", s), func(c []string) { l = append(l, c) })
		}
	}
	return l
}

func wrongHeaders() []api.Header {
	var l []api.Header
	add := func(change func(h *api.Header)) {
		h := fullHeader()
		change(&h)
		l = append(l, h)
	}
	for _, n := range []int{-1, 7, 8, 128, 1 << 32, api.MaxInt, math.MinInt} {
		add(func(h *api.Header) { h.Author = n })
	}
	for _, n := range wrongNumbers {
		add(func(h *api.Header) { h.Round = n })
	}
	for _, n := range []int{5, 6, 300} {
		add(func(h *api.Header) { h.Refs = slices.Repeat(refs(1), n) })
	}
	for _, size := range wrongSizes {
		eachPlace(refs(4), api.Ref{Digest: strings.Repeat("s", size)}, func(c []api.Ref) { add(func(h *api.Header) { h.Refs = c }) })
	}
	for _, acks := range wrongTagLists() {
		eachPlace(refs(4), api.Ref{Digest: digest(1), Acks: acks}, func(c []api.Ref) { add(func(h *api.Header) { h.Refs = c }) })
	}
	for _, parents := range wrongDigestLists(7, 32) {
		add(func(h *api.Header) { h.Parents = parents })
	}
	return l
}

func wrongQcs() []api.Qc {
	var l []api.Qc
	for _, n := range wrongNumbers {
		l = append(l, api.Qc{View: n, Block: digest(1), Votes: marks(3)})
	}
	for _, size := range wrongSizes {
		l = append(l, api.Qc{View: 1, Block: strings.Repeat("s", size), Votes: marks(3)})
	}
	for _, votes := range wrongTagLists() {
		l = append(l, api.Qc{View: 1, Block: digest(1), Votes: votes})
	}
	return append(l, api.Qc{})
}

// wrongs are values of each field but Batch that are not right.
func wrongs() map[string][]any {
	m := map[string][]any{}
	for _, size := range append(wrongSizes, 40, api.MaxText+1) {
		m["Digest"] = append(m["Digest"], strings.Repeat("s", size))
	}
	for _, n := range wrongNumbers {
		m["View"] = append(m["View"], n)
		m["Block"] = append(m["Block"], api.Block{View: n, Qc: fullQc()})
	}
	for _, x := range wrongTags() {
		m["Tag"] = append(m["Tag"], x)
	}
	m["Tag"] = append(m["Tag"], api.Tag{})
	for _, h := range wrongHeaders() {
		m["Header"] = append(m["Header"], h)
		m["Cert"] = append(m["Cert"], api.Cert{Header: h, Votes: marks(3)})
	}
	for _, votes := range wrongTagLists() {
		m["Cert"] = append(m["Cert"], api.Cert{Header: fullHeader(), Votes: votes})
	}
	for _, q := range wrongQcs() {
		m["Qc"] = append(m["Qc"], q)
		m["Block"] = append(m["Block"], api.Block{View: 3, Qc: q})
	}
	for _, certs := range wrongDigestLists(8, 40) {
		m["Block"] = append(m["Block"], api.Block{View: 3, Qc: fullQc(), Certs: certs})
	}
	m["Block"] = append(m["Block"], api.Block{})
	return m
}

// 9.1: a field that belongs to the kind, and is not right.
func TestWrongFields(t *testing.T) {
	wrong := wrongs()
	for kind, own := range fieldsOf() {
		for _, name := range own {
			for i, v := range wrong[name] {
				m := some(kind)
				set(&m, name, v)
				wantWrong(t, "kind "+strconv.Itoa(kind)+", "+name+" "+strconv.Itoa(i), m, api.ErrField)
			}
		}
	}
	for kind := 2; kind <= 11; kind++ {
		// Header and Cert are plain as they are at first.
		if kind != api.MHeader && kind != api.MCert {
			wantWrong(t, "kind "+strconv.Itoa(kind)+" alone", api.Msg{Kind: kind}, api.ErrField)
		}
	}
}

// 9.1: of a Batch batch.Check's error.
func TestWrongBatches(t *testing.T) {
	wrong := pay()
	wrong.From = "A"
	long := pay()
	long.Reads = several(9, 3)
	for _, c := range []struct {
		b api.Batch
		e api.Errno
	}{
		{api.Batch{}, api.ErrRange},
		{api.Batch{Author: 7, Number: 1, Txs: []api.Tx{pay()}}, api.ErrRange},
		{api.Batch{Author: -1, Number: 1, Txs: []api.Tx{pay()}}, api.ErrRange},
		{api.Batch{Author: 6, Number: 0, Txs: []api.Tx{pay()}}, api.ErrRange},
		{api.Batch{Author: 6, Number: api.MaxInt + 1, Txs: []api.Tx{pay()}}, api.ErrRange},
		{api.Batch{Number: 1}, api.ErrFew},
		{api.Batch{Number: 1, Txs: []api.Tx{}}, api.ErrFew},
		{api.Batch{Number: 1, Txs: slices.Repeat([]api.Tx{pay()}, 17)}, api.ErrLong},
		{api.Batch{Number: 1, Txs: []api.Tx{pay(), {}}}, api.ErrKind},
		{api.Batch{Number: 1, Txs: []api.Tx{pay(), wrong}}, api.ErrField},
		{api.Batch{Number: 1, Txs: []api.Tx{long, wrong}}, api.ErrLong},
		{api.Batch{Number: 1, Txs: []api.Tx{{Kind: 1, From: "a", To: "b", Amount: api.MaxInt + 1}}}, api.ErrRange},
		{api.Batch{Number: 1, Txs: []api.Tx{{Kind: 1, From: "a", To: "b", Reads: []string{"k:b", "k:a"}}}}, api.ErrOrder},
	} {
		if e := batch.Check(c.b); e != c.e {
			t.Fatalf("batch.Check(%v): error %d, want %d", c.b, e, c.e)
		}
		wantWrong(t, "a wrong batch", api.Msg{Kind: api.MBatch, Batch: c.b}, c.e)
	}
}

// rightHeaders are plain ones, at the edges; few of them are right in their own layer.
func rightHeaders() []api.Header {
	l := []api.Header{{}, {Author: 6, Round: api.MaxInt}, fullHeader(), {Refs: []api.Ref{}, Parents: []string{}}}
	for author := range 7 {
		l = append(l, api.Header{Author: author, Round: author})
	}
	for n := range 5 {
		l = append(l, api.Header{Refs: refs(n)}, api.Header{Round: 1, Refs: slices.Repeat(refs(1), n)})
	}
	for n := range 8 {
		l = append(l, api.Header{Parents: several(n, 32)}, api.Header{Parents: slices.Repeat(several(1, 32), n)})
		l = append(l, api.Header{Refs: []api.Ref{{Digest: digest(0), Acks: marks(n)}, {Digest: digest(0)}}})
	}
	return append(l, api.Header{Author: 6, Round: api.MaxInt, Refs: slices.Repeat([]api.Ref{{Digest: digest(0), Acks: marks(7)}}, 4), Parents: several(7, 32)})
}

func rightQcs() []api.Qc {
	l := []api.Qc{fullQc(), {Block: block.Genesis()}, {View: api.MaxInt, Block: digest(255), Votes: []api.Tag{}}}
	for n := range 8 {
		l = append(l, api.Qc{View: n, Block: digest(n), Votes: marks(n)}, api.Qc{Block: digest(n), Votes: slices.Repeat(marks(1), n)})
	}
	return l
}

// rights are right values of each field, at the edges.
func rights() map[string][]any {
	m := map[string][]any{
		"Digest": {digest(0), strings.Repeat("\x00", 32), strings.Repeat("\xff", 32), strings.Repeat("\x80\x00", 16)},
		"View":   {0, 1, 127, 128, 1 << 32, api.MaxInt - 1, api.MaxInt},
		"Tag":    {api.Tag{Mac: mac}, api.Tag{Who: 6, Mac: mac}, api.Tag{Who: 3, Mac: strings.Repeat("\x00", 16)}},
		"Batch":  {sealed(), api.Batch{Author: 6, Number: api.MaxInt, Txs: slices.Repeat([]api.Tx{pay()}, 16)}},
	}
	for _, h := range rightHeaders() {
		m["Header"] = append(m["Header"], h)
		m["Cert"] = append(m["Cert"], api.Cert{Header: h}, api.Cert{Header: h, Votes: marks(7)})
	}
	for _, q := range rightQcs() {
		m["Qc"] = append(m["Qc"], q)
		m["Block"] = append(m["Block"], api.Block{Qc: q}, api.Block{View: api.MaxInt, Qc: q, Certs: several(8, 40)})
	}
	for n := range 9 {
		// Plain is their size alone: they need not be marks, nor different.
		m["Block"] = append(m["Block"], api.Block{View: n, Qc: fullQc(), Certs: slices.Repeat([]string{strings.Repeat("\x00", 40)}, n)})
		m["Cert"] = append(m["Cert"], api.Cert{Header: fullHeader(), Votes: slices.Repeat(marks(1), min(n, 7))})
	}
	return m
}

// 9.1, 9.4: fields at their edges are right; the messages go to bytes and back.
func TestRightFields(t *testing.T) {
	right := rights()
	for kind, own := range fieldsOf() {
		for _, name := range own {
			for i, v := range right[name] {
				m := some(kind)
				set(&m, name, v)
				wantRight(t, "kind "+strconv.Itoa(kind)+", "+name+" "+strconv.Itoa(i), m)
			}
		}
	}
	wantRight(t, "a header of nothing", api.Msg{Kind: api.MHeader})
	wantRight(t, "a certificate of nothing", api.Msg{Kind: api.MCert})
}

// great is the transaction that has the most bytes.
func great() api.Tx {
	var l []string
	for i := range 8 {
		l = append(l, "a:"+strings.Repeat("z", 31)+strconv.Itoa(i))
	}
	long := strings.Repeat("z", 32)
	return api.Tx{Kind: api.Put, From: long, Key: long, Value: strings.Repeat("\xff", 64), Nonce: api.MaxInt, Reads: l, Writes: l}
}

// 9.4: the greatest Batch is within what a text may be.
func TestGreatest(t *testing.T) {
	wantRight(t, "the greatest batch", api.Msg{Kind: api.MBatch, Batch: api.Batch{Author: 6, Number: api.MaxInt, Txs: slices.Repeat([]api.Tx{great()}, 16)}})
}

// 9.4: unlike messages have unlike bytes.
func TestUnlike(t *testing.T) {
	seen := map[string]api.Msg{}
	right := rights()
	for kind, own := range fieldsOf() {
		for _, name := range own {
			for _, v := range right[name] {
				m := some(kind)
				set(&m, name, v)
				s, _ := msg.Encode(m)
				if other, there := seen[s]; there && !same(other, m) {
					t.Errorf("%v and %v have the same bytes", other, m)
				}
				seen[s] = m
			}
		}
	}
}

// roomy is a message with spare room behind each of its lists, and a look whether nothing was put there.
func roomy(m api.Msg) (api.Msg, func() bool) {
	m = copied(m)
	var rooms []reflect.Value
	var widen func(v reflect.Value)
	widen = func(v reflect.Value) {
		switch v.Kind() {
		case reflect.Struct:
			for i := range v.NumField() {
				widen(v.Field(i))
			}
		case reflect.Slice:
			wide := reflect.MakeSlice(v.Type(), v.Len()+2, v.Len()+2)
			reflect.Copy(wide, v)
			for i := range v.Len() {
				widen(wide.Index(i))
			}
			v.Set(wide.Slice(0, v.Len()))
			rooms = append(rooms, wide.Slice(v.Len(), v.Len()+2))
		}
	}
	widen(reflect.ValueOf(&m).Elem())
	return m, func() bool {
		for _, room := range rooms {
			if !room.Index(0).IsZero() || !room.Index(1).IsZero() {
				return false
			}
		}
		return true
	}
}

// R4: what is handed in is not changed, nor what lies behind a list's end; what is handed out is memory of its own.
func TestMemory(t *testing.T) {
	for _, m := range authentic(t) {
		given, untouched := roomy(m)
		what := "kind " + strconv.Itoa(m.Kind)
		msg.Check(given)
		words := msg.Words(given)
		s, _ := msg.Encode(given)
		if !same(given, m) || !untouched() {
			t.Errorf("%s: what was handed in has changed", what)
		}
		one, _ := msg.Decode(s)
		two, _ := msg.Decode(s)
		spoil(reflect.ValueOf(&one).Elem())
		if !same(two, m) {
			t.Errorf("%s: another answer has changed: %v", what, two)
		}
		again := msg.Words(given)
		for i := range words {
			words[i] = msg.Word{}
		}
		if !slices.Equal(again, msg.Words(m)) || !same(given, m) {
			t.Errorf("%s: words share memory", what)
		}
	}
}

// spoil writes over all lists of a value, and over the room behind their ends.
func spoil(v reflect.Value) {
	switch v.Kind() {
	case reflect.Struct:
		for i := range v.NumField() {
			spoil(v.Field(i))
		}
	case reflect.Slice:
		v = v.Slice(0, v.Cap())
		for i := range v.Len() {
			spoil(v.Index(i))
			v.Index(i).SetZero()
		}
	}
}
