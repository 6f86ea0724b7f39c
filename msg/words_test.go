package msg_test

import (
	"encoding/hex"
	"slices"
	"strconv"
	"testing"

	"tusk/api"
	"tusk/block"
	"tusk/header"
	"tusk/msg"
	"tusk/wire"
)

// word is tags of one word.
func word(kind, word string, tags ...api.Tag) []msg.Word {
	var l []msg.Word
	for _, x := range tags {
		l = append(l, msg.Word{Tag: x, Kind: kind, Word: word})
	}
	return l
}

// wantWords is what Words answers.
func wantWords(t *testing.T, what string, m api.Msg, want ...[]msg.Word) {
	t.Helper()
	if l := msg.Words(m); !slices.Equal(l, slices.Concat(want...)) {
		t.Errorf("%s: Words: %v, want %v", what, l, want)
	}
}

func unhex(t *testing.T, s string) string {
	t.Helper()
	b, err := hex.DecodeString(s)
	if err != nil {
		t.Fatal(err)
	}
	return string(b)
}

// 9.3: words of every kind, with digests and ids by another program; each tag is that of its word.
func TestWords(t *testing.T) {
	l := authentic(t)
	d, id, b, q := unhex(t, batchDigest), unhex(t, headerId), unhex(t, blockId), unhex(t, qcBytes)
	acks := word("ack", d, l[2].Header.Refs[0].Acks...)
	agrees := word("agree", "\x01"+q[2:34], l[7].Qc.Votes...)
	for i, want := range [][]msg.Word{
		nil,
		word("ack", d, l[1].Tag),
		acks,
		word("vote", id, l[3].Tag),
		slices.Concat(acks, word("vote", id, l[4].Cert.Votes...)),
		slices.Concat(agrees, word("propose", b, l[5].Tag)),
		word("agree", "\xac\x02"+b, l[6].Tag),
		slices.Concat(agrees, word("newview", "\xad\x02"+q, l[7].Tag)),
		nil,
		nil,
		nil,
	} {
		wantWords(t, "kind "+strconv.Itoa(i+1), l[i], want)
	}
	counts := []int{0, 1, 3, 1, 6, 4, 1, 4, 0, 0, 0}
	x := table(t, 1, "seed")
	for i, m := range l {
		words := msg.Words(m)
		if len(words) != counts[i] {
			t.Errorf("kind %d has %d words, want %d", m.Kind, len(words), counts[i])
		}
		for _, w := range words {
			if e := x.Check(w.Tag, w.Kind, w.Word); e != api.OK {
				t.Errorf("kind %d: a tag of %s: error %d", m.Kind, w.Kind, e)
			}
		}
	}
}

// headerWords are the words of a header's Acks.
func headerWords(h api.Header) []msg.Word {
	var l []msg.Word
	for _, x := range h.Refs {
		l = append(l, word("ack", x.Digest, x.Acks...)...)
	}
	return l
}

func qcWords(q api.Qc) []msg.Word {
	return word("agree", wire.Int(int64(q.View))+q.Block, q.Votes...)
}

// 9.3: tags stand in the order in which they are written, also such as are wrong in their own layer: falling, doubled, too few.
func TestWordsOrder(t *testing.T) {
	for _, h := range rightHeaders() {
		wantWords(t, "a header", api.Msg{Kind: api.MHeader, Header: h}, headerWords(h))
		for n := range 8 {
			c := api.Cert{Header: h, Votes: marks(n)}
			wantWords(t, "a certificate", api.Msg{Kind: api.MCert, Cert: c}, headerWords(h), word("vote", header.Id(h), marks(n)...))
		}
	}
	for _, q := range rightQcs() {
		for _, x := range []api.Tag{{Mac: mac}, {Who: 6, Mac: mac}} {
			for _, view := range []int{0, 1, 128, api.MaxInt} {
				b := api.Block{View: view, Qc: q, Certs: several(2, 40)}
				wantWords(t, "a block", api.Msg{Kind: api.MPropose, Block: b, Tag: x}, qcWords(q), word("propose", block.Id(b), x))
				v := wire.Int(int64(view)) + block.EncodeQc(q)
				wantWords(t, "a new view", api.Msg{Kind: api.MNewView, View: view, Qc: q, Tag: x}, qcWords(q), word("newview", v, x))
				wantWords(t, "a vote for a block", api.Msg{Kind: api.MAgree, View: view, Digest: digest(3), Tag: x}, word("agree", wire.Int(int64(view))+digest(3), x))
			}
		}
	}
	// A block's own View is no part of what its Qc's Votes are of, nor a message's View of its Qc's.
	b := api.Block{View: 9, Qc: api.Qc{View: 8, Block: digest(1), Votes: marks(1)}}
	wantWords(t, "views", api.Msg{Kind: api.MPropose, Block: b, Tag: marks(2)[1]}, word("agree", "\x08"+digest(1), marks(1)...), word("propose", block.Id(b), marks(2)[1]))
}

// 9.3: of a message that is not right there are none.
func TestWordsOfWrong(t *testing.T) {
	x := api.Tag{Mac: mac}
	for what, m := range map[string]api.Msg{
		"the zero message":      {},
		"no kind":               {Kind: 12, Digest: digest(1), Tag: x},
		"a short digest":        {Kind: api.MAck, Digest: digest(1)[1:], Tag: x},
		"a short Mac":           {Kind: api.MVote, Digest: digest(1), Tag: api.Tag{Mac: mac[1:]}},
		"a stranger":            {Kind: api.MVote, Digest: digest(1), Tag: api.Tag{Who: 7, Mac: mac}},
		"a foreign tag":         {Kind: api.MAskCert, Digest: digest(1), Tag: x},
		"a foreign view":        {Kind: api.MAck, View: 1, Digest: digest(1), Tag: x},
		"no view":               {Kind: api.MAgree, View: -1, Digest: digest(1), Tag: x},
		"one wrong ack of many": {Kind: api.MHeader, Header: api.Header{Refs: []api.Ref{{Digest: digest(1), Acks: append(marks(3), api.Tag{})}}}},
		"too many votes":        {Kind: api.MCert, Cert: api.Cert{Header: fullHeader(), Votes: marks(8)}},
		"a header and a digest": {Kind: api.MHeader, Header: fullHeader(), Digest: digest(1)},
	} {
		if l := msg.Words(m); len(l) != 0 {
			t.Errorf("%s: Words: %v", what, l)
		}
	}
}
