package msg

import (
	"tusk/api"
	"tusk/block"
	"tusk/header"
	"tusk/wire"
)

// Kinds of tags' words.
const (
	Propose = "propose"
	NewView = "newview"
)

// Word is a tag in a message, and what it is of.
type Word struct {
	Tag  api.Tag
	Kind string
	Word string
}

// Words is all tags in a message, and what they are of.
func Words(m api.Msg) []Word {
	if Check(m) != api.OK {
		return nil
	}
	var w words
	for _, x := range letters(m.Kind) {
		switch x {
		case 't':
			w.own(m)
		case 'h':
			w.header(m.Header)
		case 'c':
			w.header(m.Cert.Header)
			w.add(header.Vote, header.Id(m.Cert.Header), m.Cert.Votes...)
		case 'k':
			w.qc(m.Block.Qc)
		case 'q':
			w.qc(m.Qc)
		}
	}
	return w.list
}

// words lists tags with what they are of.
type words struct {
	list []Word
}

// add lists tags that are of one word.
func (w *words) add(kind, word string, tags ...api.Tag) {
	for _, x := range tags {
		w.list = append(w.list, Word{Tag: x, Kind: kind, Word: word})
	}
}

func (w *words) header(h api.Header) {
	for _, x := range h.Refs {
		w.add(header.Ack, x.Digest, x.Acks...)
	}
}

func (w *words) qc(q api.Qc) {
	w.add(block.Agree, block.Word(q.View, q.Block), q.Votes...)
}

// own lists the message's own tag, that of who sends it.
func (w *words) own(m api.Msg) {
	switch m.Kind {
	case api.MAck:
		w.add(header.Ack, m.Digest, m.Tag)
	case api.MVote:
		w.add(header.Vote, m.Digest, m.Tag)
	case api.MPropose:
		w.add(Propose, block.Id(m.Block), m.Tag)
	case api.MAgree:
		w.add(block.Agree, block.Word(m.View, m.Digest), m.Tag)
	case api.MNewView:
		w.add(NewView, wire.Int(int64(m.View))+block.EncodeQc(m.Qc), m.Tag)
	}
}
