package msg

import (
	"tusk/api"
	"tusk/batch"
)

const (
	most = 3*api.MaxF + 1 // validators that there may be
	last = most - 1       // the number of the last one of these
)

// isZero tells whether a field is as if nobody had set it. (A list that is empty is as none.)
func isZero(m api.Msg, x rune) bool {
	switch x {
	case 'd':
		return m.Digest == ""
	case 'v':
		return m.View == 0
	case 't':
		return m.Tag == api.Tag{}
	case 'b':
		return m.Batch.Author == 0 && m.Batch.Number == 0 && len(m.Batch.Txs) == 0
	case 'h':
		return isZeroHeader(m.Header)
	case 'c':
		return isZeroHeader(m.Cert.Header) && len(m.Cert.Votes) == 0
	case 'k':
		return m.Block.View == 0 && isZeroQc(m.Block.Qc) && len(m.Block.Certs) == 0
	}
	return isZeroQc(m.Qc)
}

func isZeroHeader(h api.Header) bool {
	return h.Author == 0 && h.Round == 0 && len(h.Refs) == 0 && len(h.Parents) == 0
}

func isZeroQc(q api.Qc) bool {
	return q.View == 0 && q.Block == "" && len(q.Votes) == 0
}

// checkField tells what is wrong with a field that belongs to the kind.
func checkField(m api.Msg, x rune) api.Errno {
	if x == 'b' {
		return batch.Check(m.Batch)
	}
	if !isPlain(m, x) {
		return api.ErrField
	}
	return api.OK
}

// isPlain tells whether a field other than Batch is such that it is read as it was written.
func isPlain(m api.Msg, x rune) bool {
	switch x {
	case 'd':
		return isDigest(m.Digest)
	case 'v':
		return isNumber(m.View)
	case 't':
		return isPlainTag(m.Tag)
	case 'h':
		return isPlainHeader(m.Header)
	case 'c':
		return isPlainHeader(m.Cert.Header) && arePlainTags(m.Cert.Votes)
	case 'k':
		return isNumber(m.Block.View) && isPlainQc(m.Block.Qc) && areSized(m.Block.Certs, api.MaxCerts, api.MarkSize)
	}
	return isPlainQc(m.Qc)
}

func isNumber(n int) bool { return n >= 0 && n <= api.MaxInt }

func isValidator(n int) bool { return n >= 0 && n <= last }

func isDigest(s string) bool { return len(s) == api.DigSize }

func isPlainTag(x api.Tag) bool { return isValidator(x.Who) && len(x.Mac) == api.MacSize }

func arePlainTags(l []api.Tag) bool {
	if len(l) > most {
		return false
	}
	for _, x := range l {
		if !isPlainTag(x) {
			return false
		}
	}
	return true
}

func isPlainHeader(h api.Header) bool {
	if !isValidator(h.Author) || !isNumber(h.Round) || len(h.Refs) > api.MaxRefs {
		return false
	}
	for _, x := range h.Refs {
		if !isDigest(x.Digest) || !arePlainTags(x.Acks) {
			return false
		}
	}
	return areSized(h.Parents, most, api.DigSize)
}

func isPlainQc(q api.Qc) bool {
	return isNumber(q.View) && isDigest(q.Block) && arePlainTags(q.Votes)
}

// areSized tells whether texts are no more than so many, and of a size each.
func areSized(l []string, most, size int) bool {
	if len(l) > most {
		return false
	}
	for _, s := range l {
		if len(s) != size {
			return false
		}
	}
	return true
}
