package cert

import (
	"tusk/api"
	"tusk/auth"
)

const most = 3*api.MaxF + 1 // validators that there may be

// place is where a validator's tag stands, once it is in.
type place struct {
	in  bool
	tag api.Tag
}

// Votes collects tags of a word.
type Votes struct {
	table      *auth.Table
	kind, word string
	// A validator's number is its place, so the tags rise by Who in whatever order they come. Of the places those of the table's validators are used.
	places [most]place
}

// Collect collects tags of a word of a kind.
func Collect(t *auth.Table, kind, word string) *Votes {
	return &Votes{table: t, kind: kind, word: word}
}

// Add adds a tag.
func (v *Votes) Add(x api.Tag) api.Errno {
	if e := v.table.Check(x, v.kind, v.word); e != api.OK {
		return e
	}
	// Whoever is no validator was refused, so Who has a place.
	if v.places[x.Who].in {
		return api.ErrTwice
	}
	v.places[x.Who] = place{in: true, tag: x}
	return api.OK
}

// Full tells whether they are enough.
func (v *Votes) Full() bool { return len(v.Tags()) >= v.table.Need() }

// Tags is the tags, rising.
func (v *Votes) Tags() []api.Tag {
	var l []api.Tag
	for who := range v.table.N() {
		if v.places[who].in {
			l = append(l, v.places[who].tag)
		}
	}
	return l
}
