package checks

import (
	"testing"

	"tusk/api"
)

// The errors, and how each is told (DOC.md, Words).
func TestErrors(t *testing.T) {
	for _, x := range []struct {
		e    api.Errno
		n    int
		text string
	}{
		{api.OK, 0, "error 0"},
		{api.ErrShort, 1, "error 1"},
		{api.ErrRange, 2, "error 2"},
		{api.ErrField, 3, "error 3"},
		{api.ErrFull, 4, "error 4"},
		{api.ErrKind, 5, "error 5"},
		{api.ErrMore, 6, "error 6"},
		{api.ErrState, 7, "error 7"},
		{api.ErrLong, 8, "error 8"},
		{api.ErrOrder, 9, "error 9"},
		{api.ErrTag, 10, "error 10"},
		{api.ErrOld, 11, "error 11"},
		{api.ErrFew, 12, "error 12"},
		{api.ErrTwice, 13, "error 13"},
		{api.ErrNone, 14, "error 14"},
		{api.ErrClash, 15, "error 15"},
		{api.ErrCommand, 70, "error 70"},
		{api.Errno(-3), -3, "error -3"},
	} {
		var err error = x.e
		if int(x.e) != x.n || err.Error() != x.text {
			t.Errorf("%d is told as %q, want %d, %q", int(x.e), err.Error(), x.n, x.text)
		}
	}
}

// The limits, and the numbers of kinds and results (DOC.md, Words).
func TestLimits(t *testing.T) {
	for name, x := range map[string][2]int{
		"MaxInt":    {api.MaxInt, 1<<62 - 1},
		"MaxF":      {api.MaxF, 2},
		"MaxText":   {api.MaxText, 1 << 16},
		"MaxName":   {api.MaxName, 32},
		"MaxValue":  {api.MaxValue, 64},
		"MaxKeys":   {api.MaxKeys, 8},
		"MaxTxs":    {api.MaxTxs, 16},
		"MaxRefs":   {api.MaxRefs, 4},
		"MaxCerts":  {api.MaxCerts, 8},
		"MaxBag":    {api.MaxBag, 256},
		"MaxTable":  {api.MaxTable, 64},
		"Depth":     {api.Depth, 12},
		"DigSize":   {api.DigSize, 32},
		"MarkSize":  {api.MarkSize, 40},
		"MacSize":   {api.MacSize, 16},
		"Transfer":  {api.Transfer, 1},
		"Put":       {api.Put, 2},
		"RDone":     {api.RDone, 0},
		"RAccess":   {api.RAccess, 1},
		"RNonce":    {api.RNonce, 2},
		"RFunds":    {api.RFunds, 3},
		"ROverflow": {api.ROverflow, 4},
	} {
		if x[0] != x[1] {
			t.Errorf("%s is %d, want %d", name, x[0], x[1])
		}
	}
}
