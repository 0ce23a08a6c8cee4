package ideal

import (
	"maps"
	"slices"

	"bulla/api"
)

// Ledger knows what was signed with which key. One that no call made has no map.
type Ledger struct {
	known map[api.Sign]struct{}
	order []api.Sign // as they were first signed, which the map does not tell
}

// NewLedger is a ledger in which nothing is signed.
func NewLedger() *Ledger {
	return &Ledger{known: map[api.Sign]struct{}{}}
}

func (l *Ledger) made() bool {
	return l != nil && l.known != nil
}

// Sign signs d with a key.
func (l *Ledger) Sign(key int, d api.Digest) (api.Sign, api.Errno) {
	if !l.made() {
		return api.Sign{}, api.ErrMade
	}
	if key < 0 || key >= api.MaxKeys {
		return api.Sign{}, api.ErrKey
	}
	if d < 1 { // no bytes have such a number
		return api.Sign{}, api.ErrArg
	}
	s := api.Sign{Key: key, Digest: d}
	if !l.Signed(s) {
		l.known[s] = struct{}{}
		l.order = append(l.order, s)
	}
	return s, api.OK
}

// Signed tells whether Sign has answered s.
func (l *Ledger) Signed(s api.Sign) bool {
	if !l.made() {
		return false
	}
	_, signed := l.known[s]
	return signed
}

// Signs is what was signed, each once.
func (l *Ledger) Signs() []api.Sign {
	if !l.made() {
		return nil
	}
	return slices.Clone(l.order)
}

// Len is how many signatures there are.
func (l *Ledger) Len() int {
	if !l.made() {
		return 0
	}
	return len(l.order)
}

// Clone is the same ledger, going its own way.
func (l *Ledger) Clone() *Ledger {
	if !l.made() {
		return nil
	}
	return &Ledger{known: maps.Clone(l.known), order: slices.Clone(l.order)}
}
