package seal

import (
	"bytes"

	"tarmac/api"
)

// minCarriers is the least number of carriers that have keys for each other.
const minCarriers = 2

// pair is from whom, and to whom, a key is for.
type pair [2]uint8

// Ring has the keys of pairs of carriers.
type Ring struct {
	carriers int
	keys     map[pair][]byte // of each pair of two unlike carriers, and of no other
}

// New is a ring of keys.
func New(keys [][][]byte) (*Ring, api.Errno) {
	if len(keys) < minCarriers || len(keys) > api.MaxCarriers {
		return nil, api.ErrArg
	}
	r := &Ring{carriers: len(keys), keys: map[pair][]byte{}}
	for from, row := range keys {
		if len(row) != len(keys) || !r.add(uint8(from), row) {
			return nil, api.ErrArg
		}
	}
	return r, api.OK
}

// Carriers is how many carriers there are.
func (r *Ring) Carriers() int {
	if r == nil {
		return 0
	}
	return r.carriers
}

// add puts a carrier's keys to all others into the ring, as far as they may be, and tells whether they all may.
func (r *Ring) add(from uint8, row [][]byte) bool {
	for i, key := range row {
		to := uint8(i)
		if to == from {
			continue
		}
		if !r.mayHave(key) {
			return false
		}
		r.keys[pair{from, to}] = bytes.Clone(key)
	}
	return true
}

// mayHave tells whether a key has as many bytes as it may, and is unlike all that are in the ring. Keys with other noughts behind them are unlike, though they have one mac.
func (r *Ring) mayHave(key []byte) bool {
	if len(key) == 0 || len(key) > api.MaxKey {
		return false
	}
	for _, other := range r.keys {
		if bytes.Equal(key, other) {
			return false
		}
	}
	return true
}
