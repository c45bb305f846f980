package disk

import (
	"iter"
	"maps"
	"slices"

	"tarmac/api"
)

// sector is one's bytes.
type sector [api.Sector]byte

// sectorOf is the sector of as many bytes.
func sectorOf(b []byte) sector {
	var s sector
	copy(s[:], b)
	return s
}

// sectors goes through what is read of the n sectors from at on, which the disk must have.
func (d *Disk) sectors(at, n int) iter.Seq[sector] {
	return func(yield func(sector) bool) {
		for i := at; i < at+n; i++ {
			s, waits := d.waits[i]
			if !waits {
				s = d.lasts[i]
			}
			if !yield(s) {
				return
			}
		}
	}
}

// waiting goes through what waits, and of which sector, by the sectors' numbers.
func (d *Disk) waiting() iter.Seq2[int, sector] {
	return func(yield func(int, sector) bool) {
		for _, at := range slices.Sorted(maps.Keys(d.waits)) {
			if !yield(at, d.waits[at]) {
				return
			}
		}
	}
}
