package journal

import (
	"iter"

	"tarmac/api"
	"tarmac/disk"
)

// lengthSize is how many bytes the length of a record is.
const lengthSize = 4

// readData are a disk's data of a length that there is room for.
func readData(d *disk.Disk, length uint64) ([]byte, api.Errno) {
	b, e := d.Read(heads, sectorsFor(int(length)))
	if e != api.OK {
		return nil, e
	}
	data := b[:length]
	if !areRecords(data) {
		return nil, api.ErrBroken
	}
	return data, api.OK
}

// records goes through the records with which data begin, and where each one ends.
func records(data []byte) iter.Seq2[int, []byte] {
	return func(yield func(int, []byte) bool) {
		for at := 0; len(data)-at >= lengthSize; {
			from := at + lengthSize
			length := read(data[at:from])
			if length > uint64(len(data)-from) {
				return
			}
			at = from + int(length)
			if !yield(at, data[from:at]) {
				return
			}
		}
	}
}

// areRecords tells whether data are records one behind the other, and nothing else.
func areRecords(data []byte) bool {
	end := 0
	for at := range records(data) {
		end = at
	}
	return end == len(data)
}

// withRecord are data with a record behind them.
func withRecord(data, b []byte) []byte {
	var length [lengthSize]byte
	lay(length[:], uint64(len(b)))
	data = append(data, length[:]...)
	return append(data, b...)
}

// sectorsFor is how many sectors so many bytes are in.
func sectorsFor(n int) int {
	return (n + api.Sector - 1) / api.Sector
}

// wholeSectors are bytes with as many bytes 0 behind them as make them whole sectors.
func wholeSectors(b []byte) []byte {
	whole := make([]byte, sectorsFor(len(b))*api.Sector)
	copy(whole, b)
	return whole
}
