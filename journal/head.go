package journal

import (
	"slices"

	"tarmac/api"
	"tarmac/disk"
)

const (
	heads      = 2 // sectors that are heads; the data are in those behind
	minSectors = 4 // of a disk that may have a journal
	numberSize = 8 // bytes of a head's number, and of its length
)

// head is one's bytes: its number, its length, bytes 0, and its number again, which is there last, however much of it was written.
type head [api.Sector]byte

// headOf is the whole head of a number and a length.
func headOf(number, length uint64) head {
	var h head
	lay(h[:numberSize], number)
	lay(h[numberSize:2*numberSize], length)
	lay(h[len(h)-numberSize:], number)
	return h
}

// number is a head's.
func (h head) number() uint64 {
	return read(h[:numberSize])
}

// length is how many bytes of data a head tells of.
func (h head) length() uint64 {
	return read(h[numberSize : 2*numberSize])
}

// whole tells whether a head is one, where there is that room.
func (h head) whole(room int) bool {
	return h == headOf(h.number(), h.length()) && h.length() <= uint64(room)
}

// roomOf is how many bytes of data a disk has room for.
func roomOf(d *disk.Disk) int {
	return (d.Size() - heads) * api.Sector
}

// readHead is the head of a disk.
func readHead(d *disk.Disk) (head, api.Errno) {
	b, e := d.Read(0, heads)
	if e != api.OK {
		return head{}, e
	}
	var top head
	found := false
	for s := range slices.Chunk(b, api.Sector) {
		h := head(s)
		if h.whole(roomOf(d)) && (!found || h.number() > top.number()) {
			top, found = h, true
		}
	}
	if !found {
		return head{}, api.ErrBroken
	}
	return top, api.OK
}

// lay fills bytes with a number, the highest byte first.
func lay(b []byte, number uint64) {
	for i := range b {
		b[len(b)-1-i] = byte(number >> (8 * i))
	}
}

// read is the number that fills bytes.
func read(b []byte) uint64 {
	var number uint64
	for _, c := range b {
		number = number<<8 | uint64(c)
	}
	return number
}
