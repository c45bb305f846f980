package journal_test

import (
	"bytes"
	"encoding/binary"
	"math"
	"slices"
	"testing"

	"tarmac/api"
)

// noHead is a sector that is no head.
func noHead() []byte {
	return slices.Concat(headAs(9, 0)[:56], headAs(8, 0)[56:])
}

// P13.1: new disks of each kind of size are empty journals.
func TestOpenNew(t *testing.T) {
	for _, n := range []int{4, 5, 6, 100, 1000, api.MaxSectors - 1, api.MaxSectors} {
		d := newDisk(t, n)
		j := opened(t, d)
		has(t, "a new disk", j, nil)
		room(t, j, (n-2)*api.Sector-4)
	}
}

// P13.1: disks of fewer than 4 sectors, whatever is on them.
func TestOpenSmall(t *testing.T) {
	for n := 1; n < 4; n++ {
		unopened(t, "a new small disk", newDisk(t, n), api.ErrBroken)
		all := slices.Concat(headAs(1, 0), headAs(2, 4), make([]byte, api.Sector))
		unopened(t, "a small disk with heads", diskOf(t, n, all[:n*api.Sector]), api.ErrBroken)
	}
}

// P13.1: a dead disk is told as such ahead of all that is wrong with it.
func TestOpenDead(t *testing.T) {
	for _, n := range []int{1, 2, 3, 4, 5, api.MaxSectors} {
		d := newDisk(t, n)
		d.Kill()
		unopened(t, "a dead disk", d, api.ErrDead)
		d.Restart(nil)
		d.Fuse(0)
		d.Sync()
		unopened(t, "a disk that died", d, api.ErrDead)
	}
	d := diskOf(t, 4, noHead(), noHead())
	d.Kill()
	unopened(t, "a dead disk without a head", d, api.ErrDead)
	d.Restart(nil)
	unopened(t, "it, with power", d, api.ErrBroken)
}

// P13.1: nothing is written: no fuse burns, and what waits still waits.
func TestOpenWritesNothing(t *testing.T) {
	d := diskOf(t, 6, headAs(3, 7), headAs(2, 0), dataOf([]byte("abc")))
	broken := diskOf(t, 6, noHead(), noHead())
	for range 5 {
		d.Fuse(0)
		has(t, "a disk whose fuse is out", opened(t, d), [][]byte{[]byte("abc")})
		broken.Fuse(0)
		unopened(t, "a broken disk", broken, api.ErrBroken)
		if d.Dead() || broken.Dead() {
			t.Fatal("Open burnt the fuse")
		}
	}
	d.Fuse(-1)
	was := bytesOf(t, d)
	told(t, "Write", d.Write(0, headAs(4, 0)), api.OK)
	has(t, "a head that waits", opened(t, d), nil)
	if d.Waiting() != 1 {
		t.Errorf("Waiting: %d", d.Waiting())
	}
	d.Restart(nil)
	if !bytes.Equal(bytesOf(t, d), was) {
		t.Error("Open changed what lasts")
	}
}

// P13.1: each bit of a head: in a number, or in the bytes 0, it makes the head no whole one; in the length it makes it another one.
func TestHeadBits(t *testing.T) {
	const n = 10
	for at := range 2 {
		for bit := range 8 * api.Sector {
			h := headAs(0x0102030405060708, 16)
			h[bit/8] ^= 1 << (bit % 8)
			sectors := [][]byte{noHead(), noHead()}
			sectors[at] = h
			d := diskOf(t, n, sectors...) // the data are bytes 0: so many records of nothing as there are fours of bytes
			length := binary.BigEndian.Uint64(h[8:])
			if bit/8 < 8 || bit/8 >= 16 || length > (n-2)*api.Sector || length%4 != 0 {
				unopened(t, "a changed head", d, api.ErrBroken)
				continue
			}
			has(t, "a head of another length", opened(t, d), make([][]byte, length/4))
		}
	}
}

// P13.1: a length is at most the room, also where it would be below 0, or go round.
func TestHeadLengths(t *testing.T) {
	for _, n := range []int{4, 5, 100, api.MaxSectors} {
		most := uint64(n-2) * api.Sector
		for _, length := range []uint64{0, 4, most - 4, most} {
			d := diskOf(t, n, noHead(), headAs(1, length))
			has(t, "a length that may be", opened(t, d), make([][]byte, length/4))
			room(t, opened(t, d), max(int(most-length)-4, 0))
		}
		for _, length := range []uint64{most + 1, most + 4, most + 64, 2 * most, 1 << 31, 1 << 32, 1<<32 + 4, 1 << 63, 1<<63 + 4, math.MaxUint64, math.MaxUint64 - 3, -most, math.MaxUint64 - 63} {
			unopened(t, "a head of a great length", diskOf(t, n, noHead(), headAs(1, length)), api.ErrBroken)
			d := diskOf(t, n, headAs(5, length), headAs(1, 8))
			has(t, "the head beside it", opened(t, d), make([][]byte, 2))
		}
	}
}

// P13.1: of two whole heads the one of the greater number, of two with one number the first; the sector in which it is plays no part.
func TestWhichHead(t *testing.T) {
	numbers := []uint64{0, 1, 2, 3, 255, 256, 1<<32 - 1, 1 << 32, 1<<63 - 1, 1 << 63, 1<<63 + 1, math.MaxUint64 - 1, math.MaxUint64}
	for _, first := range numbers {
		for _, second := range numbers {
			want := 1
			if second > first {
				want = 2
			}
			d := diskOf(t, 4, headAs(first, 4), headAs(second, 8))
			has(t, "two heads", opened(t, d), make([][]byte, want))
		}
		has(t, "the first head alone", opened(t, diskOf(t, 4, headAs(first, 4), noHead())), make([][]byte, 1))
		has(t, "the second head alone", opened(t, diskOf(t, 4, noHead(), headAs(first, 8))), make([][]byte, 2))
	}
	unopened(t, "no head", diskOf(t, 4, noHead(), noHead()), api.ErrBroken)
}

// P13.1: data that end within a record, or within its length, are no records; those that end behind one are.
func TestBrokenData(t *testing.T) {
	all := [][]byte{[]byte("abc"), nil, some(100, 1), some(1, 2), nil}
	data := dataOf(all...)
	for length := range len(data) + 1 {
		want := -1
		for i := range len(all) + 1 {
			if len(dataOf(all[:i]...)) == length {
				want = i
			}
		}
		for _, heads := range [][]byte{slices.Concat(noHead(), headAs(3, uint64(length))), slices.Concat(headAs(2, 0), headAs(3, uint64(length)))} {
			d := diskOf(t, 20, heads, data)
			if want < 0 {
				unopened(t, "data that end within a record", d, api.ErrBroken)
			} else {
				has(t, "data that end behind one", opened(t, d), all[:want])
			}
		}
	}
}

// P13.1: a record's length that leads beyond the data, also where it would be below 0, or go round.
func TestBrokenLengths(t *testing.T) {
	lead := dataOf([]byte("abc"))
	for _, behind := range []int{0, 1, 4, 9} {
		for _, length := range []uint32{0, 1, 3, 4, 5, 8, 9, 10, 255, 256, 1 << 16, 1<<16 + 1, 1 << 24, 1<<31 - 4, 1<<31 - 1, 1 << 31, 1<<31 + 4, math.MaxUint32 - 15, math.MaxUint32 - 4, math.MaxUint32 - 3, math.MaxUint32} {
			rest := bytes.Repeat([]byte{0xf1}, behind)
			data := slices.Concat(lead, binary.BigEndian.AppendUint32(nil, length), rest)
			d := diskOf(t, 6, headAs(4, uint64(len(data))), headAs(3, uint64(len(lead))), data)
			if int(length) == behind {
				has(t, "a length up to the end", opened(t, d), [][]byte{[]byte("abc"), rest})
			} else {
				unopened(t, "a length that leads elsewhere", d, api.ErrBroken)
			}
		}
	}
}

// P13.1: what is behind the data plays no part, whatever it is.
func TestBehindTheData(t *testing.T) {
	for _, fill := range []byte{0, 1, 0xff} {
		data := dataOf([]byte("abc"), some(70, 1))
		behind := bytes.Repeat([]byte{fill}, 4*api.Sector-len(data))
		d := diskOf(t, 6, headAs(1, uint64(len(data))), noHead(), data, behind)
		j := opened(t, d)
		has(t, "with bytes behind them", j, [][]byte{[]byte("abc"), some(70, 1)})
		added(t, j, []byte("x"))
		has(t, "and a record more", opened(t, d), [][]byte{[]byte("abc"), some(70, 1), []byte("x")})
	}
}

// P13.1: a record that is on the disk may be longer than one that may be added.
func TestLongRecordOnTheDisk(t *testing.T) {
	long := some(api.MaxBytes+1, 1)
	data := dataOf(long, nil)
	d := diskOf(t, 2000, headAs(1, uint64(len(data))), headAs(0, 0), data)
	has(t, "a long record", opened(t, d), [][]byte{long, nil})
}

// P13.3: behind a head of any number the head of the next one goes to the sector that this one's rest by 2 says, wherever the head is.
func TestNextHead(t *testing.T) {
	for _, number := range []uint64{0, 1, 2, 254, 255, 256, 1<<16 - 1, 1<<32 - 1, 1 << 32, 1<<63 - 1, 1 << 63, math.MaxUint64 - 2, math.MaxUint64 - 1} {
		for at := range 2 {
			want := [][]byte{noHead(), noHead()}
			want[at] = headAs(number, 7)
			d := diskOf(t, 4, want[0], want[1], dataOf([]byte("abc")))
			j := opened(t, d)
			added(t, j, []byte("x"))
			want[(number+1)%2] = headAs(number+1, 12)
			if got := bytesOf(t, d)[:2*api.Sector]; !bytes.Equal(got, slices.Concat(want...)) {
				t.Errorf("the heads behind %d: %v; want %v", number, got, want)
			}
			has(t, "opened anew", opened(t, d), [][]byte{[]byte("abc"), []byte("x")})
		}
	}
}

// P13.4: where there is no next number, no record is added that would not be there again.
func TestLastNumber(t *testing.T) {
	d := diskOf(t, 4, headAs(math.MaxUint64-1, 0), headAs(math.MaxUint64-2, 0))
	j := opened(t, d)
	added(t, j, []byte("abc"))
	was := bytesOf(t, d)
	told(t, "Add behind the last number", j.Add([]byte("x")), api.ErrFull)
	told(t, "Add to it opened anew", opened(t, d).Add(nil), api.ErrFull)
	if !bytes.Equal(bytesOf(t, d), was) || d.Waiting() != 0 {
		t.Error("an Add that was refused changed the disk")
	}
	has(t, "opened anew", opened(t, d), [][]byte{[]byte("abc")})
}
