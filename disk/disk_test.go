package disk_test

import (
	"bytes"
	"math"
	"slices"
	"testing"

	"tarmac/api"
	"tarmac/disk"
)

// fill is n sectors, each of a byte of its own: c, c + 1, ..
func fill(n int, c byte) []byte {
	var b []byte
	for i := range n {
		b = append(b, bytes.Repeat([]byte{c + byte(i)}, api.Sector)...)
	}
	return b
}

// mixed is n sectors, no two bytes of one alike, and other ones for each seed.
func mixed(n, seed int) []byte {
	b := make([]byte, n*api.Sector)
	for i := range b {
		b[i] = byte(i*3 + i/api.Sector*7 + seed*89 + 1)
	}
	return b
}

// newDisk is one of n sectors, which there must be.
func newDisk(t *testing.T, n int) *disk.Disk {
	t.Helper()
	d, e := disk.New(n)
	if e != api.OK || d == nil {
		t.Fatalf("New(%d): %v, %v", n, d, e)
	}
	return d
}

// told fails unless what a call answered is this error.
func told(t *testing.T, what string, got, want api.Errno) {
	t.Helper()
	if got != want {
		t.Errorf("%s: %v; want %v", what, got, want)
	}
}

// reads fails unless these bytes are read from the sector at on.
func reads(t *testing.T, d *disk.Disk, at int, want []byte) {
	t.Helper()
	if b, e := d.Read(at, len(want)/api.Sector); e != api.OK || !bytes.Equal(b, want) {
		t.Errorf("Read(%d, %d) = %v, %v; want %v", at, len(want)/api.Sector, b, e, want)
	}
}

// unread fails unless Read answers the error, and nothing beside it.
func unread(t *testing.T, d *disk.Disk, at, n int, want api.Errno) {
	t.Helper()
	if b, e := d.Read(at, n); e != want || len(b) > 0 {
		t.Errorf("Read(%d, %d) = %d bytes, %v; want %v", at, n, len(b), e, want)
	}
}

// waits fails unless something waits of so many sectors.
func waits(t *testing.T, d *disk.Disk, want int) {
	t.Helper()
	if n := d.Waiting(); n != want {
		t.Errorf("Waiting: %d; want %d", n, want)
	}
}

// dead fails unless the disk is dead, or has power.
func dead(t *testing.T, d *disk.Disk, want bool) {
	t.Helper()
	if got := d.Dead(); got != want {
		t.Errorf("Dead: %v; want %v", got, want)
	}
}

// greats are numbers that are far beyond both edges, or that go round when they are added, multiplied or cut.
func greats() []int {
	l := []int{math.MinInt, math.MinInt + 1, math.MaxInt, math.MaxInt - 1, math.MaxInt - 63, math.MaxInt - 64, math.MaxInt / 2, math.MinInt / 2}
	for _, bits := range []int{8, 16, 32, 57, 58, 62} {
		for by := -2; by <= 4; by++ {
			l = append(l, 1<<bits+by, -1<<bits+by)
		}
	}
	return l
}

// sizes are of disks at both edges, and between.
func sizes() []int {
	return []int{1, 2, 3, 5, 255, 256, 257, api.MaxSectors - 1, api.MaxSectors}
}

// P12.1: disks of each number of sectors that may be.
func TestSizes(t *testing.T) {
	for _, n := range sizes() {
		d := newDisk(t, n)
		if d.Size() != n {
			t.Errorf("Size of New(%d): %d", n, d.Size())
		}
		waits(t, d, 0)
		dead(t, d, false)
		reads(t, d, 0, make([]byte, n*api.Sector))
		for range 100 {
			told(t, "Sync without a fuse", d.Sync(), api.OK)
		}
		d.Kill()
		if d.Size() != n {
			t.Errorf("Size of New(%d), dead: %d", n, d.Size())
		}
		d.Restart(nil)
		if d.Size() != n {
			t.Errorf("Size of New(%d), restarted: %d", n, d.Size())
		}
	}
	if testing.Short() {
		return
	}
	for n := 1; n <= api.MaxSectors; n += 7 {
		if d := newDisk(t, n); d.Size() != n {
			t.Errorf("Size of New(%d): %d", n, d.Size())
		}
	}
}

// P12.1: numbers of sectors beyond both edges.
func TestSizesThatMayNotBe(t *testing.T) {
	for _, n := range append([]int{0, -1, -2, -63, -64, api.MaxSectors + 1, api.MaxSectors + 2, -api.MaxSectors, api.Sector * api.MaxSectors}, greats()...) {
		if n >= 1 && n <= api.MaxSectors {
			continue
		}
		if d, e := disk.New(n); e != api.ErrArg || d != nil {
			t.Errorf("New(%d): %v, %v; want nil, %v", n, d, e, api.ErrArg)
		}
	}
}

// R1, P12.1 to P12.5: all calls of nil.
func TestNil(t *testing.T) {
	var d *disk.Disk
	for _, at := range append(greats(), 0, 1, -1) {
		unread(t, d, at, 1, api.ErrNil)
		unread(t, d, 0, at, api.ErrNil)
		told(t, "Write", d.Write(at, fill(1, 'a')), api.ErrNil)
		told(t, "Write of no whole sector", d.Write(at, []byte("a")), api.ErrNil)
		told(t, "Write of nil", d.Write(at, nil), api.ErrNil)
		d.Fuse(at)
		d.Restart([]int{at})
	}
	told(t, "Sync", d.Sync(), api.ErrNil)
	d.Kill()
	d.Restart(nil)
	dead(t, d, false)
	waits(t, d, 0)
	if n := d.Size(); n != 0 {
		t.Errorf("Size of nil: %d", n)
	}
}

// R1: a disk that did not come from New panics at nothing.
func TestBareDisk(t *testing.T) {
	for _, at := range append(greats(), 0, 1, -1) {
		d := new(disk.Disk)
		d.Restart([]int{at})
		unread(t, d, at, 1, api.ErrArg)
		told(t, "Write", d.Write(at, fill(1, 'a')), api.ErrArg)
		told(t, "Sync", d.Sync(), api.OK)
		d.Fuse(at)
		d.Kill()
		dead(t, d, true)
		waits(t, d, 0)
	}
}

// P12.2: each piece of small disks, at both edges and beyond them.
func TestReadEdges(t *testing.T) {
	for n := 1; n <= 6; n++ {
		d, all := newDisk(t, n), mixed(n, n)
		told(t, "Write", d.Write(0, all), api.OK)
		for at := -3; at <= n+3; at++ {
			for count := -3; count <= n+3; count++ {
				if at < 0 || count < 0 || at+count > n {
					unread(t, d, at, count, api.ErrArg)
					continue
				}
				reads(t, d, at, all[at*api.Sector:(at+count)*api.Sector])
			}
		}
	}
}

// P12.2: great disks at both edges, and great numbers, which would go round when they are added.
func TestReadGreat(t *testing.T) {
	for _, n := range sizes() {
		d, all := newDisk(t, n), mixed(n, 1)
		told(t, "Write", d.Write(0, all), api.OK)
		reads(t, d, 0, all)
		reads(t, d, n-1, all[(n-1)*api.Sector:])
		reads(t, d, n, nil)
		reads(t, d, 0, nil)
		for _, at := range []int{0, 1, n - 1, n, n + 1, -1} {
			unread(t, d, at, n-at+1, api.ErrArg)
			unread(t, d, at, -1, api.ErrArg)
		}
		unread(t, d, n+1, 0, api.ErrArg)
		unread(t, d, -1, 1, api.ErrArg)
		unread(t, d, -1, 0, api.ErrArg)
		for _, x := range greats() {
			if x >= 0 && x <= n {
				continue
			}
			unread(t, d, x, 0, api.ErrArg)
			unread(t, d, x, 1, api.ErrArg)
			unread(t, d, 0, x, api.ErrArg)
			unread(t, d, 1, x, api.ErrArg)
			for _, y := range greats() {
				unread(t, d, x, y, api.ErrArg)
			}
			unread(t, d, x, -x, api.ErrArg)
			unread(t, d, x, n-x, api.ErrArg)
		}
	}
}

// P12.2: of each sector what waits, or, if nothing does, what lasts, whichever of a row wait.
func TestReadOfBoth(t *testing.T) {
	const n = 5
	for which := range 1 << n {
		d, want := newDisk(t, n), mixed(n, 1)
		told(t, "Write", d.Write(0, want), api.OK)
		told(t, "Sync", d.Sync(), api.OK)
		count := 0
		for at := range n {
			if which>>at&1 == 1 {
				b := mixed(1, 10+at)
				told(t, "Write", d.Write(at, b), api.OK)
				copy(want[at*api.Sector:], b)
				count++
			}
		}
		for range 2 {
			reads(t, d, 0, want)
			for at := range n {
				reads(t, d, at, want[at*api.Sector:][:api.Sector])
			}
			waits(t, d, count)
		}
		told(t, "Sync", d.Sync(), api.OK)
		reads(t, d, 0, want)
	}
}

// P12.3: each piece of small disks, at both edges and beyond them, of no sector too; what is refused leaves all as it was.
func TestWriteEdges(t *testing.T) {
	for n := 1; n <= 6; n++ {
		for at := -3; at <= n+3; at++ {
			for count := 0; count <= n+3; count++ {
				d, want := newDisk(t, n), make([]byte, n*api.Sector)
				if at < 0 || at+count > n {
					told(t, "Write beyond an edge", d.Write(at, mixed(count, 2)), api.ErrArg)
					waits(t, d, 0)
					reads(t, d, 0, want)
					continue
				}
				told(t, "Write", d.Write(at, mixed(count, 2)), api.OK)
				copy(want[at*api.Sector:], mixed(count, 2))
				waits(t, d, count)
				reads(t, d, 0, want)
			}
		}
	}
}

// P12.3: great disks at both edges, and great numbers.
func TestWriteGreat(t *testing.T) {
	for _, n := range sizes() {
		d := newDisk(t, n)
		for _, at := range greats() {
			if at >= 0 && at <= n {
				continue
			}
			for _, count := range []int{0, 1, 2, n} {
				told(t, "Write at a great number", d.Write(at, mixed(count, 3)), api.ErrArg)
			}
		}
		told(t, "Write of one sector more", d.Write(0, mixed(n+1, 3)), api.ErrArg)
		told(t, "Write of as many, from 1 on", d.Write(1, mixed(n, 3)), api.ErrArg)
		told(t, "Write behind the last one", d.Write(n, mixed(1, 3)), api.ErrArg)
		told(t, "Write of none, one behind the end", d.Write(n+1, nil), api.ErrArg)
		told(t, "Write of none ahead of the first one", d.Write(-1, nil), api.ErrArg)
		waits(t, d, 0)
		told(t, "Write of none at the end", d.Write(n, nil), api.OK)
		waits(t, d, 0)
		reads(t, d, 0, make([]byte, n*api.Sector))
		told(t, "Write of the last one", d.Write(n-1, mixed(1, 3)), api.OK)
		waits(t, d, 1)
		reads(t, d, n-1, mixed(1, 3))
		told(t, "Write of all", d.Write(0, mixed(n, 4)), api.OK)
		waits(t, d, n)
		reads(t, d, 0, mixed(n, 4))
		told(t, "Sync", d.Sync(), api.OK)
		waits(t, d, 0)
		reads(t, d, 0, mixed(n, 4))
	}
}

// P12.3: bytes that are no whole sectors, of any number, wherever; nothing of them waits.
func TestWriteNoWholeSectors(t *testing.T) {
	d := newDisk(t, 4)
	told(t, "Write", d.Write(0, mixed(4, 5)), api.OK)
	told(t, "Sync", d.Sync(), api.OK)
	for size := range 5 * api.Sector {
		if size%api.Sector == 0 {
			continue
		}
		for at := -1; at <= 5; at++ {
			told(t, "Write of no whole sectors", d.Write(at, make([]byte, size)), api.ErrArg)
		}
	}
	waits(t, d, 0)
	reads(t, d, 0, mixed(4, 5))
}

// P12.3: what is written takes the place of what waited there, and of nothing else.
func TestWrittenAgain(t *testing.T) {
	d := newDisk(t, 4)
	told(t, "Write", d.Write(0, fill(3, 'a')), api.OK)
	told(t, "Write again", d.Write(1, fill(3, 'p')), api.OK)
	waits(t, d, 4)
	reads(t, d, 0, append(fill(1, 'a'), fill(3, 'p')...))
	told(t, "Write once more", d.Write(2, fill(1, 'x')), api.OK)
	waits(t, d, 4)
	want := append(append(append(fill(1, 'a'), fill(1, 'p')...), fill(1, 'x')...), fill(1, 'r')...)
	reads(t, d, 0, want)
	told(t, "Sync", d.Sync(), api.OK)
	waits(t, d, 0)
	reads(t, d, 0, want)
	d.Restart([]int{64, 64, 64, 64})
	reads(t, d, 0, want)
	told(t, "Write of what lasts", d.Write(3, fill(1, 'r')), api.OK)
	waits(t, d, 1)
}

// P12.3, P12.7: of a sector that was written twice ahead of the power's end nothing of the first time is left, wherever it is torn.
func TestWrittenTwiceAndTorn(t *testing.T) {
	for fate := range api.Sector + 1 {
		d := newDisk(t, 1)
		told(t, "Write", d.Write(0, fill(1, 'a')), api.OK)
		told(t, "Sync", d.Sync(), api.OK)
		told(t, "Write again", d.Write(0, fill(1, 'b')), api.OK)
		told(t, "Write once more", d.Write(0, fill(1, 'c')), api.OK)
		d.Restart([]int{fate})
		reads(t, d, 0, append(fill(1, 'c')[:fate], fill(1, 'a')[fate:]...))
	}
}

// P12.3: a Sync of nothing is done, and one behind another one.
func TestSyncOfNothing(t *testing.T) {
	d := newDisk(t, 2)
	for range 3 {
		told(t, "Sync of nothing", d.Sync(), api.OK)
		waits(t, d, 0)
	}
	told(t, "Write", d.Write(1, fill(1, 'a')), api.OK)
	for range 3 {
		told(t, "Sync", d.Sync(), api.OK)
		waits(t, d, 0)
		reads(t, d, 0, append(make([]byte, api.Sector), fill(1, 'a')...))
	}
}

// R3: the bytes that are written are not changed, nor the room behind them, and what the caller writes there afterwards is not seen, waiting or lasting.
func TestWrittenBytesAreTheCallers(t *testing.T) {
	for n := range 4 {
		d, want := newDisk(t, 3), make([]byte, 3*api.Sector)
		room := append(mixed(n, 6), "behind"...)
		copy(want, mixed(n, 6))
		told(t, "Write", d.Write(0, room[:n*api.Sector]), api.OK)
		if !bytes.Equal(room, append(mixed(n, 6), "behind"...)) {
			t.Error("Write changed its bytes, or the room behind them")
		}
		clear(room)
		reads(t, d, 0, want)
		told(t, "Sync", d.Sync(), api.OK)
		told(t, "Write again", d.Write(0, room[:n*api.Sector]), api.OK)
		d.Restart(nil)
		reads(t, d, 0, want)
		if !bytes.Equal(room, make([]byte, len(room))) {
			t.Error("Sync or Restart changed the bytes")
		}
	}
}

// R3: what is read is new memory each time, spare room too: what the caller writes there is not seen, and is left as it is.
func TestReadBytesAreTheCallers(t *testing.T) {
	for _, synced := range []bool{false, true} {
		d, want := newDisk(t, 4), mixed(4, 7)
		told(t, "Write", d.Write(0, want), api.OK)
		if synced {
			told(t, "Sync", d.Sync(), api.OK)
		}
		var read [][]byte
		for at := range 5 {
			for n := range 5 - at {
				b, _ := d.Read(at, n)
				b = b[:cap(b)]
				for i := range b {
					b[i] = byte(at*16 + n)
				}
				read = append(read, b)
				reads(t, d, 0, want)
			}
		}
		told(t, "Write", d.Write(0, mixed(4, 8)), api.OK)
		d.Restart([]int{64, 64})
		i := 0
		for at := range 5 {
			for n := range 5 - at {
				if x := byte(at*16 + n); slices.ContainsFunc(read[i], func(c byte) bool { return c != x }) {
					t.Errorf("the answer of Read(%d, %d) was written by a later call", at, n)
				}
				i++
			}
		}
	}
}

// R2: disks do not touch each other.
func TestTwoDisks(t *testing.T) {
	a, b := newDisk(t, 2), newDisk(t, 3)
	told(t, "Write", a.Write(0, fill(2, 'a')), api.OK)
	reads(t, b, 0, make([]byte, 3*api.Sector))
	waits(t, b, 0)
	told(t, "Write", b.Write(1, fill(2, 'p')), api.OK)
	a.Fuse(0)
	told(t, "Sync of the other one", b.Sync(), api.OK)
	waits(t, a, 2)
	a.Kill()
	dead(t, b, false)
	reads(t, b, 1, fill(2, 'p'))
	a.Restart([]int{-1})
	reads(t, a, 0, append(fill(1, 'a'), make([]byte, api.Sector)...))
	b.Kill()
	dead(t, a, false)
	reads(t, a, 0, append(fill(1, 'a'), make([]byte, api.Sector)...))
}
