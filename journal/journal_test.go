package journal_test

import (
	"bytes"
	"encoding/binary"
	"slices"
	"testing"

	"tarmac/api"
	"tarmac/disk"
	"tarmac/journal"
)

// some is n bytes that hang on the seed, none of them a nought.
func some(n, seed int) []byte {
	b := make([]byte, n)
	x := uint32(seed)*2654435761 + 1
	for i := range b {
		x = x*1664525 + 1013904223
		b[i] = byte(x>>24) | 1
	}
	return b
}

// newDisk is one of n sectors, which there must be.
func newDisk(t *testing.T, n int) *disk.Disk {
	t.Helper()
	d, e := disk.New(n)
	if e != api.OK {
		t.Fatalf("disk.New(%d): %v", n, e)
	}
	return d
}

// headAs are a head's bytes as the chapter tells them.
func headAs(number, length uint64) []byte {
	b := binary.BigEndian.AppendUint64(nil, number)
	b = binary.BigEndian.AppendUint64(b, length)
	b = append(b, make([]byte, 40)...)
	return binary.BigEndian.AppendUint64(b, number)
}

// dataOf are records one behind the other as the chapter tells them.
func dataOf(records ...[]byte) []byte {
	var b []byte
	for _, r := range records {
		b = binary.BigEndian.AppendUint32(b, uint32(len(r)))
		b = append(b, r...)
	}
	return b
}

// diskOf is a disk of n sectors, written from the first one on with these bytes, one behind the other, and synced.
func diskOf(t *testing.T, n int, parts ...[]byte) *disk.Disk {
	t.Helper()
	d, b := newDisk(t, n), slices.Concat(parts...)
	b = append(b, make([]byte, (api.Sector-len(b)%api.Sector)%api.Sector)...)
	told(t, "Write", d.Write(0, b), api.OK)
	told(t, "Sync", d.Sync(), api.OK)
	return d
}

// bytesOf are all of a disk's bytes, as they are read.
func bytesOf(t *testing.T, d *disk.Disk) []byte {
	t.Helper()
	b, e := d.Read(0, d.Size())
	told(t, "Read", e, api.OK)
	return b
}

// unlike tells whether bytes differ, as many of both, and where first.
func unlike(a, b []byte) (int, bool) {
	for i := range a {
		if a[i] != b[i] {
			return i, true
		}
	}
	return 0, false
}

// told fails unless what a call answered is this error.
func told(t *testing.T, what string, got, want api.Errno) {
	t.Helper()
	if got != want {
		t.Errorf("%s: %v; want %v", what, got, want)
	}
}

// opened is the journal of a disk, which must have one.
func opened(t *testing.T, d *disk.Disk) *journal.Journal {
	t.Helper()
	j, e := journal.Open(d)
	if e != api.OK || j == nil {
		t.Fatalf("Open: %v, %v", j, e)
	}
	return j
}

// unopened fails unless Open refuses the disk with the error, and with nothing beside it.
func unopened(t *testing.T, what string, d *disk.Disk, want api.Errno) {
	t.Helper()
	if j, e := journal.Open(d); e != want || j != nil {
		t.Errorf("Open of %s: %v, %v; want nil, %v", what, j, e, want)
	}
}

// same tells whether these are the same records in the same order.
func same(a, b [][]byte) bool {
	return slices.EqualFunc(a, b, bytes.Equal)
}

// has fails unless the journal has just these records.
func has(t *testing.T, what string, j *journal.Journal, want [][]byte) {
	t.Helper()
	if got := j.Records(); !same(got, want) {
		t.Errorf("%s: %q; want %q", what, got, want)
	}
}

// added fails unless the record is added.
func added(t *testing.T, j *journal.Journal, b []byte) {
	t.Helper()
	if e := j.Add(b); e != api.OK {
		t.Errorf("Add(%d bytes): %v", len(b), e)
	}
}

// room fails unless the journal has so much.
func room(t *testing.T, j *journal.Journal, want int) {
	t.Helper()
	if got := j.Room(); got != want {
		t.Errorf("Room: %d; want %d", got, want)
	}
}

// P13.1 to P13.4: the chapter's examples.
func TestExamples(t *testing.T) {
	d := newDisk(t, 4)
	j := opened(t, d)
	room(t, j, 124)
	added(t, j, []byte("abc"))
	has(t, "Records", j, [][]byte{[]byte("abc")})
	room(t, j, 117)

	told(t, "Add(118 bytes)", j.Add(make([]byte, 118)), api.ErrFull)
	room(t, j, 117)
	added(t, j, make([]byte, 117))
	room(t, j, 0)
	told(t, "Add(nothing)", j.Add(nil), api.ErrFull)

	unopened(t, "a new disk of 3 sectors", newDisk(t, 3), api.ErrBroken)
	two := slices.Concat(headAs(1, 0)[:56], headAs(2, 0)[56:])
	unopened(t, "heads of two numbers", diskOf(t, 4, two, two), api.ErrBroken)

	d = newDisk(t, 4)
	j = opened(t, d)
	d.Fuse(1)
	told(t, "Add(x)", j.Add([]byte("x")), api.ErrDead)
	d.Restart(nil)
	has(t, "behind the Restart", opened(t, d), nil)
}

// R1, P13.1 to P13.3: all calls of nil.
func TestNil(t *testing.T) {
	var j *journal.Journal
	has(t, "of nil", j, nil)
	room(t, j, 0)
	for _, n := range []int{0, 1, api.MaxBytes, api.MaxBytes + 1, api.MaxSectors * api.Sector} {
		told(t, "Add to nil", j.Add(make([]byte, n)), api.ErrNil)
	}
	told(t, "Add(nil) to nil", j.Add(nil), api.ErrNil)
	unopened(t, "nil", nil, api.ErrNil)
}

// R1: a journal that did not come from Open panics at nothing.
func TestBareJournal(t *testing.T) {
	j := new(journal.Journal)
	has(t, "of a bare one", j, nil)
	room(t, j, 0)
	for _, n := range []int{0, 1, api.MaxBytes} {
		told(t, "Add to a bare one", j.Add(make([]byte, n)), api.ErrFull)
	}
	told(t, "Add of too much to a bare one", j.Add(make([]byte, api.MaxBytes+1)), api.ErrLong)
}

// P13.2: records of many sizes come out as they were added, and Room is what the records and their lengths leave, down to nothing.
func TestRecordsAndRoom(t *testing.T) {
	for _, n := range []int{4, 5, 6, 17, 64} {
		d := newDisk(t, n)
		j := opened(t, d)
		var all [][]byte
		for i := 0; ; i++ {
			left := (n-2)*api.Sector - len(dataOf(all...)) - 4
			room(t, j, max(left, 0))
			if left < 0 {
				break
			}
			all = append(all, some(min(i*i*7%150, left), i))
			added(t, j, all[i])
			has(t, "Records", j, all)
			has(t, "opened anew", opened(t, d), all)
			room(t, opened(t, d), j.Room())
		}
	}
}

// P13.2, P13.3: the greatest disk takes records of MaxBytes, and Room is not cut to what one may have.
func TestGreatestDisk(t *testing.T) {
	d := newDisk(t, api.MaxSectors)
	j := opened(t, d)
	left := (api.MaxSectors-2)*api.Sector - 4
	room(t, j, left)
	told(t, "Add of MaxBytes and 1", j.Add(make([]byte, api.MaxBytes+1)), api.ErrLong)
	told(t, "Add of Room", j.Add(make([]byte, left)), api.ErrLong)
	var all [][]byte
	for i := range 3 {
		all = append(all, some(api.MaxBytes, i))
		added(t, j, all[i])
		left -= api.MaxBytes + 4
		room(t, j, left)
	}
	told(t, "Add of Room and 1", j.Add(make([]byte, left+1)), api.ErrFull)
	told(t, "Add of MaxBytes where there is less Room", j.Add(make([]byte, api.MaxBytes)), api.ErrFull)
	all = append(all, some(left, 3))
	added(t, j, all[3])
	room(t, j, 0)
	told(t, "Add of nothing", j.Add(nil), api.ErrFull)
	has(t, "Records", j, all)
	has(t, "opened anew", opened(t, d), all)
}

// P13.3: of all numbers of bytes of two records, just those that there is room for are added; a refused one changes nothing.
func TestAddEdges(t *testing.T) {
	const left = 2 * api.Sector
	for first := 0; first <= left-4; first++ {
		for _, second := range []int{0, 1, 2, 59, 60, 61, left - first - 10, left - first - 9, left - first - 8, left - first - 7, left - first - 6, left - first, left} {
			if second < 0 {
				continue
			}
			d := newDisk(t, 4)
			j := opened(t, d)
			all := [][]byte{some(first, 1)}
			added(t, j, all[0])
			was := bytesOf(t, d)
			if b := some(second, 2); first+second+8 <= left {
				added(t, j, b)
				all = append(all, b)
			} else {
				told(t, "Add of more than there is room for", j.Add(b), api.ErrFull)
				if !bytes.Equal(bytesOf(t, d), was) || d.Waiting() != 0 {
					t.Errorf("Add(%d bytes) behind %d was refused, and changed the disk", second, first)
				}
			}
			has(t, "Records", j, all)
			room(t, j, max(left-len(dataOf(all...))-4, 0))
			has(t, "opened anew", opened(t, d), all)
		}
	}
}

// P13.3: Room may be 0 while a record of no byte still has room for its length.
func TestRoomOfNothing(t *testing.T) {
	for behind := range 6 {
		j := opened(t, newDisk(t, 4))
		added(t, j, some(2*api.Sector-4-behind, 1))
		room(t, j, max(behind-4, 0))
		want := api.ErrFull
		if behind >= 4 {
			want = api.OK
		}
		told(t, "Add of nothing", j.Add(nil), want)
		told(t, "Add of nothing once more", j.Add([]byte{}), api.ErrFull)
	}
}

// P13.3: the disk is byte by byte as the chapter tells it: the sectors of which a byte is new, with bytes 0 behind the data, and one head; no other sector.
func TestLayout(t *testing.T) {
	const n = 40
	d := newDisk(t, n)
	j := opened(t, d)
	want := make([]byte, n*api.Sector)
	for at := 2 * api.Sector; at < len(want); at++ {
		want[at] = 0xff
	}
	told(t, "Write", d.Write(0, want), api.OK)
	told(t, "Sync", d.Sync(), api.OK)
	var all [][]byte
	for i, size := range []int{3, 0, 57 - 4, 0, 60, 200, 1, 0, 0, 300, 128 - 4, 64 - 4, 64, 400} {
		all = append(all, some(size, i))
		added(t, j, all[i])
		data := dataOf(all...)
		copy(want[(i+1)%2*api.Sector:], headAs(uint64(i+1), uint64(len(data))))
		end := 2*api.Sector + copy(want[2*api.Sector:], data)
		for ; end%api.Sector != 0; end++ {
			want[end] = 0
		}
		if at, differ := unlike(bytesOf(t, d), want); differ {
			t.Fatalf("behind record %d, of %d bytes, the disk is another one from byte %d on", i, size, at)
		}
		if d.Waiting() != 0 {
			t.Errorf("behind record %d something waits", i)
		}
	}
	has(t, "opened anew", opened(t, d), all)
}

// P13.3: only the sectors of which a byte is new are written: what is written beneath the journal into another one stays there.
func TestOtherSectors(t *testing.T) {
	for first := range 150 {
		d := newDisk(t, 8)
		j := opened(t, d)
		added(t, j, some(first, 1))
		was := 4 + first
		scribble := bytes.Repeat([]byte{0xee}, 6*api.Sector)
		told(t, "Write", d.Write(2, scribble), api.OK)
		told(t, "Sync", d.Sync(), api.OK)
		added(t, j, some(70, 2))
		got := bytesOf(t, d)[2*api.Sector:]
		from := was / api.Sector * api.Sector
		to := (was + 74 + api.Sector - 1) / api.Sector * api.Sector
		data := append(dataOf(some(first, 1), some(70, 2)), make([]byte, api.Sector)...)
		copy(scribble[from:to], data[from:])
		if at, differ := unlike(got, scribble); differ {
			t.Errorf("behind %d bytes the data's sectors are other ones from byte %d on", was, at)
		}
	}
}

// R3: a record that is handed in is neither changed nor kept, nor the room behind it.
func TestRecordIsTheCallers(t *testing.T) {
	d := newDisk(t, 8)
	j := opened(t, d)
	back := some(100, 1)
	was := bytes.Clone(back)
	added(t, j, back[:10])
	added(t, j, back[10:30])
	if !bytes.Equal(back, was) {
		t.Errorf("Add changed what was handed in: %v; want %v", back, was)
	}
	want := [][]byte{was[:10], was[10:30]}
	clear(back)
	has(t, "Records", j, want)
	added(t, j, nil)
	has(t, "opened anew", opened(t, d), append(want, nil))
}

// R3: records that are handed out are new memory, with their spare room; no two share any.
func TestRecordsAreNew(t *testing.T) {
	d := newDisk(t, 16)
	j := opened(t, d)
	want := [][]byte{some(5, 1), some(0, 2), some(13, 3), some(100, 4), some(1, 5)}
	for _, r := range want {
		added(t, j, r)
	}
	for range 2 { // of the one that they were added to, and of one that found them
		other, l := j.Records(), j.Records()
		for i, r := range l {
			clear(r[:cap(r)])
			if !same(l[i+1:], want[i+1:]) {
				t.Errorf("record %d shares memory with one behind it", i)
			}
		}
		for i := range l {
			l[i] = []byte("!")
		}
		has(t, "Records", j, want)
		if !same(other, want) {
			t.Errorf("another answer: %q; want %q", other, want)
		}
		want = append(want, nil)
		added(t, j, nil)
		has(t, "Records", j, want)
		j = opened(t, d)
		has(t, "opened anew", j, want)
	}
}
