package journal_test

import (
	"bytes"
	"math"
	"slices"
	"testing"

	"tarmac/api"
	"tarmac/disk"
	"tarmac/journal"
)

// calls is how many calls of Write and Sync an Add makes.
const calls = 4

// dice is a row of numbers that look thrown, the same at each run.
type dice uint64

// upTo is a thrown number from 0 to n.
func (d *dice) upTo(n int) int {
	*d = *d*6364136223846793005 + 1442695040888963407
	x := uint64(*d)
	return int((x ^ x>>29) >> 8 % uint64(n+1))
}

// fates are so many thrown ones: often all or nothing of a sector.
func (d *dice) fates(n int) []int {
	var l []int
	for range n {
		l = append(l, []int{0, api.Sector, d.upTo(api.Sector), d.upTo(api.Sector), -d.upTo(1000)}[d.upTo(4)])
	}
	return l
}

// alike are n equal fates.
func alike(fate, n int) []int {
	return slices.Repeat([]int{fate}, n)
}

// torn fails unless the Add finds no power, and leaves the journal with what it has.
func torn(t *testing.T, d *disk.Disk, j *journal.Journal, fuse int, b []byte) {
	t.Helper()
	all, left := j.Records(), j.Room()
	d.Fuse(fuse)
	told(t, "an Add whose power goes", j.Add(b), api.ErrDead)
	if !d.Dead() {
		t.Error("the disk has power")
	}
	has(t, "behind an Add whose power went", j, all)
	room(t, j, left)
}

// P13.3: an Add makes four calls, whatever the record: with as long a fuse it is done, with a shorter one it is not.
func TestCalls(t *testing.T) {
	for _, first := range []int{0, 3, 60, 64, 200} {
		for _, size := range []int{0, 1, 60, 64, 128, 500} {
			d := newDisk(t, 20)
			j := opened(t, d)
			added(t, j, some(first, 1))
			for fuse := range calls {
				torn(t, d, j, fuse, some(size, 2))
				d.Restart(nil)
				j = opened(t, d)
				has(t, "opened anew", j, [][]byte{some(first, 1)})
			}
			d.Fuse(calls)
			added(t, j, some(size, 2))
			told(t, "the call behind it", d.Sync(), api.ErrDead)
			d.Restart(nil)
			has(t, "opened anew", opened(t, d), [][]byte{some(first, 1), some(size, 2)})
		}
	}
}

// P13.3: the calls come in their order: the sectors of which a byte is new, all of them, Sync, the head alone, Sync.
func TestOrderOfCalls(t *testing.T) {
	for _, first := range []int{0, 3, 60, 61, 124, 200} {
		for _, size := range []int{0, 1, 3, 56, 60, 64, 500} {
			was := first + 4
			fresh := (was+size+4+api.Sector-1)/api.Sector - was/api.Sector
			for fuse, waiting := range []int{0, fresh, 0, 1} {
				d := newDisk(t, 20)
				j := opened(t, d)
				added(t, j, some(first, 1))
				want := bytesOf(t, d)
				torn(t, d, j, fuse, some(size, 2))
				if d.Waiting() != waiting {
					t.Errorf("%d bytes behind %d, fuse %d: Waiting %d; want %d", size, was, fuse, d.Waiting(), waiting)
				}
				data := dataOf(some(first, 1), some(size, 2))
				if fuse > 0 {
					copy(want[2*api.Sector:], data)
				}
				if fuse == 3 {
					copy(want, headAs(2, uint64(len(data))))
				}
				d.Restart(alike(api.Sector, 20))
				if at, differ := unlike(bytesOf(t, d), want); differ {
					t.Errorf("%d bytes behind %d, fuse %d: the disk is another one from byte %d on", size, was, fuse, at)
				}
			}
		}
	}
}

// P13.3: a disk that is dead ahead of the Add; from then on it is ErrDead, though there be power again, and the disk is not touched.
func TestDeadFromThenOn(t *testing.T) {
	for fuse := -1; fuse < calls; fuse++ {
		d := newDisk(t, 8)
		j := opened(t, d)
		added(t, j, []byte("abc"))
		if fuse < 0 {
			d.Kill()
			told(t, "Add to a dead disk", j.Add([]byte("x")), api.ErrDead)
		} else {
			torn(t, d, j, fuse, []byte("x"))
		}
		d.Restart(alike(api.Sector, 8))
		was := bytesOf(t, d)
		for range 3 {
			told(t, "Add when there is power again", j.Add([]byte("y")), api.ErrDead)
			told(t, "Add of nothing", j.Add(nil), api.ErrDead)
			has(t, "the dead journal", j, [][]byte{[]byte("abc")})
			room(t, j, 6*api.Sector-7-4)
		}
		if d.Dead() || d.Waiting() != 0 || !bytes.Equal(bytesOf(t, d), was) {
			t.Error("a dead journal touched the disk")
		}
		again := opened(t, d)
		all := again.Records()
		added(t, again, []byte("z"))
		has(t, "opened anew", opened(t, d), append(all, []byte("z")))
		told(t, "Add beside it", j.Add(nil), api.ErrDead)
		has(t, "the dead journal", j, [][]byte{[]byte("abc")})
	}
}

// P13.3: power that was gone and came again while nothing was added is not seen.
func TestPowerBetweenAdds(t *testing.T) {
	d := newDisk(t, 8)
	j := opened(t, d)
	var all [][]byte
	for i := range 6 {
		all = append(all, some(30, i))
		added(t, j, all[i])
		d.Kill()
		has(t, "without power", j, all)
		d.Restart(alike(api.Sector, 8))
		has(t, "opened anew", opened(t, d), all)
	}
}

// R5, R8: of two errors of Add the one that is named first; one that is not ErrDead does not make the journal dead.
func TestAddErrorsInOrder(t *testing.T) {
	d := newDisk(t, 5)
	j := opened(t, d)
	added(t, j, []byte("abc"))
	long, more := make([]byte, api.MaxBytes+1), make([]byte, j.Room()+1)
	wrong := func() {
		t.Helper()
		told(t, "Add of too much and more than Room", j.Add(long), api.ErrLong)
		told(t, "Add of MaxBytes, more than Room", j.Add(long[1:]), api.ErrFull)
		told(t, "Add of more than Room", j.Add(more), api.ErrFull)
	}
	d.Fuse(0)
	wrong()
	if d.Dead() {
		t.Error("an Add that was refused burnt the fuse")
	}
	d.Kill()
	wrong()
	d.Restart(nil)
	added(t, j, []byte("x"))
	more = more[:j.Room()+1]
	torn(t, d, j, 1, []byte("y"))
	wrong()
	d.Restart(nil)
	wrong()
	told(t, "Add of what may be", j.Add(nil), api.ErrDead)
	has(t, "opened anew", opened(t, d), [][]byte{[]byte("abc"), []byte("x")})
}

// come fails unless a disk with power has a journal of these records, or, where that may be, of one more; and, opened twice, the same. It tells what it has.
func come(t *testing.T, d *disk.Disk, all [][]byte, next []byte, may bool) [][]byte {
	t.Helper()
	got := opened(t, d).Records()
	has(t, "opened twice", opened(t, d), got)
	if !same(got, all) && !(may && same(got, append(slices.Clip(all), next))) {
		t.Fatalf("behind the power: %q; want %q, and perhaps %q: %v", got, all, next, may)
	}
	return got
}

// P13.4: wherever an Add's power goes, and however much of each sector was written, the records that were added are there, and the one that was being added only if all of it is.
func TestPowerGoesAnywhere(t *testing.T) {
	for count := range 5 {
		for _, size := range []int{0, 5, 120} {
			for fuse := range calls {
				for fate := range api.Sector + 1 {
					d := newDisk(t, 30)
					j := opened(t, d)
					var all [][]byte
					for i := range count {
						all = append(all, some(30+i, i))
						added(t, j, all[i])
					}
					next := some(size, 9)
					torn(t, d, j, fuse, next)
					d.Restart(alike(fate, 30))
					got := come(t, d, all, next, fuse == 3)
					if fate == api.Sector && fuse == 3 && len(got) != count+1 {
						t.Errorf("%d records, and a head that was written whole: %d", count, len(got))
					}
				}
			}
		}
	}
}

// P13.4: a head that is torn over one that was torn is no whole one, nor hides the one that is.
func TestTornTwice(t *testing.T) {
	for count := range 3 {
		for first := range api.Sector + 1 {
			for second := range api.Sector + 1 {
				d := newDisk(t, 12)
				j := opened(t, d)
				var all [][]byte
				for i := range count {
					all = append(all, some(7, i))
					added(t, j, all[i])
				}
				torn(t, d, j, 3, some(3, 7))
				d.Restart([]int{first})
				all = come(t, d, all, some(3, 7), true)
				torn(t, d, opened(t, d), 3, some(50, 8))
				d.Restart([]int{second})
				all = come(t, d, all, some(50, 8), true)
				added(t, opened(t, d), some(5, 9))
				come(t, d, append(all, some(5, 9)), nil, false)
			}
		}
	}
}

// P13.4: heads whose numbers differ in many bytes, torn at each place.
func TestTornNumbers(t *testing.T) {
	for _, bits := range []int{8, 16, 24, 32, 40, 48, 56, 63} {
		for by := -3; by <= 1; by++ {
			number := uint64(1)<<bits + uint64(by)
			for fate := range api.Sector + 1 {
				heads := [2][]byte{headAs(number-1, 4), headAs(number-1, 4)}
				heads[number%2] = headAs(number, 7)
				d := diskOf(t, 6, heads[0], heads[1], dataOf([]byte("abc")))
				torn(t, d, opened(t, d), 3, some(80, 1))
				d.Restart([]int{fate})
				got := come(t, d, [][]byte{[]byte("abc")}, some(80, 1), true)
				if (len(got) == 2) != (fate == api.Sector) {
					t.Errorf("a head of the number %d of which %d bytes were written: %d records", number+1, fate, len(got))
				}
			}
		}
	}
}

// P13.4: long runs of Adds, now and then without room or without power, over many openings, held against what was added with OK.
func TestRuns(t *testing.T) {
	by := dice(13)
	runs := 400
	if testing.Short() {
		runs = 20
	}
	for range runs {
		d := newDisk(t, 4+by.upTo(by.upTo(60)))
		j := opened(t, d)
		var all [][]byte
		for i := range 60 {
			b := some(by.upTo(by.upTo(200)), i)
			if by.upTo(2) == 0 {
				d.Fuse(by.upTo(calls + 2))
			}
			left := (d.Size()-2)*api.Sector - len(dataOf(all...)) - 4
			e := j.Add(b)
			switch {
			case len(b) > left:
				told(t, "Add without room", e, api.ErrFull)
			case e == api.OK:
				all = append(all, b)
			default:
				told(t, "Add", e, api.ErrDead)
			}
			has(t, "Records", j, all)
			room(t, j, max((d.Size()-2)*api.Sector-len(dataOf(all...))-4, 0))
			if by.upTo(5) == 0 {
				d.Kill()
			}
			if d.Dead() {
				d.Restart(by.fates(by.upTo(8)))
				all = come(t, d, all, b, e == api.ErrDead)
				j = opened(t, d)
			}
			if t.Failed() {
				return
			}
		}
	}
}

// P13.4: what is opened while a great number of records is on the disk is all of them.
func TestManyRecords(t *testing.T) {
	d := newDisk(t, 1000)
	j := opened(t, d)
	var all [][]byte
	for i := 0; j.Room() > 0 && i < math.MaxUint16; i++ {
		all = append(all, some(i%3, i))
		added(t, j, all[i])
	}
	has(t, "Records", j, all)
	has(t, "opened anew", opened(t, d), all)
}
