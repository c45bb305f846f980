package disk_test

import (
	"bytes"
	"testing"

	"tarmac/api"
	"tarmac/disk"
)

// dice is a row of numbers that look thrown, the same at each run.
type dice uint64

func (d *dice) next() uint64 {
	*d = *d*6364136223846793005 + 1442695040888963407
	x := uint64(*d)
	return x ^ x>>29
}

// upTo is a thrown number from 0 to n.
func (d *dice) upTo(n int) int {
	return int(d.next() >> 8 % uint64(n+1))
}

// bytes are so many thrown ones.
func (d *dice) bytes(n int) []byte {
	b := make([]byte, n)
	for i := range b {
		b[i] = byte(d.next() >> 16)
	}
	return b
}

// model is a disk as the chapter's words have it, byte by byte: what is read, what lasts, and of which sectors something waits.
type model struct {
	now, lasts []byte
	waits      []bool
	dead       bool
	fuse       int // below 0: none
}

func newModel(n int) *model {
	return &model{now: make([]byte, n*api.Sector), lasts: make([]byte, n*api.Sector), waits: make([]bool, n), fuse: -1}
}

// burns is the error of a call of Write or Sync that is none of those ahead of the fuse.
func (m *model) burns() api.Errno {
	if m.fuse == 0 {
		m.dead = true
		return api.ErrDead
	}
	if m.fuse > 0 {
		m.fuse--
	}
	return api.OK
}

func (m *model) write(at int, b []byte) api.Errno {
	if m.dead {
		return api.ErrDead
	}
	if at < 0 || len(b)%api.Sector != 0 || at*api.Sector+len(b) > len(m.now) {
		return api.ErrArg
	}
	if e := m.burns(); e != api.OK {
		return e
	}
	copy(m.now[at*api.Sector:], b)
	for i := range len(b) / api.Sector {
		m.waits[at+i] = true
	}
	return api.OK
}

func (m *model) sync() api.Errno {
	if m.dead {
		return api.ErrDead
	}
	if e := m.burns(); e != api.OK {
		return e
	}
	copy(m.lasts, m.now)
	clear(m.waits)
	return api.OK
}

func (m *model) restart(fates []int) {
	for at, waits := range m.waits {
		if !waits {
			continue
		}
		first := 0
		if len(fates) > 0 {
			first, fates = restOf(fates[0]), fates[1:]
		}
		copy(m.lasts[at*api.Sector:], m.now[at*api.Sector:][:first])
	}
	copy(m.now, m.lasts)
	clear(m.waits)
	m.dead, m.fuse = false, -1
}

// waiting is of how many sectors something waits.
func (m *model) waiting() int {
	n := 0
	for _, waits := range m.waits {
		if waits {
			n++
		}
	}
	return n
}

// held fails unless the disk is as the model.
func held(t *testing.T, d *disk.Disk, m *model) {
	t.Helper()
	waits(t, d, m.waiting())
	dead(t, d, m.dead)
	if m.dead {
		unread(t, d, 0, 1, api.ErrDead)
		return
	}
	reads(t, d, 0, m.now)
}

// step does one thrown thing to the disk and to the model.
func step(t *testing.T, d *disk.Disk, m *model, by *dice) {
	t.Helper()
	n := len(m.waits)
	switch by.upTo(15) {
	case 0:
		fuse := by.upTo(8) - 2
		d.Fuse(fuse)
		if !m.dead {
			m.fuse = fuse
		}
	case 1:
		d.Kill()
		m.dead = true
	case 2, 3:
		var fates []int
		for range by.upTo(n + 2) {
			fates = append(fates, by.upTo(300)-150)
		}
		d.Restart(fates)
		m.restart(fates)
	case 4, 5, 6:
		told(t, "Sync", d.Sync(), m.sync())
	case 7:
		at, b := by.upTo(n+4)-2, by.bytes(by.upTo(200))
		told(t, "Write", d.Write(at, b), m.write(at, b))
	default:
		at := by.upTo(n - 1)
		b := by.bytes(by.upTo(min(n-at, 6)) * api.Sector)
		told(t, "Write", d.Write(at, b), m.write(at, b))
	}
	held(t, d, m)
}

// P12.1 to P12.7: long runs of all calls, held against the model.
func TestRuns(t *testing.T) {
	by := dice(12)
	for _, n := range []int{1, 2, 3, 4, 8, 9, 30} {
		runs := 30
		if testing.Short() {
			runs = 3
		}
		for range runs {
			d, m := newDisk(t, n), newModel(n)
			for range 100 {
				step(t, d, m, &by)
				if t.Failed() {
					return
				}
			}
		}
	}
}

// P12.6, P12.7: what was synced is there behind each of many thrown Restarts, until it is written again; what was written behind the Sync is there in its beginning alone.
func TestWhatLasts(t *testing.T) {
	const n = 6
	by := dice(7)
	for range 300 {
		d := newDisk(t, n)
		lasts, now := by.bytes(n*api.Sector), by.bytes(n*api.Sector)
		told(t, "Write", d.Write(0, lasts), api.OK)
		told(t, "Sync", d.Sync(), api.OK)
		var again [n]bool
		for range by.upTo(n) {
			at := by.upTo(n - 1)
			told(t, "Write again", d.Write(at, now[at*api.Sector:][:api.Sector]), api.OK)
			again[at] = true
		}
		d.Fuse(by.upTo(1))
		d.Write(-1, nil)
		d.Kill()
		d.Restart([]int{by.upTo(1000), -by.upTo(1000), by.upTo(1000)})
		b, e := d.Read(0, n)
		told(t, "Read", e, api.OK)
		for at := range n {
			is, was := b[at*api.Sector:][:api.Sector], lasts[at*api.Sector:][:api.Sector]
			if !again[at] && !bytes.Equal(is, was) || again[at] && !torn(is, now[at*api.Sector:][:api.Sector], was) {
				t.Fatalf("sector %d, written again %v: %v; it lasted as %v", at, again[at], is, was)
			}
		}
		d.Restart([]int{64, 64, 64, 64, 64, 64})
		reads(t, d, 0, b)
	}
}

// torn tells whether a sector is the beginning of one and the end of another one, or one of them whole.
func torn(is, begins, ends []byte) bool {
	for cut := range len(is) + 1 {
		if bytes.Equal(is[:cut], begins[:cut]) && bytes.Equal(is[cut:], ends[cut:]) {
			return true
		}
	}
	return false
}

// P12.6: wherever among the calls the power goes, what was synced ahead of it is there, and each call ahead of it was done.
func TestPowerGoesAnywhere(t *testing.T) {
	calls := []func(d *disk.Disk) api.Errno{
		func(d *disk.Disk) api.Errno { return d.Write(0, fill(2, 'a')) },
		func(d *disk.Disk) api.Errno { return d.Sync() },
		func(d *disk.Disk) api.Errno { return d.Write(1, fill(1, 'x')) },
		func(d *disk.Disk) api.Errno { return d.Write(2, nil) },
		func(d *disk.Disk) api.Errno { return d.Sync() },
	}
	nothing := make([]byte, 2*api.Sector)
	want := [][]byte{nothing, nothing, fill(2, 'a'), fill(2, 'a'), fill(2, 'a'), append(fill(1, 'a'), fill(1, 'x')...)}
	for fuse := range len(calls) + 1 {
		d := newDisk(t, 2)
		d.Fuse(fuse)
		for i, call := range calls {
			if e := call(d); i < fuse {
				told(t, "a call that the fuse allows", e, api.OK)
			} else {
				told(t, "a call behind the fuse", e, api.ErrDead)
			}
		}
		d.Restart(nil)
		reads(t, d, 0, want[fuse])
	}
}
