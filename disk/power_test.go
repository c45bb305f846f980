package disk_test

import (
	"bytes"
	"math"
	"slices"
	"testing"

	"tarmac/api"
	"tarmac/disk"
)

// P12.4: with a fuse of n just n calls of Write and Sync are done, whichever, of no sector too, and the next one kills.
func TestFuses(t *testing.T) {
	calls := []func(d *disk.Disk) api.Errno{
		func(d *disk.Disk) api.Errno { return d.Write(0, fill(2, 'a')) },
		func(d *disk.Disk) api.Errno { return d.Sync() },
		func(d *disk.Disk) api.Errno { return d.Write(2, nil) },
		func(d *disk.Disk) api.Errno { return d.Write(0, []byte{}) },
	}
	for n := range 12 {
		for first := range calls {
			d := newDisk(t, 2)
			d.Fuse(n)
			for i := range n {
				told(t, "a call that the fuse allows", calls[(first+i)%len(calls)](d), api.OK)
				dead(t, d, false)
			}
			told(t, "the call behind the fuse", calls[(first+n)%len(calls)](d), api.ErrDead)
			dead(t, d, true)
			unread(t, d, 0, 1, api.ErrDead)
		}
	}
}

// P12.4: a call with which the power goes does nothing else: what waited waits, what lasted lasts.
func TestCallThatKills(t *testing.T) {
	for _, sync := range []bool{false, true} {
		d := newDisk(t, 3)
		told(t, "Write", d.Write(0, fill(3, 'a')), api.OK)
		told(t, "Sync", d.Sync(), api.OK)
		told(t, "Write", d.Write(1, fill(1, 'x')), api.OK)
		d.Fuse(0)
		dead(t, d, false)
		reads(t, d, 1, fill(1, 'x'))
		if sync {
			told(t, "Sync", d.Sync(), api.ErrDead)
		} else {
			told(t, "Write", d.Write(1, fill(2, 'y')), api.ErrDead)
		}
		waits(t, d, 1)
		d.Restart([]int{10, 64})
		waits(t, d, 0)
		want := fill(3, 'a')
		copy(want[api.Sector:], fill(1, 'x')[:10])
		reads(t, d, 0, want)
	}
}

// P12.4: the fuse burns at no error ahead of it, and at no other call.
func TestFuseThatDoesNotBurn(t *testing.T) {
	for n := range 3 {
		d := newDisk(t, 2)
		d.Fuse(n)
		for range 20 {
			for _, at := range []int{-1, 2, 3, math.MaxInt, math.MinInt} {
				told(t, "Write beyond an edge", d.Write(at, fill(1, 'a')), api.ErrArg)
			}
			told(t, "Write of too much", d.Write(0, fill(3, 'a')), api.ErrArg)
			told(t, "Write of no whole sector", d.Write(0, []byte("a")), api.ErrArg)
			unread(t, d, 0, 3, api.ErrArg)
			reads(t, d, 0, make([]byte, 2*api.Sector))
			waits(t, d, 0)
			dead(t, d, false)
			if d.Size() != 2 {
				t.Errorf("Size: %d", d.Size())
			}
		}
		for range n {
			told(t, "a call that the fuse allows", d.Sync(), api.OK)
		}
		told(t, "the call behind the fuse", d.Sync(), api.ErrDead)
	}
}

// P12.4: a fuse takes the place of the one ahead of it; below 0 there is none.
func TestFuseAgain(t *testing.T) {
	none := append([]int{-1, -2, -64, -65}, slices.DeleteFunc(greats(), func(n int) bool { return n >= 0 })...)
	for _, first := range []int{0, 1, 5, math.MaxInt, -1} {
		for _, n := range none {
			d := newDisk(t, 1)
			d.Fuse(first)
			d.Fuse(n)
			for range 70 {
				told(t, "Write without a fuse", d.Write(0, fill(1, 'a')), api.OK)
				told(t, "Sync without a fuse", d.Sync(), api.OK)
			}
			dead(t, d, false)
		}
		for n := range 4 {
			d := newDisk(t, 1)
			d.Fuse(first)
			d.Fuse(n)
			for range n {
				told(t, "a call that the fuse allows", d.Sync(), api.OK)
			}
			told(t, "the call behind the fuse", d.Sync(), api.ErrDead)
		}
	}
	for _, n := range []int{math.MaxInt, 1 << 62, 1 << 32, 1<<32 + 1, 256} {
		d := newDisk(t, 1)
		d.Fuse(n)
		for range 200 {
			told(t, "Sync with a long fuse", d.Sync(), api.OK)
		}
	}
}

// P12.4: of a dead disk a fuse is nothing; behind the Restart there is none, be it that one or the one that it had.
func TestFuseOfADeadDisk(t *testing.T) {
	for _, had := range []int{-1, 0, 2} {
		for _, n := range []int{-1, 0, 1, 5} {
			d := newDisk(t, 1)
			d.Fuse(had)
			d.Kill()
			d.Fuse(n)
			dead(t, d, true)
			told(t, "Sync of a dead disk", d.Sync(), api.ErrDead)
			d.Restart(nil)
			for range 10 {
				told(t, "Sync", d.Sync(), api.OK)
			}
		}
	}
}

// P12.4: a dead disk does nothing, and keeps what waits until it is restarted; it may be killed again.
func TestDeadDisk(t *testing.T) {
	kills := []func(d *disk.Disk){
		func(d *disk.Disk) { d.Kill() },
		func(d *disk.Disk) { d.Kill(); d.Kill() },
		func(d *disk.Disk) { d.Fuse(0); d.Sync() },
		func(d *disk.Disk) { d.Fuse(0); d.Write(0, fill(3, 'y')) },
		func(d *disk.Disk) { d.Fuse(0); d.Kill() },
	}
	for _, kill := range kills {
		d := newDisk(t, 3)
		told(t, "Write", d.Write(0, fill(2, 'a')), api.OK)
		kill(d)
		for range 3 {
			dead(t, d, true)
			told(t, "Write", d.Write(0, fill(1, 'x')), api.ErrDead)
			told(t, "Write", d.Write(2, fill(1, 'x')), api.ErrDead)
			told(t, "Write of nothing", d.Write(0, nil), api.ErrDead)
			told(t, "Sync", d.Sync(), api.ErrDead)
			unread(t, d, 0, 1, api.ErrDead)
			unread(t, d, 0, 0, api.ErrDead)
			waits(t, d, 2)
		}
		d.Restart([]int{64, 64, 64})
		dead(t, d, false)
		waits(t, d, 0)
		reads(t, d, 0, append(fill(2, 'a'), make([]byte, api.Sector)...))
	}
}

// R5: of two errors the one that is named first: no power ahead of what is wrong with the arguments, and these ahead of the fuse.
func TestErrorsInOrder(t *testing.T) {
	wrong := func(d *disk.Disk, want api.Errno) {
		t.Helper()
		for _, x := range append(greats(), -1) {
			if x >= 0 && x <= 3 {
				continue
			}
			unread(t, d, x, 1, want)
			unread(t, d, 0, x, want)
			unread(t, d, x, x, want)
			told(t, "Write at a great number", d.Write(x, fill(1, 'a')), want)
			told(t, "Write of no whole sector at a great number", d.Write(x, []byte("a")), want)
			told(t, "Write of nothing at a great number", d.Write(x, nil), want)
		}
		told(t, "Write of no whole sector", d.Write(0, []byte("a")), want)
		told(t, "Write of too much", d.Write(0, fill(4, 'a')), want)
	}
	d := newDisk(t, 3)
	wrong(d, api.ErrArg)
	d.Fuse(0)
	wrong(d, api.ErrArg)
	dead(t, d, false)
	d.Kill()
	wrong(d, api.ErrDead)
	waits(t, d, 0)
}

// P12.5: the first so many bytes last as they were written, for each fate, also below 0 and beyond Sector.
func TestFates(t *testing.T) {
	fates := append([]int{math.MinInt, math.MinInt + 1, math.MaxInt, math.MaxInt - 1}, greats()...)
	for fate := -200; fate <= 200; fate++ {
		fates = append(fates, fate)
	}
	for _, fate := range fates {
		d, was, now := newDisk(t, 2), mixed(2, 1), mixed(1, 2)
		told(t, "Write", d.Write(0, was), api.OK)
		told(t, "Sync", d.Sync(), api.OK)
		told(t, "Write again", d.Write(1, now), api.OK)
		d.Kill()
		d.Restart([]int{fate})
		copy(was[api.Sector:], now[:restOf(fate)])
		reads(t, d, 0, was)
	}
}

// restOf is a fate's rest, divided by Sector and 1: where a step of so many from it leads to a multiple of them.
func restOf(fate int) int {
	for rest := range api.Sector + 1 {
		if fate >= 0 && (fate-rest)%(api.Sector+1) == 0 || fate < 0 && (fate+(api.Sector+1)-rest)%(api.Sector+1) == 0 {
			return rest
		}
	}
	return -1
}

// P12.5: fates go by the numbers of the sectors of which something waits, not by when they were written, nor by all sectors; those that are missing are 0, those beyond are nothing.
func TestFatesInOrder(t *testing.T) {
	const n = 200
	for count := range 8 {
		d, want := newDisk(t, n), mixed(n, 1)
		told(t, "Write", d.Write(0, want), api.OK)
		told(t, "Sync", d.Sync(), api.OK)
		for _, at := range []int{150, 3, 199, 8, 3, 70} {
			told(t, "Write", d.Write(at, fill(1, byte(at))), api.OK)
		}
		waits(t, d, 5)
		fates := []int{5, -1, 0, 66, 40, 64, 64, 64}[:count]
		d.Restart(fates)
		for i, at := range []int{3, 8, 70, 150, 199} {
			if i < count {
				copy(want[at*api.Sector:], fill(1, byte(at))[:[]int{5, 64, 0, 1, 40}[i]])
			}
		}
		reads(t, d, 0, want)
	}
}

// P12.5: all sectors of the greatest disk, written from behind, each with a fate of its own.
func TestFatesOfAllSectors(t *testing.T) {
	const n = api.MaxSectors
	d, was, now := newDisk(t, n), mixed(n, 1), mixed(n, 2)
	told(t, "Write", d.Write(0, was), api.OK)
	told(t, "Sync", d.Sync(), api.OK)
	var fates []int
	for at := n - 1; at >= 0; at-- {
		told(t, "Write", d.Write(at, now[at*api.Sector:][:api.Sector]), api.OK)
		fates = append(fates, (n-1-at)*37-1000)
	}
	waits(t, d, n)
	d.Restart(fates)
	for at := range n {
		copy(was[at*api.Sector:], now[at*api.Sector:][:restOf(fates[at])])
	}
	reads(t, d, 0, was)
}

// P12.5: behind a Restart nothing waits, there is power and no fuse, whether there was power or not; what waited is gone, also for the next Restart.
func TestRestart(t *testing.T) {
	for _, kill := range []bool{false, true} {
		for _, fuse := range []int{-1, 0, 1} {
			d := newDisk(t, 2)
			told(t, "Write", d.Write(0, fill(2, 'a')), api.OK)
			d.Fuse(fuse)
			if kill {
				d.Kill()
			}
			d.Restart([]int{3})
			dead(t, d, false)
			waits(t, d, 0)
			want := append(fill(1, 'a')[:3], make([]byte, 2*api.Sector-3)...)
			reads(t, d, 0, want)
			for range 5 {
				told(t, "Sync without a fuse", d.Sync(), api.OK)
			}
			reads(t, d, 0, want)
			d.Restart([]int{64, 64})
			reads(t, d, 0, want)
		}
	}
}

// P12.5: a disk that is restarted is one like others: it is written, synced, killed and restarted again.
func TestRestartAgain(t *testing.T) {
	d := newDisk(t, 2)
	d.Restart([]int{1, 2})
	reads(t, d, 0, make([]byte, 2*api.Sector))
	for i := range 10 {
		c := byte('a' + i)
		told(t, "Write", d.Write(0, fill(1, c)), api.OK)
		told(t, "Sync", d.Sync(), api.OK)
		told(t, "Write of what is lost", d.Write(0, fill(2, '!')), api.OK)
		d.Fuse(0)
		told(t, "Sync that kills", d.Sync(), api.ErrDead)
		d.Restart(nil)
		reads(t, d, 0, append(fill(1, c), make([]byte, api.Sector)...))
	}
}

// R3: the fates are not changed, nor the room behind them, which is no fate; what the caller writes there afterwards is not seen.
func TestFatesAreTheCallers(t *testing.T) {
	d := newDisk(t, 3)
	told(t, "Write", d.Write(0, fill(3, 'a')), api.OK)
	room := []int{-1, 70, 64, 64}
	d.Restart(room[:2])
	if !slices.Equal(room, []int{-1, 70, 64, 64}) {
		t.Errorf("the fates, or the room behind them: %v", room)
	}
	want := append(fill(1, 'a'), fill(1, 'b')[:5]...)
	want = append(want, make([]byte, 3*api.Sector-len(want))...)
	reads(t, d, 0, want)
	clear(room)
	reads(t, d, 0, want)
}

// P12.7: torn at each place, a sector is the beginning of what waited and the end of what lasted.
func TestTorn(t *testing.T) {
	for fate := range 3 * (api.Sector + 1) {
		d := newDisk(t, 1)
		told(t, "Write", d.Write(0, fill(1, 'a')), api.OK)
		told(t, "Sync", d.Sync(), api.OK)
		told(t, "Write", d.Write(0, fill(1, 'b')), api.OK)
		d.Restart([]int{fate})
		b, e := d.Read(0, 1)
		told(t, "Read", e, api.OK)
		cut := fate % (api.Sector + 1)
		if bytes.Count(b[:cut], []byte("b")) != cut || bytes.Count(b[cut:], []byte("a")) != api.Sector-cut {
			t.Errorf("torn at %d: %q", cut, b)
		}
	}
}
