package disk

import "tarmac/api"

// Fuse lets n calls of Write and Sync more be done, or, if n is below 0, all.
func (d *Disk) Fuse(n int) {
	if d == nil || d.dead {
		return
	}
	d.fuse = max(n, noFuse)
}

// Kill takes its power.
func (d *Disk) Kill() {
	if d != nil {
		d.dead = true
	}
}

// Dead tells whether it has no power.
func (d *Disk) Dead() bool {
	return d != nil && d.dead
}

// Restart gives it power again, when of each sector that waited as much lasts as its fate says. One with power loses it first, which is seen in nothing else.
func (d *Disk) Restart(fates []int) {
	if d == nil {
		return
	}
	i := 0
	for at, s := range d.waiting() {
		copy(d.lasts[at][:], s[:written(fates, i)])
		i++
	}
	clear(d.waits)
	d.dead, d.fuse = false, noFuse
}

// written is how many bytes of the i-th sector that waits were written when the power went.
func written(fates []int, i int) int {
	if i >= len(fates) {
		return 0
	}
	const kinds = api.Sector + 1
	return (fates[i]%kinds + kinds) % kinds // of a fate below 0 Go's rest is below 0
}

// burn burns the fuse, and tells whether the call is done. If not, the disk is dead.
func (d *Disk) burn() bool {
	if d.fuse == 0 {
		d.Kill()
		return false
	}
	if d.fuse > 0 {
		d.fuse--
	}
	return true
}
