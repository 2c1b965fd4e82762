package disk

import (
	"slices"

	"linchpin/api"
)

// What an element of keep says of the pending write with its index; of the others nothing survives.
const (
	keepAll  = 1
	keepHalf = 2
)

// Crash brings the machine down; of the pending writes survives what keep says.
func (d *Disk) Crash(keep []int) {
	if d.down {
		return
	}
	var kept []piece
	for i, p := range d.pending {
		p.text = p.text[:survives(p, i, keep)]
		// What is empty must not lengthen a file.
		if p.text != "" {
			kept = append(kept, p)
		}
	}
	d.pending = kept
	for f := range d.files {
		d.settle(f, d.bytes(f))
	}
	d.down = true
	d.Arm(0, nil)
}

// survives returns how many bytes of the pending write with the index i survive a crash.
func survives(p piece, i int, keep []int) int {
	if i >= len(keep) {
		return 0
	}
	switch keep[i] {
	case keepAll:
		return len(p.text)
	case keepHalf:
		return min(half, len(p.text))
	}
	return 0
}

// Start brings the machine up.
func (d *Disk) Start() {
	d.down = false
}

// Lose sets the number of lost flushes that are due.
func (d *Disk) Lose(n int) {
	d.lost = max(n, 0)
}

// Arm schedules a crash with the n-th of the following calls of Write, Flush, Cut and Turn, or none if n is less than 1.
func (d *Disk) Arm(n int, keep []int) {
	d.calls, d.keep = max(n, 0), slices.Clone(keep)
}

// count counts a call of Write, Flush, Cut or Turn, and reports whether the scheduled crash comes with it.
func (d *Disk) count() bool {
	if d.down || d.calls == 0 {
		return false
	}
	d.calls--
	return d.calls == 0
}

// enter begins a call of Flush, Cut or Turn: if the scheduled crash comes with it, the machine goes down before anything else is done.
func (d *Disk) enter(files ...int) api.Errno {
	if d.count() {
		d.Crash(d.keep)
	}
	return d.check(files...)
}
