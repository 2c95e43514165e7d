// Package disk: see DOC.md, chapter 1.
package disk

import (
	"maps"
	"slices"

	"aquifer/api"
)

// Disk is a disk that crashes.
type Disk struct {
	plan  api.Plan // its lists are copies, and Fail is sorted
	files map[string]*file
	size  int // bytes of all files
	calls int // writing calls since the plan began
	down  bool
}

// file is a string of bytes; the first synced of them survive a crash.
type file struct {
	bytes  []byte
	synced int
}

// New makes a disk without files that follows the plan p.
func New(p api.Plan) *Disk {
	d := &Disk{}
	d.begin(p)
	return d
}

// begin takes up a plan: no call has been made under it.
func (d *Disk) begin(p api.Plan) {
	p.Fail = copied(p.Fail)
	// The list may be long, and it is asked at every writing call.
	slices.Sort(p.Fail)
	p.Keep = copied(p.Keep)
	d.plan = p
	d.calls = 0
	d.down = false
}

// copied returns the list in memory of its own.
func copied[T any](l []T) []T {
	return append([]T(nil), l...)
}

// write takes a writing call through the plan. carryOut either does the whole call or returns its error and changes
// nothing, so nothing has to be undone here.
func (d *Disk) write(carryOut func() api.Errno) api.Errno {
	if d == nil {
		return api.ErrNone
	}
	e := api.ErrCrash
call:
	switch {
	case !d.down:
		d.calls++
		switch {
		case d.calls == d.plan.Crash:
			d.down = true
			if d.plan.Done {
				carryOut()
			}
			break call
		case d.fails():
			e = api.ErrIo
			break call
		}
		e = carryOut()
	}
	return e
}

// fails reports whether the plan fails the call that was counted last.
func (d *Disk) fails() bool {
	_, found := slices.BinarySearch(d.plan.Fail, d.calls)
	return found
}

// Create makes an empty file.
func (d *Disk) Create(name string) api.Errno {
	return d.write(func() api.Errno {
		if name == "" {
			return api.ErrArg
		}
		if d.files[name] != nil {
			return api.ErrTwice
		}
		d.put(name, &file{})
		return api.OK
	})
}

// put gives a name to a file.
func (d *Disk) put(name string, f *file) {
	// A Disk that New has not made has no map yet.
	if d.files == nil {
		d.files = map[string]*file{}
	}
	d.files[name] = f
}

// Append adds bytes to the end of a file; they are not synced.
func (d *Disk) Append(name string, b []byte) api.Errno {
	return d.write(func() api.Errno {
		f := d.files[name]
		if f == nil {
			return api.ErrNone
		}
		if d.size+len(b) > d.plan.Cap {
			return api.ErrFull
		}
		f.bytes = append(f.bytes, b...)
		d.size += len(b)
		return api.OK
	})
}

// Sync marks all bytes of a file as synced.
func (d *Disk) Sync(name string) api.Errno {
	return d.write(func() api.Errno {
		f := d.files[name]
		if f == nil {
			return api.ErrNone
		}
		f.synced = len(f.bytes)
		return api.OK
	})
}

// Cut keeps the first n bytes of a file.
func (d *Disk) Cut(name string, n int) api.Errno {
	return d.write(func() api.Errno {
		f := d.files[name]
		if f == nil {
			return api.ErrNone
		}
		if n < 0 || n > len(f.bytes) {
			return api.ErrArg
		}
		d.shorten(f, n)
		return api.OK
	})
}

// shorten keeps the first n bytes of f.
func (d *Disk) shorten(f *file, n int) {
	d.size -= len(f.bytes) - n
	f.bytes = f.bytes[:n]
	f.synced = min(f.synced, n)
}

// Rename gives a file another name, in place of the file that has this name.
func (d *Disk) Rename(from, to string) api.Errno {
	return d.write(func() api.Errno {
		f := d.files[from]
		if f == nil {
			return api.ErrNone
		}
		if to == "" {
			return api.ErrArg
		}
		if from == to {
			return api.OK
		}
		d.drop(to)
		delete(d.files, from)
		d.put(to, f)
		return api.OK
	})
}

// Remove removes a file.
func (d *Disk) Remove(name string) api.Errno {
	return d.write(func() api.Errno {
		if d.files[name] == nil {
			return api.ErrNone
		}
		d.drop(name)
		return api.OK
	})
}

// drop removes a file with its bytes, if it is there.
func (d *Disk) drop(name string) {
	if f := d.files[name]; f != nil {
		d.shorten(f, 0)
		delete(d.files, name)
	}
}

// Read returns the bytes of a file.
func (d *Disk) Read(name string) ([]byte, api.Errno) {
	if d == nil {
		return nil, api.ErrNone
	}
	if d.down {
		return nil, api.ErrCrash
	}
	f := d.files[name]
	if f == nil {
		return nil, api.ErrNone
	}
	return copied(f.bytes), api.OK
}

// Files returns all files by ascending names, also of a disk that is down.
func (d *Disk) Files() []api.File {
	if d == nil {
		return nil
	}
	var l []api.File
	for _, name := range d.names() {
		f := d.files[name]
		l = append(l, api.File{Name: name, Bytes: copied(f.bytes), Synced: f.synced})
	}
	return l
}

// names returns the names of all files, ascending.
func (d *Disk) names() []string {
	return slices.Sorted(maps.Keys(d.files))
}

// Calls returns how many writing calls were counted under the plan.
func (d *Disk) Calls() int {
	if d == nil {
		return 0
	}
	return d.calls
}

// Down reports whether the disk is down.
func (d *Disk) Down() bool {
	return d != nil && d.down
}

// Restart leaves what a crash leaves and goes on with the plan p.
func (d *Disk) Restart(p api.Plan) {
	if d == nil {
		return
	}
	for i, name := range d.names() {
		f := d.files[name]
		// Keep[i] may be any number: it is bounded ahead of the sum, which could run over.
		more := 0
		if i < len(d.plan.Keep) {
			more = min(max(d.plan.Keep[i], 0), len(f.bytes)-f.synced)
		}
		d.shorten(f, f.synced+more)
		f.synced = len(f.bytes)
	}
	d.begin(p)
}
