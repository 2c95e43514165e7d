package wal_test

import (
	"bytes"
	"encoding/binary"
	"fmt"
	"hash/crc32"
	"slices"
	"strconv"
	"strings"
	"testing"

	"aquifer/api"
	"aquifer/disk"
	"aquifer/wal"
)

const room = 1 << 30

func put(key, value string) api.Op { return api.Op{Key: key, Value: value} }

func del(key string) api.Op { return api.Op{Del: true, Key: key} }

// list returns the encoding of a list of strings as 2.2 says it.
func list(texts ...string) string {
	b := binary.BigEndian.AppendUint32(nil, uint32(len(texts)))
	for _, s := range texts {
		b = binary.BigEndian.AppendUint32(b, uint32(len(s)))
		b = append(b, s...)
	}
	return string(b)
}

// record returns the record of a payload as 4.1 says it.
func record(p string) string {
	b := binary.BigEndian.AppendUint32(nil, uint32(len(p)))
	b = binary.BigEndian.AppendUint32(b, crc32.ChecksumIEEE([]byte(p)))
	return string(b) + p
}

// records returns the records of batches, one after the other, as 5.1 says them.
func records(batches ...[]api.Op) string {
	var b strings.Builder
	for _, l := range batches {
		for _, o := range l {
			if o.Del {
				b.WriteString(record("d" + list(o.Key)))
			} else {
				b.WriteString(record("p" + list(o.Key, o.Value)))
			}
		}
		b.WriteString(record("c" + list(strconv.Itoa(len(l)))))
	}
	return b.String()
}

// Some batches of different lengths, the empty one among them.
var (
	one   = []api.Op{put("a", "1")}
	two   = []api.Op{put("bb", "22"), del("a")}
	three = []api.Op{del(""), put("", ""), put("a", list("1"))}
	empty = []api.Op{}
)

func same(a, b [][]api.Op) bool {
	return slices.EqualFunc(a, b, slices.Equal)
}

// written returns a disk with a synced file `log` of these bytes, and the plan p from then on.
func written(b string, p api.Plan) *disk.Disk {
	d := disk.New(api.Plan{Cap: room})
	d.Create("log")
	d.Append("log", []byte(b))
	d.Sync("log")
	d.Restart(p)
	return d
}

// opens opens the log of d and checks that it holds these batches and no other bytes, all of them synced.
func opens(t *testing.T, what string, d *disk.Disk, want ...[]api.Op) *wal.Wal {
	t.Helper()
	w, l, e := wal.Open(d)
	if e != api.OK || w == nil || !same(l, want) {
		t.Fatalf("%s: Open returned %v, %.300s, error %d, want %.300s", what, w, fmt.Sprint(l), e, fmt.Sprint(want))
	}
	keeps(t, what, d, w, records(want...))
	return w
}

// keeps checks that a log is not sick and that its file has exactly these bytes, all of them synced.
func keeps(t *testing.T, what string, d *disk.Disk, w *wal.Wal, want string) {
	t.Helper()
	f := file(d)
	if string(f.Bytes) != want || f.Synced != len(want) {
		t.Errorf("%s: the file holds %.300q, %d of them synced, want %.300q", what, f.Bytes, f.Synced, want)
	}
	if w.Size() != len(want) || w.Sick() {
		t.Errorf("%s: size %d, sick %v, want size %d", what, w.Size(), w.Sick(), len(want))
	}
}

// file returns the file of the log.
func file(d *disk.Disk) api.File {
	for _, f := range d.Files() {
		if f.Name == "log" {
			return f
		}
	}
	return api.File{}
}

// refuses checks that Open of d returns an error and nothing else.
func refuses(t *testing.T, what string, d *disk.Disk, want api.Errno) {
	t.Helper()
	if w, l, e := wal.Open(d); w != nil || l != nil || e != want {
		t.Errorf("%s: Open returned %v, %v, error %d, want error %d", what, w, l, e, want)
	}
}

// ends checks what a call on a log returned, how many writing calls of the disk there have been, and the log after it.
func ends(t *testing.T, what string, got, want api.Errno, d *disk.Disk, calls int, w *wal.Wal, size int, sick bool) {
	t.Helper()
	if got != want || d.Calls() != calls {
		t.Errorf("%s: error %d, %d calls in all, want error %d, %d calls", what, got, d.Calls(), want, calls)
	}
	if w.Size() != size || w.Sick() != sick {
		t.Errorf("%s: size %d, sick %v, want size %d, sick %v", what, w.Size(), w.Sick(), size, sick)
	}
}

// 7.1: a disk without a log, the example of the chapter.
func TestOpenCreates(t *testing.T) {
	d := disk.New(api.Plan{})
	opens(t, "an empty disk", d)
	if d.Calls() != 2 || len(d.Files()) != 1 {
		t.Errorf("an empty disk: %d calls, files %v, want Create and Sync of one", d.Calls(), d.Files())
	}
	opens(t, "an empty log", d)
	if d.Calls() != 3 {
		t.Errorf("an empty log: %d calls in all, want one more", d.Calls())
	}
}

// 7.1: Create comes ahead of Sync: the disk tells by what is there when either crashes.
func TestOpenCreatesFirst(t *testing.T) {
	for files := range 2 {
		n := files + 1
		d := disk.New(api.Plan{Cap: room, Fail: []int{n}})
		refuses(t, fmt.Sprint("call ", n, " fails"), d, api.ErrIo)
		if d.Calls() != n || len(d.Files()) != files {
			t.Errorf("call %d fails: %d calls, %d files, want %d files", n, d.Calls(), len(d.Files()), files)
		}
		opens(t, "again", d)
		d = disk.New(api.Plan{Cap: room, Crash: n})
		refuses(t, fmt.Sprint("call ", n, " crashes"), d, api.ErrCrash)
		refuses(t, "a disk that is down", d, api.ErrCrash)
		if d.Calls() != n || len(d.Files()) != files {
			t.Errorf("call %d crashes: %d calls, %d files, want %d files", n, d.Calls(), len(d.Files()), files)
		}
		d.Restart(api.Plan{Cap: room})
		opens(t, "after a restart", d)
	}
}

// 7.1: the batches of a log, and what follows them, which is cut off.
func TestOpenReads(t *testing.T) {
	long := []api.Op{put("k", strings.Repeat("v", api.MaxFrame-14)), del("k")}
	altered := []byte(records(two))
	altered[len(altered)-1] ^= 1
	for _, c := range []struct {
		what    string
		batches [][]api.Op
		rest    string
	}{
		{"one batch", [][]api.Op{one}, ""},
		{"an empty batch", [][]api.Op{empty}, ""},
		{"several batches", [][]api.Op{one, two, empty, three, one, one}, ""},
		{"a long batch", [][]api.Op{long, slices.Repeat(two, 500), long}, ""},
		{"no record", nil, "x"},
		{"zeros", nil, strings.Repeat("\x00", 100)},
		{"a batch and some bytes", [][]api.Op{one}, "abcdefghijkl"},
		{"an altered batch", [][]api.Op{one}, string(altered) + records(three)},
		{"an altered batch alone", nil, string(altered)},
		{"operations without an end", [][]api.Op{two}, record("p"+list("a", "1")) + record("d"+list("a"))},
		{"a wrong number", [][]api.Op{two}, record("p"+list("a", "1")) + record("c"+list("2")) + records(one)},
		{"another payload", [][]api.Op{two, one}, record("x"+list("0")) + records(one)},
		{"another payload in a batch", [][]api.Op{two, one}, record("p"+list("a", "1")) + record("") + record("c"+list("1"))},
		{"a record that is too long", [][]api.Op{two}, record("p"+list("a", strings.Repeat("v", api.MaxFrame))) + record("c"+list("1"))},
	} {
		d := written(records(c.batches...)+c.rest, api.Plan{Cap: room})
		opens(t, c.what, d, c.batches...)
		calls := 1
		if c.rest != "" {
			calls = 2
		}
		if d.Calls() != calls {
			t.Errorf("%s: %d calls, want %d", c.what, d.Calls(), calls)
		}
		opens(t, c.what+", again", d, c.batches...)
		if d.Calls() != calls+1 {
			t.Errorf("%s, again: %d calls, want one", c.what, d.Calls()-calls)
		}
	}
}

// 7.1: a log that is cut short anywhere has the batches that are complete.
func TestOpenCutShort(t *testing.T) {
	all := [][]api.Op{one, empty, two, three}
	b := records(all...)
	for n := range len(b) + 1 {
		whole := 0
		for whole < len(all) && len(records(all[:whole+1]...)) <= n {
			whole++
		}
		d := written(b[:n], api.Plan{Cap: room})
		w := opens(t, fmt.Sprint(n, " bytes"), d, all[:whole]...)
		if e := w.Commit(one); e != api.OK {
			t.Errorf("%d bytes: Commit returned error %d", n, e)
		}
		opens(t, fmt.Sprint(n, " bytes and a batch"), d, append(slices.Clone(all[:whole]), one)...)
	}
}

// 7.1: bytes that are not synced are read, and synced then.
func TestOpenSyncs(t *testing.T) {
	for _, rest := range []string{"", "xyz"} {
		d := disk.New(api.Plan{Cap: room})
		d.Create("log")
		d.Append("log", []byte(records(one, two)+rest))
		opens(t, "bytes that are not synced", d, one, two)
		d.Restart(api.Plan{Cap: room})
		opens(t, "after a restart", d, one, two)
	}
}

// 7.1: the errors of Read, Cut and Sync, after which no further call is made.
func TestOpenErrors(t *testing.T) {
	for n := 1; n <= 2; n++ {
		for _, crash := range []bool{false, true} {
			what, p, want := fmt.Sprint("call ", n, ", crash ", crash), api.Plan{Cap: room, Fail: []int{n}}, api.ErrIo
			if crash {
				p, want = api.Plan{Cap: room, Crash: n}, api.ErrCrash
			}
			d := written(records(one)+"rest", p)
			refuses(t, what, d, want)
			left := records(one)
			if n == 1 {
				left += "rest"
			}
			if b := file(d).Bytes; d.Calls() != n || string(b) != left {
				t.Errorf("%s: %d calls, the file holds %q, want %q", what, d.Calls(), b, left)
			}
			if crash {
				refuses(t, what+", down", d, api.ErrCrash)
			}
			d.Restart(api.Plan{Cap: room})
			opens(t, what+", after it", d, one)
		}
	}
	d := written(records(one), api.Plan{Cap: room, Fail: []int{1}})
	refuses(t, "nothing to cut off, Sync fails", d, api.ErrIo)
	refuses(t, "a nil disk", nil, api.ErrNone)
}

// 7.1, 7.2: other files are not touched.
func TestOtherFiles(t *testing.T) {
	d := disk.New(api.Plan{Cap: room, Keep: []int{1, 0, 2}})
	for _, name := range []string{"LOG", "log2"} {
		d.Create(name)
		d.Append(name, []byte("xyz"))
	}
	w := opens(t, "beside other files", d)
	w.Commit(one)
	w.Reset()
	w.Commit(two)
	d.Restart(api.Plan{Cap: room})
	opens(t, "beside other files, after a restart", d, two)
	if f := d.Files(); len(f) != 3 || string(f[0].Bytes) != "x" || string(f[2].Bytes) != "xy" {
		t.Errorf("the files are %v", f)
	}
}

// 7.2: each Commit makes one Append and one Sync, and adds exactly the records of its batch.
func TestCommit(t *testing.T) {
	d := disk.New(api.Plan{Cap: room})
	w := opens(t, "an empty disk", d)
	var done [][]api.Op
	long := []api.Op{put("", strings.Repeat("v", api.MaxFrame-13)), del(strings.Repeat("k", api.MaxFrame-9))}
	for i, l := range [][]api.Op{one, two, nil, empty, three, one, long, slices.Repeat(two, 500), two} {
		what := fmt.Sprint("batch ", i)
		done = append(done, l)
		all := records(done...)
		ends(t, what, w.Commit(l), api.OK, d, 4+2*i, w, len(all), false)
		keeps(t, what, d, w, all)
	}
	opens(t, "all batches", d, done...)
	// A log goes on behind the batches that it was opened with.
	w = opens(t, "all batches, again", d, done...)
	w.Commit(one)
	opens(t, "one batch more", d, append(done, one)...)
}

// begun returns a log of one batch on a disk with the plan p: the calls 5 and 6 are those of the next Commit.
func begun(t *testing.T, p api.Plan) (*disk.Disk, *wal.Wal) {
	t.Helper()
	d := disk.New(p)
	w := opens(t, "an empty disk", d)
	if e := w.Commit(one); e != api.OK {
		t.Fatalf("the first Commit returned error %d", e)
	}
	return d, w
}

// 7.2: a batch that has no encoding does not get to the disk.
func TestCommitWrong(t *testing.T) {
	text := strings.Repeat("x", api.MaxFrame)
	wrong := api.Op{Del: true, Key: "a", Value: "x"}
	tooLong := put("a", text)
	for i, c := range []struct {
		l []api.Op
		e api.Errno
	}{
		{[]api.Op{wrong}, api.ErrArg},
		{[]api.Op{put("a", "1"), wrong}, api.ErrArg},
		{slices.Repeat(one, 1001), api.ErrArg},
		{[]api.Op{tooLong, wrong}, api.ErrArg},
		{[]api.Op{tooLong}, api.ErrLong},
		{[]api.Op{put("a", "1"), tooLong}, api.ErrLong},
		{[]api.Op{del(text)}, api.ErrLong},
	} {
		what := fmt.Sprint("wrong batch ", i)
		// Call 5 would crash: these errors come ahead of those of Append.
		for _, crash := range []int{0, 5} {
			d, w := begun(t, api.Plan{Cap: room, Crash: crash})
			ends(t, what, w.Commit(c.l), c.e, d, 4, w, len(records(one)), false)
			keeps(t, what, d, w, records(one))
		}
		d, w := begun(t, api.Plan{Cap: room, Crash: 5})
		w.Commit(two)
		ends(t, what+" of a sick log", w.Commit(c.l), api.ErrSick, d, 5, w, len(records(one)), true)
	}
}

// 7.2: Append, Sync or Cut fails, or crashes: the first error is returned, and the log is sick or as it was before.
func TestCommitFails(t *testing.T) {
	size, more := len(records(one)), len(records(two))
	for _, c := range []struct {
		what  string
		fail  []int
		crash int
		done  bool
		e     api.Errno
		calls int // of the Commit
		sick  bool
		left  int // bytes of the file
	}{
		{"Append fails", []int{5}, 0, false, api.ErrIo, 2, false, size},
		{"Sync fails", []int{6}, 0, false, api.ErrIo, 3, false, size},
		{"Append and Cut fail", []int{5, 6}, 0, false, api.ErrIo, 2, true, size},
		{"Sync and Cut fail", []int{6, 7}, 0, false, api.ErrIo, 3, true, size + more},
		{"Append crashes", nil, 5, false, api.ErrCrash, 1, true, size},
		{"Append crashes, but is done", nil, 5, true, api.ErrCrash, 1, true, size + more},
		{"Sync crashes", nil, 6, false, api.ErrCrash, 2, true, size + more},
		{"Sync crashes, but is done", nil, 6, true, api.ErrCrash, 2, true, size + more},
		{"Append fails, Cut crashes", []int{5}, 6, false, api.ErrIo, 2, true, size},
		{"Append fails, Cut crashes, but is done", []int{5}, 6, true, api.ErrIo, 2, true, size},
		{"Sync fails, Cut crashes", []int{6}, 7, false, api.ErrIo, 3, true, size + more},
		{"Sync fails, Cut crashes, but is done", []int{6}, 7, true, api.ErrIo, 3, true, size},
	} {
		d, w := begun(t, api.Plan{Cap: room, Fail: c.fail, Crash: c.crash, Done: c.done})
		ends(t, c.what, w.Commit(two), c.e, d, 4+c.calls, w, size, c.sick)
		if n := len(file(d).Bytes); n != c.left {
			t.Errorf("%s: the file has %d bytes, want %d", c.what, n, c.left)
		}
		if c.sick {
			staysSick(t, c.what, d, w)
			continue
		}
		keeps(t, c.what, d, w, records(one))
		ends(t, c.what+", the next one", w.Commit(three), api.OK, d, 6+c.calls, w, size+len(records(three)), false)
		opens(t, c.what, d, one, three)
	}
}

// staysSick checks that nothing but opening it anew makes a sick log well, not even a restart of the disk.
func staysSick(t *testing.T, what string, d *disk.Disk, w *wal.Wal) {
	t.Helper()
	calls, size := d.Calls(), w.Size()
	for range 2 {
		b := file(d).Bytes
		ends(t, what+", Commit", w.Commit(three), api.ErrSick, d, calls, w, size, true)
		ends(t, what+", Commit of no operations", w.Commit(nil), api.ErrSick, d, calls, w, size, true)
		ends(t, what+", Reset", w.Reset(), api.ErrSick, d, calls, w, size, true)
		if !bytes.Equal(file(d).Bytes, b) {
			t.Errorf("%s: a sick log was written", what)
		}
		d.Restart(api.Plan{Cap: room})
		calls = 0
	}
	fresh, _, e := wal.Open(d)
	if e != api.OK || fresh.Sick() || fresh.Commit(three) != api.OK || !w.Sick() {
		t.Errorf("%s: opening it anew: error %d, sick %v, and %v before", what, e, fresh.Sick(), w.Sick())
	}
}

// 7.2: a full disk, up to the last byte.
func TestCommitFull(t *testing.T) {
	size := len(records(one, two))
	for most := len(records(one)); most <= size; most++ {
		d, w := begun(t, api.Plan{Cap: most})
		what := fmt.Sprint("room for ", most, " bytes")
		if most == size {
			ends(t, what, w.Commit(two), api.OK, d, 6, w, size, false)
			continue
		}
		ends(t, what, w.Commit(two), api.ErrFull, d, 6, w, len(records(one)), false)
		keeps(t, what, d, w, records(one))
		w.Reset()
		if e := w.Commit(empty); e != api.OK {
			t.Errorf("%s: after Reset Commit returned error %d", what, e)
		}
	}
}

// 7.2, 7.3: the file is gone: Append and Cut both return ErrNone.
func TestFileGone(t *testing.T) {
	d, w := begun(t, api.Plan{Cap: room})
	size := w.Size()
	d.Remove("log")
	ends(t, "Reset", w.Reset(), api.ErrNone, d, 6, w, size, false)
	ends(t, "Commit", w.Commit(two), api.ErrNone, d, 8, w, size, true)
	ends(t, "Reset after it", w.Reset(), api.ErrSick, d, 8, w, size, true)
}

// 7.2: a Commit that fails cuts the file to the size that the file had before, whoever has written to it.
func TestCommitAfterOthers(t *testing.T) {
	for _, fail := range []int{8, 9} {
		d := disk.New(api.Plan{Cap: room, Fail: []int{fail}})
		w := opens(t, "an empty disk", d)
		w.Commit(one)
		other := opens(t, "another log", d, one)
		other.Commit(two)
		what := fmt.Sprint("call ", fail, " fails after another log's Commit")
		if e := w.Commit(three); e != api.ErrIo || w.Sick() || w.Size() != len(records(one)) {
			t.Errorf("%s: error %d, sick %v, size %d", what, e, w.Sick(), w.Size())
		}
		keeps(t, what, d, other, records(one, two))

		d = disk.New(api.Plan{Cap: room, Fail: []int{fail - 2}})
		w = opens(t, "an empty disk", d)
		w.Commit(three)
		d.Cut("log", 0)
		what = fmt.Sprint("call ", fail-2, " fails after the file was cut")
		if e := w.Commit(one); e != api.ErrIo || w.Sick() || len(file(d).Bytes) != 0 {
			t.Errorf("%s: error %d, sick %v, the file holds %q", what, e, w.Sick(), file(d).Bytes)
		}
	}
}

// 7.3: Size and Reset.
func TestReset(t *testing.T) {
	d, w := begun(t, api.Plan{Cap: room})
	ends(t, "Reset", w.Reset(), api.OK, d, 5, w, 0, false)
	keeps(t, "Reset", d, w, "")
	ends(t, "Reset of an empty log", w.Reset(), api.OK, d, 6, w, 0, false)
	ends(t, "Commit after Reset", w.Commit(two), api.OK, d, 8, w, len(records(two)), false)
	ends(t, "another one", w.Commit(one), api.OK, d, 10, w, len(records(two, one)), false)
	w = opens(t, "after Reset", d, two, one)
	ends(t, "Reset of an opened log", w.Reset(), api.OK, d, 12, w, 0, false)
	// What is cut needs no Sync to stay cut.
	d.Restart(api.Plan{Cap: room, Keep: []int{room}})
	opens(t, "Reset and a restart", d)
}

// 7.3: the errors of Reset.
func TestResetFails(t *testing.T) {
	size := len(records(one))
	d, w := begun(t, api.Plan{Cap: room, Fail: []int{5}})
	ends(t, "Cut fails", w.Reset(), api.ErrIo, d, 5, w, size, false)
	keeps(t, "Cut fails", d, w, records(one))
	ends(t, "Commit after it", w.Commit(two), api.OK, d, 7, w, len(records(one, two)), false)
	ends(t, "Reset after it", w.Reset(), api.OK, d, 8, w, 0, false)
	for _, done := range []bool{false, true} {
		d, w := begun(t, api.Plan{Cap: room, Crash: 5, Done: done})
		what := fmt.Sprint("Cut crashes, done ", done)
		ends(t, what, w.Reset(), api.ErrCrash, d, 5, w, size, true)
		staysSick(t, what, d, w)
	}
	// The disk went down by another call.
	d, w = begun(t, api.Plan{Cap: room, Crash: 5})
	d.Create("other")
	ends(t, "a disk that is down", w.Reset(), api.ErrCrash, d, 5, w, size, true)
	d, w = begun(t, api.Plan{Cap: room, Crash: 5})
	d.Create("other")
	ends(t, "a disk that is down", w.Commit(two), api.ErrCrash, d, 5, w, size, true)
}

// 7.3: a nil log.
func TestNil(t *testing.T) {
	var w *wal.Wal
	for _, l := range [][]api.Op{nil, one, {{Del: true, Value: "x"}}} {
		if e := w.Commit(l); e != api.ErrNone {
			t.Errorf("Commit of a nil log: error %d", e)
		}
	}
	if e := w.Reset(); e != api.ErrNone || w.Size() != 0 || w.Sick() {
		t.Errorf("a nil log: Reset returned error %d, size %d, sick %v", e, w.Size(), w.Sick())
	}
}

// R1: a log that Open has not made is on no disk, and does not panic either.
func TestZero(t *testing.T) {
	w := &wal.Wal{}
	if e := w.Reset(); e != api.ErrNone || w.Sick() {
		t.Errorf("Reset of a log without a disk: error %d, sick %v", e, w.Sick())
	}
	if e := w.Commit(one); e != api.ErrNone || !w.Sick() || w.Size() != 0 {
		t.Errorf("Commit of a log without a disk: error %d, sick %v, size %d", e, w.Sick(), w.Size())
	}
}

// history is what a test knows of a log: the batches that are in it for sure, and what else may be.
type history struct {
	done  [][]api.Op
	maybe []api.Op // the batch of the Commit that made the log sick
	open  bool     // is there one?
	gone  bool     // may all of them be gone, by a Reset that crashed?
}

// live goes through Commits and Resets on a disk until its end, and returns what is known of the log then.
func live(d *disk.Disk) history {
	w, _, e := wal.Open(d)
	if e != api.OK {
		return history{}
	}
	var h history
	for i, l := range [][]api.Op{one, two, empty, three, one} {
		if i == 3 {
			e := w.Reset()
			if e == api.OK {
				h = history{}
			}
			h.gone = h.gone || e == api.ErrCrash
		}
		sick := w.Sick()
		switch e := w.Commit(l); {
		case e == api.OK:
			h.done = append(h.done, l)
		case !sick && w.Sick():
			h.maybe, h.open = l, true
		}
	}
	return h
}

// allows reports whether a log may hold these batches by what is known of it.
func (h history) allows(l [][]api.Op) bool {
	return same(l, h.done) || h.open && same(l, append(slices.Clone(h.done), h.maybe)) || h.gone && len(l) == 0
}

// 7.4: whatever fails, wherever the disk crashes and whatever it keeps, Open finds what was committed.
func TestCrashes(t *testing.T) {
	const last = 20
	for crash := 1; crash <= last; crash++ {
		for first := range last {
			for _, fail := range [][]int{nil, {first}, {first, first + 1}, {first, first + 3}} {
				for keep := range 12 {
					p := api.Plan{Cap: room, Crash: crash, Done: keep%2 == 0, Fail: fail, Keep: []int{keep * keep}}
					survives(t, p)
				}
			}
		}
	}
}

// 7.4: of a batch that was being written, all lengths of what is kept.
func TestCrashKeeps(t *testing.T) {
	for crash := 3; crash <= 14; crash++ {
		for keep := range len(records(three)) + 2 {
			for _, done := range []bool{false, true} {
				survives(t, api.Plan{Cap: room, Crash: crash, Done: done, Keep: []int{keep}})
				survives(t, api.Plan{Cap: room, Crash: crash, Done: done, Keep: []int{keep}, Fail: []int{crash - 1}})
			}
		}
	}
}

// survives checks what a log holds after the plan p, also when the disk crashes again while it is opened.
func survives(t *testing.T, p api.Plan) {
	t.Helper()
	d := disk.New(p)
	h := live(d)
	for again := 2; again > 0; again-- {
		d.Restart(api.Plan{Cap: room, Crash: again, Done: p.Done})
		wal.Open(d)
	}
	d.Restart(api.Plan{Cap: room})
	w, l, e := wal.Open(d)
	if e != api.OK || !h.allows(l) {
		t.Fatalf("plan %+v: Open returned %v, error %d, but known is %v", p, l, e, h)
	}
	keeps(t, fmt.Sprintf("plan %+v", p), d, w, records(l...))
	w.Commit(two)
	opens(t, fmt.Sprintf("plan %+v, a batch later", p), d, append(l, two)...)
}

// R3: a batch is neither changed nor kept.
func TestArguments(t *testing.T) {
	d := disk.New(api.Plan{Cap: room})
	w := opens(t, "an empty disk", d)
	l := append(make([]api.Op, 0, 9), two...)
	w.Commit(l)
	if !slices.Equal(l[:3], append(slices.Clone(two), api.Op{})) {
		t.Errorf("Commit changed its argument to %v", l[:3])
	}
	clear(l)
	w.Commit(one)
	opens(t, "after a change of the argument", d, two, one)
}

// R3: writing into the batches that Open returns, or appending to them, changes nothing else.
func TestResults(t *testing.T) {
	d := written(records(one, two, three), api.Plan{Cap: room})
	_, l, _ := wal.Open(d)
	_, other, _ := wal.Open(d)
	want := [][]api.Op{one, two, three}
	for i := range l {
		spoilt := l[i][:cap(l[i])]
		for k := range spoilt {
			spoilt[k] = put("x", "y")
		}
		if !same(l[i+1:], want[i+1:]) || !same(other, want) {
			t.Fatalf("batch %d shares memory with another: %v, %v", i, l, other)
		}
	}
	opens(t, "after writing into results", d, want...)
}

// R5: two logs on two disks do not affect each other.
func TestTwoLogs(t *testing.T) {
	d, w := begun(t, api.Plan{Cap: room})
	sick, v := begun(t, api.Plan{Cap: room, Fail: []int{6, 7}})
	if e := v.Commit(three); e != api.ErrIo || !v.Sick() {
		t.Errorf("one log: error %d, sick %v", e, v.Sick())
	}
	ends(t, "the other log", w.Commit(two), api.OK, d, 6, w, len(records(one, two)), false)
	opens(t, "the one log", sick, one, three)
	opens(t, "the other log", d, one, two)
}
