package snap_test

import (
	"bytes"
	"encoding/binary"
	"fmt"
	"hash/crc32"
	"slices"
	"strings"
	"testing"

	"aquifer/api"
	"aquifer/disk"
	"aquifer/snap"
)

const room = 1 << 30

// pairs returns a map of the keys and values that stand in turn.
func pairs(texts ...string) []api.Pair {
	var l []api.Pair
	for kv := range slices.Chunk(texts, 2) {
		l = append(l, api.Pair{Key: kv[0], Value: kv[1]})
	}
	return l
}

// record returns the record of a payload as 4.1 says it.
func record(p string) string {
	b := binary.BigEndian.AppendUint32(nil, uint32(len(p)))
	b = binary.BigEndian.AppendUint32(b, crc32.ChecksumIEEE([]byte(p)))
	return string(b) + p
}

// list returns the encoding of a list of strings as 2.2 says it.
func list(texts ...string) string {
	b := binary.BigEndian.AppendUint32(nil, uint32(len(texts)))
	for _, s := range texts {
		b = binary.BigEndian.AppendUint32(b, uint32(len(s)))
		b = append(b, s...)
	}
	return string(b)
}

// encoded returns the encoding of a map as 6.2 says it.
func encoded(l []api.Pair) string {
	var texts []string
	for _, p := range l {
		texts = append(texts, p.Key, p.Value)
	}
	return record(list(texts...))
}

// Some maps of different sizes, the empty one among them.
var (
	old   = pairs("a", "1", "b", "")
	fresh = pairs("", "\x00\xff", "a", "22", "b", encoded(old), "c\x00", "3")
	third = pairs("a", "3")
	none  = []api.Pair{}
)

// longest returns a map whose payload has as many bytes as a record may have, and more besides.
func longest(more int) []api.Pair {
	return pairs("k", strings.Repeat("v", api.MaxFrame-13+more))
}

// wrong are lists that are no maps: their keys do not ascend.
var wrong = [][]api.Pair{
	pairs("b", "1", "a", "2"),
	pairs("a", "1", "a", "1"),
	pairs("", "", "", ""),
	pairs("a", "1", "b", "2", "c", "3", "bb", "4"),
	pairs("\xff", "1", "\x00", "2"),
}

// shown returns how something is shown, or the beginning of that.
func shown(v any) string { return fmt.Sprintf("%.200s", fmt.Sprintf("%q", v)) }

// holding returns a disk with synced files of these names and bytes in turn, and the plan p from then on.
func holding(p api.Plan, texts ...string) *disk.Disk {
	d := disk.New(api.Plan{Cap: room})
	for f := range slices.Chunk(texts, 2) {
		d.Create(f[0])
		d.Append(f[0], []byte(f[1]))
		d.Sync(f[0])
	}
	d.Restart(p)
	return d
}

// holds checks that a disk has exactly these files, by their names and bytes in turn, and that all bytes are synced.
func holds(t *testing.T, what string, d *disk.Disk, texts ...string) {
	t.Helper()
	var got []string
	for _, f := range d.Files() {
		got = append(got, f.Name, string(f.Bytes))
		if f.Synced != len(f.Bytes) {
			t.Errorf("%s: %d of %d bytes of %s are synced", what, f.Synced, len(f.Bytes), f.Name)
		}
	}
	if !slices.Equal(got, texts) {
		t.Errorf("%s: the files are %s, want %s", what, shown(got), shown(texts))
	}
}

// loads checks what Load returns, and that it makes no writing call.
func loads(t *testing.T, what string, d *disk.Disk, want []api.Pair) {
	t.Helper()
	calls := d.Calls()
	if l, e := snap.Load(d); e != api.OK || !slices.Equal(l, want) {
		t.Errorf("%s: Load returned %s, error %d, want %s", what, shown(l), e, shown(want))
	}
	if d.Calls() != calls {
		t.Errorf("%s: Load made %d writing calls", what, d.Calls()-calls)
	}
}

// refuses checks that Load returns an error and no list.
func refuses(t *testing.T, what string, d *disk.Disk, want api.Errno) {
	t.Helper()
	if l, e := snap.Load(d); l != nil || e != want {
		t.Errorf("%s: Load returned %s, error %d, want error %d", what, shown(l), e, want)
	}
}

// saves checks what Save returns, and how many writing calls of the disk it makes.
func saves(t *testing.T, what string, d *disk.Disk, l []api.Pair, want api.Errno, calls int) {
	t.Helper()
	before := d.Calls()
	if e := snap.Save(d, l); e != want || d.Calls()-before != calls {
		t.Errorf("%s: Save returned error %d after %d calls, want error %d after %d", what, e, d.Calls()-before, want, calls)
	}
}

// 8.1: without a snapshot the list is empty, whatever other files there are; the example of the chapter.
func TestLoadMissing(t *testing.T) {
	loads(t, "an empty disk", disk.New(api.Plan{}), nil)
	d := holding(api.Plan{}, "SNAP", encoded(old), "log", "x", "sna", "y", "snap2", encoded(old), "tmp", encoded(fresh))
	loads(t, "other files", d, nil)
}

// 8.1: the map whose encoding the file has.
func TestLoad(t *testing.T) {
	for i, l := range [][]api.Pair{nil, old, fresh, third, pairs("", ""), longest(0)} {
		loads(t, fmt.Sprint("map ", i), holding(api.Plan{}, "snap", encoded(l)), l)
		loads(t, fmt.Sprint("map ", i, " beside a draft"), holding(api.Plan{}, "snap", encoded(l), "tmp", encoded(old)), l)
	}
	d := disk.New(api.Plan{Cap: room})
	d.Create("snap")
	d.Append("snap", []byte(encoded(fresh)))
	loads(t, "bytes that are not synced", d, fresh)
}

// 8.1: ErrForm for bytes that are the encoding of no map.
func TestLoadForm(t *testing.T) {
	for i, b := range []string{
		"", "\x00", strings.Repeat("\x00", 8), strings.Repeat("\x00", 12), "snap",
		record(""), record("\x00"), record(list("a")), record(list("a", "1", "b")), record(list("a", "1") + "\x00"),
		list("a", "1"), encoded(old) + encoded(old), encoded(nil) + encoded(nil), encoded(old) + "x", "x" + encoded(old),
		encoded(longest(1)),
	} {
		refuses(t, fmt.Sprint("bytes ", i), holding(api.Plan{}, "snap", b), api.ErrForm)
	}
	for i, l := range wrong {
		refuses(t, fmt.Sprint("keys that do not ascend, ", i), holding(api.Plan{}, "snap", encoded(l)), api.ErrForm)
	}
	b := encoded(fresh)
	for n := range len(b) {
		refuses(t, fmt.Sprint("cut to ", n), holding(api.Plan{}, "snap", b[:n]), api.ErrForm)
		altered := []byte(b)
		altered[n] ^= 4
		refuses(t, fmt.Sprint("altered at ", n), holding(api.Plan{}, "snap", string(altered)), api.ErrForm)
	}
}

// 8.1: the errors that come ahead of those of the bytes.
func TestLoadErrors(t *testing.T) {
	refuses(t, "a nil disk", nil, api.ErrNone)
	for _, d := range []*disk.Disk{
		disk.New(api.Plan{Crash: 1}),
		holding(api.Plan{Crash: 1}, "snap", encoded(old)),
		holding(api.Plan{Crash: 1}, "snap", "x"),
	} {
		d.Create("other")
		refuses(t, "a disk that is down", d, api.ErrCrash)
	}
}

// 8.2: the file has exactly the encoding, all of it synced; four writing calls, the example of the chapter.
func TestSave(t *testing.T) {
	d := disk.New(api.Plan{Cap: room})
	for i, l := range [][]api.Pair{old, fresh, nil, third, longest(0), none, fresh, fresh} {
		what := fmt.Sprint("map ", i)
		saves(t, what, d, l, api.OK, 4)
		holds(t, what, d, "snap", encoded(l))
		loads(t, what, d, l)
	}
	d.Restart(api.Plan{})
	holds(t, "after a restart", d, "snap", encoded(fresh))
	loads(t, "after a restart", d, fresh)
}

// 8.2: a file tmp that is there goes first; other files are not touched.
func TestSaveBesideFiles(t *testing.T) {
	for _, draft := range []string{"", "x", encoded(third)} {
		d := holding(api.Plan{Cap: room}, "TMP", "1", "snap", encoded(old), "snap2", "2", "tmp", draft, "tmp2", "3")
		saves(t, "tmp is there", d, fresh, api.OK, 5)
		holds(t, "tmp is there", d, "TMP", "1", "snap", encoded(fresh), "snap2", "2", "tmp2", "3")
		saves(t, "tmp is gone", d, third, api.OK, 4)
		holds(t, "tmp is gone", d, "TMP", "1", "snap", encoded(third), "snap2", "2", "tmp2", "3")
	}
	d := holding(api.Plan{Cap: room}, "snap", "no map")
	saves(t, "a snapshot that cannot be loaded", d, fresh, api.OK, 4)
	holds(t, "a snapshot that cannot be loaded", d, "snap", encoded(fresh))
}

// 8.2: the errors of the list come ahead of those of the disk, and then the disk is not called.
func TestSaveWrong(t *testing.T) {
	for _, files := range [][]string{nil, {"snap", encoded(old)}, {"snap", encoded(old), "tmp", "x"}} {
		for _, down := range []bool{false, true} {
			d := holding(api.Plan{Cap: room, Crash: 1}, files...)
			if down {
				d.Create("other")
			}
			for i, l := range wrong {
				saves(t, fmt.Sprint("wrong list ", i), d, l, api.ErrArg, 0)
			}
			saves(t, "a wrong list that is too long", d, append(longest(1), wrong[0]...), api.ErrArg, 0)
			saves(t, "a list that is too long", d, longest(1), api.ErrLong, 0)
			holds(t, "wrong lists", d, files...)
			if d.Down() != down {
				t.Errorf("wrong lists: down is %v, want %v", d.Down(), down)
			}
		}
	}
	for _, l := range [][]api.Pair{nil, old, wrong[0], longest(1)} {
		if e := snap.Save(nil, l); e != api.ErrNone {
			t.Errorf("Save on a nil disk returned error %d", e)
		}
	}
	d := holding(api.Plan{Cap: room, Crash: 1}, "snap", encoded(old))
	d.Create("other")
	saves(t, "a disk that is down", d, fresh, api.ErrCrash, 0)
	holds(t, "a disk that is down", d, "snap", encoded(old))
}

// synced returns a file all of whose bytes are synced.
func synced(name, b string) api.File { return api.File{Name: name, Bytes: []byte(b), Synced: len(b)} }

// steps are the files ahead of each call of a Save of fresh in place of old, and behind the last one. The calls are
// those of 8.2, in its order; the first one is made only if a file tmp is there.
func steps(draft bool) [][]api.File {
	before, after := synced("snap", encoded(old)), synced("snap", encoded(fresh))
	all := [][]api.File{
		{before},
		{before, synced("tmp", "")},
		{before, {Name: "tmp", Bytes: []byte(encoded(fresh))}},
		{before, synced("tmp", encoded(fresh))},
		{after},
	}
	if draft {
		all = slices.Insert(all, 0, []api.File{before, synced("tmp", "left")})
	}
	return all
}

// 8.2: the calls in their order: what is there tells which have been made, and none is made after one that fails.
func TestSaveFails(t *testing.T) {
	for _, draft := range []bool{false, true} {
		all := steps(draft)
		for n := 1; n < len(all); n++ {
			what := fmt.Sprint("a draft ", draft, ", call ", n)
			ends(t, what+" fails", draft, api.Plan{Cap: room, Fail: []int{n}}, api.ErrIo, n, all[n-1])
			ends(t, what+" crashes", draft, api.Plan{Cap: room, Crash: n}, api.ErrCrash, n, all[n-1])
			ends(t, what+" crashes, but is done", draft, api.Plan{Cap: room, Crash: n, Done: true}, api.ErrCrash, n, all[n])
		}
	}
}

// ends checks how a Save of fresh in place of old ends under the plan p, and that a later one is not hindered by it.
func ends(t *testing.T, what string, draft bool, p api.Plan, want api.Errno, calls int, left []api.File) {
	t.Helper()
	files := []string{"snap", encoded(old)}
	if draft {
		files = append(files, "tmp", "left")
	}
	d := holding(p, files...)
	saves(t, what, d, fresh, want, calls)
	same := func(a, b api.File) bool {
		return a.Name == b.Name && bytes.Equal(a.Bytes, b.Bytes) && a.Synced == b.Synced
	}
	if got := d.Files(); !slices.EqualFunc(got, left, same) {
		t.Errorf("%s: the files are %s, want %s", what, shown(got), shown(left))
	}
	d.Restart(api.Plan{Cap: room})
	if string(left[0].Bytes) == encoded(fresh) {
		loads(t, what, d, fresh)
	} else {
		loads(t, what, d, old)
	}
	saves(t, what+", the next Save", d, third, api.OK, 3+len(left))
	holds(t, what+", the next Save", d, "snap", encoded(third))
}

// 8.2: a full disk, up to the last byte: the snapshot before still takes its room, the file tmp does not.
func TestSaveFull(t *testing.T) {
	need := len(encoded(old)) + len(encoded(fresh))
	for _, draft := range []string{"", strings.Repeat("x", 10*need)} {
		for most := need - 3; most <= need; most++ {
			what := fmt.Sprint("room for ", most-need, " bytes more, a draft of ", len(draft))
			d := holding(api.Plan{Cap: most}, "snap", encoded(old), "tmp", draft)
			if most == need {
				saves(t, what, d, fresh, api.OK, 5)
				holds(t, what, d, "snap", encoded(fresh))
				continue
			}
			saves(t, what, d, fresh, api.ErrFull, 3)
			holds(t, what, d, "snap", encoded(old), "tmp", "")
			saves(t, what+", again", d, fresh, api.ErrFull, 3)
			loads(t, what, d, old)
			saves(t, what+", a smaller one", d, third, api.OK, 5)
			holds(t, what+", a smaller one", d, "snap", encoded(third))
		}
	}
}

// live saves maps one after the other until the end of a disk, and returns which ones its snapshot may be then.
func live(d *disk.Disk) [][]api.Pair {
	may := [][]api.Pair{nil}
	for _, l := range [][]api.Pair{old, fresh, none, third, longest(-api.MaxFrame + 100)} {
		switch snap.Save(d, l) {
		case api.OK:
			may = [][]api.Pair{l}
		case api.ErrCrash:
			// The disk is down: the Saves that follow are not done.
			return append(may, l)
		}
	}
	return may
}

// survives checks what the snapshot of a disk is after the plan p, also when later Saves crash.
func survives(t *testing.T, p api.Plan) {
	t.Helper()
	d := disk.New(p)
	may := live(d)
	for crash := range 6 {
		what := fmt.Sprintf("plan %+v, later call %d", p, crash)
		d.Restart(api.Plan{Cap: room, Crash: crash, Done: p.Done, Keep: p.Keep})
		l, e := snap.Load(d)
		if e != api.OK || !slices.ContainsFunc(may, func(m []api.Pair) bool { return slices.Equal(l, m) }) {
			t.Fatalf("%s: Load returned %s, error %d, want one of %s", what, shown(l), e, shown(may))
		}
		next := pairs("next", fmt.Sprint(crash))
		if may = [][]api.Pair{next}; snap.Save(d, next) != api.OK {
			may = [][]api.Pair{l, next}
		}
	}
}

// 8.3: whatever fails, wherever the disk crashes and whatever it keeps.
func TestCrashes(t *testing.T) {
	const last = 24
	for crash := range last {
		for first := range last {
			for _, fail := range [][]int{nil, {first}, {first, first + 1}, {first, first + 4}} {
				for keep := range 8 {
					k := keep * keep
					survives(t, api.Plan{Cap: room, Crash: crash, Done: keep%2 == 0, Fail: fail, Keep: []int{k, k}})
				}
			}
		}
	}
}

// 8.3: of a map that was being saved, all lengths of what is kept.
func TestCrashKeeps(t *testing.T) {
	for crash := 5; crash <= 9; crash++ {
		for keep := range len(encoded(fresh)) + 2 {
			for _, done := range []bool{false, true} {
				survives(t, api.Plan{Cap: room, Crash: crash, Done: done, Keep: []int{keep, keep}})
			}
		}
	}
}

// 8.3: a disk without room.
func TestCrashFull(t *testing.T) {
	for most := range 2*len(encoded(fresh)) + 2 {
		for crash := range 24 {
			survives(t, api.Plan{Cap: most, Crash: crash, Done: crash%2 == 0})
		}
	}
}

// R3: a map that is saved is neither changed nor kept.
func TestArguments(t *testing.T) {
	d := disk.New(api.Plan{Cap: room})
	l := append(make([]api.Pair, 0, 9), fresh...)
	snap.Save(d, l)
	if !slices.Equal(l[:cap(l)][:5], append(slices.Clone(fresh), api.Pair{})) {
		t.Errorf("Save changed its argument to %s", shown(l[:5]))
	}
	clear(l)
	loads(t, "after a change of the argument", d, fresh)
}

// R3: writing into the list that Load returns, or appending to it, changes nothing else.
func TestResults(t *testing.T) {
	d := holding(api.Plan{}, "snap", encoded(fresh))
	l, _ := snap.Load(d)
	other, _ := snap.Load(d)
	l = l[:cap(l)]
	for i := range l {
		l[i] = api.Pair{Key: "x", Value: "y"}
	}
	if !slices.Equal(other, fresh) {
		t.Errorf("two results share memory: %s", shown(other))
	}
	loads(t, "after writing into a result", d, fresh)
	if b, _ := d.Read("snap"); !bytes.Equal(b, []byte(encoded(fresh))) {
		t.Errorf("the file holds %s", shown(b))
	}
}

// R5: the snapshots of two disks do not affect each other.
func TestTwoDisks(t *testing.T) {
	a, b := disk.New(api.Plan{Cap: room}), disk.New(api.Plan{Cap: room, Fail: []int{7}})
	saves(t, "the one disk", a, old, api.OK, 4)
	saves(t, "the other disk", b, third, api.OK, 4)
	saves(t, "the other disk, call 7", b, fresh, api.ErrIo, 3)
	saves(t, "the one disk, call 7", a, fresh, api.OK, 4)
	holds(t, "the one disk", a, "snap", encoded(fresh))
	loads(t, "the other disk", b, third)
}

// R1: a disk that New has not made has no room, and does not panic either.
func TestZero(t *testing.T) {
	d := &disk.Disk{}
	loads(t, "a disk without a plan", d, nil)
	saves(t, "a disk without a plan", d, nil, api.ErrFull, 2)
	loads(t, "a disk without a plan, after Save", d, nil)
}
