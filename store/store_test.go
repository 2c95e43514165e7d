package store_test

import (
	"encoding/binary"
	"fmt"
	"hash/crc32"
	"maps"
	"math"
	"slices"
	"strconv"
	"strings"
	"testing"

	"aquifer/api"
	"aquifer/disk"
	"aquifer/store"
)

const room = 1 << 30

func put(key, value string) api.Op { return api.Op{Key: key, Value: value} }

func del(key string) api.Op { return api.Op{Del: true, Key: key} }

// pairs returns a map of the keys and values that stand in turn.
func pairs(texts ...string) []api.Pair {
	var l []api.Pair
	for kv := range slices.Chunk(texts, 2) {
		l = append(l, api.Pair{Key: kv[0], Value: kv[1]})
	}
	return l
}

// list returns the encoding of a list of strings as 2.2 says it.
func list(texts ...string) string {
	b := binary.BigEndian.AppendUint32(nil, uint32(len(texts)))
	for _, s := range texts {
		b = binary.BigEndian.AppendUint32(b, uint32(len(s)))
		b = append(b, s...)
	}
	return string(b)
}

// record returns the record of a payload as 4.1 says it.
func record(p string) string {
	b := binary.BigEndian.AppendUint32(nil, uint32(len(p)))
	b = binary.BigEndian.AppendUint32(b, crc32.ChecksumIEEE([]byte(p)))
	return string(b) + p
}

// records returns the records of batches, one after the other, as 5.1 says them.
func records(batches ...[]api.Op) string {
	var b strings.Builder
	for _, l := range batches {
		for _, o := range l {
			if o.Del {
				b.WriteString(record("d" + list(o.Key)))
			} else {
				b.WriteString(record("p" + list(o.Key, o.Value)))
			}
		}
		b.WriteString(record("c" + list(strconv.Itoa(len(l)))))
	}
	return b.String()
}

// encoded returns the encoding of a map as 6.2 says it.
func encoded(l []api.Pair) string {
	var texts []string
	for _, p := range l {
		texts = append(texts, p.Key, p.Value)
	}
	return record(list(texts...))
}

// after returns a map after batches, as a plain map has it.
func after(l []api.Pair, batches ...[]api.Op) []api.Pair {
	m := map[string]string{}
	for _, p := range l {
		m[p.Key] = p.Value
	}
	for _, o := range slices.Concat(batches...) {
		if o.Del {
			delete(m, o.Key)
		} else {
			m[o.Key] = o.Value
		}
	}
	var made []api.Pair
	for _, k := range slices.Sorted(maps.Keys(m)) {
		made = append(made, api.Pair{Key: k, Value: m[k]})
	}
	return made
}

// A map, and some batches of different lengths, the empty one among them.
var (
	old   = pairs("a", "1", "b", "")
	one   = []api.Op{put("a", "1")}
	two   = []api.Op{put("bb", "22"), del("a")}
	three = []api.Op{del(""), put("", ""), put("a", list("1"))}
	empty = []api.Op{}
)

// wrong are batches that are not valid, each with a valid operation ahead of what is wrong.
var wrong = [][]api.Op{
	{put("a", "wrong"), {Del: true, Key: "b", Value: "x"}},
	slices.Repeat([]api.Op{put("a", "wrong")}, 1001),
	{del("a"), {Del: true, Value: "x"}},
}

// long returns a batch whose operation has a payload of as many bytes as a record may have, and more besides.
func long(more int) []api.Op {
	return []api.Op{del("a"), put("k", strings.Repeat("v", api.MaxFrame-14+more))}
}

// shown returns how something is shown, or the beginning of that.
func shown(v any) string { return fmt.Sprintf("%.200s", fmt.Sprintf("%q", v)) }

// holding returns a disk with synced files of these names and bytes in turn, and the plan p from then on.
func holding(p api.Plan, texts ...string) *disk.Disk {
	d := disk.New(api.Plan{Cap: room})
	for f := range slices.Chunk(texts, 2) {
		d.Create(f[0])
		d.Append(f[0], []byte(f[1]))
		d.Sync(f[0])
	}
	d.Restart(p)
	return d
}

// holds checks that a disk has exactly these files, by their names and bytes in turn.
func holds(t *testing.T, what string, d *disk.Disk, texts ...string) {
	t.Helper()
	var got []string
	for _, f := range d.Files() {
		got = append(got, f.Name, string(f.Bytes))
	}
	if !slices.Equal(got, texts) {
		t.Errorf("%s: the files are %s, want %s", what, shown(got), shown(texts))
	}
}

// has checks the map of a store by All and by Get.
func has(t *testing.T, what string, s *store.Store, want []api.Pair) {
	t.Helper()
	if l := s.All(); !slices.Equal(l, want) {
		t.Fatalf("%s: All returned %s, want %s", what, shown(l), shown(want))
	}
	for _, p := range want {
		if v, ok := s.Get(p.Key); v != p.Value || !ok {
			t.Fatalf("%s: Get of %q returned %s, %v, want %s", what, p.Key, shown(v), ok, shown(p.Value))
		}
	}
	for _, k := range []string{"", "a", "b", "bb", "c", "A", "a\x00", "\xff", "snap", "log"} {
		if slices.ContainsFunc(want, func(p api.Pair) bool { return p.Key == k }) {
			continue
		}
		if v, ok := s.Get(k); v != "" || ok {
			t.Fatalf("%s: Get of %q returned %s, %v, want none", what, k, shown(v), ok)
		}
	}
}

// opens opens the store of d and checks its map.
func opens(t *testing.T, what string, d *disk.Disk, most int, want []api.Pair) *store.Store {
	t.Helper()
	s, e := store.Open(d, most)
	if s == nil || e != api.OK || s.Sick() {
		t.Fatalf("%s: Open returned %p, error %d, sick %v", what, s, e, s.Sick())
	}
	has(t, what, s, want)
	return s
}

// refuses checks that Open of d returns an error and no store.
func refuses(t *testing.T, what string, d *disk.Disk, want api.Errno) {
	t.Helper()
	for _, most := range []int{-1, 0, 1000} {
		if s, e := store.Open(d, most); s != nil || e != want {
			t.Errorf("%s: Open with most %d returned %p, error %d, want error %d", what, most, s, e, want)
		}
	}
}

// ends checks what a call returned, how many writing calls of the disk there have been in all, and the store after it.
func ends(t *testing.T, what string, got, want api.Errno, d *disk.Disk, calls int, s *store.Store, l []api.Pair, sick bool) {
	t.Helper()
	if got != want || d.Calls() != calls {
		t.Errorf("%s: error %d, %d calls in all, want error %d, %d calls", what, got, d.Calls(), want, calls)
	}
	if s.Sick() != sick {
		t.Errorf("%s: sick %v, want %v", what, s.Sick(), sick)
	}
	has(t, what, s, l)
}

// begun returns a store whose snapshot is old and whose log holds the batch one; its disk has followed the plan p for
// one call, the Sync of Open.
func begun(t *testing.T, p api.Plan, most int) (*disk.Disk, *store.Store) {
	t.Helper()
	d := holding(p, "log", records(one), "snap", encoded(old))
	return d, opens(t, "a disk with a store", d, most, old)
}

// 10.1: an empty disk has an empty store; only the log is made.
func TestOpenEmpty(t *testing.T) {
	for _, most := range []int{math.MinInt, -1, 0, 1, 1000, math.MaxInt} {
		d := disk.New(api.Plan{})
		opens(t, "an empty disk", d, most, nil)
		holds(t, "an empty disk", d, "log", "")
		opens(t, "an empty log", d, most, nil)
		holds(t, "an empty log", d, "log", "")
		if d.Calls() != 3 {
			t.Errorf("two Opens made %d calls, want Create, Sync and Sync", d.Calls())
		}
	}
}

// 10.1: the map is the snapshot after all batches of the log; Open makes no checkpoint, however long the log is.
func TestOpen(t *testing.T) {
	for i, c := range []struct {
		snapshot []api.Pair
		log      [][]api.Op
		want     []api.Pair
	}{
		{old, nil, old},
		{nil, nil, nil},
		{pairs("", ""), nil, pairs("", "")},
		{nil, [][]api.Op{one}, pairs("a", "1")},
		{nil, [][]api.Op{one, two}, pairs("bb", "22")},
		{nil, [][]api.Op{two, one}, pairs("a", "1", "bb", "22")},
		{old, [][]api.Op{empty}, old},
		{old, [][]api.Op{one, one, one}, old},
		{old, [][]api.Op{{put("a", "2")}, {put("c", "3"), put("", "0")}}, pairs("", "0", "a", "2", "b", "", "c", "3")},
		{old, [][]api.Op{{del("a"), del("b"), del("c")}}, nil},
		{old, [][]api.Op{{put("a", "2"), del("a"), del("b"), put("b", "3")}}, pairs("b", "3")},
		{old, [][]api.Op{{put("a", "2")}, {del("a")}, {put("a", "3")}}, pairs("a", "3", "b", "")},
		{old, [][]api.Op{three, empty, two}, pairs("", "", "b", "", "bb", "22")},
	} {
		for _, most := range []int{-7, 0, 1, 1000} {
			what := fmt.Sprint("disk ", i, ", most ", most)
			d := holding(api.Plan{}, "log", records(c.log...), "snap", encoded(c.snapshot))
			for range 2 {
				opens(t, what, d, most, c.want)
				holds(t, what, d, "log", records(c.log...), "snap", encoded(c.snapshot))
			}
			if d.Calls() != 2 {
				t.Errorf("%s: two Opens made %d calls, want two Syncs", what, d.Calls())
			}
			if len(c.snapshot) == 0 {
				d := holding(api.Plan{}, "log", records(c.log...))
				opens(t, what+", no snapshot", d, most, c.want)
				holds(t, what+", no snapshot", d, "log", records(c.log...))
			}
		}
	}
	d := holding(api.Plan{}, "snap", encoded(old), "tmp", encoded(pairs("c", "3")))
	opens(t, "no log, but a draft", d, 0, old)
	holds(t, "no log, but a draft", d, "log", "", "snap", encoded(old), "tmp", encoded(pairs("c", "3")))
}

// 10.1: what follows the last complete batch of the log is none of the map.
func TestOpenTail(t *testing.T) {
	next := records([]api.Op{put("b", "2"), del("a")})
	for n := range len(next) {
		what := fmt.Sprint("a log cut short, ", n)
		d := holding(api.Plan{Cap: room}, "log", records(two)+next[:n], "snap", encoded(old))
		s := opens(t, what, d, 1000, pairs("b", "", "bb", "22"))
		holds(t, what, d, "log", records(two), "snap", encoded(old))
		s.Commit(one)
		opens(t, what+", a batch later", d, 1000, pairs("a", "1", "b", "", "bb", "22"))
	}
}

// 10.1: the errors of the snapshot, which come ahead of those of the log; the example of the chapter.
func TestOpenSnapshotErrors(t *testing.T) {
	refuses(t, "a nil disk", nil, api.ErrNone)
	d := holding(api.Plan{Crash: 1}, "log", records(one), "snap", encoded(old)+"x")
	d.Create("other")
	refuses(t, "a disk that is down", d, api.ErrCrash)
	for i, b := range []string{
		encoded(old) + "x", "", "x", encoded(old)[1:], list("a", "1"), encoded(pairs("b", "1", "a", "2")), records(one),
		encoded(pairs("a", "1", "a", "1")), record(list("a")),
	} {
		what := fmt.Sprint("bytes ", i)
		for _, p := range []api.Plan{{}, {Fail: []int{1}}, {Crash: 1}} {
			d := holding(p, "snap", b)
			refuses(t, what, d, api.ErrForm)
			holds(t, what, d, "snap", b)
			d = holding(p, "log", records(one)+"x", "snap", b)
			refuses(t, what+" beside a log", d, api.ErrForm)
			holds(t, what+" beside a log", d, "log", records(one)+"x", "snap", b)
		}
	}
}

// 10.1: the errors of the log.
func TestOpenLogErrors(t *testing.T) {
	open := func(p api.Plan, want api.Errno, calls int, files ...string) {
		t.Helper()
		what := fmt.Sprintf("plan %+v", p)
		d := holding(p, files...)
		if s, e := store.Open(d, 0); s != nil || e != want || d.Calls() != calls {
			t.Errorf("%s: Open returned %p, error %d after %d calls, want error %d", what, s, e, d.Calls(), want)
		}
		d.Restart(api.Plan{})
		opens(t, what+", and once more", d, 0, old)
	}
	for n := 1; n <= 2; n++ {
		open(api.Plan{Fail: []int{n}}, api.ErrIo, n, "snap", encoded(old))
		open(api.Plan{Fail: []int{n}}, api.ErrIo, n, "log", "rest", "snap", encoded(old))
		for _, done := range []bool{false, true} {
			open(api.Plan{Crash: n, Done: done}, api.ErrCrash, n, "snap", encoded(old))
			open(api.Plan{Crash: n, Done: done}, api.ErrCrash, n, "log", "rest", "snap", encoded(old))
		}
	}
}

// 10.1: Get and All on a map of many keys, of which many share a bucket.
func TestGetAll(t *testing.T) {
	d := disk.New(api.Plan{Cap: room})
	s := opens(t, "an empty disk", d, 50000, nil)
	var want []api.Pair
	for i := range 300 {
		var l []api.Op
		for k := range 5 {
			l = append(l, put(fmt.Sprint("k", (i*37+k)%500), fmt.Sprint(i)))
		}
		l = append(l, del(fmt.Sprint("k", (i*41)%500)), put(strings.Repeat("\xff", i%7), strconv.Itoa(-i)))
		if e := s.Commit(l); e != api.OK {
			t.Fatalf("batch %d: error %d", i, e)
		}
		want = after(want, l)
		has(t, fmt.Sprint("batch ", i), s, want)
	}
	opens(t, "opened again", d, 50000, want)
}

// 10.1: the examples of Get and All.
func TestExamples(t *testing.T) {
	s := opens(t, "an empty disk", disk.New(api.Plan{Cap: room}), 1000, nil)
	s.Commit([]api.Op{put("a", "1")})
	s.Commit([]api.Op{put("c", ""), put("b", "3")})
	s.Commit([]api.Op{del("a")})
	if v, ok := s.Get("a"); v != "" || ok {
		t.Errorf("Get of a deleted key returned %q, %v", v, ok)
	}
	if v, ok := s.Get("c"); v != "" || !ok {
		t.Errorf("Get of a key with the empty value returned %q, %v", v, ok)
	}
	has(t, "the example of All", s, pairs("b", "3", "c", ""))
}

// 10.2: each batch is at the end of the log, synced, and in the map; a crash after it takes nothing away.
func TestCommit(t *testing.T) {
	d := disk.New(api.Plan{Cap: room})
	s := opens(t, "an empty disk", d, room, nil)
	var done [][]api.Op
	calls := 2
	for i, l := range [][]api.Op{one, two, empty, three, nil, long(0), one, {del("none")}, slices.Repeat(two, 500)} {
		what := fmt.Sprint("batch ", i)
		e := s.Commit(l)
		done = append(done, l)
		calls += 2
		ends(t, what, e, api.OK, d, calls, s, after(nil, done...), false)
		holds(t, what, d, "log", records(done...))
		d.Restart(api.Plan{Cap: room})
		calls = 0
		holds(t, what+" after a restart", d, "log", records(done...))
	}
	opens(t, "the batches", d, 0, after(nil, done...))
}

// 10.2: the example of the chapter: a batch, a crash at the next call, and the store opened again.
func TestCommitCrash(t *testing.T) {
	d := disk.New(api.Plan{Cap: room, Crash: 5})
	s := opens(t, "an empty disk", d, 1000, nil)
	s.Commit(one)
	ends(t, "a crash", s.Commit(two), api.ErrCrash, d, 5, s, pairs("a", "1"), true)
	d.Restart(api.Plan{Cap: room})
	opens(t, "after the crash", d, 1000, pairs("a", "1"))
}

// 10.2: the errors of a batch come ahead of those of the disk; nothing is written and nothing of it is applied.
func TestCommitWrong(t *testing.T) {
	for _, most := range []int{0, 1000} {
		d, s := begun(t, api.Plan{Cap: room, Crash: 2}, most)
		for i, l := range wrong {
			ends(t, fmt.Sprint("wrong batch ", i), s.Commit(l), api.ErrArg, d, 1, s, old, false)
		}
		ends(t, "wrong and too long", s.Commit(append(long(1), wrong[0]...)), api.ErrArg, d, 1, s, old, false)
		ends(t, "too long", s.Commit(long(1)), api.ErrLong, d, 1, s, old, false)
		holds(t, "wrong batches", d, "log", records(one), "snap", encoded(old))
	}
}

// 10.2: with an error of the disk the map does not change, and there is no checkpoint.
func TestCommitFails(t *testing.T) {
	for _, c := range []struct {
		what  string
		plan  api.Plan
		want  api.Errno
		calls int
		sick  bool
	}{
		{"Append fails", api.Plan{Cap: room, Fail: []int{2}}, api.ErrIo, 3, false},
		{"Sync fails", api.Plan{Cap: room, Fail: []int{3}}, api.ErrIo, 4, false},
		{"a full disk", api.Plan{}, api.ErrFull, 3, false},
		{"Append and Cut fail", api.Plan{Cap: room, Fail: []int{2, 3}}, api.ErrIo, 3, true},
		{"Sync and Cut fail", api.Plan{Cap: room, Fail: []int{3, 4}}, api.ErrIo, 4, true},
		{"a full disk, and Cut fails", api.Plan{Fail: []int{3}}, api.ErrFull, 3, true},
		{"Append crashes", api.Plan{Cap: room, Crash: 2}, api.ErrCrash, 2, true},
		{"Append is done and crashes", api.Plan{Cap: room, Crash: 2, Done: true}, api.ErrCrash, 2, true},
		{"Sync crashes", api.Plan{Cap: room, Crash: 3}, api.ErrCrash, 3, true},
		{"Sync is done and crashes", api.Plan{Cap: room, Crash: 3, Done: true}, api.ErrCrash, 3, true},
		{"Append fails, Cut crashes", api.Plan{Cap: room, Fail: []int{2}, Crash: 3}, api.ErrIo, 3, true},
	} {
		for _, most := range []int{0, 1000} {
			d, s := begun(t, c.plan, most)
			ends(t, c.what, s.Commit(two), c.want, d, c.calls, s, old, c.sick)
			if c.sick {
				staysSick(t, c.what, d, s)
				continue
			}
			holds(t, c.what, d, "log", records(one), "snap", encoded(old))
			d.Restart(api.Plan{Cap: room})
			if e := s.Commit(three); e != api.OK {
				t.Errorf("%s: the next Commit returned error %d", c.what, e)
			}
			has(t, c.what, s, after(old, three))
			opens(t, c.what, d, most, after(old, three))
		}
	}
}

// staysSick checks that nothing but opening it anew makes a sick store well, not even a restart of the disk; and that
// ErrSick comes ahead of all other errors.
func staysSick(t *testing.T, what string, d *disk.Disk, s *store.Store) {
	t.Helper()
	calls, l := d.Calls(), s.All()
	for range 2 {
		before := d.Files()
		for _, b := range slices.Concat([][]api.Op{one, empty, long(1)}, wrong) {
			ends(t, what+", Commit of a sick store", s.Commit(b), api.ErrSick, d, calls, s, l, true)
		}
		ends(t, what+", Check of a sick store", s.Check(), api.ErrSick, d, calls, s, l, true)
		if got := d.Files(); shown(got) != shown(before) {
			t.Errorf("%s: a sick store was written: %s, before %s", what, shown(got), shown(before))
		}
		d.Restart(api.Plan{Cap: room})
		calls = 0
	}
	fresh, e := store.Open(d, 0)
	if e != api.OK || fresh.Sick() || fresh.Commit(one) != api.OK || fresh.Check() != api.OK || !s.Sick() {
		t.Errorf("%s: opening it anew: error %d, sick %v, and %v before", what, e, fresh.Sick(), s.Sick())
	}
}

// 10.2: a checkpoint follows when the log's Size is greater than most, and not when they are equal.
func TestCommitChecks(t *testing.T) {
	size := len(records(one))
	for _, c := range []struct {
		most    int
		batches [][]api.Op
		at      int // of which batches the last one brings on a checkpoint
	}{
		{-1, [][]api.Op{one}, 1},
		{math.MinInt, [][]api.Op{one}, 1},
		{0, [][]api.Op{one}, 1},
		{0, [][]api.Op{empty}, 1},
		{-5, [][]api.Op{nil}, 1},
		{size - 1, [][]api.Op{one}, 1},
		{size, [][]api.Op{one, one}, 2},
		{size, [][]api.Op{one, empty}, 2},
		{2*size - 1, [][]api.Op{one, one}, 2},
		{2 * size, [][]api.Op{one, one, two}, 3},
		{len(records(three, two)), [][]api.Op{three, two, empty}, 3},
		{len(records(three, two, empty)) - 1, [][]api.Op{three, two, empty}, 3},
		{len(records(three, two, empty)), [][]api.Op{three, two, empty}, 0},
		{math.MaxInt, [][]api.Op{one, two, three, slices.Repeat(two, 500)}, 0},
	} {
		what := fmt.Sprint("most ", c.most, ", batches ", len(c.batches))
		d := disk.New(api.Plan{Cap: room})
		s := opens(t, what, d, c.most, nil)
		for i, l := range c.batches {
			d.Restart(api.Plan{Cap: room})
			done := c.batches[:i+1]
			if i+1 != c.at {
				ends(t, what, s.Commit(l), api.OK, d, 2, s, after(nil, done...), false)
				holds(t, what, d, "log", records(done...))
				continue
			}
			ends(t, what, s.Commit(l), api.OK, d, 7, s, after(nil, done...), false)
			holds(t, what, d, "log", "", "snap", encoded(after(nil, done...)))
		}
		opens(t, what, d, c.most, after(nil, c.batches...))
	}
}

// 10.2: the log's Size counts what was in it when it was opened, and after a checkpoint it begins anew.
func TestCommitChecksAgain(t *testing.T) {
	size := len(records(one))
	d := holding(api.Plan{Cap: room}, "log", records(one, one))
	s := opens(t, "a log of two", d, 3*size, pairs("a", "1"))
	for i, calls := range []int{3, 10, 12, 14, 16, 23, 25} {
		what := fmt.Sprint("Commit ", i)
		ends(t, what, s.Commit(one), api.OK, d, calls, s, pairs("a", "1"), false)
		if logged := []int{3, 0, 1, 2, 3, 0, 1}[i]; i == 0 {
			holds(t, what, d, "log", records(one, one, one))
		} else {
			holds(t, what, d, "log", records(slices.Repeat([][]api.Op{one}, logged)...), "snap", encoded(pairs("a", "1")))
		}
	}
}

// checked are the files ahead of each call of a checkpoint of the map l over the snapshot old and a log with these
// bytes, and behind the last one: Save with four calls, then Reset.
func checked(log string, l []api.Pair) [][]string {
	before, fresh := encoded(old), encoded(l)
	return [][]string{
		{"log", log, "snap", before},
		{"log", log, "snap", before, "tmp", ""},
		{"log", log, "snap", before, "tmp", fresh},
		{"log", log, "snap", before, "tmp", fresh},
		{"log", log, "snap", fresh},
		{"log", "", "snap", fresh},
	}
}

// 10.2: the error of a checkpoint is not returned, the batch is committed, and the next Commit tries it again.
func TestCommitCheckFails(t *testing.T) {
	l := after(old, two)
	all := checked(records(one, two), l)
	for n := range 5 {
		for _, p := range []api.Plan{
			{Cap: room, Fail: []int{4 + n}}, {Cap: room, Crash: 4 + n}, {Cap: room, Crash: 4 + n, Done: true},
		} {
			what := fmt.Sprintf("plan %+v", p)
			d, s := begun(t, p, 0)
			sick := n == 4 && p.Crash != 0
			ends(t, what, s.Commit(two), api.OK, d, 4+n, s, l, sick)
			left := all[n]
			if p.Done {
				left = all[n+1]
			}
			holds(t, what, d, left...)
			d.Restart(api.Plan{Cap: room})
			opens(t, what, d, 0, l)
			if sick {
				staysSick(t, what, d, s)
				continue
			}
			if e := s.Commit(three); e != api.OK {
				t.Errorf("%s: the next Commit returned error %d", what, e)
			}
			has(t, what, s, after(l, three))
			holds(t, what+", the next Commit", d, "log", "", "snap", encoded(after(l, three)))
		}
	}
}

// 10.2: a map that is too long for a snapshot stays in the log.
func TestCommitCheckTooLong(t *testing.T) {
	d := disk.New(api.Plan{Cap: room})
	s := opens(t, "an empty disk", d, 0, nil)
	half := strings.Repeat("v", api.MaxFrame/2-10)
	s.Commit([]api.Op{put("a", half)})
	holds(t, "half of it", d, "log", "", "snap", encoded(pairs("a", half)))
	b := []api.Op{put("b", half)}
	ends(t, "all of it", s.Commit(b), api.OK, d, 11, s, pairs("a", half, "b", half), false)
	ends(t, "all of it", s.Check(), api.ErrLong, d, 11, s, pairs("a", half, "b", half), false)
	holds(t, "all of it", d, "log", records(b), "snap", encoded(pairs("a", half)))
	s = opens(t, "all of it", d, 0, pairs("a", half, "b", half))
	s.Commit([]api.Op{del("a")})
	holds(t, "the other half", d, "log", "", "snap", encoded(pairs("b", half)))
	opens(t, "the other half", d, 0, pairs("b", half))
}

// 10.3: Check saves the map and resets the log, with five calls; the example of the chapter.
func TestCheck(t *testing.T) {
	d := disk.New(api.Plan{Cap: room})
	s := opens(t, "an empty disk", d, room, nil)
	ends(t, "an empty map", s.Check(), api.OK, d, 7, s, nil, false)
	holds(t, "an empty map", d, "log", "", "snap", encoded(nil))
	var done [][]api.Op
	for i, l := range [][]api.Op{one, two, empty, three, {del(""), del("a"), del("bb")}, one} {
		what := fmt.Sprint("batch ", i)
		d.Restart(api.Plan{Cap: room})
		done = append(done, l)
		s.Commit(l)
		for n := range 2 {
			ends(t, what, s.Check(), api.OK, d, 2+5*(n+1), s, after(nil, done...), false)
			holds(t, what, d, "log", "", "snap", encoded(after(nil, done...)))
		}
		// What a checkpoint leaves outlasts a crash that keeps nothing.
		d.Restart(api.Plan{Cap: room})
		holds(t, what+" after a restart", d, "log", "", "snap", encoded(after(nil, done...)))
		opens(t, what, d, room, after(nil, done...))
	}
}

// 10.3: a Check of a store that was opened, beside other files; what a Save before has left goes first.
func TestCheckBesideFiles(t *testing.T) {
	d := holding(api.Plan{Cap: room}, "log", records(two)+"rest", "other", "x", "snap", encoded(old), "tmp", "left")
	s := opens(t, "a disk with files", d, 0, pairs("b", "", "bb", "22"))
	ends(t, "a disk with files", s.Check(), api.OK, d, 8, s, pairs("b", "", "bb", "22"), false)
	holds(t, "a disk with files", d, "log", "", "other", "x", "snap", encoded(pairs("b", "", "bb", "22")))
}

// 10.3: the errors of Save, after which the log is not reset, and that of Reset; no call is made after one that fails.
func TestCheckFails(t *testing.T) {
	l := after(old, two)
	all := checked(records(one, two), l)
	for n := range 5 {
		for _, p := range []api.Plan{
			{Cap: room, Fail: []int{4 + n}}, {Cap: room, Crash: 4 + n}, {Cap: room, Crash: 4 + n, Done: true},
		} {
			what := fmt.Sprintf("plan %+v", p)
			d, s := begun(t, p, room)
			s.Commit(two)
			want := api.ErrIo
			if p.Crash != 0 {
				want = api.ErrCrash
			}
			sick := n == 4 && p.Crash != 0
			ends(t, what, s.Check(), want, d, 4+n, s, l, sick)
			left := all[n]
			if p.Done {
				left = all[n+1]
			}
			holds(t, what, d, left...)
			if !sick && p.Crash != 0 {
				ends(t, what+", a disk that is down", s.Check(), api.ErrCrash, d, 4+n, s, l, false)
			}
			d.Restart(api.Plan{Cap: room})
			opens(t, what, d, room, l)
			if sick {
				staysSick(t, what, d, s)
				continue
			}
			if e := s.Check(); e != api.OK {
				t.Errorf("%s: the next Check returned error %d", what, e)
			}
			holds(t, what+", the next Check", d, "log", "", "snap", encoded(l))
		}
	}
}

// 10.3: other errors of Save and of Reset.
func TestCheckErrors(t *testing.T) {
	d, s := begun(t, api.Plan{Cap: len(records(one)) + len(encoded(old))}, room)
	ends(t, "a full disk", s.Check(), api.ErrFull, d, 3, s, old, false)
	holds(t, "a full disk", d, "log", records(one), "snap", encoded(old), "tmp", "")
	d, s = begun(t, api.Plan{Cap: room}, room)
	d.Remove("log")
	ends(t, "a log that is gone", s.Check(), api.ErrNone, d, 7, s, old, false)
	holds(t, "a log that is gone", d, "snap", encoded(old))
}

// 10.3: a nil store.
func TestNil(t *testing.T) {
	var s *store.Store
	for _, l := range [][]api.Op{nil, one, wrong[0], long(1)} {
		if e := s.Commit(l); e != api.ErrNone {
			t.Errorf("Commit of a nil store: error %d", e)
		}
	}
	if e := s.Check(); e != api.ErrNone || s.Sick() {
		t.Errorf("a nil store: Check returned error %d, sick %v", e, s.Sick())
	}
	has(t, "a nil store", s, nil)
}

// R1: a store that Open has not made is on no disk, and does not panic either.
func TestZero(t *testing.T) {
	s := &store.Store{}
	if e := s.Commit(one); e != api.ErrNone || s.Sick() {
		t.Errorf("Commit of a store without a disk: error %d, sick %v", e, s.Sick())
	}
	if e := s.Check(); e != api.ErrNone || s.Sick() {
		t.Errorf("Check of a store without a disk: error %d, sick %v", e, s.Sick())
	}
	has(t, "a store without a disk", s, nil)
}

// R3: a batch is neither changed nor kept.
func TestArguments(t *testing.T) {
	for _, most := range []int{0, 1000} {
		d := disk.New(api.Plan{Cap: room})
		s := opens(t, "an empty disk", d, most, nil)
		l := append(make([]api.Op, 0, 9), two...)
		s.Commit(l)
		if !slices.Equal(l[:3], append(slices.Clone(two), api.Op{})) {
			t.Errorf("Commit changed its argument to %v", l[:3])
		}
		for i := range l {
			l[i] = put("x", "y")
		}
		has(t, "after a change of the argument", s, pairs("bb", "22"))
		s.Commit(one)
		opens(t, "after a change of the argument", d, most, pairs("a", "1", "bb", "22"))
	}
}

// R3: writing into the list that All returns, or appending to it, changes nothing else.
func TestResults(t *testing.T) {
	d, s := begun(t, api.Plan{Cap: room}, 1000)
	s.Commit(three)
	want := after(old, three)
	first, second := s.All(), s.All()
	first = first[:cap(first)]
	for i := range first {
		first[i] = api.Pair{Key: "x", Value: "y"}
	}
	if !slices.Equal(second, want) {
		t.Errorf("two results share memory: %s", shown(second))
	}
	has(t, "after writing into a result", s, want)
	s.Commit(two)
	if !slices.Equal(second, want) {
		t.Errorf("a Commit changed a result: %s", shown(second))
	}
	s.Check()
	holds(t, "after writing into a result", d, "log", "", "snap", encoded(after(want, two)))
}

// R5: two stores on two disks do not affect each other, and the same calls on both return the same.
func TestTwo(t *testing.T) {
	d, s := begun(t, api.Plan{Cap: room}, 1000)
	other, v := begun(t, api.Plan{Cap: room, Fail: []int{4, 5}}, 1000)
	for _, x := range []*store.Store{s, v} {
		if e := x.Commit(three); e != api.OK {
			t.Errorf("the same call on both: error %d", e)
		}
		has(t, "the same call on both", x, after(old, three))
	}
	ends(t, "the one store", v.Commit(two), api.ErrIo, other, 5, v, after(old, three), true)
	ends(t, "the other store", s.Commit(two), api.OK, d, 5, s, after(old, three, two), false)
	ends(t, "the other store", s.Check(), api.OK, d, 10, s, after(old, three, two), false)
	holds(t, "the one store", other, "log", records(one, three), "snap", encoded(old))
}
