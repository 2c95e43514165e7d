package disk_test

import (
	"fmt"
	"math"
	"reflect"
	"testing"

	"aquifer/api"
	"aquifer/disk"
)

// show tells what a disk holds: of each file its name, bytes and how many of them are synced.
func show(d *disk.Disk) string {
	s := ""
	for _, f := range d.Files() {
		s += fmt.Sprintf("%s=%s/%d ", f.Name, f.Bytes, f.Synced)
	}
	return s
}

func want(t *testing.T, what string, got, wanted api.Errno) {
	t.Helper()
	if got != wanted {
		t.Errorf("%s: error %d, want %d", what, got, wanted)
	}
}

func holds(t *testing.T, what string, d *disk.Disk, wanted string) {
	t.Helper()
	if got := show(d); got != wanted {
		t.Errorf("%s: the disk holds %q, want %q", what, got, wanted)
	}
}

// call is a writing call with its arguments.
type call struct {
	name string
	make func(d *disk.Disk) api.Errno
}

func create(name string) call {
	return call{"Create " + name, func(d *disk.Disk) api.Errno { return d.Create(name) }}
}

func add(name, b string) call {
	return call{"Append " + name, func(d *disk.Disk) api.Errno { return d.Append(name, []byte(b)) }}
}

func sync(name string) call {
	return call{"Sync " + name, func(d *disk.Disk) api.Errno { return d.Sync(name) }}
}

func cut(name string, n int) call {
	return call{fmt.Sprint("Cut ", name, " ", n), func(d *disk.Disk) api.Errno { return d.Cut(name, n) }}
}

func rename(from, to string) call {
	return call{"Rename " + from + " " + to, func(d *disk.Disk) api.Errno { return d.Rename(from, to) }}
}

func remove(name string) call {
	return call{"Remove " + name, func(d *disk.Disk) api.Errno { return d.Remove(name) }}
}

// ready are four calls: a holds "abcd", of which "ab" is synced, and b is not there.
func ready() []call {
	return []call{create("a"), add("a", "ab"), sync("a"), add("a", "cd")}
}

// eachKind are a call of each kind, behind ready, with what the disk holds when it is carried out.
func eachKind() []struct {
	call
	done string
} {
	return []struct {
		call
		done string
	}{
		{create("b"), "a=abcd/2 b=/0 "},
		{add("a", "e"), "a=abcde/2 "},
		{sync("a"), "a=abcd/4 "},
		{cut("a", 1), "a=a/1 "},
		{rename("a", "c"), "c=abcd/2 "},
		{remove("a"), ""},
	}
}

// wrong are calls that return an error behind ready with Cap 6, with this error.
func wrong() []struct {
	call
	err api.Errno
} {
	return []struct {
		call
		err api.Errno
	}{
		{create(""), api.ErrArg},
		{create("a"), api.ErrTwice},
		{add("x", ""), api.ErrNone},
		{add("x", "1234567"), api.ErrNone},
		{add("", "1"), api.ErrNone},
		{add("a", "123"), api.ErrFull},
		{sync("x"), api.ErrNone},
		{sync(""), api.ErrNone},
		{cut("x", 0), api.ErrNone},
		{cut("x", -1), api.ErrNone},
		{cut("a", -1), api.ErrArg},
		{cut("a", 5), api.ErrArg},
		{cut("a", math.MinInt), api.ErrArg},
		{cut("a", math.MaxInt), api.ErrArg},
		{rename("x", "y"), api.ErrNone},
		{rename("x", "x"), api.ErrNone},
		{rename("x", ""), api.ErrNone},
		{rename("", ""), api.ErrNone},
		{rename("a", ""), api.ErrArg},
		{remove("x"), api.ErrNone},
		{remove(""), api.ErrNone},
	}
}

func begin(p api.Plan) *disk.Disk {
	d := disk.New(p)
	for _, c := range ready() {
		c.make(d)
	}
	return d
}

// 1.1: a new disk.
func TestNew(t *testing.T) {
	d := disk.New(api.Plan{Cap: 9})
	if len(d.Files()) != 0 || d.Calls() != 0 || d.Down() {
		t.Errorf("New: %q, %d calls, down %v", show(d), d.Calls(), d.Down())
	}
	want(t, "Append on a new disk", d.Append("a", nil), api.ErrNone)
	if d.Calls() != 1 {
		t.Errorf("a call that returns ErrNone: %d calls, want 1", d.Calls())
	}
}

// 1.1: the calls of Fail.
func TestFail(t *testing.T) {
	d := disk.New(api.Plan{Cap: 9, Fail: []int{2}})
	want(t, "Create", d.Create("a"), api.OK)
	want(t, "Append in Fail", d.Append("a", []byte("x")), api.ErrIo)
	holds(t, "Append in Fail", d, "a=/0 ")
	want(t, "second Append", d.Append("a", []byte("y")), api.OK)
	holds(t, "second Append", d, "a=y/0 ")
	for _, c := range eachKind() {
		d := begin(api.Plan{Cap: 9, Fail: []int{5}})
		want(t, c.name, c.make(d), api.ErrIo)
		holds(t, c.name, d, "a=abcd/2 ")
		if d.Down() || d.Calls() != 5 {
			t.Errorf("%s: down %v, %d calls, want 5", c.name, d.Down(), d.Calls())
		}
		want(t, c.name+" again", c.make(d), api.OK)
		holds(t, c.name+" again", d, c.done)
	}
	for _, c := range wrong() {
		want(t, c.name+" in Fail", c.make(begin(api.Plan{Cap: 6, Fail: []int{5}})), api.ErrIo)
	}
}

// 1.1: Fail is a set, in any order.
func TestFailInAnyOrder(t *testing.T) {
	d := disk.New(api.Plan{Fail: []int{7, -1, 3, math.MaxInt, 1, 3, 0, math.MinInt, 6}})
	for i, e := range []api.Errno{api.ErrIo, api.OK, api.ErrIo, api.ErrTwice, api.ErrTwice, api.ErrIo, api.ErrIo, api.ErrTwice} {
		want(t, fmt.Sprint("call ", i+1), d.Create("a"), e)
	}
}

// 1.1: the call at which the disk crashes, and the calls after it.
func TestCrash(t *testing.T) {
	for _, fail := range [][]int{nil, {5}} {
		for _, c := range eachKind() {
			for _, done := range []bool{false, true} {
				what := fmt.Sprint(c.name, ", Done ", done, ", Fail ", fail)
				d := begin(api.Plan{Cap: 9, Crash: 5, Done: done, Fail: fail})
				if d.Down() {
					t.Errorf("%s: down ahead of the crash", what)
				}
				want(t, what, c.make(d), api.ErrCrash)
				left := "a=abcd/2 "
				if done {
					left = c.done
				}
				holds(t, what, d, left)
				for _, next := range eachKind() {
					want(t, next.name+" of a disk that is down", next.make(d), api.ErrCrash)
				}
				holds(t, what+", down", d, left)
				if !d.Down() || d.Calls() != 5 {
					t.Errorf("%s: down %v, %d calls, want 5", what, d.Down(), d.Calls())
				}
			}
		}
	}
}

// 1.1: at the crash a call has no effect if it would have returned an error.
func TestCrashOfWrongCalls(t *testing.T) {
	for _, c := range wrong() {
		d := begin(api.Plan{Cap: 6, Crash: 5, Done: true})
		want(t, c.name, c.make(d), api.ErrCrash)
		holds(t, c.name, d, "a=abcd/2 ")
	}
}

// 1.1: a Crash that no call's number is equal to.
func TestNoCrash(t *testing.T) {
	for _, crash := range []int{0, -1, math.MinInt, math.MaxInt, 6} {
		d := begin(api.Plan{Cap: 9, Crash: crash, Done: true})
		want(t, "Sync", d.Sync("a"), api.OK)
		if d.Down() {
			t.Errorf("Crash %d: down after five calls", crash)
		}
	}
}

// 1.2: each call that is carried out.
func TestCarriedOut(t *testing.T) {
	for _, c := range eachKind() {
		d := begin(api.Plan{Cap: 9})
		want(t, c.name, c.make(d), api.OK)
		holds(t, c.name, d, c.done)
		if d.Calls() != 5 {
			t.Errorf("%s: %d calls, want 5", c.name, d.Calls())
		}
	}
}

// 1.2, 1.3: a call that returns an error has no effect, but is counted.
func TestWrongCalls(t *testing.T) {
	for _, c := range wrong() {
		d := begin(api.Plan{Cap: 6})
		want(t, c.name, c.make(d), c.err)
		holds(t, c.name, d, "a=abcd/2 ")
		if d.Calls() != 5 || d.Down() {
			t.Errorf("%s: %d calls, want 5; down %v", c.name, d.Calls(), d.Down())
		}
	}
}

// 1.2: a name can be used again.
func TestCreate(t *testing.T) {
	d := disk.New(api.Plan{Cap: 9})
	want(t, "Create", d.Create("b"), api.OK)
	want(t, "a second Create", d.Create("b"), api.ErrTwice)
	d.Append("b", []byte("x"))
	want(t, "Remove", d.Remove("b"), api.OK)
	want(t, "a second Remove", d.Remove("b"), api.ErrNone)
	want(t, "Create after Remove", d.Create("b"), api.OK)
	holds(t, "Create after Remove", d, "b=/0 ")
	want(t, "Create of a name of any bytes", d.Create("\x00\xff/ "), api.OK)
}

// 1.2: Cap bounds the bytes of all files together.
func TestCap(t *testing.T) {
	d := disk.New(api.Plan{Cap: 10})
	d.Create("a")
	d.Create("b")
	want(t, "Append of seven", d.Append("a", []byte("1234567")), api.OK)
	want(t, "Append of four", d.Append("b", []byte("abcd")), api.ErrFull)
	want(t, "Append of three", d.Append("b", []byte("abc")), api.OK)
	want(t, "Append of one", d.Append("b", []byte("x")), api.ErrFull)
	want(t, "Append of none", d.Append("b", nil), api.OK)
	d.Cut("a", 6)
	want(t, "after Cut", d.Append("b", []byte("x")), api.OK)
	want(t, "after Cut, full", d.Append("b", []byte("x")), api.ErrFull)
	d.Rename("b", "a")
	want(t, "after Rename", d.Append("a", []byte("123456")), api.OK)
	want(t, "after Rename, full", d.Append("a", []byte("x")), api.ErrFull)
	d.Remove("a")
	d.Create("a")
	want(t, "after Remove", d.Append("a", []byte("0123456789")), api.OK)
	want(t, "after Remove, full", d.Append("a", []byte("x")), api.ErrFull)
	d.Restart(api.Plan{Cap: 3})
	d.Append("a", []byte("123"))
	holds(t, "after Restart", d, "a=123/0 ")
	want(t, "after Restart, full", d.Append("a", []byte("x")), api.ErrFull)
	less := disk.New(api.Plan{Cap: -1})
	less.Create("a")
	want(t, "no bytes are more than -1", less.Append("a", nil), api.ErrFull)
}

// 1.2: whatever comes ahead of it, Append is full exactly if the bytes of all files are more than Cap.
func TestCapAfterManyCalls(t *testing.T) {
	d := disk.New(api.Plan{Cap: 40})
	seed := uint32(1)
	next := func(n int) int {
		seed = seed*1664525 + 1013904223
		return int(seed>>8) % n
	}
	for i := range 20000 {
		from, to := string(rune('a'+next(4))), string(rune('a'+next(4)))
		switch next(9) {
		case 0:
			d.Create(from)
		case 1:
			d.Cut(from, next(12))
		case 2:
			d.Rename(from, to)
		case 3:
			d.Remove(from)
		case 4:
			d.Sync(from)
		case 5:
			if next(20) == 0 {
				d.Restart(api.Plan{Cap: 40, Keep: []int{next(9), next(9)}})
			}
		default:
			sum, there, b := 0, false, make([]byte, next(15))
			for _, f := range d.Files() {
				sum += len(f.Bytes)
				there = there || f.Name == from
			}
			e := api.OK
			if !there {
				e = api.ErrNone
			} else if sum+len(b) > 40 {
				e = api.ErrFull
			}
			want(t, fmt.Sprint("step ", i), d.Append(from, b), e)
		}
	}
}

// 1.2: Sync and Cut.
func TestSyncAndCut(t *testing.T) {
	d := disk.New(api.Plan{Cap: 20})
	d.Create("a")
	want(t, "Sync of no bytes", d.Sync("a"), api.OK)
	want(t, "Cut of no bytes", d.Cut("a", 0), api.OK)
	d.Append("a", []byte("12345"))
	holds(t, "Append", d, "a=12345/0 ")
	d.Sync("a")
	holds(t, "Sync", d, "a=12345/5 ")
	d.Append("a", []byte("67"))
	holds(t, "Append after Sync", d, "a=1234567/5 ")
	want(t, "Cut to all", d.Cut("a", 7), api.OK)
	holds(t, "Cut to all", d, "a=1234567/5 ")
	d.Cut("a", 6)
	holds(t, "Cut behind the synced bytes", d, "a=123456/5 ")
	d.Cut("a", 5)
	want(t, "Cut to one more than there is", d.Cut("a", 6), api.ErrArg)
	d.Cut("a", 3)
	holds(t, "Cut of synced bytes", d, "a=123/3 ")
	d.Append("a", []byte("xy"))
	holds(t, "Append after Cut", d, "a=123xy/3 ")
	d.Cut("a", 0)
	holds(t, "Cut to none", d, "a=/0 ")
}

// 1.2: Rename.
func TestRename(t *testing.T) {
	d := begin(api.Plan{Cap: 20})
	d.Create("b")
	d.Append("b", []byte("old"))
	d.Sync("b")
	want(t, "Rename to itself", d.Rename("a", "a"), api.OK)
	holds(t, "Rename to itself", d, "a=abcd/2 b=old/3 ")
	want(t, "Rename to a new name", d.Rename("a", "c"), api.OK)
	holds(t, "Rename to a new name", d, "b=old/3 c=abcd/2 ")
	want(t, "Rename over a file", d.Rename("c", "b"), api.OK)
	holds(t, "Rename over a file", d, "b=abcd/2 ")
	want(t, "Append to the old name", d.Append("c", nil), api.ErrNone)
	want(t, "Append to the new name", d.Append("b", []byte("e")), api.OK)
	want(t, "Create of the old name", d.Create("c"), api.OK)
	holds(t, "Create of the old name", d, "b=abcde/2 c=/0 ")
}

// 1.3: Read.
func TestRead(t *testing.T) {
	d := begin(api.Plan{Cap: 9, Crash: 6})
	b, e := d.Read("a")
	if string(b) != "abcd" || e != api.OK {
		t.Errorf("Read: %q, %d", b, e)
	}
	d.Create("b")
	if b, e := d.Read("b"); len(b) != 0 || e != api.OK {
		t.Errorf("Read of an empty file: %q, %d", b, e)
	}
	for _, name := range []string{"x", ""} {
		if b, e := d.Read(name); b != nil || e != api.ErrNone {
			t.Errorf("Read of no file: %q, %d", b, e)
		}
	}
	if d.Calls() != 5 {
		t.Errorf("Read is counted: %d calls, want 5", d.Calls())
	}
	d.Sync("a")
	for _, name := range []string{"a", "x"} {
		if b, e := d.Read(name); b != nil || e != api.ErrCrash {
			t.Errorf("Read of a disk that is down: %q, %d", b, e)
		}
	}
	d.Restart(api.Plan{})
	if b, e := d.Read("a"); string(b) != "ab" || e != api.OK {
		t.Errorf("Read after Restart: %q, %d", b, e)
	}
}

// 1.3, R6: Files by ascending names, byte by byte.
func TestFiles(t *testing.T) {
	d := disk.New(api.Plan{Crash: 9})
	for _, name := range []string{"b", "a", "aa", "B", "\xff", "é", "10", "9"} {
		d.Create(name)
	}
	const all = "10=/0 9=/0 B=/0 a=/0 aa=/0 b=/0 é=/0 \xff=/0 "
	holds(t, "Files", d, all)
	d.Remove("a")
	if !d.Down() {
		t.Error("not down after the call Crash")
	}
	holds(t, "Files of a disk that is down", d, all)
}

// 1.3: Calls and Down.
func TestCallsAndDown(t *testing.T) {
	d := disk.New(api.Plan{Cap: 1, Fail: []int{4}, Crash: 5})
	for i, c := range []call{create("a"), add("b", ""), add("a", "xy"), sync("a"), sync("a"), sync("a")} {
		if d.Calls() != min(i, 5) || d.Down() != (i == 5) {
			t.Errorf("ahead of call %d: %d calls, down %v", i+1, d.Calls(), d.Down())
		}
		c.make(d)
		d.Files()
	}
	if d.Calls() != 5 || !d.Down() {
		t.Errorf("a call of a disk that is down: %d calls, want 5; down %v", d.Calls(), d.Down())
	}
	d.Restart(api.Plan{Cap: 1, Crash: 2})
	if d.Calls() != 0 || d.Down() {
		t.Errorf("after Restart: %d calls, down %v", d.Calls(), d.Down())
	}
}

// 1.4: what Restart leaves of one file with two synced and two other bytes.
func TestRestartKeeps(t *testing.T) {
	for _, c := range []struct {
		keep []int
		left string
	}{
		{nil, "a=ab/2 "},
		{[]int{0}, "a=ab/2 "},
		{[]int{1}, "a=abc/3 "},
		{[]int{2}, "a=abcd/4 "},
		{[]int{3}, "a=abcd/4 "},
		{[]int{math.MaxInt}, "a=abcd/4 "},
		{[]int{-1}, "a=ab/2 "},
		{[]int{math.MinInt}, "a=ab/2 "},
		{[]int{1, 1}, "a=abc/3 "},
	} {
		for _, crash := range []int{0, 5} {
			d := begin(api.Plan{Cap: 9, Crash: crash, Keep: c.keep})
			if crash > 0 {
				d.Sync("a")
			}
			d.Restart(api.Plan{Keep: []int{9}})
			holds(t, fmt.Sprint("Keep ", c.keep, ", Crash ", crash), d, c.left)
		}
	}
}

// 1.4: Keep goes by the names that there are at the crash.
func TestRestartByNames(t *testing.T) {
	d := disk.New(api.Plan{Cap: 99, Keep: []int{1, 2}})
	for _, name := range []string{"c", "a", "b", "d"} {
		d.Create(name)
		d.Append(name, []byte("xyz"))
	}
	d.Remove("a")
	d.Rename("d", "a2")
	d.Restart(api.Plan{})
	holds(t, "Restart", d, "a2=x/1 b=xy/2 c=/0 ")
}

// 1.4: the plan after Restart.
func TestRestartPlan(t *testing.T) {
	d := begin(api.Plan{Cap: 99, Fail: []int{5}, Keep: []int{9}})
	d.Restart(api.Plan{Cap: 3, Crash: 3, Fail: []int{2}})
	holds(t, "Restart", d, "a=abcd/4 ")
	want(t, "more than Cap", d.Append("a", nil), api.ErrFull)
	want(t, "Fail", d.Sync("a"), api.ErrIo)
	want(t, "Crash", d.Sync("a"), api.ErrCrash)
	d.Restart(api.Plan{Cap: 99})
	for range 9 {
		want(t, "no Fail, no Crash", d.Append("a", []byte("x")), api.OK)
	}
	d.Restart(api.Plan{})
	holds(t, "no Keep", d, "a=abcd/4 ")
}

// 1.4: a nil disk.
func TestNilDisk(t *testing.T) {
	var d *disk.Disk
	d.Restart(api.Plan{Cap: 9, Crash: 1})
	for _, c := range eachKind() {
		want(t, c.name+" of a nil disk", c.make(d), api.ErrNone)
	}
	for _, c := range wrong() {
		want(t, c.name+" of a nil disk", c.make(d), api.ErrNone)
	}
	if b, e := d.Read("a"); b != nil || e != api.ErrNone {
		t.Errorf("Read of a nil disk: %q, %d", b, e)
	}
	if len(d.Files()) != 0 || d.Calls() != 0 || d.Down() {
		t.Errorf("a nil disk: %q, %d calls, down %v", show(d), d.Calls(), d.Down())
	}
}

// R1: a Disk that New has not made is a disk, too, without files and with an empty plan.
func TestZeroDisk(t *testing.T) {
	var d disk.Disk
	want(t, "Remove", d.Remove("a"), api.ErrNone)
	want(t, "Rename", d.Rename("a", "b"), api.ErrNone)
	want(t, "Create", d.Create("a"), api.OK)
	want(t, "Append", d.Append("a", []byte("x")), api.ErrFull)
	holds(t, "a zero disk", &d, "a=/0 ")
}

// 1.5: wherever the disk crashes and whatever it keeps, the synced bytes are there.
func TestSyncedBytesSurvive(t *testing.T) {
	script := append(ready(), sync("a"), create("b"), add("b", "1"), sync("b"), add("b", "23"), cut("a", 3), add("a", "x"),
		rename("b", "c"), sync("c"), add("c", "4"), create("b"), add("b", "5"), rename("a", "b"), remove("c"))
	for crash := range len(script) + 2 {
		for _, done := range []bool{false, true} {
			for keep := -1; keep < 4; keep++ {
				d := disk.New(api.Plan{Cap: 99, Crash: crash, Done: done, Keep: []int{keep, keep, keep}})
				for _, c := range script {
					c.make(d)
				}
				ahead := d.Files()
				d.Restart(api.Plan{})
				behind := d.Files()
				if len(ahead) != len(behind) {
					t.Fatalf("crash %d: %d files, then %d", crash, len(ahead), len(behind))
				}
				for i, f := range ahead {
					n := min(f.Synced+max(keep, 0), len(f.Bytes))
					left := api.File{Name: f.Name, Bytes: f.Bytes[:n], Synced: n}
					if fmt.Sprint(behind[i]) != fmt.Sprint(left) {
						t.Errorf("crash %d, keep %d: %v, want %v", crash, keep, behind[i], left)
					}
				}
			}
		}
	}
}

// 1.5: a Rename at the crash leaves all of the one state or all of the other.
func TestRenameIsWhole(t *testing.T) {
	for _, done := range []bool{false, true} {
		d := begin(api.Plan{Cap: 99, Crash: 8, Done: done})
		d.Create("b")
		d.Append("b", []byte("old"))
		d.Sync("b")
		want(t, "Rename at the crash", d.Rename("a", "b"), api.ErrCrash)
		d.Restart(api.Plan{})
		left := "a=ab/2 b=old/3 "
		if done {
			left = "b=ab/2 "
		}
		holds(t, fmt.Sprint("Rename at the crash, Done ", done), d, left)
	}
}

// R3: the plan is neither changed nor kept.
func TestPlanIsNotKept(t *testing.T) {
	p := api.Plan{Cap: 99, Fail: []int{8, 5}, Keep: []int{1}}
	spoil := func() {
		if !reflect.DeepEqual(p, api.Plan{Cap: 99, Fail: []int{8, 5}, Keep: []int{1}}) {
			t.Errorf("the plan was changed: %v", p)
		}
		p.Fail[0], p.Fail[1], p.Keep[0] = 1, 2, 0
	}
	d := disk.New(p)
	spoil()
	for _, c := range ready() {
		want(t, c.name, c.make(d), api.OK)
	}
	want(t, "call 5", d.Sync("a"), api.ErrIo)
	p.Fail[0], p.Fail[1], p.Keep[0] = 8, 5, 1
	d.Restart(p)
	spoil()
	holds(t, "Restart", d, "a=abc/3 ")
	for range 4 {
		want(t, "ahead of call 5", d.Append("a", []byte("x")), api.OK)
	}
	want(t, "call 5", d.Sync("a"), api.ErrIo)
	d.Restart(api.Plan{})
	holds(t, "Restart", d, "a=abcx/4 ")
}

// R3: the bytes of an Append are neither changed nor kept.
func TestBytesAreNotKept(t *testing.T) {
	d := disk.New(api.Plan{Cap: 99})
	d.Create("a")
	d.Create("b")
	b := append(make([]byte, 0, 50), "abc"...)
	d.Append("a", b)
	d.Append("b", b)
	d.Append("a", []byte("x"))
	if string(b[:5]) != "abc\x00\x00" {
		t.Errorf("the argument was changed: %q", b[:5])
	}
	copy(b[:5], "zzzzz")
	holds(t, "after a change of the argument", d, "a=abcx/0 b=abc/0 ")
}

// R3: writing into results, or appending to them, changes nothing else.
func TestResultsAreNew(t *testing.T) {
	d := begin(api.Plan{Cap: 99})
	d.Create("b")
	d.Append("b", []byte("abcdefg"))
	d.Cut("b", 4)
	const all = "a=abcd/2 b=abcd/0 "
	first, second := d.Files(), d.Files()
	read, again := readOf(d, "a"), readOf(d, "a")
	for _, b := range [][]byte{first[0].Bytes, first[1].Bytes, read} {
		spoil(b)
	}
	first[0].Name, first[1].Synced = "z", 9
	_ = append(first[:1], api.File{Name: "z"})
	holds(t, "after writing into results", d, all)
	if string(again) != "abcd" {
		t.Errorf("another Read: %q", again)
	}
	if string(second[0].Bytes) != "abcd" || string(second[1].Bytes) != "abcd" || second[0].Name != "a" || second[1].Synced != 0 {
		t.Errorf("other Files: %v", second)
	}
	d.Append("a", []byte("ef"))
	d.Cut("b", 0)
	d.Append("b", []byte("XXXX"))
	if string(again) != "abcd" || string(second[1].Bytes) != "abcd" {
		t.Errorf("results changed by later calls: %q, %v", again, second)
	}
	holds(t, "in the end", d, "a=abcdef/2 b=XXXX/0 ")
}

func readOf(d *disk.Disk, name string) []byte {
	b, _ := d.Read(name)
	return b
}

// spoil writes into all of a slice, its spare capacity too.
func spoil(b []byte) {
	b = b[:cap(b)]
	for i := range b {
		b[i] = 'z'
	}
}

// R5: two disks do not affect each other, and the same calls return the same results.
func TestTwoDisks(t *testing.T) {
	p := api.Plan{Cap: 12, Fail: []int{6}, Crash: 14, Done: true, Keep: []int{1, 2}}
	script := append(ready(), create("b"), sync("a"), sync("a"), add("b", "12345678"), add("b", "123456789"), cut("a", 3),
		rename("a", "c"), remove("x"), create("c"), rename("b", "d"), sync("d"))
	one, two, idle := disk.New(p), disk.New(p), disk.New(p)
	log := func(d *disk.Disk) string {
		s := ""
		for _, c := range script {
			s += fmt.Sprint(c.name, " ", c.make(d), " ", show(d), d.Calls(), d.Down(), "\n")
		}
		d.Restart(api.Plan{})
		return s + show(d)
	}
	if a, b := log(one), log(two); a != b {
		t.Errorf("two disks:\n%s\n\n%s", a, b)
	}
	if len(idle.Files()) != 0 || idle.Calls() != 0 || idle.Down() {
		t.Errorf("a disk without calls: %q, %d calls, down %v", show(idle), idle.Calls(), idle.Down())
	}
	want(t, "a disk without calls", idle.Create("a"), api.OK)
}
