package store_test

import (
	"fmt"
	"slices"
	"strconv"
	"testing"

	"aquifer/api"
	"aquifer/disk"
	"aquifer/store"
)

// life are batches of which each leaves another map than all rows of those before it.
var life = [][]api.Op{
	{put("n", "0"), put("a", "1")},
	{put("n", "1"), del("a"), put("b", "22"), put("c", "")},
	{put("n", "2"), put("a", "333"), put("a", "3")},
	{del("n"), del("b"), put("", "\x00")},
	{put("n", "4"), put("c", "55"), del("c"), put("b", "")},
}

// mosts are one for a checkpoint at every Commit, one for some, and one for none but by Check.
var mosts = []int{-1, 150, room}

// calls is how many writing calls a life makes at most, if nothing fails.
const calls = 2 + 2*5 + 5*6

// live opens the store of d, which has one of some maps, goes through batches, with a checkpoint in between, and returns
// which maps the store may have when it is opened the next time.
func live(t *testing.T, what string, d *disk.Disk, most int, may [][]api.Pair, batches ...[]api.Op) [][]api.Pair {
	t.Helper()
	s, e := store.Open(d, most)
	if e != api.OK {
		return may
	}
	l := s.All()
	if !slices.ContainsFunc(may, func(m []api.Pair) bool { return slices.Equal(l, m) }) {
		t.Fatalf("%s: the map is %s, want one of %s", what, shown(l), shown(may))
	}
	may = [][]api.Pair{l}
	for i, b := range batches {
		if i == 3 {
			s.Check()
		}
		sick := s.Sick()
		switch e := s.Commit(b); {
		case e == api.OK:
			l = after(l, b)
			may = [][]api.Pair{l}
		case !sick && s.Sick():
			// Nothing was written any more after this batch; one that left the log well was cut off.
			may = append(may, after(l, b))
		}
		if got := s.All(); !slices.Equal(got, l) {
			t.Fatalf("%s: after batch %d the map is %s, want %s", what, i, shown(got), shown(l))
		}
	}
	return may
}

// survives checks what a store is after the plan p, also when the disk crashes again at calls of a later Open, or of
// what follows it.
func survives(t *testing.T, p api.Plan, most int) {
	t.Helper()
	what := fmt.Sprintf("plan %+v, most %d", p, most)
	d := disk.New(p)
	may := live(t, what, d, most, [][]api.Pair{nil}, life...)
	for again := 1; again <= 5; again++ {
		d.Restart(api.Plan{Cap: room, Crash: again, Done: p.Done, Keep: p.Keep})
		what := fmt.Sprint(what, ", again ", again)
		may = live(t, what, d, most, may, []api.Op{put("again", strconv.Itoa(again)), del(strconv.Itoa(again))})
	}
	d.Restart(api.Plan{Cap: room})
	may = live(t, what, d, most, may)
	// A store that was opened is the same whenever it is opened again.
	for range 2 {
		opens(t, what, d, most, may[0])
		d.Restart(api.Plan{Cap: room})
	}
}

// 10.4: wherever the disk crashes, and whatever it keeps of what is not synced.
func TestCrashes(t *testing.T) {
	for _, most := range mosts {
		for crash := range calls + 2 {
			for _, keep := range []int{0, 1, 20, 40, 80, 95, 999} {
				for _, done := range []bool{false, true} {
					survives(t, api.Plan{Cap: room, Crash: crash, Done: done, Keep: []int{keep, keep, keep}}, most)
				}
			}
		}
	}
}

// 10.4: wherever the disk crashes, and whichever call fails before, alone or with another one.
func TestCrashesAndFails(t *testing.T) {
	for _, most := range mosts {
		for crash := range calls + 2 {
			for first := 1; first <= calls; first++ {
				keep := (3*crash + 7*first) % 120
				p := api.Plan{Cap: room, Crash: crash, Done: first%2 == 0, Keep: []int{keep, keep / 2, keep}}
				for _, more := range []int{0, 1, 2, 5} {
					p.Fail = []int{first, first + more}
					survives(t, p, most)
				}
			}
		}
	}
}

// 10.4: of each batch, and of each snapshot, all lengths of what is kept.
func TestCrashKeeps(t *testing.T) {
	for _, most := range mosts {
		for crash := 3; crash <= calls; crash++ {
			for keep := range 2 + max(len(records(life[1])), len(encoded(after(nil, life...)))) {
				survives(t, api.Plan{Cap: room, Crash: crash, Done: true, Keep: []int{keep, keep, keep}}, most)
			}
		}
	}
}

// 10.4: a disk without much room.
func TestCrashFull(t *testing.T) {
	for _, most := range mosts {
		for size := 0; size < 500; size += 7 {
			for crash := range calls {
				survives(t, api.Plan{Cap: size, Crash: crash, Done: crash%2 == 0, Keep: []int{size / 5}}, most)
			}
		}
	}
}

// 10.4: the two maps that a crash of a Commit may leave, of which only the bytes that are kept tell which it is.
func TestCrashWhole(t *testing.T) {
	batch := []api.Op{put("a", "2"), put("b", "3"), del("c")}
	size := len(records(batch))
	for keep := range size + 2 {
		for _, crash := range []int{2, 3} {
			d, s := begun(t, api.Plan{Cap: room, Crash: crash, Done: crash == 2, Keep: []int{keep}}, 1000)
			what := fmt.Sprint("crash ", crash, ", keep ", keep)
			ends(t, what, s.Commit(batch), api.ErrCrash, d, crash, s, old, true)
			want := old
			if keep >= size {
				want = after(old, batch)
			}
			for again := 3; again >= 0; again-- {
				d.Restart(api.Plan{Cap: room, Crash: again})
				if s, e := store.Open(d, 1000); e == api.OK {
					has(t, what, s, want)
				} else if again == 0 || again == 3 {
					t.Errorf("%s: Open returned error %d", what, e)
				}
			}
		}
	}
}

// 10.4: a checkpoint of which only the second call is missing: the log's batches are in the snapshot, too.
func TestCrashBetween(t *testing.T) {
	for n := range len(life) + 1 {
		l := after(old, life[:n]...)
		d := holding(api.Plan{Cap: room}, "log", records(life[:n]...), "snap", encoded(old))
		s := opens(t, "a log", d, room, l)
		d.Restart(api.Plan{Cap: room, Crash: 5})
		what := fmt.Sprint("batches ", n)
		ends(t, what, s.Check(), api.ErrCrash, d, 5, s, l, true)
		holds(t, what, d, "log", records(life[:n]...), "snap", encoded(l))
		d.Restart(api.Plan{Cap: room})
		s = opens(t, what, d, room, l)
		s.Commit(three)
		opens(t, what+", a batch later", d, room, after(l, three))
	}
}
