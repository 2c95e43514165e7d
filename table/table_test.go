package table_test

import (
	"bytes"
	"encoding/binary"
	"fmt"
	"hash/crc32"
	"maps"
	"slices"
	"strings"
	"testing"

	"aquifer/api"
	"aquifer/table"
)

// pairs returns a list of the keys and values that stand in turn.
func pairs(texts ...string) []api.Pair {
	var l []api.Pair
	for kv := range slices.Chunk(texts, 2) {
		l = append(l, api.Pair{Key: kv[0], Value: kv[1]})
	}
	return l
}

func set(key, value string) api.Op { return api.Op{Key: key, Value: value} }

func del(key string) api.Op { return api.Op{Del: true, Key: key} }

// list returns the encoding of a list of strings as 2.2 says it.
func list(texts ...string) string {
	b := binary.BigEndian.AppendUint32(nil, uint32(len(texts)))
	for _, s := range texts {
		b = binary.BigEndian.AppendUint32(b, uint32(len(s)))
		b = append(b, s...)
	}
	return string(b)
}

// record returns the record of a payload as 4.1 says it.
func record(payload string) []byte {
	b := binary.BigEndian.AppendUint32(nil, uint32(len(payload)))
	b = binary.BigEndian.AppendUint32(b, crc32.ChecksumIEEE([]byte(payload)))
	return append(b, payload...)
}

// short returns how something is shown, or the beginning of that.
func short(v any) string { return fmt.Sprintf("%.300s", fmt.Sprintf("%q", v)) }

// texts returns the keys and values of a list in turn.
func texts(l []api.Pair) []string {
	var all []string
	for _, p := range l {
		all = append(all, p.Key, p.Value)
	}
	return all
}

// ascending are keys in the order of their bytes: a beginning ahead of what goes on, bytes without regard to letters.
var ascending = []string{
	"", "\x00", "\x00\x00", "\x01", "0", "1", "10", "2", "A", "B", "Z", "a", "a\x00", "a\x00b", "a\x01", "a0", "aa", "aaa",
	"ab", "b", "ba", "z", "\x7f", "\x80", "\xc3", "\xc3\xa8", "\xc3\xa9", "\xc3\xa9a", "\xe2\x82\xac", "\xf0\x9f\x98\x80", "\xff", "\xff\xff",
}

// rows are all lists of up to most pairs with these keys; each value tells the place of its pair.
func rows(most int, keys ...string) [][]api.Pair {
	all := [][]api.Pair{nil}
	from := 0
	for n := range most {
		to := len(all)
		for _, l := range all[from:to] {
			for _, k := range keys {
				all = append(all, append(slices.Clone(l), api.Pair{Key: k, Value: fmt.Sprint("v", n)}))
			}
		}
		from = to
	}
	return all
}

// valid says the same as Right, of all keys rather than of neighbours.
func valid(l []api.Pair) bool {
	for i := range l {
		for j := range i {
			if l[j].Key >= l[i].Key {
				return false
			}
		}
	}
	return true
}

// applied is the list that 6.1 asks of Apply, by a map.
func applied(l []api.Pair, ops []api.Op) []api.Pair {
	m := map[string]string{}
	for _, p := range l {
		m[p.Key] = p.Value
	}
	for _, o := range ops {
		if o.Del {
			delete(m, o.Key)
		} else {
			m[o.Key] = o.Value
		}
	}
	var after []api.Pair
	for _, k := range slices.Sorted(maps.Keys(m)) {
		after = append(after, api.Pair{Key: k, Value: m[k]})
	}
	return after
}

// 6.1: a list is valid if each key is greater than the one before it, byte by byte.
func TestRight(t *testing.T) {
	for _, c := range []struct {
		l    []api.Pair
		want bool
	}{
		{nil, true},
		{[]api.Pair{}, true},
		{pairs("", ""), true},
		{pairs("a", "1"), true},
		{pairs("a", "1", "b", "1"), true},
		{pairs("a", "2", "b", "1"), true},
		{pairs("", "1", "a", "1"), true},
		{pairs("a", "1", "a", "2"), false},
		{pairs("a", "1", "a", "1"), false},
		{pairs("", "1", "", "2"), false},
		{pairs("a", "1", "", "2"), false},
		{pairs("b", "1", "a", "2"), false},
		{pairs("a", "1", "c", "2", "b", "3"), false},
		{pairs("b", "1", "a", "2", "c", "3"), false},
		{pairs("a", "1", "b", "2", "b", "3"), false},
		{pairs("a", "1", "b", "2", "a", "3"), false},
		{pairs("a", "1", "B", "2"), false},
		{pairs("10", "1", "9", "2"), true},
		{pairs("9", "1", "10", "2"), false},
	} {
		if got := table.Right(c.l); got != c.want {
			t.Errorf("Right(%q) = %v", c.l, got)
		}
	}
	for i, a := range ascending {
		for j, b := range ascending {
			if got := table.Right(pairs(a, "", b, "")); got != (i < j) {
				t.Errorf("Right of the keys %q and %q is %v", a, b, got)
			}
		}
	}
}

// 6.1: of all short lists exactly those are valid whose keys ascend all through.
func TestRightOfAllRows(t *testing.T) {
	for _, l := range rows(5, "", "a", "b", "c", "d") {
		if got := table.Right(l); got != valid(l) {
			t.Errorf("Right(%q) = %v", l, got)
		}
	}
}

// gets checks that Get of l returns what going through l finds.
func gets(t *testing.T, l []api.Pair, key string) {
	t.Helper()
	var want string
	at := slices.IndexFunc(l, func(p api.Pair) bool { return p.Key == key })
	if at >= 0 {
		want = l[at].Value
	}
	if v, ok := table.Get(l, key); v != want || ok != (at >= 0) {
		t.Errorf("Get(%s, %q) = %q %v, want %q %v", short(l), key, v, ok, want, at >= 0)
	}
}

// 6.1: the value of the first pair with the key, in valid lists and in others.
func TestGet(t *testing.T) {
	for _, c := range []struct {
		l    []api.Pair
		key  string
		want string
		ok   bool
	}{
		{pairs("b", "1", "a", "2", "b", "3"), "b", "1", true},
		{pairs("b", "1", "a", "2", "b", "3"), "a", "2", true},
		{pairs("b", "1", "a", "2", "b", "3"), "c", "", false},
		{pairs("a", "1", "a", "2", "a", "3"), "a", "1", true},
		{pairs("a", "", "b", "2"), "a", "", true},
		{pairs("a", "1", "b", "2"), "", "", false},
		{pairs("", "1", "b", "2"), "", "1", true},
		{pairs("a", "1", "b", "2"), "aa", "", false},
		{pairs("a", "1", "b", "2"), "A", "", false},
		{pairs("aa", "1", "b", "2"), "a", "", false},
		{nil, "", "", false},
		{nil, "a", "", false},
	} {
		if v, ok := table.Get(c.l, c.key); v != c.want || ok != c.ok {
			t.Errorf("Get(%q, %q) = %q %v, want %q %v", c.l, c.key, v, ok, c.want, c.ok)
		}
	}
	for _, l := range rows(5, "", "a", "b", "c", "d") {
		for _, key := range []string{"", "a", "aa", "b", "c", "d", "e"} {
			gets(t, l, key)
		}
	}
}

// 6.1: Get in longer valid lists, of each key that is there and of keys between them; and in the same lists the wrong way round.
func TestGetInLongLists(t *testing.T) {
	for n := range 40 {
		var l []api.Pair
		for i := range n {
			l = append(l, api.Pair{Key: fmt.Sprintf("%03d", 2*i+1), Value: fmt.Sprint(i)})
		}
		back := slices.Clone(l)
		slices.Reverse(back)
		for i := range 2*n + 1 {
			gets(t, l, fmt.Sprintf("%03d", i))
			gets(t, back, fmt.Sprintf("%03d", i))
		}
	}
	var l []api.Pair
	for _, k := range ascending {
		for _, key := range ascending {
			gets(t, l, key)
		}
		l = append(l, api.Pair{Key: k, Value: "v" + k})
	}
}

// applies checks what Apply returns (6.1), and that a second time changes nothing (6.3).
func applies(t *testing.T, l []api.Pair, ops []api.Op, want []api.Pair) {
	t.Helper()
	once := table.Apply(l, ops)
	if !slices.Equal(once, want) {
		t.Errorf("Apply(%s, %.300s) = %s, want %s", short(l), fmt.Sprint(ops), short(once), short(want))
	}
	if twice := table.Apply(once, ops); !slices.Equal(twice, want) {
		t.Errorf("Apply(%s, %.300s) a second time = %s, want %s", short(l), fmt.Sprint(ops), short(twice), short(want))
	}
}

// 6.1: the list after operations in order; a list that is not valid counts as that of the last pair of each key.
func TestApply(t *testing.T) {
	abc := pairs("a", "1", "b", "2", "c", "3")
	for _, c := range []struct {
		l    []api.Pair
		ops  []api.Op
		want []api.Pair
	}{
		{pairs("a", "1"), []api.Op{set("a", "2"), del("a")}, nil},
		{pairs("a", "1"), []api.Op{del("a"), set("a", "2")}, pairs("a", "2")},
		{nil, nil, nil},
		{nil, []api.Op{del("a")}, nil},
		{nil, []api.Op{set("", "")}, pairs("", "")},
		{nil, []api.Op{set("b", "1"), set("a", "2"), set("b", "3")}, pairs("a", "2", "b", "3")},
		{abc, nil, abc},
		{abc, []api.Op{set("b", "")}, pairs("a", "1", "b", "", "c", "3")},
		{abc, []api.Op{set("b", "2")}, abc},
		{abc, []api.Op{del("")}, abc},
		{abc, []api.Op{del("d"), del("aa"), del("B")}, abc},
		{abc, []api.Op{del("a")}, pairs("b", "2", "c", "3")},
		{abc, []api.Op{del("b")}, pairs("a", "1", "c", "3")},
		{abc, []api.Op{del("c")}, pairs("a", "1", "b", "2")},
		{abc, []api.Op{del("c"), del("a"), del("b")}, nil},
		{abc, []api.Op{set("", "0"), set("aa", "x"), set("d", "4")}, pairs("", "0", "a", "1", "aa", "x", "b", "2", "c", "3", "d", "4")},
		{abc, []api.Op{set("d", "4"), set("d", "5"), set("", "0"), del("d")}, pairs("", "0", "a", "1", "b", "2", "c", "3")},
		{abc, []api.Op{{Del: true, Key: "b", Value: "x"}}, pairs("a", "1", "c", "3")},
		{abc, []api.Op{{Del: true, Key: "d", Value: "x"}}, abc},
		{pairs("a", "1", "a", "2"), nil, pairs("a", "2")},
		{pairs("b", "1", "a", "2"), nil, pairs("a", "2", "b", "1")},
		{pairs("b", "1", "a", "2", "b", "3"), nil, pairs("a", "2", "b", "3")},
		{pairs("b", "1", "a", "2", "b", "3"), []api.Op{del("b")}, pairs("a", "2")},
		{pairs("b", "1", "a", "2", "b", "3"), []api.Op{del("a"), set("c", "4")}, pairs("b", "3", "c", "4")},
		{pairs("b", "1", "a", "2", "b", "3"), []api.Op{set("b", "4")}, pairs("a", "2", "b", "4")},
	} {
		applies(t, c.l, c.ops, c.want)
	}
}

// 6.1, 6.3: all short lists, and all short rows of operations.
func TestApplyOfAllRows(t *testing.T) {
	kinds := []api.Op{set("", "1"), set("a", "1"), set("a", "2"), set("b", "1"), set("bb", "1"), del(""), del("a"), del("b"), del("c")}
	rowsOfOps := [][]api.Op{nil}
	from := 0
	for range 3 {
		to := len(rowsOfOps)
		for _, ops := range rowsOfOps[from:to] {
			for _, o := range kinds {
				rowsOfOps = append(rowsOfOps, append(slices.Clone(ops), o))
			}
		}
		from = to
	}
	for _, l := range rows(4, "a", "b", "c") {
		for _, ops := range rowsOfOps {
			applies(t, l, ops, applied(l, ops))
		}
		if t.Failed() {
			return
		}
	}
}

// 6.1, 6.3: many pairs, and many operations on a few keys and on many.
func TestApplyOfMany(t *testing.T) {
	n := 1
	next := func(below int) int {
		n = (n*75 + 74) % 65537
		return n % below
	}
	for _, keys := range []int{3, 20, 500} {
		for _, size := range []int{0, 10, 100, 2000} {
			var l []api.Pair
			var ops []api.Op
			for i := range size {
				l = append(l, api.Pair{Key: fmt.Sprint(next(keys)), Value: fmt.Sprint("l", i)})
				if next(3) == 0 {
					ops = append(ops, del(fmt.Sprint(next(keys))))
				} else {
					ops = append(ops, set(fmt.Sprint(next(keys)), fmt.Sprint("o", i)))
				}
			}
			sorted := applied(l, nil)
			for _, few := range [][]api.Op{ops, ops[:size/2], ops[:size/10]} {
				applies(t, l, few, applied(l, few))
				applies(t, sorted, few, applied(sorted, few))
			}
		}
	}
	var l []api.Pair
	for _, k := range ascending {
		l = append(l, api.Pair{Key: k, Value: "v"})
	}
	for i, k := range ascending {
		applies(t, l, []api.Op{del(k)}, slices.Concat(l[:i], l[i+1:]))
		applies(t, slices.Concat(l[:i], l[i+1:]), []api.Op{set(k, "v")}, l)
	}
}

// 6.1: a great list and as many operations, none of which is on a key of the list.
func TestApplyOfGreatLists(t *testing.T) {
	const size = 100000
	var l []api.Pair
	var ops []api.Op
	for i := range size {
		l = append(l, api.Pair{Key: fmt.Sprintf("%06d", 2*i+1), Value: "l"})
		ops = append(ops, set(fmt.Sprintf("%06d", 2*(size-i)), "o"))
	}
	applies(t, l, ops, applied(l, ops))
}

// encodes checks that Encode of l returns the bytes of 6.2, and that Decode gives l back.
func encodes(t *testing.T, what string, l []api.Pair) {
	t.Helper()
	want := record(list(texts(l)...))
	if b, e := table.Encode(l); e != api.OK || !bytes.Equal(b, want) {
		t.Errorf("%s: Encode returned %s %d, want %s", what, short(b), e, short(want))
	}
	if back, e := table.Decode(want); e != api.OK || !slices.Equal(back, l) {
		t.Errorf("%s: Decode returned %s %d, want %s", what, short(back), e, short(l))
	}
}

// someLists are valid lists, among them some whose texts look like encodings.
func someLists() [][]api.Pair {
	all := [][]api.Pair{
		pairs("", ""), pairs("a", ""), pairs("", "a"), pairs("a", "1"), pairs("a", "1", "b", ""), pairs("a", "b", "c", "a"),
		pairs(list(), list("a", "1")), pairs("", string(record(list("a", "1")))), pairs(strings.Repeat("k", 256), strings.Repeat("v", 300)),
	}
	var l []api.Pair
	for i, k := range ascending {
		l = append(l, api.Pair{Key: k, Value: ascending[len(ascending)-1-i]})
	}
	return append(all, l)
}

// 6.2: one record of the keys and values in turn.
func TestEncode(t *testing.T) {
	b, e := table.Encode(pairs("a", "1", "b", ""))
	want := "\x00\x00\x00\x04" + "\x00\x00\x00\x01a" + "\x00\x00\x00\x011" + "\x00\x00\x00\x01b" + "\x00\x00\x00\x00"
	if e != api.OK || string(b[8:]) != want || string(b[:4]) != "\x00\x00\x00\x17" {
		t.Errorf("Encode returned %q %d", b, e)
	}
	encodes(t, "nil", nil)
	encodes(t, "an empty list", []api.Pair{})
	for _, l := range someLists() {
		encodes(t, fmt.Sprintf("%q", l), l)
	}
	for _, l := range rows(5, "", "a", "b", "c", "d") {
		if valid(l) {
			encodes(t, fmt.Sprintf("%q", l), l)
		}
	}
	var l []api.Pair
	for i := range 3000 {
		l = append(l, api.Pair{Key: fmt.Sprintf("%04d", i), Value: strings.Repeat("x", i%7)})
	}
	encodes(t, "3000 pairs", l)
}

// 6.2: a list that is not valid is ErrArg, and nothing is returned beside it.
func TestEncodeWrong(t *testing.T) {
	for _, l := range append(rows(4, "", "a", "b"), pairs("b", "1", "a", "2"), pairs("a", "1", "a", "1")) {
		if b, e := table.Encode(l); !valid(l) && (e != api.ErrArg || b != nil) {
			t.Errorf("Encode(%q) = %q %d, want ErrArg", l, b, e)
		}
	}
}

// 6.2: a payload of MaxFrame bytes fits, one of a byte more is ErrLong; ErrArg comes ahead of it.
func TestEncodeLong(t *testing.T) {
	const most = api.MaxFrame - 12 // of a key and its value: there are three words beside them
	text := strings.Repeat("x", api.MaxFrame+1)
	for _, n := range []int{0, 1, 1000, most - 1, most} {
		encodes(t, fmt.Sprint("a key of ", n, " bytes"), pairs(text[:n], text[:most-n]))
		if n <= most-9 {
			encodes(t, fmt.Sprint("a key of ", n, " bytes behind another"), pairs("", "a", "x"+text[:n], text[:most-n-10]))
		}
	}
	for _, l := range [][]api.Pair{
		pairs("", text[:most+1]),
		pairs(text[:most+1], ""),
		pairs(text[:1000], text[:most-999]),
		pairs(text, text),
		pairs("a", text),
		pairs("a", "1", "b", text, "c", "3"),
		pairs("", "a", "x", text[:most-9]),
		pairs("a", text[:most/2], "b", text[:most/2]),
	} {
		if b, e := table.Encode(l); e != api.ErrLong || b != nil {
			t.Errorf("Encode of a long list returned %d bytes and error %d, want ErrLong", len(b), e)
		}
		if !table.Right(l) {
			t.Error("Right of a long list is false")
		}
	}
	for i, l := range [][]api.Pair{
		pairs("a", text, "a", "1"), pairs("b", "1", "a", text), pairs(text, "", "a", ""), pairs(text, "", text, ""),
	} {
		if b, e := table.Encode(l); e != api.ErrArg || b != nil {
			t.Errorf("%d: Encode of a long list that is not valid returned %d bytes and error %d, want ErrArg", i, len(b), e)
		}
	}
}

// refuses checks that bytes are no encoding.
func refuses(t *testing.T, what string, b []byte) {
	t.Helper()
	if l, e := table.Decode(b); e != api.ErrForm || l != nil {
		t.Errorf("%s: Decode returned %s %d, want ErrForm", what, short(l), e)
	}
}

// 6.2: records whose payload is no encoding of a valid list.
func TestDecodeOfOtherPayloads(t *testing.T) {
	refuses(t, "nil", nil)
	for _, s := range []string{
		"", "a", "\x00\x00\x00", "\x00\x00\x00\x00\x00", list() + list(), list("a", "1") + "\x00", list("a", "1") + list("b", "2"), list("a", "1")[1:],
		"\x00\x00\x00\x02" + "\x00\x00\x00\x01a", "\x00\x00\x00\x02" + "\x00\x00\x00\x01a" + "\x00\x00\x00\x021", "\xff\xff\xff\xff", "p" + list("a", "1"),
		list("a"), list(""), list("a", "1", "b"), list("a", "1", "b", "2", "c"),
		list("a", "1", "a", "1"), list("a", "1", "a", "2"), list("b", "1", "a", "2"), list("a", "1", "c", "2", "b", "3"), list("", "1", "", "2"),
		list("a", "1", "a", "2", "b", "3"), list("a", "1", "b", "2", "b", "3"), list("a", "1", ""), list(list("a", "1")),
	} {
		refuses(t, fmt.Sprintf("the payload %q", s), record(s))
		refuses(t, fmt.Sprintf("the bytes %q", s), []byte(s))
	}
	refuses(t, "a record in a record", record(string(record(list("a", "1")))))
}

// 6.2: only the keys must ascend.
func TestDecodeOfAllRows(t *testing.T) {
	for _, l := range rows(4, "", "a", "b", "c") {
		if b := record(list(texts(l)...)); !valid(l) {
			refuses(t, fmt.Sprintf("%q", l), b)
		} else if back, e := table.Decode(b); e != api.OK || !slices.Equal(back, l) {
			t.Errorf("Decode of %q returned %q %d", l, back, e)
		}
	}
}

// 6.2: an encoding that is cut, that goes on, or of which a bit is turned, and several records.
func TestDecodeOfOtherRecords(t *testing.T) {
	for _, l := range append(someLists(), nil) {
		b := record(list(texts(l)...))
		what := short(l)
		for k := range b {
			refuses(t, fmt.Sprintf("%s, cut at %d", what, k), b[:k])
		}
		for _, more := range [][]byte{{0}, {'a'}, make([]byte, 7), make([]byte, 8), make([]byte, 9), record(list()), b, b[:8], b[:len(b)-1]} {
			refuses(t, fmt.Sprintf("%s, and %q behind it", what, more), slices.Concat(b, more))
			refuses(t, fmt.Sprintf("%s, and %q ahead of it", what, more), slices.Concat(more, b))
		}
		for i := range 8 * len(b) {
			turned := bytes.Clone(b)
			turned[i/8] ^= 1 << (i % 8)
			refuses(t, fmt.Sprintf("%s, bit %d turned", what, i), turned)
		}
	}
}

// 6.2: a record of more than MaxFrame bytes is none, though all else in it is right.
func TestDecodeLong(t *testing.T) {
	text := strings.Repeat("x", api.MaxFrame)
	for n := api.MaxFrame - 14; n < api.MaxFrame; n++ {
		b := record(list("a", text[:n]))
		if n+13 > api.MaxFrame {
			refuses(t, fmt.Sprint("a value of ", n, " bytes"), b)
		} else if l, e := table.Decode(b); e != api.OK || len(l) != 1 || len(l[0].Value) != n {
			t.Errorf("a value of %d bytes: Decode returned %d pairs and error %d", n, len(l), e)
		}
	}
	refuses(t, "zeros", make([]byte, api.MaxFrame))
}

// R3, R5: Right, Get, Apply and Encode leave their arguments, spare memory included, as they are.
func TestArguments(t *testing.T) {
	for _, l := range [][]api.Pair{nil, pairs("a", "1", "b", "2", "c", "3"), pairs("b", "1", "a", "2", "b", "3", "a", "4", "c", "5")} {
		l = append(make([]api.Pair, 0, 20), l...)
		ops := append(make([]api.Op, 0, 20), set("d", "4"), del("b"), set("a", "5"), set("d", "6"), del("c"), set("", "7"))
		keptList, keptOps := slices.Clone(l[:cap(l)]), slices.Clone(ops[:cap(ops)])
		table.Right(l)
		table.Get(l, "b")
		table.Encode(l)
		for n := range len(ops) + 1 {
			table.Apply(l, ops[:n])
		}
		if !slices.Equal(l[:cap(l)], keptList) || !slices.Equal(ops[:cap(ops)], keptOps) {
			t.Errorf("arguments were changed to %q, %v", l[:cap(l)], ops[:cap(ops)])
		}
	}
}

// R3: what Apply returns shares no memory with its arguments or with another result.
func TestApplyMemory(t *testing.T) {
	for _, l := range [][]api.Pair{nil, pairs("a", "1"), pairs("a", "1", "b", "2", "c", "3"), pairs("b", "1", "a", "2", "b", "3", "c", "4")} {
		for _, ops := range [][]api.Op{nil, {set("b", "5")}, {set("d", "6")}, {del("c")}, {del("a"), del("b"), set("", "7")}} {
			l, ops := slices.Clone(l), slices.Clone(ops)
			want, kept := applied(l, ops), slices.Clone(l)
			one, two := table.Apply(l, ops), table.Apply(l, ops)
			for i := range one[:cap(one)] {
				one[:cap(one)][i] = api.Pair{Key: "x", Value: "y"}
			}
			if !slices.Equal(l, kept) {
				t.Errorf("the argument changed with a result, to %q", l)
			}
			clear(l)
			clear(ops)
			if !slices.Equal(two, want) {
				t.Errorf("a result changed with an argument or with another result: %q, want %q", two, want)
			}
		}
	}
}

// R3: what Encode and Decode return shares no memory with their arguments or with another result.
func TestBytesMemory(t *testing.T) {
	l := pairs("a", "1", "b", "2")
	want := record(list(texts(l)...))
	one, _ := table.Encode(l)
	two, _ := table.Encode(l)
	for i := range one[:cap(one)] {
		one[:cap(one)][i] = 'x'
	}
	if !bytes.Equal(two, want) {
		t.Errorf("an encoding changed with another: %q", two)
	}
	first, _ := table.Decode(two)
	second, _ := table.Decode(two)
	if !bytes.Equal(two, want) {
		t.Errorf("Decode changed its argument to %q", two)
	}
	for i := range first[:cap(first)] {
		first[:cap(first)][i] = api.Pair{Key: "x", Value: "y"}
	}
	clear(two)
	if !slices.Equal(second, l) {
		t.Errorf("a list changed with the bytes it came from, or with another list: %q", second)
	}
}
