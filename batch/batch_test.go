package batch_test

import (
	"bytes"
	"encoding/binary"
	"fmt"
	"hash/crc32"
	"slices"
	"strconv"
	"strings"
	"testing"

	"aquifer/api"
	"aquifer/batch"
	"aquifer/frame"
)

func put(key, value string) api.Op { return api.Op{Key: key, Value: value} }

func del(key string) api.Op { return api.Op{Del: true, Key: key} }

// list returns the encoding of a list of strings as 2.2 says it.
func list(texts ...string) string {
	b := binary.BigEndian.AppendUint32(nil, uint32(len(texts)))
	for _, s := range texts {
		b = binary.BigEndian.AppendUint32(b, uint32(len(s)))
		b = append(b, s...)
	}
	return string(b)
}

// payloads returns the payloads of a batch as 5.1 says them.
func payloads(l []api.Op) [][]byte {
	var all [][]byte
	for _, o := range l {
		if o.Del {
			all = append(all, []byte("d"+list(o.Key)))
		} else {
			all = append(all, []byte("p"+list(o.Key, o.Value)))
		}
	}
	return append(all, []byte("c"+list(strconv.Itoa(len(l)))))
}

// records returns the records of a batch as 4.1 and 5.1 say them.
func records(l []api.Op) []byte {
	var b []byte
	for _, p := range payloads(l) {
		b = binary.BigEndian.AppendUint32(b, uint32(len(p)))
		b = binary.BigEndian.AppendUint32(b, crc32.ChecksumIEEE(p))
		b = append(b, p...)
	}
	return b
}

// replays checks what Replay of p returns.
func replays(t *testing.T, what string, p [][]byte, used int, want ...[]api.Op) {
	t.Helper()
	got, n := batch.Replay(p)
	if n != used || !slices.EqualFunc(got, want, slices.Equal) {
		t.Errorf("%s: Replay returned %.300s %d, want %.300s %d", what, fmt.Sprintf("%#v", got), n, fmt.Sprintf("%#v", want), used)
	}
}

// encodes checks that Encode of l returns the bytes of 5.1, and that Replay of their payloads gives l back.
func encodes(t *testing.T, what string, l []api.Op) {
	t.Helper()
	b, e := batch.Encode(l)
	if e != api.OK || !bytes.Equal(b, records(l)) {
		t.Errorf("%s: Encode returned %.300q %d, want %.300q", what, b, e, records(l))
	}
	p, good := frame.Scan(b)
	if good != len(b) {
		t.Errorf("%s: only %d bytes of %d are records", what, good, len(b))
	}
	replays(t, what, p, len(l)+1, l)
}

// someOps are operations of many kinds, among them some whose texts look like payloads.
func someOps() []api.Op {
	return []api.Op{
		put("", ""), put("a", ""), put("", "a"), put("a", "1"), put("a", "2"), put("b", "1"), put("1", "2"),
		put("\x00", "\xff"), put("é", "\xc3"), put("p", "d"), put("c", "1"), put(list("a", "1"), list("1")),
		put(strings.Repeat("k", 70), strings.Repeat("v", 300)),
		del(""), del("a"), del("b"), del("2"), del("\x00"), del("c" + list("0")), del(strings.Repeat("k", 256)),
	}
}

// someBatches are all batches of up to two of these operations, and some longer ones.
func someBatches() [][]api.Op {
	ops := someOps()
	all := [][]api.Op{nil, ops}
	for _, o := range ops {
		all = append(all, []api.Op{o}, []api.Op{o, o, o})
		for _, q := range ops {
			all = append(all, []api.Op{o, q})
		}
	}
	for _, n := range []int{9, 10, 11, 99, 100, 101} {
		all = append(all, slices.Repeat(ops, n)[:n])
	}
	return all
}

// 5.1: the batches that are valid, and those that are not, the example of the chapter among them.
func TestRight(t *testing.T) {
	wrong := api.Op{Del: true, Value: "x"}
	full := slices.Repeat([]api.Op{put("a", "1"), del("a")}, 500)
	for i, c := range []struct {
		l    []api.Op
		want bool
	}{
		{nil, true},
		{[]api.Op{}, true},
		{someOps(), true},
		{[]api.Op{{}}, true},
		{[]api.Op{{Del: true}}, true},
		{[]api.Op{del("a"), del("a"), put("a", ""), put("a", "")}, true},
		{[]api.Op{wrong}, false},
		{[]api.Op{{Del: true, Key: "a", Value: "x"}}, false},
		{[]api.Op{{Del: true, Key: "a", Value: "\x00"}}, false},
		{[]api.Op{wrong, put("a", "1"), del("a")}, false},
		{[]api.Op{put("a", "1"), wrong, del("a")}, false},
		{[]api.Op{put("a", "1"), del("a"), wrong}, false},
		{[]api.Op{wrong, wrong}, false},
		{full[:999], true},
		{full, true},
		{append(slices.Clone(full), del("a")), false},
		{append(slices.Clone(full), full...), false},
		{append([]api.Op{wrong}, full[:999]...), false},
		{append(slices.Clone(full[:999]), wrong), false},
		{append(slices.Clone(full), wrong), false},
		// What lies behind the end of a slice in its array is no part of it.
		{append(slices.Clone(full), wrong)[:1000], true},
	} {
		if got := batch.Right(c.l); got != c.want {
			t.Errorf("%d: Right of %d operations is %v", i, len(c.l), got)
		}
		if _, e := batch.Encode(c.l); (e != api.ErrArg) != c.want {
			t.Errorf("%d: Encode of %d operations returned error %d", i, len(c.l), e)
		}
	}
}

// 5.1: the bytes of a batch, written out.
func TestEncodeBytes(t *testing.T) {
	for _, c := range []struct {
		l    []api.Op
		want string
	}{
		{nil, "\x00\x00\x00\x0a" + "\x2d\xc4\x05\x4d" + "c" + "\x00\x00\x00\x01" + "\x00\x00\x00\x010"},
		{[]api.Op{put("k", "vw"), del("xyz")}, "" +
			"\x00\x00\x00\x10" + "\x2e\x7d\x90\xd3" + "p" + "\x00\x00\x00\x02" + "\x00\x00\x00\x01k" + "\x00\x00\x00\x02vw" +
			"\x00\x00\x00\x0c" + "\x9a\x51\x5d\x1d" + "d" + "\x00\x00\x00\x01" + "\x00\x00\x00\x03xyz" +
			"\x00\x00\x00\x0a" + "\xc3\xca\x64\x61" + "c" + "\x00\x00\x00\x01" + "\x00\x00\x00\x012"},
	} {
		if b, e := batch.Encode(c.l); e != api.OK || string(b) != c.want {
			t.Errorf("Encode(%#v) = %q %d, want %q", c.l, b, e, c.want)
		}
	}
}

// 5.1: the records of many batches, one for each operation and the end record; Replay gives each batch back.
func TestEncode(t *testing.T) {
	for i, l := range someBatches() {
		encodes(t, fmt.Sprint("batch ", i), l)
	}
	encodes(t, "an empty batch", []api.Op{})
	b, _ := batch.Encode(nil)
	if p, _ := frame.Scan(b); len(p) != 1 {
		t.Errorf("Encode of an empty batch returned %d records", len(p))
	}
	full := slices.Repeat(someOps(), 50)
	encodes(t, "999 operations", full[:999])
	encodes(t, "1000 operations", full)
}

// 5.1: an operation whose payload has MaxFrame bytes fits, and one of a byte more does not.
func TestEncodeLong(t *testing.T) {
	const mostPut, mostDel = api.MaxFrame - 13, api.MaxFrame - 9
	text := strings.Repeat("x", api.MaxFrame+1)
	for _, o := range []api.Op{
		put("", text[:mostPut]), put(text[:mostPut], ""), put(text[:1000], text[:mostPut-1000]), del(text[:mostDel]),
	} {
		what := fmt.Sprintf("a key of %d and a value of %d bytes", len(o.Key), len(o.Value))
		encodes(t, what, []api.Op{o})
		encodes(t, what+" between others", []api.Op{put("a", "1"), o, del("b")})
	}
	for _, o := range []api.Op{
		put("", text[:mostPut+1]), put(text[:mostPut+1], ""), put(text[:1000], text[:mostPut-999]), put(text, text),
		put(text[:mostPut], text[:mostPut]), del(text[:mostDel+1]), del(text),
	} {
		for i, l := range [][]api.Op{{o}, {o, put("a", "1")}, {put("a", "1"), o}, {del("a"), o, del("b")}, {o, o}} {
			if b, e := batch.Encode(l); e != api.ErrLong || b != nil {
				t.Errorf("%d: a key of %d and a value of %d bytes: Encode returned %d bytes and error %d, want ErrLong", i, len(o.Key), len(o.Value), len(b), e)
			}
			if !batch.Right(l) {
				t.Errorf("%d: a key of %d and a value of %d bytes: Right is false", i, len(o.Key), len(o.Value))
			}
		}
	}
}

// 5.1: ErrArg comes ahead of ErrLong, whatever the order of the operations; nothing is returned beside it.
func TestEncodeWrong(t *testing.T) {
	wrong := api.Op{Del: true, Value: "x"}
	long := put("", strings.Repeat("x", api.MaxFrame))
	for i, l := range [][]api.Op{
		{wrong},
		{put("a", "1"), del("b"), wrong},
		{wrong, put("a", "1")},
		{wrong, long},
		{long, wrong},
		{{Del: true, Key: long.Value, Value: "x"}},
		make([]api.Op, 1001),
		append([]api.Op{long}, make([]api.Op, 1000)...),
		append(make([]api.Op, 1000), long),
	} {
		if b, e := batch.Encode(l); e != api.ErrArg || b != nil {
			t.Errorf("%d: Encode returned %d bytes and error %d, want ErrArg", i, len(b), e)
		}
	}
}

// 5.2: the example of the chapter, and batches one after the other, cut behind any payload.
func TestReplay(t *testing.T) {
	two := []api.Op{put("a", "1"), del("b")}
	replays(t, "no payload", nil, 0)
	replays(t, "a batch of two", payloads(two), 3, two)
	replays(t, "a batch of two, without its last payload", payloads(two)[:2], 0)
	all := [][]api.Op{two, nil, {put("c", "")}, nil, nil, two, two, someOps(), slices.Repeat(someOps(), 50)}
	var p [][]byte
	n, used := 0, 0
	for i, l := range all {
		for _, b := range payloads(l)[:len(l)] {
			p = append(p, b)
			replays(t, fmt.Sprint(len(p), " payloads"), p, used, all[:n]...)
		}
		p = append(p, payloads(l)[len(l)])
		n, used = i+1, len(p)
		replays(t, fmt.Sprint(len(p), " payloads"), p, used, all[:n]...)
	}
}

// notOps are payloads that are neither an operation nor the end record of a batch, wherever they stand.
func notOps() []string {
	l := []string{
		"", "p", "d", "c", "x", "\x00", "p\x00\x00\x00", list(), list("a"), list("a", "1"), list("0"),
		"p" + list(), "p" + list("a"), "p" + list("a", "1", ""), "p" + list("a", "1", "2"),
		"d" + list(), "d" + list("a", ""), "d" + list("a", "1"), "d" + list("a", "1", "2"),
		"c" + list(), "c" + list("0", ""), "c" + list("0", "0"), "c" + list("", "0"), "c" + list("1", "1"),
		"pp" + list("a", "1"), "dd" + list("a"), "cc" + list("0"), "p" + "d" + list("a"),
		"p" + list("p"+list("a", "1")), "c0", "c1", "c\x00\x00\x00\x00", "c\x00\x00\x00\x01",
		"p\x00\x00\x00\x02" + "\x00\x00\x00\x01a", "p\x00\x00\x00\x02" + "\x00\x00\x00\x01a" + "\x00\x00\x00\x02b",
		"p\xff\xff\xff\xff", "d\x00\x00\x00\x01" + "\xff\xff\xff\xff",
	}
	for _, good := range []string{"p" + list("a", "1"), "d" + list("a"), "c" + list("0"), "c" + list("1"), "c" + list("2")} {
		l = append(l, good[1:], good+"\x00", good+"0", good[:len(good)-1], " "+good, good+good)
		for _, kind := range []string{"P", "D", "C", "q", "e", "\x00", "\xf0", "\xe3"} {
			l = append(l, kind+good[1:])
		}
	}
	return l
}

// 5.2: Replay stops at a payload that is none of those, also if right ones follow; what was collected is no batch.
func TestReplayStops(t *testing.T) {
	one, two := []api.Op{put("first", "1")}, []api.Op{put("a", "1"), del("b")}
	for _, s := range notOps() {
		wrong := [][]byte{[]byte(s)}
		for n := range 3 {
			started := payloads(two)[:n]
			// Among what follows are end records that count the wrong payload, and some that leave it out.
			skipped, counted := payloads(two)[n:], append(payloads(two)[n:2], []byte("c"+list("3")))
			ended := [][]byte{[]byte("c" + list(strconv.Itoa(n+1)))}
			for _, after := range [][][]byte{nil, payloads(nil), payloads(one), payloads(two), skipped, counted, ended} {
				what := fmt.Sprintf("%q behind %d operations, before %q", s, n, after)
				replays(t, what, slices.Concat(started, wrong, after), 0)
				replays(t, what+", behind a batch", slices.Concat(payloads(one), started, wrong, after), 2, one)
				replays(t, what+", behind two batches", slices.Concat(payloads(two), payloads(nil), started, wrong, after), 4, two, nil)
			}
		}
	}
}

// 5.2: only the number of the operations since the last batch, in decimal, completes a batch.
func TestReplayCounts(t *testing.T) {
	texts := []string{
		"", "-0", "-1", "+0", "+1", "+2", "00", "01", "02", "0x0", "0x1", "0x2", "0b1", "1.0", "1e0", "1e1", "1_0",
		" 0", "0 ", " 1", "1 ", "2 ", "0\x00", "1\x00", "1\n", "\x00", "\x01", "\x02", "\u0661", "\u0662", "one",
		"18446744073709551616", "18446744073709551617", "18446744073709551618", "4294967296", "4294967297", "-10",
	}
	for n := range 1100 {
		texts = append(texts, strconv.Itoa(n))
	}
	ops := slices.Repeat([]api.Op{put("a", "1"), del("a"), put("b", "c")}, 34)
	first := []api.Op{del("x"), del("y"), del("z")}
	for _, n := range []int{0, 1, 2, 9, 10, 11, 99, 100, 101} {
		started := payloads(ops[:n])[:n]
		for _, s := range texts {
			p := append(slices.Clone(started), []byte("c"+list(s)))
			behind := slices.Concat(payloads(first), p)
			what := fmt.Sprintf("%d operations and the number %q", n, s)
			if s == fmt.Sprint(n) {
				replays(t, what, p, n+1, ops[:n])
				replays(t, what+", behind a batch", behind, n+5, first, ops[:n])
			} else {
				replays(t, what, p, 0)
				replays(t, what+", behind a batch", behind, 4, first)
			}
		}
	}
}

// completed returns the batches of which a row of letters consists, up to the first letter that cannot stand there: p, d are operations, digits end records.
func completed(row string) []string {
	n := strings.IndexFunc(row, func(r rune) bool { return r != 'p' && r != 'd' })
	if n < 0 || row[n:n+1] != strconv.Itoa(n) {
		return nil
	}
	return append([]string{row[:n+1]}, completed(row[n+1:])...)
}

// 5.2: all rows of up to six payloads of some kinds.
func TestReplayOfAllRows(t *testing.T) {
	kinds := map[byte]string{
		'p': "p" + list("a", "1"), 'd': "d" + list("b"), 'x': "p" + list("a"),
		'0': "c" + list("0"), '1': "c" + list("1"), '2': "c" + list("2"), '3': "c" + list("3"),
	}
	var check func(row string)
	check = func(row string) {
		var p [][]byte
		for i := range len(row) {
			p = append(p, []byte(kinds[row[i]]))
		}
		var want [][]api.Op
		used := 0
		for _, r := range completed(row) {
			l := []api.Op{}
			for i := range len(r) - 1 {
				if r[i] == 'p' {
					l = append(l, put("a", "1"))
				} else {
					l = append(l, del("b"))
				}
			}
			want = append(want, l)
			used += len(r)
		}
		replays(t, row, p, used, want...)
		if len(row) < 6 {
			for _, k := range "pdx0123" {
				check(row + string(k))
			}
		}
	}
	check("")
}

// 5.2: Replay does not ask whether a batch is valid, or whether a payload is too long for a record.
func TestReplayOfMore(t *testing.T) {
	many := slices.Repeat([]api.Op{put("a", "1"), del("a")}, 600)
	for _, n := range []int{1000, 1001, 1200} {
		replays(t, fmt.Sprint(n, " operations"), payloads(many[:n]), n+1, many[:n])
	}
	long := strings.Repeat("x", api.MaxFrame+1)
	for _, l := range [][]api.Op{{put("a", long)}, {put(long, "")}, {del(long)}} {
		replays(t, "a long payload", payloads(l), 2, l)
	}
}

// 5.3: of encodings that are truncated at any byte, exactly the batches whose end record is complete are returned.
func TestTruncated(t *testing.T) {
	ops := someOps()
	for i, all := range [][][]api.Op{
		nil,
		{nil},
		{nil, nil, nil},
		{ops[:1]},
		{ops[:2], nil, ops[2:3]},
		{{del("a"), del("b")}, {put("a", "1")}, nil, {put("b", "2"), put("a", "3"), del("b")}},
		{{put("c", "1")}, {del("c" + list("0"))}, {put("p", list("1")), del("")}},
		{ops, nil, ops},
	} {
		var whole []byte
		var ends []int
		for _, l := range all {
			b, e := batch.Encode(l)
			if e != api.OK {
				t.Fatalf("%d: Encode returned error %d", i, e)
			}
			whole = append(whole, b...)
			ends = append(ends, len(whole))
		}
		n, used := 0, 0
		for k := range len(whole) + 1 {
			for n < len(all) && ends[n] <= k {
				used += len(all[n]) + 1
				n++
			}
			p, _ := frame.Scan(whole[:k])
			replays(t, fmt.Sprintf("%d, truncated at %d", i, k), p, used, all[:n]...)
		}
		if n != len(all) {
			t.Errorf("%d: %d of %d batches at the end", i, n, len(all))
		}
	}
}

// R1, R3: arguments stay as they are, and an encoding shares no memory with another one.
func TestEncodeMemory(t *testing.T) {
	l := append(make([]api.Op, 0, 40), someOps()...)
	kept := slices.Clone(l[:cap(l)])
	one, _ := batch.Encode(l)
	two, _ := batch.Encode(l)
	for i := range one[:cap(one)] {
		one[:cap(one)][i] = 'x'
	}
	if !bytes.Equal(two, records(someOps())) {
		t.Errorf("an encoding changed with another: %q", two)
	}
	if batch.Right(l); !slices.Equal(l[:cap(l)], kept) {
		t.Errorf("the argument was changed to %#v", l[:cap(l)])
	}
}

// R1, R3: arguments stay as they are, and a batch shares no memory with the payloads or with another batch.
func TestReplayMemory(t *testing.T) {
	all := [][]api.Op{{put("a", "1"), del("b")}, nil, {put("c", "2")}, someOps(), nil, {del("d")}}
	var p [][]byte
	for _, l := range all {
		p = append(p, payloads(l)...)
	}
	p = append(p, payloads(someOps())[:5]...)
	kept := slices.Clone(p)
	for i, b := range p {
		kept[i] = bytes.Clone(b)
	}
	got, _ := batch.Replay(p)
	again, _ := batch.Replay(p)
	if !slices.EqualFunc(p, kept, bytes.Equal) {
		t.Errorf("the argument was changed to %q", p)
	}
	for i := range got {
		whole := got[i][:cap(got[i])]
		for j := range whole {
			whole[j] = put("x", "y")
		}
		for j := i + 1; j < len(got); j++ {
			if !slices.Equal(got[j], all[j]) {
				t.Errorf("batch %d changed with batch %d: %#v", j, i, got[j])
			}
		}
	}
	for _, b := range p {
		clear(b)
	}
	clear(p)
	if !slices.EqualFunc(again, all, slices.Equal) {
		t.Errorf("batches changed with the payloads they came from, or with another result: %#v", again)
	}
}
