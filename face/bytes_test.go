package face_test

import (
	"bytes"
	"fmt"
	"math/rand"
	"slices"
	"testing"

	"aquifer/api"
	"aquifer/code"
	"aquifer/face"
)

// wantForm checks that bytes are no encoding.
func wantForm(t *testing.T, b []byte) {
	t.Helper()
	if f, e := face.Decode(b); e != api.ErrForm || f.Vars != nil || f.Procs != nil {
		t.Fatalf("15.2: Decode(%q) = %+v %d; want ErrForm", b, f, e)
	}
}

// wantRow checks that a list of strings is no encoding.
func wantRow(t *testing.T, l ...string) {
	t.Helper()
	if f, e := face.Decode(code.Encode(l)); e != api.ErrForm || f.Vars != nil || f.Procs != nil {
		t.Fatalf("15.2: Decode of %q = %+v %d; want ErrForm", l, f, e)
	}
}

// wantBack checks Encode of an interface against the model, and that Decode gives it back if it should.
func wantBack(t *testing.T, f api.Face) {
	t.Helper()
	before := copied(f)
	b := face.Encode(f)
	if want := code.Encode(stringsOf(f)); !bytes.Equal(b, want) {
		t.Fatalf("15.2: Encode(%s) = %q; want %q", short(f), b, want)
	}
	if !equal(f, before) {
		t.Fatalf("R3: Encode has changed %s to %s", short(before), short(f))
	}
	if !decodable(f) {
		wantForm(t, b)
		return
	}
	kept := slices.Clone(b)
	got, e := face.Decode(b)
	if e != api.OK || !equal(got, f) {
		t.Fatalf("15.2: Decode(Encode(%s)) = %s %d", short(f), short(got), e)
	}
	if !bytes.Equal(b, kept) {
		t.Fatalf("R3: Decode has changed %q to %q", kept, b)
	}
}

// some interfaces with all there can be.
func written() []api.Face {
	return []api.Face{
		{},
		{Vars: []api.Var{{Name: "x", Label: "low"}}},
		{Procs: []api.Sig{{Name: "p", Pc: "low"}}},
		{Procs: []api.Sig{{Name: "x", Has: true, Result: "high", Pc: "low", Params: []string{"b", "a", "b"}, Uses: []string{"a", "ab", "b"}}}},
		{
			Vars: []api.Var{{Name: "", Label: ""}, {Name: "1", Label: "0"}, {Name: "p", Label: "2"}},
			Procs: []api.Sig{
				{Name: "", Has: true, Params: []string{"", "0"}, Uses: []string{"", "\x00", "0"}},
				{Name: "0", Params: []string{"1"}},
				{Name: "p", Has: true, Result: "1", Pc: "0", Uses: []string{"Z", "a", "é", "\xff"}},
			},
		},
	}
}

// 15.2: the examples of the chapter.
func TestBytesExamples(t *testing.T) {
	if b := face.Encode(api.Face{}); !bytes.Equal(b, code.Encode([]string{"0"})) {
		t.Errorf("15.2: the empty interface is %q", b)
	}
	wantRow(t, "2", "b", "l", "a", "l")
}

// 15.2: an encoding that is written out.
func TestEncodeWritten(t *testing.T) {
	b := face.Encode(api.Face{
		Vars: []api.Var{{Name: "x", Label: "low"}, {Name: "y", Label: "high"}},
		Procs: []api.Sig{
			{Name: "p", Pc: "high", Uses: []string{"u"}},
			{Name: "q", Params: []string{"high", "low"}, Has: true, Result: "low", Pc: "mid"},
		},
	})
	want := code.Encode([]string{"2", "x", "low", "y", "high", "p", "0", "", "high", "0", "1", "u", "q", "1", "low", "mid", "2", "high", "low", "0"})
	if !bytes.Equal(b, want) {
		t.Errorf("15.2: %q; want %q", b, want)
	}
}

// 15.2: Encode writes all interfaces as they are, also those that Decode refuses; a variable's Init and At are not in it.
func TestEncodeAny(t *testing.T) {
	for _, f := range written() {
		wantBack(t, f)
	}
	for _, f := range []api.Face{
		{Vars: []api.Var{{Name: "b"}, {Name: "a"}}},
		{Vars: []api.Var{{Name: "a", Label: "1"}, {Name: "a", Label: "2"}}},
		{Procs: []api.Sig{{Name: "b"}, {Name: "a"}}},
		{Procs: []api.Sig{{Name: "a"}, {Name: "a"}}},
		{Procs: []api.Sig{{Name: "a", Result: "x"}}},
		{Procs: []api.Sig{{Name: "a", Uses: []string{"b", "a"}}}},
		{Procs: []api.Sig{{Name: "a", Uses: []string{"a", "a"}}}},
		{Procs: []api.Sig{{Name: "a", Uses: []string{"a", ""}}, {Name: "b"}}},
	} {
		wantBack(t, f)
		if decodable(f) {
			t.Error("15.2: Decode should refuse", f)
		}
	}
	a := face.Encode(api.Face{Vars: []api.Var{{Name: "x", Label: "low", Init: 7, At: 8}}})
	if b := face.Encode(api.Face{Vars: []api.Var{{Name: "x", Label: "low"}}}); !bytes.Equal(a, b) {
		t.Errorf("15.2: %q and %q", a, b)
	}
}

// 15.2: twelve of each, so that the numbers have two digits.
func TestNumbers(t *testing.T) {
	var f api.Face
	var uses []string
	for i := range 12 {
		s := string(rune('a' + i))
		uses = append(uses, s)
		f.Vars = append(f.Vars, api.Var{Name: s, Label: "low"})
		f.Procs = append(f.Procs, api.Sig{Name: s, Params: slices.Clone(uses), Uses: slices.Clone(uses)})
	}
	wantBack(t, f)
	l := stringsOf(f)
	if l[0] != "12" || l[len(l)-13] != "12" || l[len(l)-26] != "12" {
		t.Error("15.2: no numbers with two digits:", l)
	}
}

// 15.2: rows of strings that no interface has.
func TestDecodeWrong(t *testing.T) {
	wantRow(t)
	wantRow(t, "1")
	wantRow(t, "1", "x")
	wantRow(t, "0", "p", "0", "", "l", "0")
	wantRow(t, "0", "p", "0", "", "l", "1", "a")
	wantRow(t, "0", "p", "0", "", "l", "0", "0", "q")
	wantRow(t, "0", "p", "1", "r", "l", "0", "0", "o", "1", "r", "l", "0", "0")
	wantRow(t, "0", "p", "1", "r", "l", "0", "0", "p", "1", "r", "l", "0", "0")
	wantRow(t, "2", "x", "l", "x", "l")
	wantRow(t, "0", "p", "0", "r", "l", "0", "0")
	wantRow(t, "0", "p", "1", "", "l", "0", "2", "b", "a")
	wantRow(t, "0", "p", "1", "", "l", "0", "2", "a", "a")
	for _, has := range []string{"", "2", "00", "01", "true", "-1", "\x00", "\x01"} {
		wantRow(t, "0", "p", has, "", "l", "0", "0")
	}
	for _, b := range []string{"", "\x00", "0", "\x00\x00\x00\x00", "\x00\x00\x00\x01\x00\x00\x00\x020", "\x00\x00\x00\x02\x00\x00\x00\x010"} {
		wantForm(t, []byte(b))
	}
	wantForm(t, nil)
}

// 15.2: only what Encode writes is a number, at each of the three places.
func TestDecodeNumbers(t *testing.T) {
	for _, n := range []string{
		"", "00", "01", "+0", "-0", "+1", "-1", "0x1", "1_0", " 1", "1 ", "1.", "1e0", "x", "\x00", "\x01", "１", "٠", "2", "3", "9", "10", "2147483647",
		"2147483648", "4294967296", "4294967297", "9223372036854775807", "9223372036854775808", "18446744073709551616", "18446744073709551617",
		"-9223372036854775808", "-9223372036854775809", "99999999999999999999999999",
	} {
		wantRow(t, n)
		wantRow(t, n, "x", "l")
		wantRow(t, "0", "p", "0", "", "l", n, "0")
		wantRow(t, "0", "p", "0", "", "l", n, "x", "0")
		wantRow(t, "0", "p", "0", "", "l", "0", n)
		wantRow(t, "0", "p", "0", "", "l", "0", n, "x")
	}
}

// 15.2: encodings that are cut, that go on, or that have another string at one place.
func TestDecodeTurned(t *testing.T) {
	for _, f := range written() {
		b := face.Encode(f)
		for k := range b {
			wantForm(t, b[:k])
		}
		for _, more := range []string{"\x00", "0", string(code.Encode([]string{"0"})), string(b)} {
			wantForm(t, append(slices.Clone(b), more...))
		}
		l := stringsOf(f)
		for k := range l {
			if k > 0 {
				wantMaybe(t, l[:k])
			}
			for _, s := range []string{"", "0", "1", "2", "3", "4", "a", "low", "\xff"} {
				other := slices.Clone(l)
				other[k] = s
				wantMaybe(t, other)
				wantMaybe(t, slices.Insert(slices.Clone(l), k, s))
			}
			wantMaybe(t, slices.Delete(slices.Clone(l), k, k+1))
		}
	}
}

// wantMaybe checks Decode of a row of strings by what Encode makes of the interface that it returns.
func wantMaybe(t *testing.T, l []string) {
	t.Helper()
	f, e := face.Decode(code.Encode(l))
	switch {
	case e == api.OK && slices.Equal(stringsOf(f), l) && decodable(f):
	case e == api.ErrForm && f.Vars == nil && f.Procs == nil:
	default:
		t.Fatalf("15.2: Decode of %q = %+v %d", l, f, e)
	}
}

// wantExactly checks that of all rows of up to n of some strings exactly those are decoded that an interface has.
func wantExactly(t *testing.T, n int, of ...string) {
	t.Helper()
	want := map[string]api.Face{}
	for _, f := range faces(n, of...) {
		l := stringsOf(f)
		if decodable(f) && !slices.ContainsFunc(l, func(s string) bool { return !slices.Contains(of, s) }) {
			want[joined(l)] = f
		}
	}
	found := 0
	for _, l := range rows(n, of...) {
		f, e := face.Decode(code.Encode(l))
		is, ok := want[joined(l)]
		switch {
		case ok && e == api.OK && equal(f, is):
			found++
		case ok || e != api.ErrForm || f.Vars != nil || f.Procs != nil:
			t.Fatalf("15.2: Decode of %q = %+v %d; want %v %+v", l, f, e, ok, is)
		}
	}
	if found != len(want) || found < 500 {
		t.Errorf("15.2: %d of %d interfaces were decoded", found, len(want))
	}
}

// 15.2: all short rows, with up to three variables or two strings in the lists of a procedure.
func TestDecodeAll(t *testing.T) {
	wantExactly(t, 7, "", "0", "1", "2", "3", "a")
	wantExactly(t, 9, "", "0", "1", "2")
}

// 15.2: random interfaces.
func TestBytesRandom(t *testing.T) {
	r := rand.New(rand.NewSource(2))
	texts := []string{"", "0", "1", "2", "3", "a", "b", "ab", "low"}
	text := func() string { return texts[r.Intn(len(texts))] }
	count := map[bool]int{}
	for range 20000 {
		var f api.Face
		f.Vars = some(r, 3, func() api.Var { return api.Var{Name: text(), Label: text()} })
		f.Procs = some(r, 3, func() api.Sig {
			return api.Sig{Name: text(), Has: r.Intn(3) > 0, Result: text(), Pc: text(), Params: some(r, 3, text), Uses: some(r, 2, text)}
		})
		if r.Intn(2) == 0 {
			slices.SortFunc(f.Vars, func(a, b api.Var) int { return bytes.Compare([]byte(a.Name), []byte(b.Name)) })
			slices.SortFunc(f.Procs, func(a, b api.Sig) int { return bytes.Compare([]byte(a.Name), []byte(b.Name)) })
		}
		count[decodable(f)]++
		wantBack(t, f)
	}
	if count[true] < 1000 || count[false] < 1000 {
		t.Error("too few of one kind:", count)
	}
}

// 15.3: different interfaces have different encodings, whether Decode takes them or not.
func TestDifferent(t *testing.T) {
	seen := map[string]string{}
	all := faces(9, "", "0", "1", "a")
	all = append(all, faces(14, "", "0")...)
	for _, f := range all {
		is, b := fmt.Sprintf("%#v", copied(f)), string(face.Encode(f))
		if other, ok := seen[b]; ok && other != is {
			t.Fatalf("15.3: %s and %s have the encoding %q", is, other, b)
		}
		seen[b] = is
	}
	if len(seen) < 10000 {
		t.Error("15.3: too few interfaces:", len(seen))
	}
}

// 15.2, 15.3: interfaces of modules come back.
func TestBytesOfModules(t *testing.T) {
	r := rand.New(rand.NewSource(3))
	var names []string
	for i := range 30 {
		names = append(names, fmt.Sprint("n", i*i))
	}
	good := 0
	for range 3000 {
		m := someModule(r, names, []string{"low", "high"})
		for i := range m.Procs {
			if !m.Procs[i].Has {
				m.Procs[i].Result = ""
			}
		}
		f, l := wantOf(t, m, api.Lattice{Names: []string{"high", "low"}})
		if len(l) == 0 {
			good++
		}
		if !decodable(f) {
			t.Errorf("15.2: Of(%s) = %s", short(m), short(f))
		}
		wantBack(t, f)
	}
	if good < 500 {
		t.Error("too few interfaces:", good)
	}
}

// R3: writing into what Encode and Decode return, up to its capacity, changes nothing else.
func TestBytesNewMemory(t *testing.T) {
	for _, want := range written() {
		b := face.Encode(want)
		kept := slices.Clone(b)
		for i := range want.Procs {
			got, _ := face.Decode(b)
			spoil(got.Procs[i].Params)
			copy(got.Procs[i].Params, want.Procs[i].Params)
			if !equal(got, want) {
				t.Errorf("R3: Params %d share memory: %v", i, got)
			}
			spoil(got.Procs[i].Uses)
			copy(got.Procs[i].Uses, want.Procs[i].Uses)
			if !equal(got, want) {
				t.Errorf("R3: Uses %d share memory: %v", i, got)
			}
		}
		got, _ := face.Decode(b)
		other, _ := face.Decode(b)
		spoil(other.Vars)
		spoil(other.Procs)
		spoil(b)
		if again := face.Encode(want); !bytes.Equal(again, kept) || !equal(got, want) {
			t.Errorf("R3: something else is changed: %q %v", again, got)
		}
	}
}
