package face_test

import (
	"fmt"
	"math/rand"
	"reflect"
	"slices"
	"strings"
	"testing"

	"aquifer/api"
	"aquifer/face"
	"aquifer/label"
	"aquifer/parse"
)

// short returns how something is shown, or the beginning of that.
func short(v any) string { return fmt.Sprintf("%.500s", fmt.Sprintf("%+v", v)) }

// copied returns a value with new lists, an empty one as nil.
func copied[T any](x T) T {
	return copyOf(reflect.ValueOf(x)).Interface().(T)
}

func copyOf(v reflect.Value) reflect.Value {
	to := reflect.New(v.Type()).Elem()
	switch v.Kind() {
	case reflect.Struct:
		for i := range v.NumField() {
			to.Field(i).Set(copyOf(v.Field(i)))
		}
	case reflect.Slice:
		for i := range v.Len() {
			to.Set(reflect.Append(to, copyOf(v.Index(i))))
		}
	default:
		to.Set(v)
	}
	return to
}

// equal compares all fields; a nil list and an empty one are equal.
func equal[T any](a, b T) bool {
	return reflect.DeepEqual(copied(a), copied(b))
}

// spoil writes into a slice and behind it.
func spoil[T any](l []T) {
	clear(l[:cap(l)])
}

// parsed returns the module of a source.
func parsed(t *testing.T, s string) api.Module {
	t.Helper()
	m, e, at := parse.Module(s)
	if e != api.OK {
		t.Fatalf("Module(%q) = %d %d", s, e, at)
	}
	return m
}

// lattice returns the lattice of a source.
func lattice(t *testing.T, s string) api.Lattice {
	t.Helper()
	l, e, at := label.Read(s)
	if e != api.OK {
		t.Fatalf("Read(%q) = %d %d", s, e, at)
	}
	return l
}

// item is something that has a name, or is a label, at a place.
type item struct {
	name string
	at   int
}

// twice returns the items whose name is that of an earlier one.
func twice(l []item) []item {
	var again []item
	for i, x := range l {
		if slices.ContainsFunc(l[:i], func(y item) bool { return y.name == x.name }) {
			again = append(again, x)
		}
	}
	return again
}

// named returns the variables and procedures of a module.
func named(m api.Module) []item {
	var l []item
	for _, v := range m.Vars {
		l = append(l, item{v.Name, v.At})
	}
	for _, p := range m.Procs {
		l = append(l, item{p.Name, p.At})
	}
	return l
}

// labels returns the labels of a module, in the order of 15.1.
func labels(m api.Module) []item {
	var l []item
	for _, v := range m.Vars {
		l = append(l, item{v.Label, v.At})
	}
	for _, p := range m.Procs {
		for _, q := range p.Params {
			l = append(l, item{q.Label, q.At})
		}
		if p.Has {
			l = append(l, item{p.Result, p.At})
		}
		l = append(l, item{p.Pc, p.At})
	}
	return l
}

// told is what 15.1 asks Of to report, sentence by sentence.
func told(m api.Module, t api.Lattice) []api.Diag {
	var l []api.Diag
	add := func(code int, all []item) {
		for _, x := range all {
			l = append(l, api.Diag{Mod: m.Name, At: x.at, Code: code, Name: x.name})
		}
	}
	imports := []item{{name: m.Name}}
	for _, i := range m.Imports {
		imports = append(imports, item{i.Name, i.At})
	}
	add(6, twice(imports))
	add(6, twice(named(m)))
	for _, p := range m.Procs {
		var params []item
		for _, q := range p.Params {
			params = append(params, item{q.Name, q.At})
		}
		add(6, twice(params))
	}
	for _, x := range labels(m) {
		if !slices.Contains(t.Names, x.name) {
			add(7, []item{x})
		}
	}
	return l
}

// seen is what importers see of a module without diagnostics.
func seen(m api.Module) api.Face {
	var f api.Face
	var all []string
	for _, x := range named(m) {
		all = append(all, x.name)
	}
	for _, name := range united(all) {
		for _, v := range m.Vars {
			if v.Name == name {
				f.Vars = append(f.Vars, api.Var{Name: name, Label: v.Label})
			}
		}
		for _, p := range m.Procs {
			if p.Name == name {
				s := api.Sig{Name: name, Has: p.Has, Result: p.Result, Pc: p.Pc, Uses: united(p.Uses)}
				for _, q := range p.Params {
					s.Params = append(s.Params, q.Label)
				}
				f.Procs = append(f.Procs, s)
			}
		}
	}
	return f
}

// united returns what Union promises of all these lists.
func united(lists ...[]string) []string {
	in := map[string]int{}
	for _, l := range lists {
		for _, s := range l {
			in[s]++
		}
	}
	var all []string
	for s := range in {
		all = append(all, s)
	}
	slices.Sort(all)
	return all
}

// wantOf checks what Of returns against the model, and returns it.
func wantOf(t *testing.T, m api.Module, l api.Lattice) (api.Face, []api.Diag) {
	t.Helper()
	module, lattice := copied(m), copied(l)
	f, diags := face.Of(m, l)
	want := api.Face{}
	if len(told(m, l)) == 0 {
		want = seen(m)
	}
	if !equal(diags, told(m, l)) {
		t.Fatalf("15.1: Of(%s, %q) tells %v; want %v", short(m), l.Names, diags, told(m, l))
	}
	if !equal(f, want) {
		t.Fatalf("15.1: Of(%s, %q) is %s; want %s", short(m), l.Names, short(f), short(want))
	}
	if !equal(m, module) || !equal(l, lattice) {
		t.Fatalf("R3: Of has changed %s to %s, or %s to %s", short(module), short(m), short(lattice), short(l))
	}
	return f, diags
}

// some returns up to n things.
func some[T any](r *rand.Rand, n int, one func() T) []T {
	var l []T
	for range r.Intn(n + 1) {
		l = append(l, one())
	}
	return l
}

// someModule returns a module whose names and labels are among these, whatever that makes of it.
func someModule(r *rand.Rand, names, labels []string) api.Module {
	at := func() int { return r.Intn(300) - 30 }
	name := func() string { return names[r.Intn(len(names))] }
	level := func() string { return labels[r.Intn(len(labels))] }
	m := api.Module{Name: name(), At: at()}
	m.Imports = some(r, 3, func() api.Import { return api.Import{Name: name(), At: at()} })
	m.Vars = some(r, 4, func() api.Var { return api.Var{Name: name(), Label: level(), Init: at(), At: at()} })
	m.Procs = some(r, 4, func() api.Proc {
		p := api.Proc{Name: name(), Has: r.Intn(2) == 0, Result: level(), Pc: level(), Uses: some(r, 6, name), At: at()}
		p.Params = some(r, 3, func() api.Param { return api.Param{Name: name(), Label: level(), At: at()} })
		p.Body = []api.Stmt{{Kind: api.SLet, Name: name(), Label: "none", At: at()}}
		return p
	})
	return m
}

// rows returns all lists of up to n of some strings.
func rows(n int, of ...string) [][]string {
	all := [][]string{nil}
	from := 0
	for range n {
		to := len(all)
		for _, l := range all[from:to] {
			for _, s := range of {
				all = append(all, append(slices.Clone(l), s))
			}
		}
		from = to
	}
	return all
}

// joined returns a text that tells lists of strings apart.
func joined(l []string) string {
	return fmt.Sprintf("%q", l)
}

// stringsOf returns the strings of an encoding, by the words of 15.2.
func stringsOf(f api.Face) []string {
	l := []string{fmt.Sprint(len(f.Vars))}
	for _, v := range f.Vars {
		l = append(l, v.Name, v.Label)
	}
	for _, p := range f.Procs {
		has := strings.NewReplacer("true", "1", "false", "0").Replace(fmt.Sprint(p.Has))
		l = append(l, p.Name, has, p.Result, p.Pc, fmt.Sprint(len(p.Params)))
		l = append(l, p.Params...)
		l = append(l, fmt.Sprint(len(p.Uses)))
		l = append(l, p.Uses...)
	}
	return l
}

// decodable says whether 15.2 asks Decode to take an interface.
func decodable(f api.Face) bool {
	var vars, procs []string
	for _, v := range f.Vars {
		vars = append(vars, v.Name)
	}
	for _, p := range f.Procs {
		procs = append(procs, p.Name)
		if !p.Has && p.Result != "" || !slices.Equal(p.Uses, united(p.Uses)) {
			return false
		}
	}
	return slices.Equal(vars, united(vars)) && slices.Equal(procs, united(procs))
}

// faces returns all interfaces of these strings, decodable or not, whose encodings have at most n strings.
func faces(n int, of ...string) []api.Face {
	var all []api.Face
	vars := []api.Face{{}}
	for left := n - 1; left >= 0 && len(vars) > 0; left -= 2 {
		var next []api.Face
		for _, f := range vars {
			all = append(all, withProcs(f, left, of)...)
			for _, l := range rows(2, of...) {
				if len(l) == 2 {
					more := append(slices.Clone(f.Vars), api.Var{Name: l[0], Label: l[1]})
					next = append(next, api.Face{Vars: more})
				}
			}
		}
		vars = next
	}
	return all
}

// withProcs returns an interface with all rows of procedures that take no more strings than that.
func withProcs(f api.Face, left int, of []string) []api.Face {
	all := []api.Face{f}
	if left < 6 {
		return all
	}
	for _, s := range sigs(left, of) {
		more := api.Face{Vars: f.Vars, Procs: append(slices.Clone(f.Procs), s)}
		all = append(all, withProcs(more, left-6-len(s.Params)-len(s.Uses), of)...)
	}
	return all
}

// sigs returns all procedures that take no more strings than that.
func sigs(left int, of []string) []api.Sig {
	var all []api.Sig
	for _, l := range rows(left-3, of...) {
		for params := 0; params <= len(l)-3; params++ {
			for _, has := range []bool{false, true} {
				all = append(all, api.Sig{Name: l[0], Has: has, Result: l[1], Pc: l[2], Params: l[3 : 3+params], Uses: l[3+params:]})
			}
		}
	}
	return slices.DeleteFunc(all, func(s api.Sig) bool { return 6+len(s.Params)+len(s.Uses) > left })
}
