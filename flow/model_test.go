package flow_test

import (
	"fmt"
	"reflect"
	"slices"
	"strings"
	"testing"

	"aquifer/api"
	"aquifer/face"
	"aquifer/flow"
	"aquifer/label"
	"aquifer/parse"
)

// copied returns a value with new lists, an empty one as nil.
func copied[T any](x T) T {
	return copyOf(reflect.ValueOf(x)).Interface().(T)
}

func copyOf(v reflect.Value) reflect.Value {
	to := reflect.New(v.Type()).Elem()
	switch v.Kind() {
	case reflect.Struct:
		for i := range v.NumField() {
			to.Field(i).Set(copyOf(v.Field(i)))
		}
	case reflect.Slice:
		for i := range v.Len() {
			to.Set(reflect.Append(to, copyOf(v.Index(i))))
		}
	default:
		to.Set(v)
	}
	return to
}

// equal compares all fields; a nil list and an empty one are equal.
func equal[T any](a, b T) bool {
	return reflect.DeepEqual(copied(a), copied(b))
}

// parsed returns the module of a source.
func parsed(t *testing.T, s string) api.Module {
	t.Helper()
	m, e, at := parse.Module(s)
	if e != api.OK {
		t.Fatalf("Module(%q) = %d %d", s, e, at)
	}
	return m
}

// lattice returns the lattice of a source.
func lattice(t *testing.T, s string) api.Lattice {
	t.Helper()
	l, e, at := label.Read(s)
	if e != api.OK {
		t.Fatalf("Read(%q) = %d %d", s, e, at)
	}
	return l
}

// shows returns the Known of a module with an interface, from its source.
func shows(t *testing.T, s string, lat api.Lattice) flow.Known {
	t.Helper()
	m := parsed(t, s)
	f, l := face.Of(m, lat)
	if len(l) > 0 {
		t.Fatalf("Of(%q) = %v", s, l)
	}
	return flow.Known{Name: m.Name, Has: true, Face: f}
}

var codes = []string{
	api.DNoFace: "DNoFace", api.DTwice: "DTwice", api.DLabel: "DLabel", api.DName: "DName", api.DArity: "DArity", api.DFlow: "DFlow", api.DPc: "DPc",
	api.DArg: "DArg", api.DEffect: "DEffect",
}

// text returns diagnostics as they are written in these tests, their places from some place on.
func text(l []api.Diag, from int) string {
	var all []string
	for _, d := range l {
		all = append(all, fmt.Sprint(d.At-from, " ", codes[d.Code], " ", d.Name))
	}
	return strings.Join(all, "; ")
}

// found is what a name denotes.
type found struct {
	label  int
	closed bool // the module is an import with DNoFace
	none   bool // it denotes nothing
}

// local is a local name.
type local struct {
	name  string
	label int
}

// model checks a module by the sentences of chapter 16, one after the other and without any table.
type model struct {
	m     api.Module
	t     api.Lattice
	known []flow.Known
	own   api.Face
	proc  api.Proc
	diags []api.Diag
}

// told is what chapter 16 asks Check to report.
func told(m api.Module, t api.Lattice, known []flow.Known) []api.Diag {
	own, l := face.Of(m, t)
	if len(l) > 0 {
		return l
	}
	if !label.Right(t) {
		return nil
	}
	w := model{m: m, t: t, known: known, own: own}
	for _, i := range m.Imports {
		if _, ok := w.shown(i.Name); !ok {
			w.tell(i.At, api.DNoFace, i.Name)
		}
	}
	for _, p := range m.Procs {
		w.proc = p
		var scope []local
		for _, q := range p.Params {
			scope = append(scope, local{q.Name, w.level(q.Label)})
		}
		w.block(p.Body, scope, w.level(p.Pc))
	}
	return w.diags
}

func (w *model) tell(at, code int, name string) {
	w.diags = append(w.diags, api.Diag{Mod: w.m.Name, At: at, Code: code, Name: name})
}

// shown returns the interface of the first Known of a name.
func (w *model) shown(name string) (api.Face, bool) {
	i := slices.IndexFunc(w.known, func(k flow.Known) bool { return k.Name == name })
	if i < 0 || !w.known[i].Has {
		return api.Face{}, false
	}
	return w.known[i].Face, true
}

func (w *model) imported(name string) bool {
	return slices.ContainsFunc(w.m.Imports, func(i api.Import) bool { return i.Name == name })
}

// level returns the place of a label; one that there is not counts as High.
func (w *model) level(name string) int {
	if i := slices.Index(w.t.Names, name); i >= 0 {
		return i
	}
	return w.bound(true)
}

// bound returns the label that all are at most, or the one that is at most all.
func (w *model) bound(high bool) int {
	for a := range w.t.Names {
		all := true
		for b := range w.t.Names {
			all = all && (high && w.t.Le[b][a] || !high && w.t.Le[a][b])
		}
		if all {
			return a
		}
	}
	panic("no lattice")
}

// join returns the least label that both are at most.
func (w *model) join(a, b int) int {
	for c := range w.t.Names {
		least := w.t.Le[a][c] && w.t.Le[b][c]
		for d := range w.t.Names {
			least = least && (!w.t.Le[a][d] || !w.t.Le[b][d] || w.t.Le[c][d])
		}
		if least {
			return c
		}
	}
	panic("no lattice")
}

// denoted returns what a name denotes where these local names are in scope.
func (w *model) denoted(scope []local, mod, name string) found {
	vars := w.own.Vars
	if mod == "" {
		for i := len(scope) - 1; i >= 0; i-- {
			if scope[i].name == name {
				return found{label: scope[i].label}
			}
		}
	} else {
		if !w.imported(mod) {
			return found{none: true}
		}
		f, ok := w.shown(mod)
		if !ok {
			return found{closed: true}
		}
		vars = f.Vars
	}
	for _, v := range vars {
		if v.Name == name {
			return found{label: w.level(v.Label)}
		}
	}
	return found{none: true}
}

func spelled(mod, name string) string {
	if mod != "" {
		return mod + "." + name
	}
	return name
}

// value tells of the nodes of an expression and returns its label: all its names flow into it.
func (w *model) value(l []api.Node, scope []local) int {
	all := w.bound(false)
	for _, n := range l {
		if n.Kind != api.NVar {
			continue
		}
		switch d := w.denoted(scope, n.Mod, n.Name); {
		case d.none:
			w.tell(n.At, api.DName, spelled(n.Mod, n.Name))
		case !d.closed:
			all = w.join(all, d.label)
		}
	}
	return all
}

// block checks statements; a let makes the scope of those behind it longer.
func (w *model) block(l []api.Stmt, scope []local, pc int) {
	if len(l) == 0 {
		return
	}
	s := l[0]
	var args []int
	from := w.join(pc, w.value(s.E, scope))
	for _, a := range s.Args {
		args = append(args, w.value(a, scope))
	}
	switch s.Kind {
	case api.SLet:
		w.let(s, scope, from)
		scope = append(slices.Clone(scope), local{s.Name, w.level(s.Label)})
	case api.SSet:
		w.set(s, scope, from)
	case api.SResult:
		if !w.proc.Has {
			w.tell(s.At, api.DArity, "result")
		} else if !w.t.Le[from][w.level(w.proc.Result)] {
			w.tell(s.At, api.DFlow, "result")
		}
	case api.SCall:
		w.call(s, scope, args, pc)
	case api.SIf, api.SWhile:
		w.block(s.Body, scope, from)
		w.block(s.Else, scope, from)
	case api.SEmit:
		if !slices.Contains(w.proc.Uses, s.Name) {
			w.tell(s.At, api.DEffect, s.Name)
		}
	}
	w.block(l[1:], scope, pc)
}

func (w *model) let(s api.Stmt, scope []local, from int) {
	twice := slices.ContainsFunc(scope, func(x local) bool { return x.name == s.Name })
	if twice || slices.ContainsFunc(w.m.Vars, func(v api.Var) bool { return v.Name == s.Name }) {
		w.tell(s.At, api.DTwice, s.Name)
	}
	if !slices.Contains(w.t.Names, s.Label) {
		w.tell(s.At, api.DLabel, s.Label)
	}
	if !w.t.Le[from][w.level(s.Label)] {
		w.tell(s.At, api.DFlow, s.Name)
	}
}

func (w *model) set(s api.Stmt, scope []local, from int) {
	switch d := w.denoted(scope, s.Mod, s.Name); {
	case d.none:
		w.tell(s.At, api.DName, spelled(s.Mod, s.Name))
	case !d.closed && !w.t.Le[from][d.label]:
		w.tell(s.At, api.DFlow, spelled(s.Mod, s.Name))
	}
}

func (w *model) call(s api.Stmt, scope []local, args []int, pc int) {
	f := w.own
	if s.ToMod != "" {
		var ok bool
		f, ok = w.shown(s.ToMod)
		switch imported := w.imported(s.ToMod); {
		case imported && !ok:
			return
		case !imported:
			f = api.Face{}
		}
	}
	i := slices.IndexFunc(f.Procs, func(p api.Sig) bool { return p.Name == s.To })
	if i < 0 {
		w.tell(s.At, api.DName, spelled(s.ToMod, s.To))
		return
	}
	p := f.Procs[i]
	one := len(args) != len(p.Params) || s.Has && !p.Has
	if one {
		w.tell(s.At, api.DArity, spelled(s.ToMod, s.To))
	}
	if !w.t.Le[pc][w.level(p.Pc)] {
		w.tell(s.At, api.DPc, spelled(s.ToMod, s.To))
	}
	for i := range args {
		if !one && !w.t.Le[args[i]][w.level(p.Params[i])] {
			w.tell(s.At, api.DArg, fmt.Sprint(i))
		}
	}
	for _, u := range p.Uses {
		if !slices.Contains(w.proc.Uses, u) {
			w.tell(s.At, api.DEffect, u)
		}
	}
	if !one && s.Has {
		w.set(s, scope, w.join(pc, w.level(p.Result)))
	}
}

// given are the arguments of Check.
type given struct {
	m     api.Module
	lat   api.Lattice
	known []flow.Known
}

// wantModel checks what Check returns against the model, and returns it.
func wantModel(t *testing.T, m api.Module, lat api.Lattice, known []flow.Known) []api.Diag {
	t.Helper()
	before := given{copied(m), copied(lat), copied(known)}
	l := flow.Check(m, lat, known)
	if after := (given{copied(m), copied(lat), copied(known)}); !reflect.DeepEqual(after, before) {
		t.Fatalf("R3: Check has changed %+v to %+v", before, after)
	}
	if want := told(m, lat, known); !equal(l, want) {
		t.Fatalf("chapter 16: Check(%+v, %q, %+v)\ntells %s\nwant  %s", m, lat.Names, known, text(l, 0), text(want, 0))
	}
	return l
}
