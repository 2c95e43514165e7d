package flow

import (
	"slices"

	"aquifer/api"
)

// module is what can be named of a module; of one that is not imported there is nothing.
type module struct {
	closed bool           // it is imported, but has no interface
	vars   map[string]int // their labels
	procs  map[string]api.Sig
}

// local is a parameter or a let.
type local struct {
	name  string
	label int
}

func (c *checker) imports(l []api.Import, known []Known) {
	first := map[string]int{}
	for i, k := range slices.Backward(known) {
		first[k.Name] = i
	}
	for _, i := range l {
		at, ok := first[i.Name]
		if ok && known[at].Has {
			c.modules[i.Name] = c.shown(known[at].Face)
			continue
		}
		c.modules[i.Name] = module{closed: true}
		c.tell(api.DNoFace, i.Name, i.At)
	}
}

// shown makes the names of an interface ready to be asked.
func (c *checker) shown(f api.Face) module {
	m := module{vars: map[string]int{}, procs: map[string]api.Sig{}}
	for _, v := range slices.Backward(f.Vars) {
		m.vars[v.Name] = c.place(v.Label)
	}
	for _, p := range slices.Backward(f.Procs) {
		m.procs[p.Name] = p
	}
	return m
}

// name returns the label of what a name denotes, and whether that is known. A name that denotes nothing is told.
func (c *checker) name(mod, name string, at int) (int, bool) {
	if mod == "" {
		if i := c.local(name); i >= 0 {
			return c.locals[i].label, true
		}
	}
	m := c.modules[mod]
	if m.closed {
		return c.lattice.Low, false
	}
	label, ok := m.vars[name]
	if !ok {
		c.tell(api.DName, written(mod, name), at)
		return c.lattice.Low, false
	}
	return label, true
}

// local returns the place of the last local name that is this one, or -1.
func (c *checker) local(name string) int {
	for i, l := range slices.Backward(c.locals) {
		if l.name == name {
			return i
		}
	}
	return -1
}

// taken reports whether a let may not have this name.
func (c *checker) taken(name string) bool {
	_, ok := c.modules[""].vars[name]
	return ok || c.local(name) >= 0
}

// written returns a name as it is written.
func written(mod, name string) string {
	if mod == "" {
		return name
	}
	return mod + "." + name
}
