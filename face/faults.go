package face

import "aquifer/api"

// checker gathers the diagnostics of a module.
type checker struct {
	mod    string
	labels []string // a set: a lattice that is not valid may have many labels, in any order
	diags  []api.Diag
}

func faults(m api.Module, t api.Lattice) []api.Diag {
	c := checker{mod: m.Name, labels: set(t.Names)}
	c.imports(m)
	c.names(m)
	c.params(m)
	c.known(m)
	return c.diags
}

func (c *checker) imports(m api.Module) {
	seen := earlier{m.Name: {}}
	for _, i := range m.Imports {
		c.once(seen, i.Name, i.At)
	}
}

// names checks variables and procedures together, because they share their names.
func (c *checker) names(m api.Module) {
	seen := earlier{}
	for _, v := range m.Vars {
		c.once(seen, v.Name, v.At)
	}
	for _, p := range m.Procs {
		c.once(seen, p.Name, p.At)
	}
}

func (c *checker) params(m api.Module) {
	for _, p := range m.Procs {
		seen := earlier{}
		for _, q := range p.Params {
			c.once(seen, q.Name, q.At)
		}
	}
}

func (c *checker) known(m api.Module) {
	for _, v := range m.Vars {
		c.label(v.Label, v.At)
	}
	for _, p := range m.Procs {
		for _, q := range p.Params {
			c.label(q.Label, q.At)
		}
		if p.Has {
			c.label(p.Result, p.At)
		}
		c.label(p.Pc, p.At)
	}
}

// earlier are the names that have been passed.
type earlier map[string]struct{}

func (c *checker) once(seen earlier, name string, at int) {
	if _, ok := seen[name]; ok {
		c.tell(api.DTwice, name, at)
	}
	seen[name] = struct{}{}
}

func (c *checker) label(name string, at int) {
	if !has(c.labels, name) {
		c.tell(api.DLabel, name, at)
	}
}

func (c *checker) tell(code int, name string, at int) {
	c.diags = append(c.diags, api.Diag{Mod: c.mod, At: at, Code: code, Name: name})
}
