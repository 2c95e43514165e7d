package face

import (
	"strconv"

	"aquifer/api"
)

// reader takes strings one by one. Once one is missing, or is none that can stand there, it is bad, and what it returns
// means nothing.
type reader struct {
	rest []string
	bad  bool
}

func (r *reader) face() api.Face {
	var f api.Face
	for range r.count() {
		f.Vars = append(f.Vars, api.Var{Name: r.text(), Label: r.text()})
	}
	for len(r.rest) > 0 && !r.bad {
		f.Procs = append(f.Procs, r.procedure())
	}
	return f
}

func (r *reader) procedure() api.Sig {
	return api.Sig{Name: r.text(), Has: r.digit(), Result: r.text(), Pc: r.text(), Params: r.list(), Uses: r.list()}
}

func (r *reader) text() string {
	if len(r.rest) == 0 {
		r.bad = true
		return ""
	}
	s := r.rest[0]
	r.rest = r.rest[1:]
	return s
}

func (r *reader) digit() bool {
	s := r.text()
	r.bad = r.bad || s != "0" && s != "1"
	return s == "1"
}

func (r *reader) list() []string {
	var l []string
	for range r.count() {
		l = append(l, r.text())
	}
	return l
}

// count takes the number of the things that follow.
func (r *reader) count() int {
	s := r.text()
	n, err := strconv.Atoi(s)
	// Only the digits that Encode writes are a number, and one that is more than all that follows is not gone through.
	if err != nil || strconv.Itoa(n) != s || n < 0 || n > len(r.rest) {
		r.bad = true
		return 0
	}
	return n
}
