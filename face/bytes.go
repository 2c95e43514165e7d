package face

import (
	"strconv"

	"aquifer/api"
	"aquifer/code"
)

// Encode returns the encoding of an interface.
func Encode(f api.Face) []byte {
	l := []string{strconv.Itoa(len(f.Vars))}
	for _, v := range f.Vars {
		l = append(l, v.Name, v.Label)
	}
	for _, p := range f.Procs {
		l = append(l, p.Name, digit(p.Has), p.Result, p.Pc)
		l = appendList(l, p.Params)
		l = appendList(l, p.Uses)
	}
	return code.Encode(l)
}

// Decode returns the interface whose encoding is exactly b, or ErrForm.
func Decode(b []byte) (api.Face, api.Errno) {
	l, e := code.Decode(b)
	if e != api.OK {
		return api.Face{}, api.ErrForm
	}
	r := reader{rest: l}
	f := r.face()
	if r.bad || !right(f) {
		return api.Face{}, api.ErrForm
	}
	return f, api.OK
}

func digit(b bool) string {
	if b {
		return "1"
	}
	return "0"
}

func appendList(l, more []string) []string {
	return append(append(l, strconv.Itoa(len(more))), more...)
}

// right reports whether an interface that was encoded may be decoded.
func right(f api.Face) bool {
	for _, p := range f.Procs {
		if !p.Has && p.Result != "" || !ascending(p.Uses, func(s string) string { return s }) {
			return false
		}
	}
	return ascending(f.Vars, func(v api.Var) string { return v.Name }) &&
		ascending(f.Procs, func(p api.Sig) string { return p.Name })
}

func ascending[T any](l []T, name func(T) string) bool {
	for i := 1; i < len(l); i++ {
		if name(l[i-1]) >= name(l[i]) {
			return false
		}
	}
	return true
}
