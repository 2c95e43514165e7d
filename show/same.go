package show

import (
	"slices"

	"aquifer/api"
)

// Same tells whether two modules are equal but for the places of their parts.
func Same(a, b api.Module) bool {
	return a.Name == b.Name &&
		slices.EqualFunc(a.Imports, b.Imports, sameImport) &&
		slices.EqualFunc(a.Vars, b.Vars, sameVar) &&
		slices.EqualFunc(a.Procs, b.Procs, sameProc)
}

func sameImport(a, b api.Import) bool {
	a.At = b.At
	return a == b
}

func sameVar(a, b api.Var) bool {
	a.At = b.At
	return a == b
}

func sameParam(a, b api.Param) bool {
	a.At = b.At
	return a == b
}

func sameNode(a, b api.Node) bool {
	a.At = b.At
	return a == b
}

func sameProc(a, b api.Proc) bool {
	return a.Name == b.Name && a.Has == b.Has && a.Result == b.Result && a.Pc == b.Pc &&
		slices.EqualFunc(a.Params, b.Params, sameParam) &&
		slices.Equal(a.Uses, b.Uses) &&
		sameBody(a.Body, b.Body)
}

func sameBody(a, b []api.Stmt) bool {
	return slices.EqualFunc(a, b, sameStmt)
}

func sameStmt(a, b api.Stmt) bool {
	return a.Kind == b.Kind && a.Mod == b.Mod && a.Name == b.Name && a.Label == b.Label &&
		a.Has == b.Has && a.ToMod == b.ToMod && a.To == b.To &&
		sameExpr(a.E, b.E) &&
		slices.EqualFunc(a.Args, b.Args, sameExpr) &&
		sameBody(a.Body, b.Body) &&
		sameBody(a.Else, b.Else)
}

func sameExpr(a, b []api.Node) bool {
	return slices.EqualFunc(a, b, sameNode)
}
