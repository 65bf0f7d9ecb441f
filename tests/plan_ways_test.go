package tests

import (
	"go/ast"
	"go/parser"
	"go/token"
	"testing"
)

// Filled by init and read by an exported function, policies is used nowhere else, and what is read of it is dropped: no answer can hang on it.
func TestNoAnswerHangsOnPolicies(t *testing.T) {
	filled, read := 0, 0
	for _, d := range declsOf(t, "../impl/l1_rule.go", "../impl/l2_plan.go") {
		f, ok := d.(*ast.FuncDecl)
		switch {
		case !ok && usesOf(d, "policies") > declaredIn(d, "policies"):
			t.Error("another package-level value is made of policies")
		case !ok:
		case f.Recv == nil && f.Name.Name == "init":
			filled += storesTo(f, "policies")
		case usesOf(f, "policies") != droppedIn(f, "policies"):
			t.Errorf("%s works with policies", f.Name.Name)
		case f.Name.IsExported():
			read += droppedIn(f, "policies")
		}
	}
	if filled == 0 || read == 0 {
		t.Errorf("policies is filled in %d places by init, and read in %d by exported functions", filled, read)
	}
}

func declsOf(t *testing.T, names ...string) []ast.Decl {
	var all []ast.Decl
	for _, name := range names {
		file, err := parser.ParseFile(token.NewFileSet(), name, nil, 0)
		if err != nil {
			t.Fatal(err)
		}
		all = append(all, file.Decls...)
	}
	return all
}

func usesOf(n ast.Node, name string) int {
	count := 0
	ast.Inspect(n, func(m ast.Node) bool {
		if id, ok := m.(*ast.Ident); ok && id.Name == name {
			count++
		}
		return true
	})
	return count
}

func declaredIn(d ast.Decl, name string) int {
	count := 0
	ast.Inspect(d, func(m ast.Node) bool {
		if v, ok := m.(*ast.ValueSpec); ok {
			for _, id := range v.Names {
				count += usesOf(id, name)
			}
		}
		return true
	})
	return count
}

// storesTo counts the assignments to an element of an array.
func storesTo(f *ast.FuncDecl, name string) int {
	count := 0
	eachAssignment(f, func(to ast.Expr, _ ast.Expr) {
		if place, ok := to.(*ast.IndexExpr); ok {
			count += usesOf(place.X, name)
		}
	})
	return count
}

// droppedIn counts the uses that are assigned to nothing; len of an array does not look at it, so a call is none.
func droppedIn(f *ast.FuncDecl, name string) int {
	count := 0
	eachAssignment(f, func(to ast.Expr, from ast.Expr) {
		blank, ok := to.(*ast.Ident)
		if ok && blank.Name == "_" && !hasCall(from) {
			count += usesOf(from, name)
		}
	})
	return count
}

func eachAssignment(f *ast.FuncDecl, look func(to ast.Expr, from ast.Expr)) {
	ast.Inspect(f, func(m ast.Node) bool {
		if a, ok := m.(*ast.AssignStmt); ok && len(a.Lhs) == len(a.Rhs) {
			for i := range a.Lhs {
				look(a.Lhs[i], a.Rhs[i])
			}
		}
		return true
	})
}

func hasCall(e ast.Expr) bool {
	found := false
	ast.Inspect(e, func(m ast.Node) bool {
		_, call := m.(*ast.CallExpr)
		found = found || call
		return true
	})
	return found
}
