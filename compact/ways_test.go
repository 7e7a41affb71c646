package compact

import (
	"go/ast"
	"go/parser"
	"go/token"
	"path/filepath"
	"strings"
	"testing"
)

// found: has the package's text a part for which the question holds?
func found(t *testing.T, asked func(ast.Node) bool) bool {
	t.Helper()
	names, err := filepath.Glob("*.go")
	if err != nil {
		t.Fatal(err)
	}
	yes := false
	for _, name := range names {
		if strings.HasSuffix(name, "_test.go") {
			continue
		}
		f, err := parser.ParseFile(token.NewFileSet(), name, nil, 0)
		if err != nil {
			t.Fatal(err)
		}
		ast.Inspect(f, func(n ast.Node) bool {
			yes = yes || n != nil && asked(n)
			return !yes
		})
	}
	return yes
}

// handsIn: is it Step, to which a function is handed in?
func handsIn(n ast.Node) bool {
	f, ok := n.(*ast.FuncDecl)
	if !ok || f.Recv == nil || f.Name.Name != "Step" {
		return false
	}
	l := f.Type.Params.List
	_, ok = l[len(l)-1].Type.(*ast.FuncType)
	return ok
}

// makes: does it call what makes names?
func makes(n ast.Node) bool {
	s, ok := n.(*ast.SelectorExpr)
	if !ok {
		return false
	}
	p, ok := s.X.(*ast.Ident)
	return ok && (p.Name == "ident" && s.Sel.Name == "Make" || p.Name == "ship" && s.Sel.Name == "Next")
}

// Ways, layer 21: names are made by a function that is handed in, and by no other one; a closure sees to it that it doesn't panic.
func TestWays(t *testing.T) {
	if !found(t, handsIn) {
		t.Error("no function is handed in")
	}
	if found(t, makes) {
		t.Error("it makes names of its own")
	}
	if !found(t, func(n ast.Node) bool { _, ok := n.(*ast.FuncLit); return ok }) {
		t.Error("no closure")
	}
}
