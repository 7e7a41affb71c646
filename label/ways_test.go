package label

import (
	"go/ast"
	"go/parser"
	"go/token"
	"testing"
)

// function: a function of the package.
func function(t *testing.T, name string) *ast.FuncDecl {
	t.Helper()
	f, err := parser.ParseFile(token.NewFileSet(), "label.go", nil, 0)
	if err != nil {
		t.Fatal(err)
	}
	for _, d := range f.Decls {
		if x, ok := d.(*ast.FuncDecl); ok && x.Name.Name == name {
			return x
		}
	}
	t.Fatalf("no function %s", name)
	return nil
}

// rangesOverCall: is it a range over what a call of this name answers?
func rangesOverCall(n ast.Node, name string) bool {
	r, ok := n.(*ast.RangeStmt)
	if !ok {
		return false
	}
	c, ok := r.X.(*ast.CallExpr)
	if !ok {
		return false
	}
	s, ok := c.Fun.(*ast.SelectorExpr)
	return ok && s.Sel.Name == name
}

// Ways, layer 6: sets are made of a variadic list; parts of a text by a range over a function.
func TestWays(t *testing.T) {
	params := function(t, "Make").Type.Params.List
	if _, ok := params[len(params)-1].Type.(*ast.Ellipsis); !ok {
		t.Error("Make takes no variadic list")
	}
	found := false
	ast.Inspect(function(t, "Parse"), func(n ast.Node) bool {
		found = found || rangesOverCall(n, "SplitSeq")
		return true
	})
	if !found {
		t.Error("Parse doesn't range over a function")
	}
}
