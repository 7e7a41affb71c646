package frame

import (
	"go/ast"
	"go/parser"
	"go/token"
	"testing"
)

// Ways, layer 2: a record's sum goes over bytes by a range over an integer.
func TestSumRangesOverAnInteger(t *testing.T) {
	f, err := parser.ParseFile(token.NewFileSet(), "frame.go", nil, 0)
	if err != nil {
		t.Fatal(err)
	}
	found := false
	for _, d := range f.Decls {
		if fn, ok := d.(*ast.FuncDecl); ok && fn.Name.Name == "More" {
			ast.Inspect(fn, func(n ast.Node) bool {
				if r, ok := n.(*ast.RangeStmt); ok {
					found = found || isLength(r.X)
				}
				return true
			})
		}
	}
	if !found {
		t.Error("More has no range over how many bytes there are")
	}
}

// isLength: is it a call of len?
func isLength(e ast.Expr) bool {
	c, ok := e.(*ast.CallExpr)
	if !ok {
		return false
	}
	name, ok := c.Fun.(*ast.Ident)
	return ok && name.Name == "len"
}
