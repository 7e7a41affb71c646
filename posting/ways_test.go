package posting

import (
	"go/ast"
	"go/parser"
	"go/token"
	"testing"
)

// found: has the package's text a part for which the question holds?
func found(t *testing.T, asked func(ast.Node) bool) bool {
	t.Helper()
	f, err := parser.ParseFile(token.NewFileSet(), "posting.go", nil, 0)
	if err != nil {
		t.Fatal(err)
	}
	yes := false
	ast.Inspect(f, func(n ast.Node) bool {
		yes = yes || n != nil && asked(n)
		return !yes
	})
	return yes
}

// Ways, layer 12: lists are variadic; an index has maps, out of which what no series has is deleted.
func TestWays(t *testing.T) {
	for _, name := range []string{"Both", "Any"} {
		if !found(t, func(n ast.Node) bool {
			f, ok := n.(*ast.FuncDecl)
			if !ok || f.Name.Name != name {
				return false
			}
			_, ok = f.Type.Params.List[0].Type.(*ast.Ellipsis)
			return ok
		}) {
			t.Errorf("%s takes no variadic list", name)
		}
	}
	if !found(t, func(n ast.Node) bool { _, ok := n.(*ast.MapType); return ok }) {
		t.Error("no map")
	}
	if !found(t, func(n ast.Node) bool {
		c, ok := n.(*ast.CallExpr)
		if !ok {
			return false
		}
		f, ok := c.Fun.(*ast.Ident)
		return ok && f.Name == "delete"
	}) {
		t.Error("nothing is deleted")
	}
}
