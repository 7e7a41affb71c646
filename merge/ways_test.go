package merge

import (
	"go/ast"
	"go/parser"
	"go/token"
	"testing"
)

// parsed: the file in which the heap is.
func parsed(t *testing.T) *ast.File {
	t.Helper()
	f, err := parser.ParseFile(token.NewFileSet(), "heap.go", nil, 0)
	if err != nil {
		t.Fatal(err)
	}
	return f
}

// isPop: is it a call of the heap's Pop?
func isPop(n ast.Node) bool {
	c, ok := n.(*ast.CallExpr)
	if !ok {
		return false
	}
	s, ok := c.Fun.(*ast.SelectorExpr)
	if !ok || s.Sel.Name != "Pop" {
		return false
	}
	p, ok := s.X.(*ast.Ident)
	return ok && p.Name == "heap"
}

// Ways, layer 14: rows are merged by a heap of package container/heap; its type has the methods that this asks for; what comes out is asserted.
func TestWays(t *testing.T) {
	f := parsed(t)
	imported, asserted := false, false
	for _, i := range f.Imports {
		imported = imported || i.Path.Value == `"container/heap"`
	}
	methods := map[string]int{}
	ast.Inspect(f, func(n ast.Node) bool {
		if d, ok := n.(*ast.FuncDecl); ok && d.Recv != nil {
			methods[d.Name.Name]++
		}
		if a, ok := n.(*ast.TypeAssertExpr); ok && isPop(a.X) {
			asserted = true
		}
		return true
	})
	if !imported || !asserted {
		t.Errorf("imported: %v, asserted: %v", imported, asserted)
	}
	for _, name := range []string{"Len", "Less", "Swap", "Push", "Pop"} {
		if methods[name] != 1 {
			t.Errorf("%d methods %s", methods[name], name)
		}
	}
}
