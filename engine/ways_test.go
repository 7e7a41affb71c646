package engine

import (
	"go/ast"
	"go/parser"
	"go/token"
	"path/filepath"
	"strings"
	"testing"
)

// found: has the package's text a part for which the question holds?
func found(t *testing.T, is func(ast.Node) bool) bool {
	t.Helper()
	names, err := filepath.Glob("*.go")
	if err != nil {
		t.Fatal(err)
	}
	yes := false
	for _, name := range names {
		if strings.HasSuffix(name, "_test.go") {
			continue
		}
		f, err := parser.ParseFile(token.NewFileSet(), name, nil, 0)
		if err != nil {
			t.Fatal(err)
		}
		ast.Inspect(f, func(n ast.Node) bool {
			yes = yes || n != nil && is(n)
			return !yes
		})
	}
	return yes
}

// isQuery: is it the type of a query's pointer?
func isQuery(n ast.Node) bool {
	p, ok := n.(*ast.StarExpr)
	if !ok {
		return false
	}
	s, ok := p.X.(*ast.SelectorExpr)
	return ok && s.Sel.Name == "Query"
}

// Ways, layer 24: queries lie in a map, of which they are deleted.
func TestWays(t *testing.T) {
	if !found(t, func(n ast.Node) bool { m, ok := n.(*ast.MapType); return ok && isQuery(m.Value) }) {
		t.Error("no map of queries")
	}
	if !found(t, func(n ast.Node) bool {
		c, ok := n.(*ast.CallExpr)
		if !ok {
			return false
		}
		f, ok := c.Fun.(*ast.Ident)
		return ok && f.Name == "delete"
	}) {
		t.Error("nothing is deleted")
	}
}
