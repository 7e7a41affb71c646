package bucket

import (
	"go/ast"
	"go/parser"
	"go/token"
	"testing"
)

// parsed: the functions and types of the package, by their names.
func parsed(t *testing.T) map[string]ast.Node {
	t.Helper()
	f, err := parser.ParseFile(token.NewFileSet(), "bucket.go", nil, 0)
	if err != nil {
		t.Fatal(err)
	}
	m := map[string]ast.Node{}
	for _, d := range f.Decls {
		switch x := d.(type) {
		case *ast.FuncDecl:
			m[x.Name.Name] = x
		case *ast.GenDecl:
			for _, s := range x.Specs {
				if y, ok := s.(*ast.TypeSpec); ok {
					m[y.Name.Name] = y
				}
			}
		}
	}
	return m
}

// anyPart: is there a part for which the question holds?
func anyPart(n ast.Node, asked func(ast.Node) bool) bool {
	found := false
	ast.Inspect(n, func(p ast.Node) bool {
		found = found || p != nil && asked(p)
		return !found
	})
	return found
}

// Ways, layer 5: a bucket embeds a fuse, whose methods are its own; what a call does is handed in as a closure.
func TestWays(t *testing.T) {
	m := parsed(t)
	embeds := func(n ast.Node) bool {
		f, ok := n.(*ast.Field)
		return ok && len(f.Names) == 0
	}
	if !anyPart(m["Bucket"], embeds) {
		t.Error("a bucket embeds nothing")
	}
	for _, name := range []string{"Arm", "Clear", "Try", "Do"} {
		if m[name] != nil {
			t.Errorf("%s is another one than the fuse's", name)
		}
	}
	for _, name := range []string{"Put", "Delete"} {
		if !anyPart(m[name], func(n ast.Node) bool { _, ok := n.(*ast.FuncLit); return ok }) {
			t.Errorf("%s hands in no closure", name)
		}
	}
}
