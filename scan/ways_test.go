package scan

import (
	"go/ast"
	"go/parser"
	"go/token"
	"path/filepath"
	"strings"
	"testing"
)

// parsed: the program's files of this package.
func parsed(t *testing.T) []*ast.File {
	t.Helper()
	names, err := filepath.Glob("*.go")
	if err != nil {
		t.Fatal(err)
	}
	var files []*ast.File
	for _, name := range names {
		if strings.HasSuffix(name, "_test.go") {
			continue
		}
		f, err := parser.ParseFile(token.NewFileSet(), name, nil, 0)
		if err != nil {
			t.Fatal(err)
		}
		files = append(files, f)
	}
	return files
}

// found: has the package's text a part for which the question holds?
func found(t *testing.T, asked func(ast.Node) bool) bool {
	t.Helper()
	yes := false
	for _, f := range parsed(t) {
		ast.Inspect(f, func(n ast.Node) bool {
			yes = yes || n != nil && asked(n)
			return !yes
		})
	}
	return yes
}

// embedsScan: is it the type Update, with a scan embedded?
func embedsScan(n ast.Node) bool {
	spec, ok := n.(*ast.TypeSpec)
	if !ok || spec.Name.Name != "Update" {
		return false
	}
	s, ok := spec.Type.(*ast.StructType)
	if !ok {
		return false
	}
	for _, f := range s.Fields.List {
		p, isPointer := f.Type.(*ast.StarExpr)
		if !isPointer || len(f.Names) > 0 {
			continue
		}
		if name, ok := p.X.(*ast.Ident); ok && name.Name == "Scan" {
			return true
		}
	}
	return false
}

// Ways, layer 19: an update embeds a scan, whose methods are its own where it has none; what was got lies in a map.
func TestWays(t *testing.T) {
	if !found(t, embedsScan) {
		t.Error("an update embeds no scan")
	}
	for _, name := range []string{"At", "Got", "Infos", "Listing"} {
		if found(t, func(n ast.Node) bool {
			f, ok := n.(*ast.FuncDecl)
			return ok && f.Recv != nil && f.Name.Name == name && strings.Contains(receiver(f), "Update")
		}) {
			t.Errorf("an update has a %s of its own", name)
		}
	}
	if !found(t, func(n ast.Node) bool { _, ok := n.(*ast.MapType); return ok }) {
		t.Error("no map")
	}
}

// receiver: the name of a method's type.
func receiver(f *ast.FuncDecl) string {
	x := f.Recv.List[0].Type
	if p, ok := x.(*ast.StarExpr); ok {
		x = p.X
	}
	if name, ok := x.(*ast.Ident); ok {
		return name.Name
	}
	return ""
}
