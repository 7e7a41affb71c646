package disk

import (
	"go/ast"
	"go/parser"
	"go/token"
	"testing"
)

// parsed: the functions and types of the package, by their names.
func parsed(t *testing.T) map[string]ast.Node {
	t.Helper()
	m := map[string]ast.Node{}
	for _, name := range []string{"disk.go", "fuse.go"} {
		f, err := parser.ParseFile(token.NewFileSet(), name, nil, 0)
		if err != nil {
			t.Fatal(err)
		}
		for _, d := range f.Decls {
			switch x := d.(type) {
			case *ast.FuncDecl:
				m[x.Name.Name] = x
			case *ast.GenDecl:
				for _, s := range x.Specs {
					if y, ok := s.(*ast.TypeSpec); ok {
						m[y.Name.Name] = y
					}
				}
			}
		}
	}
	return m
}

// anyPart: is there a part for which the question holds?
func anyPart(n ast.Node, asked func(ast.Node) bool) bool {
	found := false
	ast.Inspect(n, func(p ast.Node) bool {
		found = found || p != nil && asked(p)
		return !found
	})
	return found
}

// isSelect: a choice with a default, of one that sends, or takes.
func isSelect(sends bool) func(ast.Node) bool {
	return func(n ast.Node) bool {
		s, ok := n.(*ast.SelectStmt)
		if !ok {
			return false
		}
		way, other := false, false
		for _, c := range s.Body.List {
			comm := c.(*ast.CommClause).Comm
			_, send := comm.(*ast.SendStmt)
			way = way || comm != nil && send == sends
			other = other || comm == nil
		}
		return way && other
	}
}

// Ways, layer 4: faults wait in a channel of some room, and are put and taken by a select with a default; what a call does is handed in as a closure; files lie in a map.
func TestWays(t *testing.T) {
	m := parsed(t)
	if !anyPart(m["Fuse"], func(n ast.Node) bool { _, ok := n.(*ast.ChanType); return ok }) {
		t.Error("a fuse has no channel")
	}
	if !anyPart(m["Arm"], isSelect(true)) {
		t.Error("no fault is put by a select with a default")
	}
	if !anyPart(m["take"], isSelect(false)) {
		t.Error("no fault is taken by a select with a default")
	}
	if !anyPart(m["Disk"], func(n ast.Node) bool { _, ok := n.(*ast.MapType); return ok }) {
		t.Error("a disk has no map")
	}
	for _, name := range []string{"Append", "Sync", "Truncate", "Rename", "Remove"} {
		if !anyPart(m[name], func(n ast.Node) bool { _, ok := n.(*ast.FuncLit); return ok }) {
			t.Errorf("%s hands in no closure", name)
		}
	}
	if cap(NewFuse().waiting) != MaxFuses {
		t.Error("the channel's room isn't that of the faults")
	}
}
