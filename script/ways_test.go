package script

import (
	"go/ast"
	"go/parser"
	"go/token"
	"path/filepath"
	"strconv"
	"strings"
	"testing"
)

// declared: all that the package declares, in files that are no tests.
func declared(t *testing.T) []ast.Decl {
	t.Helper()
	names, err := filepath.Glob("*.go")
	if err != nil {
		t.Fatal(err)
	}
	var l []ast.Decl
	for _, name := range names {
		if strings.HasSuffix(name, "_test.go") {
			continue
		}
		f, err := parser.ParseFile(token.NewFileSet(), name, nil, 0)
		if err != nil {
			t.Fatal(err)
		}
		l = append(l, f.Decls...)
	}
	return l
}

// table: the name and the rows of a table at package level whose rows begin with words; "": there is none.
func table(l []ast.Decl) (string, map[string]int) {
	for _, d := range l {
		g, ok := d.(*ast.GenDecl)
		if !ok || g.Tok != token.VAR {
			continue
		}
		for _, s := range g.Specs {
			v := s.(*ast.ValueSpec)
			rows := map[string]int{}
			ast.Inspect(v, func(n ast.Node) bool {
				if x, ok := n.(*ast.BasicLit); ok && x.Kind == token.STRING {
					word, _ := strconv.Unquote(x.Value)
					rows[word]++
				}
				return true
			})
			if len(rows) > 0 {
				return v.Names[0].Name, rows
			}
		}
	}
	return "", nil
}

// ranges: does the package range over what the question is for?
func ranges(l []ast.Decl, is func(over ast.Expr) bool) bool {
	yes := false
	for _, d := range l {
		ast.Inspect(d, func(n ast.Node) bool {
			r, ok := n.(*ast.RangeStmt)
			yes = yes || ok && is(r.X)
			return true
		})
	}
	return yes
}

// Ways, layer 26: a line's word is looked up in a table of constants; lines come out of a range over a function.
func TestWays(t *testing.T) {
	l := declared(t)
	name, rows := table(l)
	for _, c := range spellings() {
		if word, _, _ := strings.Cut(c.line, " "); rows[word] != 1 {
			t.Errorf("%q is %d times in the table %q", word, rows[word], name)
		}
	}
	if len(rows) != 15 {
		t.Errorf("%v", rows)
	}
	if !ranges(l, func(over ast.Expr) bool { x, ok := over.(*ast.Ident); return ok && x.Name == name }) {
		t.Error("nothing is looked up in the table")
	}
	if !ranges(l, func(over ast.Expr) bool {
		c, ok := over.(*ast.CallExpr)
		if !ok {
			return false
		}
		s, ok := c.Fun.(*ast.SelectorExpr)
		return ok && s.Sel.Name == "SplitSeq"
	}) {
		t.Error("nothing ranges over a function")
	}
}
