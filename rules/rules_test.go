// Package rules tests that the program's code keeps to the rules of its language, as far as its text shows that.
package rules

import (
	"bytes"
	"go/ast"
	"go/format"
	"go/parser"
	"go/token"
	"io/fs"
	"os"
	"path/filepath"
	"slices"
	"strconv"
	"strings"
	"testing"
)

const (
	root     = ".."
	mostLine = 62 // some 60
	library  = " bytes cmp container/heap errors iter maps math math/bits slices sort strconv strings sync sync/atomic unicode unicode/utf8 "
	syncHas  = " Mutex RWMutex WaitGroup Once "
)

// layers are the packages that there must be, beside api.
var layers = []string{
	"vfs", "codec", "pack", "frame", "fold", "analysis", "order", "schema", "terms", "postings",
	"stored", "values", "bkd", "live", "buffer", "segment", "merge", "query", "rewrite", "iterate",
	"score", "collect", "aggs", "search", "cache", "writer", "store", "lanes", "engine", "desk",
}

// calls are the layers of DOC.md's map that each package may stand on, beside api.
var calls = map[string]string{
	"pack": "codec", "frame": "codec", "analysis": "fold", "schema": "analysis order", "terms": "codec", "postings": "codec pack",
	"stored": "codec", "values": "codec pack", "bkd": "codec", "live": "codec", "buffer": "schema postings bkd",
	"segment": "codec pack frame schema terms postings stored values bkd buffer", "merge": "schema live segment",
	"query": "fold analysis order schema", "rewrite": "query", "iterate": "schema terms postings stored values bkd live buffer segment query",
	"score": "schema live segment iterate", "collect": "order", "aggs": "order values segment",
	"search": "live segment query rewrite iterate score collect aggs", "cache": "live iterate search segment",
	"writer": "schema live buffer segment merge", "store": "vfs codec frame live segment writer",
	"engine": "schema live segment query search cache writer store vfs", "desk": strings.Join(layers, " "),
}

// code tells the program's Go files, without tests.
func code(t *testing.T) []string {
	t.Helper()
	var out []string
	err := filepath.WalkDir(root, func(path string, d fs.DirEntry, err error) error {
		name := d.Name()
		if err == nil && d.IsDir() && path != root && (name[0] == '.' || name == "sharedtests" || name == "rules") {
			return filepath.SkipDir
		}
		if err == nil && !d.IsDir() && !strings.HasSuffix(name, "_test.go") && filepath.Dir(path) != root {
			out = append(out, path)
		}
		return err
	})
	if err != nil || len(out) < len(layers) {
		t.Fatalf("%d files, %v", len(out), err)
	}
	return out
}

// each parses the program's files.
func each(t *testing.T, look func(t *testing.T, path string, at *token.FileSet, f *ast.File)) {
	t.Helper()
	for _, path := range code(t) {
		at := token.NewFileSet()
		f, err := parser.ParseFile(at, path, nil, parser.ParseComments)
		if err != nil {
			t.Errorf("%s: %v", path, err)
			continue
		}
		look(t, path, at, f)
	}
}

func TestLayout(t *testing.T) {
	if b, err := os.ReadFile(filepath.Join(root, "go.mod")); err != nil || string(b) != "module lectern\n\ngo 1.27\n" {
		t.Errorf("go.mod: %q, %v", b, err)
	}
	for _, l := range append([]string{"api"}, layers...) {
		if m, _ := filepath.Glob(filepath.Join(root, l, "*.go")); len(m) == 0 {
			t.Errorf("no package %s", l)
		}
	}
	for _, path := range code(t) {
		b, err := os.ReadFile(path)
		if err != nil || !strings.HasSuffix(path, ".go") {
			t.Errorf("%s: no Go file, %v", path, err)
			continue
		}
		if g, err := format.Source(b); err != nil || !bytes.Equal(g, b) {
			t.Errorf("%s: not in gofmt's layout, %v", path, err)
		}
	}
}

func TestImports(t *testing.T) {
	each(t, func(t *testing.T, path string, _ *token.FileSet, f *ast.File) {
		own := filepath.Base(filepath.Dir(path))
		for _, i := range f.Imports {
			p, _ := strconv.Unquote(i.Path.Value)
			lower, ours := strings.CutPrefix(p, "lectern/")
			if !ours && !strings.Contains(library, " "+p+" ") {
				t.Errorf("%s imports %s", path, p)
			}
			above := slices.Contains(layers, lower) && slices.Contains(layers, own) && !slices.Contains(strings.Fields(calls[own]), lower)
			if ours && above {
				t.Errorf("%s: layer %s calls %s", path, own, lower)
			}
		}
		ast.Inspect(f, func(n ast.Node) bool {
			if x, ok := n.(*ast.SelectorExpr); ok && barred(x) {
				t.Errorf("%s uses %s.%s", path, x.X, x.Sel.Name)
			}
			return true
		})
	})
}

// barred: is it a part of a package that is allowed but for this?
func barred(x *ast.SelectorExpr) bool {
	p, ok := x.X.(*ast.Ident)
	if !ok || p.Obj != nil { // a name of the file's own
		return false
	}
	switch p.Name {
	case "iter":
		return strings.HasPrefix(x.Sel.Name, "Pull")
	case "sync":
		return !strings.Contains(syncHas, " "+x.Sel.Name+" ")
	}
	return false
}

func TestRemarks(t *testing.T) {
	each(t, func(t *testing.T, path string, _ *token.FileSet, f *ast.File) {
		for _, g := range f.Comments {
			for _, c := range g.List {
				if strings.HasPrefix(c.Text, "//go:") || strings.HasPrefix(c.Text, "// +build") {
					t.Errorf("%s: %s", path, c.Text)
				}
			}
		}
	})
}

func TestFunctions(t *testing.T) {
	each(t, func(t *testing.T, path string, at *token.FileSet, f *ast.File) {
		for _, d := range f.Decls {
			x, ok := d.(*ast.FuncDecl)
			if !ok {
				continue
			}
			if n := at.Position(x.End()).Line - at.Position(x.Pos()).Line + 1; n > mostLine {
				t.Errorf("%s: %s has %d lines", path, x.Name.Name, n)
			}
		}
		ast.Inspect(f, func(n ast.Node) bool {
			c, ok := n.(*ast.CallExpr)
			if !ok {
				return true
			}
			if id, ok := c.Fun.(*ast.Ident); ok && id.Obj == nil && (id.Name == "print" || id.Name == "println") {
				t.Errorf("%s prints", path)
			}
			if a, ok := c.Fun.(*ast.ArrayType); ok && len(c.Args) == 1 {
				if e, ok := a.Elt.(*ast.Ident); ok && e.Name == "rune" && isLiteral(c.Args[0]) {
					t.Errorf("%s makes runes of a constant text", path)
				}
			}
			return true
		})
	})
}

func isLiteral(e ast.Expr) bool {
	l, ok := e.(*ast.BasicLit)
	return ok && l.Kind == token.STRING
}

// TestRecover: a panic is recovered from in a deferred function literal only.
func TestRecover(t *testing.T) {
	each(t, func(t *testing.T, path string, _ *token.FileSet, f *ast.File) {
		good := map[*ast.CallExpr]bool{}
		ast.Inspect(f, func(n ast.Node) bool {
			if d, ok := n.(*ast.DeferStmt); ok {
				if l, ok := d.Call.Fun.(*ast.FuncLit); ok {
					for _, c := range recovers(l.Body) {
						good[c] = true
					}
				}
			}
			return true
		})
		for _, c := range recovers(f) {
			if !good[c] {
				t.Errorf("%s recovers outside a deferred function literal", path)
			}
		}
	})
}

func recovers(n ast.Node) []*ast.CallExpr {
	var out []*ast.CallExpr
	ast.Inspect(n, func(n ast.Node) bool {
		if c, ok := n.(*ast.CallExpr); ok {
			if id, ok := c.Fun.(*ast.Ident); ok && id.Name == "recover" && id.Obj == nil {
				out = append(out, c)
			}
		}
		return true
	})
	return out
}

// TestPackageLevel: variables there are errors made by errors.New, or tables that are written out.
func TestPackageLevel(t *testing.T) {
	each(t, func(t *testing.T, path string, _ *token.FileSet, f *ast.File) {
		for _, d := range f.Decls {
			g, ok := d.(*ast.GenDecl)
			if !ok || g.Tok != token.VAR {
				continue
			}
			for _, s := range g.Specs {
				v := s.(*ast.ValueSpec)
				if len(v.Values) != len(v.Names) {
					t.Errorf("%s: %s has no value of its own", path, v.Names[0].Name)
				}
				for i, e := range v.Values {
					if !isStanding(e) {
						t.Errorf("%s: %s is no variable for package level", path, v.Names[i].Name)
					}
				}
			}
		}
	})
}

// isStanding: is it an error made by errors.New of a text, or a table without calls, functions, maps, floats, addresses?
func isStanding(e ast.Expr) bool {
	if c, ok := e.(*ast.CallExpr); ok {
		x, ok := c.Fun.(*ast.SelectorExpr)
		if !ok || len(c.Args) != 1 || !isLiteral(c.Args[0]) {
			return false
		}
		p, ok := x.X.(*ast.Ident)
		return ok && p.Name == "errors" && x.Sel.Name == "New"
	}
	if isLiteral(e) { // a text is a constant
		return false
	}
	good := true
	ast.Inspect(e, func(n ast.Node) bool {
		switch x := n.(type) {
		case *ast.CallExpr, *ast.FuncLit, *ast.MapType, *ast.FuncType, *ast.StarExpr:
			good = false
		case *ast.UnaryExpr:
			good = good && x.Op != token.AND
		case *ast.BasicLit:
			good = good && x.Kind != token.FLOAT && x.Kind != token.IMAG
		}
		return good
	})
	return good
}
