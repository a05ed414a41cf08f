// Package language has tests alone: they hold every package of the program against the rules of its language (shared/LANGUAGE.md) and against the map of its layers (shared/DOC.md).
package language

import (
	"bytes"
	"go/ast"
	"go/format"
	"go/parser"
	"go/token"
	"os"
	"path/filepath"
	"slices"
	"strconv"
	"strings"
	"testing"
)

const (
	module  = "docket"
	longest = 60 // lines of a function
)

// library has the packages that may be imported, each with the names that may be used of it (none: all).
var library = map[string][]string{
	"bytes": nil, "cmp": nil, "container/heap": nil, "errors": nil, "maps": nil, "math": nil, "math/bits": nil,
	"iter":   {"Seq", "Seq2"},
	"slices": nil, "sort": nil, "strconv": nil, "strings": nil,
	"sync":        {"Mutex", "RWMutex", "WaitGroup", "Once"},
	"sync/atomic": nil, "unicode": nil, "unicode/utf8": nil,
}

// layers in their order; layer N stands at N - 1.
var layers = []string{
	"bits", "disk", "room", "files", "log", "key", "sieve", "page", "table", "fresh", "merge", "tree", "batch", "hash", "audit", "json",
	"guard", "model", "engine", "roles", "pass", "clock", "work", "state", "law", "deed", "parcel", "wire", "talk", "house", "tower", "tale",
}

// calls has for each layer, by its number, those that it may call (layer 19 also 16, as its chapter says).
var calls = map[int][]int{
	4: {1, 2, 3}, 5: {1, 2}, 6: {1}, 7: {1}, 8: {1}, 9: {1, 7, 8}, 10: {8}, 11: {8, 10}, 12: {1, 2, 4, 5, 8, 9, 10, 11}, 13: {2, 12},
	15: {1, 14}, 17: {16}, 18: {16, 17}, 19: {16, 17, 18}, 21: {1, 14}, 24: {15, 18, 19, 20, 21, 22, 23}, 25: {24}, 26: {16, 25},
	27: {1, 6, 24}, 29: {26, 28}, 30: {25, 26, 29}, 31: {2, 12, 13, 27, 30}, 32: {31},
}

type source struct {
	path, pack string
	text       []byte
	set        *token.FileSet
	tree       *ast.File
}

// program reads the program's files: tests, and what is laid beside the project to test it, are none of it.
func program(t *testing.T) []source {
	t.Helper()
	paths, err := filepath.Glob("../*/*.go")
	if err != nil {
		t.Fatal(err)
	}
	var all []source
	for _, path := range paths {
		pack := filepath.Base(filepath.Dir(path))
		if strings.HasSuffix(path, "_test.go") || pack == "sharedtests" {
			continue
		}
		text, err := os.ReadFile(path)
		if err != nil {
			t.Fatal(err)
		}
		set := token.NewFileSet()
		tree, err := parser.ParseFile(set, path, text, parser.ParseComments)
		if err != nil {
			t.Fatal(err)
		}
		all = append(all, source{path, pack, text, set, tree})
	}
	if len(all) <= len(layers) {
		t.Fatalf("%d files are too few for api and %d layers", len(all), len(layers))
	}
	return all
}

func imports(s source) []string {
	var out []string
	for _, i := range s.tree.Imports {
		path, _ := strconv.Unquote(i.Path.Value)
		out = append(out, path)
	}
	return out
}

func TestEachLayerIsThere(t *testing.T) {
	var packs []string
	for _, s := range program(t) {
		packs = append(packs, s.pack)
		if s.tree.Name.Name != s.pack {
			t.Errorf("%s: package %s", s.path, s.tree.Name.Name)
		}
	}
	for _, l := range append([]string{"api"}, layers...) {
		if !slices.Contains(packs, l) {
			t.Errorf("no package %s", l)
		}
	}
}

func TestImports(t *testing.T) {
	for _, s := range program(t) {
		for i, path := range imports(s) {
			_, known := library[path]
			if !known && !strings.HasPrefix(path, module+"/") {
				t.Errorf("%s imports %s", s.path, path)
			}
			if n := s.tree.Imports[i].Name; n != nil && (n.Name == "." || n.Name == "_") {
				t.Errorf("%s imports %s as %s", s.path, path, n.Name)
			}
		}
	}
}

func TestLayersCallThoseOfTheMap(t *testing.T) {
	for _, s := range program(t) {
		from := slices.Index(layers, s.pack) + 1
		for _, path := range imports(s) {
			to := slices.Index(layers, strings.TrimPrefix(path, module+"/")) + 1
			own := strings.HasPrefix(path, module+"/")
			switch {
			case own && s.pack == "api":
				t.Errorf("%s: api imports %s", s.path, path)
			case own && from > 0 && to > 0 && !slices.Contains(calls[from], to):
				t.Errorf("%s: layer %d calls layer %d", s.path, from, to)
			}
		}
	}
}

func TestNamesOfTheLibrary(t *testing.T) {
	for _, s := range program(t) {
		names := map[string][]string{}
		for i, path := range imports(s) {
			name := filepath.Base(path)
			if n := s.tree.Imports[i].Name; n != nil {
				name = n.Name
			}
			names[name] = library[path]
		}
		ast.Inspect(s.tree, func(n ast.Node) bool {
			sel, ok := n.(*ast.SelectorExpr)
			if !ok {
				return true
			}
			if x, ok := sel.X.(*ast.Ident); ok && x.Obj == nil && names[x.Name] != nil && !slices.Contains(names[x.Name], sel.Sel.Name) {
				t.Errorf("%s: %s.%s", s.set.Position(sel.Pos()), x.Name, sel.Sel.Name)
			}
			return true
		})
	}
}

func TestNoDirectives(t *testing.T) {
	for _, s := range program(t) {
		for _, g := range s.tree.Comments {
			for _, c := range g.List {
				if strings.HasPrefix(c.Text, "//go:") || strings.HasPrefix(strings.TrimSpace(strings.TrimPrefix(c.Text, "//")), "+build") {
					t.Errorf("%s: %s", s.set.Position(c.Pos()), c.Text)
				}
			}
		}
	}
}

func TestGoFilesAlone(t *testing.T) {
	for _, s := range program(t) {
		files, err := os.ReadDir(filepath.Dir(s.path))
		if err != nil {
			t.Fatal(err)
		}
		for _, f := range files {
			if !strings.HasSuffix(f.Name(), ".go") {
				t.Errorf("%s beside %s", f.Name(), s.path)
			}
		}
	}
}

func TestLayout(t *testing.T) {
	for _, s := range program(t) {
		got, err := format.Source(s.text)
		if err != nil || !bytes.Equal(got, s.text) {
			t.Errorf("%s is not laid out as gofmt does it", s.path)
		}
	}
}

func TestFunctionsAreShort(t *testing.T) {
	for _, s := range program(t) {
		for _, d := range s.tree.Decls {
			f, ok := d.(*ast.FuncDecl)
			if !ok {
				continue
			}
			if n := s.set.Position(f.End()).Line - s.set.Position(f.Pos()).Line + 1; n > longest {
				t.Errorf("%s: %s has %d lines", s.path, f.Name.Name, n)
			}
		}
	}
}

// Each variable at package level has a value that is written out there, or is an error made by errors.New; no map, no function.
func TestPackageVariables(t *testing.T) {
	for _, s := range program(t) {
		for _, d := range s.tree.Decls {
			g, ok := d.(*ast.GenDecl)
			if !ok || g.Tok != token.VAR {
				continue
			}
			for _, spec := range g.Specs {
				v := spec.(*ast.ValueSpec)
				if len(v.Values) != len(v.Names) {
					t.Errorf("%s: a variable without a value of its own", s.set.Position(v.Pos()))
				}
				for _, x := range v.Values {
					if why := refused(x); why != "" {
						t.Errorf("%s: %s at package level", s.set.Position(x.Pos()), why)
					}
				}
			}
		}
	}
}

// refused tells why a value may not stand at package level; nothing, if it may.
func refused(x ast.Expr) string {
	why := ""
	ast.Inspect(x, func(n ast.Node) bool {
		switch y := n.(type) {
		case *ast.MapType:
			why = "a map"
		case *ast.FuncLit:
			why = "a function"
		case *ast.UnaryExpr:
			if y.Op == token.AND {
				why = "a pointer"
			}
		case *ast.CallExpr:
			f, ok := y.Fun.(*ast.SelectorExpr)
			if !ok {
				return true
			}
			if p, ok := f.X.(*ast.Ident); !ok || p.Name != "errors" || f.Sel.Name != "New" {
				why = "a value made by a call"
			}
		}
		return true
	})
	return why
}
