// Package rules_test holds the layers' sources against the rules that a compiler does not know.
package rules_test

import (
	"bytes"
	"go/ast"
	"go/format"
	"go/parser"
	"go/token"
	"os"
	"path/filepath"
	"slices"
	"strconv"
	"strings"
	"testing"
)

// layers stand in their order: each may call those ahead of it, and api.
const layers = "octets crc disk net wire blockmap file dir path fs ops image segment table log clean point store vr client node group audit cluster desk"

const library = "bytes cmp container/heap errors iter maps math math/bits slices sort strconv strings sync sync/atomic unicode unicode/utf8"

const maxLines = 60

type source struct {
	name string
	text []byte
	set  *token.FileSet
	file *ast.File
}

// sources reads a layer's Go files, without its tests.
func sources(t *testing.T, layer string) []source {
	t.Helper()
	names, err := filepath.Glob(filepath.Join("..", layer, "*"))
	if err != nil {
		t.Fatal(err)
	}
	var list []source
	for _, name := range names {
		if strings.HasSuffix(name, "_test.go") || filepath.Base(name) == "testdata" {
			continue
		}
		if filepath.Ext(name) != ".go" {
			t.Errorf("%s: a file beside the Go files", name)
			continue
		}
		text, err := os.ReadFile(name)
		if err != nil {
			t.Fatal(err)
		}
		set := token.NewFileSet()
		file, err := parser.ParseFile(set, name, text, parser.ParseComments)
		if err != nil {
			t.Fatal(err)
		}
		list = append(list, source{name, text, set, file})
	}
	if len(list) == 0 {
		t.Errorf("layer %s has no source", layer)
	}
	return list
}

// eachSource calls check for every source of every layer, with the layer's place.
func eachSource(t *testing.T, check func(place int, s source)) {
	t.Helper()
	for place, layer := range strings.Fields(layers) {
		for _, s := range sources(t, layer) {
			check(place, s)
		}
	}
}

func TestImports(t *testing.T) {
	order := strings.Fields(layers)
	allowed := strings.Fields(library)
	eachSource(t, func(place int, s source) {
		for _, spec := range s.file.Imports {
			path, _ := strconv.Unquote(spec.Path.Value)
			own, inside := strings.CutPrefix(path, "undercroft/")
			if inside && (own == "api" || slices.Contains(order[:place], own)) || slices.Contains(allowed, path) {
				continue
			}
			t.Errorf("%s imports %s", s.name, path)
		}
	})
}

func TestLayout(t *testing.T) {
	eachSource(t, func(_ int, s source) {
		if laid, err := format.Source(s.text); err != nil || !bytes.Equal(laid, s.text) {
			t.Errorf("%s: not in gofmt's layout", s.name)
		}
		for _, group := range s.file.Comments {
			for _, c := range group.List {
				if strings.HasPrefix(c.Text, "//go:") || strings.HasPrefix(c.Text, "// +build") {
					t.Errorf("%s: %s", s.name, c.Text)
				}
			}
		}
	})
}

func TestFunctions(t *testing.T) {
	eachSource(t, func(_ int, s source) {
		for _, d := range s.file.Decls {
			f, ok := d.(*ast.FuncDecl)
			if !ok {
				continue
			}
			if f.Recv == nil && f.Name.Name == "init" {
				t.Errorf("%s: func init", s.name)
			}
			if n := s.set.Position(f.End()).Line - s.set.Position(f.Pos()).Line + 1; n > maxLines {
				t.Errorf("%s: %s has %d lines", s.name, f.Name.Name, n)
			}
			ast.Inspect(f, func(n ast.Node) bool {
				if call, ok := n.(*ast.CallExpr); ok && isPrint(call) {
					t.Errorf("%s: %s prints", s.name, f.Name.Name)
				}
				return true
			})
		}
	})
}

func isPrint(call *ast.CallExpr) bool {
	name, ok := call.Fun.(*ast.Ident)
	return ok && (name.Name == "print" || name.Name == "println")
}

// At package level stand constants, errors and short tables in arrays alone.
func TestPackageLevel(t *testing.T) {
	eachSource(t, func(_ int, s source) {
		for _, d := range s.file.Decls {
			group, ok := d.(*ast.GenDecl)
			if !ok || group.Tok != token.VAR {
				continue
			}
			for _, spec := range group.Specs {
				v := spec.(*ast.ValueSpec)
				mayNot := func(e ast.Expr) bool { return !mayStand(e) }
				if len(v.Values) != len(v.Names) || slices.ContainsFunc(v.Values, mayNot) {
					t.Errorf("%s: %s at package level", s.name, v.Names[0].Name)
				}
			}
		}
	})
}

func mayStand(e ast.Expr) bool {
	switch x := e.(type) {
	case *ast.CallExpr:
		f, ok := x.Fun.(*ast.SelectorExpr)
		if !ok {
			return false
		}
		from, ok := f.X.(*ast.Ident)
		return ok && from.Name == "errors" && f.Sel.Name == "New"
	case *ast.CompositeLit:
		list, ok := x.Type.(*ast.ArrayType)
		return ok && list.Len != nil
	}
	return false
}
