// Package checks holds the project's files against the form that ../../shared/LANGUAGE.md gives, and the layers against the map of ../../shared/DOC.md.
package checks

import (
	"bytes"
	"go/ast"
	"go/format"
	"go/parser"
	"go/token"
	"os"
	"path/filepath"
	"slices"
	"strconv"
	"strings"
	"testing"
)

// layers are the packages of the map, in its order.
var layers = []string{
	"value", "cells", "lockword", "stripes", "seqlock", "reads", "writes", "history", "opaque",
	"tl2", "norec", "manager", "waits", "code", "verify", "asm", "spec", "thread", "machine",
	"object", "linear", "locks", "flows", "calls", "trace", "script",
}

var library = []string{
	"bytes", "cmp", "container/heap", "errors", "iter", "maps", "math", "math/bits", "slices", "sort",
	"strconv", "strings", "sync", "sync/atomic", "unicode", "unicode/utf8",
}

// source is one file of the program.
type source struct {
	layer int // -1: api
	path  string
	text  []byte
	fset  *token.FileSet
	file  *ast.File
}

func sources(t *testing.T) []source {
	t.Helper()
	var l []source
	for i, name := range append([]string{"api"}, layers...) {
		paths, _ := filepath.Glob(filepath.Join("..", name, "*"))
		if len(paths) == 0 {
			t.Errorf("package %s is not there", name)
		}
		for _, path := range paths {
			if strings.HasSuffix(path, "_test.go") {
				continue
			}
			l = append(l, read(t, i-1, path))
		}
	}
	return l
}

func read(t *testing.T, layer int, path string) source {
	t.Helper()
	if !strings.HasSuffix(path, ".go") {
		t.Fatalf("%s is no Go file", path)
	}
	text, err := os.ReadFile(path)
	if err != nil {
		t.Fatal(err)
	}
	s := source{layer: layer, path: path, text: text, fset: token.NewFileSet()}
	s.file, err = parser.ParseFile(s.fset, path, text, parser.ParseComments)
	if err != nil {
		t.Fatal(err)
	}
	return s
}

// allowed tells whether a file of a layer may import a package.
func allowed(layer int, path string) bool {
	name, own := strings.CutPrefix(path, "rowlock/")
	if !own {
		return slices.Contains(library, path)
	}
	return name == "api" || slices.Contains(layers[:max(layer, 0)], name)
}

func TestImports(t *testing.T) {
	for _, s := range sources(t) {
		for _, spec := range s.file.Imports {
			if path, _ := strconv.Unquote(spec.Path.Value); !allowed(s.layer, path) {
				t.Errorf("%s imports %s", s.path, path)
			}
		}
	}
}

func TestLayout(t *testing.T) {
	for _, s := range sources(t) {
		if out, err := format.Source(s.text); err != nil || !bytes.Equal(out, s.text) {
			t.Errorf("%s is not in gofmt's layout", s.path)
		}
	}
}

func TestNoDirectives(t *testing.T) {
	for _, s := range sources(t) {
		for _, group := range s.file.Comments {
			for _, c := range group.List {
				if strings.HasPrefix(c.Text, "//go:") || strings.HasPrefix(c.Text, "// +build") {
					t.Errorf("%s: %s", s.path, c.Text)
				}
			}
		}
	}
}

func TestFunctionsAreSmall(t *testing.T) {
	const most = 60
	for _, s := range sources(t) {
		for _, d := range s.file.Decls {
			f, ok := d.(*ast.FuncDecl)
			if !ok {
				continue
			}
			if n := s.fset.Position(f.End()).Line - s.fset.Position(f.Pos()).Line + 1; n > most {
				t.Errorf("%s: %s has %d lines", s.path, f.Name.Name, n)
			}
		}
	}
}
