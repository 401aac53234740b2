// Package rules: tests: the program keeps to the rules of its language.
package rules

import (
	"bytes"
	"go/ast"
	"go/format"
	"go/parser"
	"go/token"
	"os"
	"path/filepath"
	"slices"
	"strconv"
	"strings"
	"testing"
)

var (
	layers = strings.Fields("api fix value parse filter cmap file font ops paint press pages layout search console")

	mayImport = strings.Fields("bytes cmp container/heap errors iter maps math math/bits slices sort strconv strings sync sync/atomic unicode unicode/utf8")
)

const mostLines = 60 // of a function

// sources: the files of a layer, but its tests.
func sources(t *testing.T, layer string) []string {
	t.Helper()
	l, err := filepath.Glob(filepath.Join("..", layer, "*.go"))
	l = slices.DeleteFunc(l, func(p string) bool { return strings.HasSuffix(p, "_test.go") })
	if err != nil || len(l) == 0 {
		t.Fatalf("%s: no files (%v)", layer, err)
	}
	return l
}

func TestRules(t *testing.T) {
	for at, layer := range layers {
		for _, path := range sources(t, layer) {
			text, err := os.ReadFile(path)
			if err != nil {
				t.Fatal(err)
			}
			fset := token.NewFileSet()
			f, err := parser.ParseFile(fset, path, text, parser.ParseComments)
			if err != nil {
				t.Fatal(err)
			}
			imports(t, path, f, layers[:at])
			lengths(t, path, fset, f)
			if bytes.Contains(text, []byte("\n//go:")) {
				t.Errorf("%s has a //go: line", path)
			}
			if laid, err := format.Source(text); err != nil || !bytes.Equal(laid, text) {
				t.Errorf("%s isn't laid out as gofmt does it (%v)", path, err)
			}
		}
	}
}

// imports: just few packages of the library, and layers above, are called.
func imports(t *testing.T, path string, f *ast.File, above []string) {
	t.Helper()
	for _, i := range f.Imports {
		name, _ := strconv.Unquote(i.Path.Value)
		own, is := strings.CutPrefix(name, "foliowright/")
		if !is && !slices.Contains(mayImport, name) || is && slices.Contains(layers, own) && !slices.Contains(above, own) {
			t.Errorf("%s imports %s", path, name)
		}
	}
}

func lengths(t *testing.T, path string, fset *token.FileSet, f *ast.File) {
	t.Helper()
	for _, d := range f.Decls {
		if x, ok := d.(*ast.FuncDecl); ok {
			if n := fset.Position(x.End()).Line - fset.Position(x.Pos()).Line + 1; n > mostLines {
				t.Errorf("%s: %s has %d lines", path, x.Name.Name, n)
			}
		}
	}
}
