package bourse

import (
	"go/ast"
	"go/parser"
	"go/token"
	"os"
	"slices"
	"strconv"
	"strings"
	"testing"
)

// What LANGUAGE.md, rule 1, lets the program import.
var allowed = []string{
	"bytes", "cmp", "container/heap", "errors", "iter", "maps", "math",
	"math/big", "math/bits", "slices", "sort", "strconv", "strings", "sync",
	"sync/atomic", "unicode", "unicode/utf8",
}

func programFiles(t *testing.T) []*ast.File {
	t.Helper()
	entries, err := os.ReadDir(".")
	if err != nil {
		t.Fatal(err)
	}
	var files []*ast.File
	for _, e := range entries {
		if !strings.HasSuffix(e.Name(), ".go") || strings.HasSuffix(e.Name(), "_test.go") {
			continue
		}
		file, err := parser.ParseFile(token.NewFileSet(), e.Name(), nil, 0)
		if err != nil {
			t.Fatal(err)
		}
		files = append(files, file)
	}
	if len(files) == 0 {
		t.Fatal("no files of the program")
	}
	return files
}

// What a call answers may hang on nothing that is kept beside the books (P2),
// so the program has no package-level variable at all.
func TestNothingIsKeptAtPackageLevel(t *testing.T) {
	for _, file := range programFiles(t) {
		for _, d := range file.Decls {
			if g, ok := d.(*ast.GenDecl); ok && g.Tok == token.VAR {
				t.Errorf("LANGUAGE.md, 3a: package-level variable %v", g.Specs[0].(*ast.ValueSpec).Names)
			}
		}
	}
}

func TestImportsAreAllowed(t *testing.T) {
	for _, file := range programFiles(t) {
		for _, i := range file.Imports {
			path, err := strconv.Unquote(i.Path.Value)
			if err != nil || !slices.Contains(allowed, path) {
				t.Errorf("LANGUAGE.md, 1: import of %s", i.Path.Value)
			}
		}
	}
}
