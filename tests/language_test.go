package tests

import (
	"bytes"
	"go/ast"
	"go/format"
	"go/parser"
	"go/token"
	"os"
	"path/filepath"
	"strconv"
	"strings"
	"testing"
)

const allowedImports = " bytes cmp container/heap errors iter maps math math/bits slices sort strconv strings sync sync/atomic unicode unicode/utf8 "

const maxLines = 60

// TestLanguage checks the rules of the language that the compiler does not: layout, imports and the length of functions.
func TestLanguage(t *testing.T) {
	files, err := filepath.Glob("../impl/*.go")
	if err != nil || len(files) == 0 {
		t.Fatalf("no files of impl: %v", err)
	}
	for _, name := range files {
		text, err := os.ReadFile(name)
		if err != nil {
			t.Fatal(err)
		}
		if laidOut, err := format.Source(text); err != nil || !bytes.Equal(text, laidOut) {
			t.Errorf("%s: not in the layout of gofmt: %v", name, err)
		}
		checkFile(t, name, text)
	}
}

func checkFile(t *testing.T, name string, text []byte) {
	set := token.NewFileSet()
	file, err := parser.ParseFile(set, name, text, parser.ParseComments)
	if err != nil {
		t.Fatal(err)
	}
	for _, spec := range file.Imports {
		path, err := strconv.Unquote(spec.Path.Value)
		if err != nil || !strings.Contains(allowedImports, " "+path+" ") {
			t.Errorf("%s: import %s is not allowed", name, spec.Path.Value)
		}
	}
	for _, group := range file.Comments {
		for _, c := range group.List {
			if strings.HasPrefix(c.Text, "//go:") {
				t.Errorf("%s: directive %s is not allowed", name, c.Text)
			}
		}
	}
	for _, d := range file.Decls {
		if f, ok := d.(*ast.FuncDecl); ok {
			if n := set.Position(f.End()).Line - set.Position(f.Pos()).Line + 1; n > maxLines {
				t.Errorf("%s: %s has %d lines", name, f.Name.Name, n)
			}
		}
	}
}
