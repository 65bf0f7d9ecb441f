package tests

import (
	"bytes"
	"go/ast"
	"go/format"
	"go/parser"
	"go/token"
	"os"
	"path/filepath"
	"strconv"
	"strings"
	"testing"
)

const (
	allowedImports = " bytes cmp container/heap errors iter maps math math/big math/bits slices sort strconv strings sync sync/atomic unicode unicode/utf8 "
	longestFunc    = 60
)

// The program keeps to the language page, as far as its text shows it.
func TestProgramKeepsToTheLanguage(t *testing.T) {
	names, err := filepath.Glob("../impl/*")
	if err != nil || len(names) == 0 {
		t.Fatal("no program", err)
	}
	for _, name := range names {
		if !strings.HasSuffix(name, ".go") {
			t.Errorf("%s is no Go file", name)
			continue
		}
		text, err := os.ReadFile(name)
		if err != nil {
			t.Fatal(err)
		}
		if laid, err := format.Source(text); err != nil || !bytes.Equal(laid, text) {
			t.Errorf("%s: not in gofmt's layout %v", name, err)
		}
		if bytes.Contains(text, []byte("//go:")) || bytes.Contains(text, []byte("// +build")) {
			t.Errorf("%s: a line for the compiler", name)
		}
		lookAtFile(t, name, text)
	}
}

func lookAtFile(t *testing.T, name string, text []byte) {
	files := token.NewFileSet()
	file, err := parser.ParseFile(files, name, text, parser.ParseComments)
	if err != nil {
		t.Fatal(err)
	}
	for _, i := range file.Imports {
		if path, _ := strconv.Unquote(i.Path.Value); !strings.Contains(allowedImports, " "+path+" ") {
			t.Errorf("%s imports %s", name, path)
		}
	}
	for _, d := range file.Decls {
		f, ok := d.(*ast.FuncDecl)
		if ok && files.Position(f.End()).Line-files.Position(f.Pos()).Line >= longestFunc {
			t.Errorf("%s: %s is too long", name, f.Name.Name)
		}
	}
}
