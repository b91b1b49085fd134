package tests

import (
	"bytes"
	"go/ast"
	"go/format"
	"go/parser"
	"go/token"
	"os"
	"path/filepath"
	"strconv"
	"strings"
	"testing"
)

// allowedImports are the packages that the language page allows.
const allowedImports = " bytes cmp container/heap errors iter maps math math/bits slices sort strconv strings sync sync/atomic unicode unicode/utf8 "

const longestFunction = 60

func implFiles(t *testing.T) []string {
	t.Helper()
	names, err := filepath.Glob("../impl/*")
	if err != nil || len(names) == 0 {
		t.Fatal("no files of impl", err)
	}
	return names
}

func TestImplIsGoInItsLayout(t *testing.T) {
	for _, name := range implFiles(t) {
		if !strings.HasSuffix(name, ".go") {
			t.Errorf("%s is no Go file", name)
			continue
		}
		src, err := os.ReadFile(name)
		if err != nil {
			t.Fatal(err)
		}
		laid, err := format.Source(src)
		if err != nil || !bytes.Equal(laid, src) {
			t.Errorf("%s is not in gofmt's layout: %v", name, err)
		}
		if bytes.Contains(src, []byte("//go:")) || bytes.Contains(src, []byte("// +build")) {
			t.Errorf("%s has a line for the compiler", name)
		}
	}
}

func TestImplKeepsToTheLanguage(t *testing.T) {
	fset := token.NewFileSet()
	for _, name := range implFiles(t) {
		file, err := parser.ParseFile(fset, name, nil, 0)
		if err != nil {
			t.Fatal(err)
		}
		for _, i := range file.Imports {
			path, err := strconv.Unquote(i.Path.Value)
			if err != nil || !strings.Contains(allowedImports, " "+path+" ") {
				t.Errorf("%s imports %s", name, i.Path.Value)
			}
		}
		for _, d := range file.Decls {
			f, ok := d.(*ast.FuncDecl)
			if ok && fset.Position(f.End()).Line-fset.Position(f.Pos()).Line >= longestFunction {
				t.Errorf("%s: %s is too long", name, f.Name.Name)
			}
		}
	}
}
