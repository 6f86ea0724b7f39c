// Package checks holds what is tested of the program as a whole: the words of package api, and that the program's text keeps to its language and layers.
package checks

import (
	"bytes"
	"go/ast"
	"go/format"
	"go/parser"
	"go/token"
	"os"
	"path/filepath"
	"strconv"
	"strings"
	"testing"
)

const root = ".."

// library is what may be imported beside the project's own packages.
const library = " bytes cmp container/heap errors iter maps math math/bits slices sort strconv strings sync sync/atomic unicode unicode/utf8 "

// mostLines is some 60, with a little room.
const mostLines = 64

// calls is which layers each layer may call, as its chapter says.
func calls() map[string]string {
	ahead := "wire mix auth tx batch header cert block msg table seals worker dag walk chain pace fetch exec"
	return map[string]string{
		"api":     "",
		"wire":    "",
		"mix":     "",
		"auth":    "wire mix",
		"tx":      "wire",
		"batch":   "wire mix tx",
		"header":  "wire mix auth",
		"cert":    "wire auth header",
		"block":   "wire mix auth header",
		"msg":     "wire batch header cert block",
		"net":     "",
		"table":   "",
		"seals":   "auth cert",
		"worker":  "auth batch header seals",
		"dag":     "auth header cert table",
		"place":   "",
		"walk":    "place",
		"chain":   "block",
		"pace":    "",
		"fetch":   "",
		"access":  "",
		"waves":   "access",
		"state":   "wire mix tx",
		"exec":    "waves state",
		"node":    ahead,
		"cluster": "net node",
		"script":  "tx node cluster",
	}
}

type source struct {
	pack, path string
	text       []byte
	fset       *token.FileSet
	file       *ast.File
}

// sources are the program's own files: no tests, and nothing that was laid beside the project.
func sources(t *testing.T) []source {
	t.Helper()
	paths, err := filepath.Glob(filepath.Join(root, "*", "*.go"))
	if err != nil {
		t.Fatal(err)
	}
	var l []source
	for _, p := range paths {
		pack := filepath.Base(filepath.Dir(p))
		if pack == "sharedtests" || strings.HasSuffix(p, "_test.go") {
			continue
		}
		s := source{pack: pack, path: p, fset: token.NewFileSet()}
		if s.text, err = os.ReadFile(p); err != nil {
			t.Fatal(err)
		}
		if s.file, err = parser.ParseFile(s.fset, p, s.text, parser.ParseComments); err != nil {
			t.Fatal(err)
		}
		l = append(l, s)
	}
	return l
}

// Every layer of the document has its package.
func TestLayersAreThere(t *testing.T) {
	there := map[string]int{}
	for _, s := range sources(t) {
		there[s.pack]++
	}
	for pack := range calls() {
		if there[pack] == 0 {
			t.Errorf("package %s is not there", pack)
		}
	}
}

// A package imports what the language allows, and a layer those layers alone that its chapter names.
func TestImports(t *testing.T) {
	allowed := calls()
	for _, s := range sources(t) {
		may, layer := allowed[s.pack]
		for _, spec := range s.file.Imports {
			path, err := strconv.Unquote(spec.Path.Value)
			if err != nil {
				t.Fatal(err)
			}
			own, inside := strings.CutPrefix(path, "tusk/")
			if !inside && !strings.Contains(library, " "+path+" ") {
				t.Errorf("%s imports %s", s.path, path)
			}
			_, other := allowed[own]
			if inside && layer && other && own != "api" && !strings.Contains(" "+may+" ", " "+own+" ") {
				t.Errorf("%s: layer %s may not call %s", s.path, s.pack, own)
			}
		}
	}
}

// No //go: line, no build tag; gofmt's layout; short functions.
func TestLayout(t *testing.T) {
	for _, s := range sources(t) {
		for _, g := range s.file.Comments {
			for _, c := range g.List {
				if strings.HasPrefix(c.Text, "//go:") || strings.HasPrefix(c.Text, "// +build") {
					t.Errorf("%s has the line %s", s.path, c.Text)
				}
			}
		}
		if laid, err := format.Source(s.text); err != nil || !bytes.Equal(laid, s.text) {
			t.Errorf("%s is not laid out by gofmt (%v)", s.path, err)
		}
		for _, d := range s.file.Decls {
			f, ok := d.(*ast.FuncDecl)
			if !ok {
				continue
			}
			if n := s.fset.Position(f.End()).Line - s.fset.Position(f.Pos()).Line + 1; n > mostLines {
				t.Errorf("%s: %s has %d lines", s.path, f.Name.Name, n)
			}
		}
	}
}
