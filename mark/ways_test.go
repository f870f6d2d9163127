package mark_test

import (
	"go/ast"
	"go/importer"
	"go/parser"
	"go/token"
	"go/types"
	"path/filepath"
	"strings"
	"testing"
)

// Ways, line 9: kinds of codes are numbered with iota, and a function puts any number of words together.
func TestIotaAndVariadic(t *testing.T) {
	pack, info := checked(t)
	for _, name := range []string{"ofLetters", "ofDigits"} {
		o, is := pack.Scope().Lookup(name).(*types.Const)
		if !is || o.Type() != pack.Scope().Lookup("kind").Type() {
			t.Errorf("%s is no constant of the type kind", name)
		}
	}
	if !uses(info, "iota") {
		t.Error("iota is never used")
	}
	joined, is := pack.Scope().Lookup("joined").(*types.Func)
	if !is || !joined.Signature().Variadic() {
		t.Fatal("joined takes no number of words")
	}
	if !uses(info, "joined") {
		t.Error("joined is never called")
	}
}

// checked reads the package without its tests.
func checked(t *testing.T) (*types.Package, *types.Info) {
	names, err := filepath.Glob("*.go")
	if err != nil {
		t.Fatal(err)
	}
	set := token.NewFileSet()
	var files []*ast.File
	for _, name := range names {
		if strings.HasSuffix(name, "_test.go") {
			continue
		}
		file, err := parser.ParseFile(set, name, nil, 0)
		if err != nil {
			t.Fatal(err)
		}
		files = append(files, file)
	}
	info := &types.Info{Uses: map[*ast.Ident]types.Object{}}
	setup := types.Config{Importer: importer.ForCompiler(set, "source", nil)}
	pack, err := setup.Check("pritchel/mark", set, files, info)
	if err != nil {
		t.Fatal(err)
	}
	return pack, info
}

func uses(info *types.Info, name string) bool {
	for _, o := range info.Uses {
		if o.Name() == name {
			return true
		}
	}
	return false
}
