package forge_test

import (
	"go/ast"
	"go/importer"
	"go/parser"
	"go/token"
	"go/types"
	"path/filepath"
	"strings"
	"testing"
)

// Ways, line 10: messages are values of an interface, and a type switch distinguishes them.
func TestInterfaceAndTypeSwitch(t *testing.T) {
	files, pack, info := checked(t)
	message := pack.Scope().Lookup("message")
	if message == nil {
		t.Fatal("there is no type message")
	}
	face, is := message.Type().Underlying().(*types.Interface)
	if !is || face.NumMethods() == 0 {
		t.Fatal("message is no interface with methods")
	}
	for _, name := range []string{"request", "token"} {
		o := pack.Scope().Lookup(name)
		if o == nil || !types.Implements(o.Type(), face) {
			t.Errorf("%s is no message", name)
		}
	}
	switched := false
	for _, file := range files {
		ast.Inspect(file, func(n ast.Node) bool {
			if s, is := n.(*ast.TypeSwitchStmt); is {
				ast.Inspect(s.Assign, func(n ast.Node) bool {
					if a, is := n.(*ast.TypeAssertExpr); is && info.Types[a.X].Type == message.Type() {
						switched = true
					}
					return true
				})
			}
			return true
		})
	}
	if !switched {
		t.Error("no type switch distinguishes messages")
	}
}

// checked reads the package without its tests.
func checked(t *testing.T) ([]*ast.File, *types.Package, *types.Info) {
	names, err := filepath.Glob("*.go")
	if err != nil {
		t.Fatal(err)
	}
	set := token.NewFileSet()
	var files []*ast.File
	for _, name := range names {
		if strings.HasSuffix(name, "_test.go") {
			continue
		}
		file, err := parser.ParseFile(set, name, nil, 0)
		if err != nil {
			t.Fatal(err)
		}
		files = append(files, file)
	}
	info := &types.Info{Types: map[ast.Expr]types.TypeAndValue{}}
	setup := types.Config{Importer: importer.ForCompiler(set, "source", nil)}
	pack, err := setup.Check("pritchel/forge", set, files, info)
	if err != nil {
		t.Fatal(err)
	}
	return files, pack, info
}
