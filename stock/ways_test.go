package stock_test

import (
	"go/ast"
	"go/importer"
	"go/parser"
	"go/token"
	"go/types"
	"path/filepath"
	"strings"
	"testing"
)

// Ways, line 8: shops embed their costs, and ways to order are functions in fields.
func TestEmbeddingAndFunctionField(t *testing.T) {
	names, err := filepath.Glob("*.go")
	if err != nil {
		t.Fatal(err)
	}
	set := token.NewFileSet()
	var files []*ast.File
	for _, name := range names {
		if strings.HasSuffix(name, "_test.go") {
			continue
		}
		file, err := parser.ParseFile(set, name, nil, 0)
		if err != nil {
			t.Fatal(err)
		}
		files = append(files, file)
	}
	info := &types.Info{Selections: map[*ast.SelectorExpr]*types.Selection{}}
	setup := types.Config{Importer: importer.ForCompiler(set, "source", nil)}
	pack, err := setup.Check("pritchel/stock", set, files, info)
	if err != nil {
		t.Fatal(err)
	}
	if costs := fieldOf(pack, "shop", "costs"); costs == nil || !costs.Embedded() {
		t.Error("shop does not embed costs")
	}
	upTo := fieldOf(pack, "way", "upTo")
	if upTo == nil {
		t.Fatal("way has no field upTo")
	}
	if _, is := upTo.Type().Underlying().(*types.Signature); !is {
		t.Error("upTo is no function")
	}
	for _, name := range []string{"setup", "ordering"} {
		if !isPromoted(info, name) {
			t.Errorf("%s is never promoted", name)
		}
	}
}

// fieldOf returns a field of a struct, or nil if there is none.
func fieldOf(pack *types.Package, name, field string) *types.Var {
	o := pack.Scope().Lookup(name)
	if o == nil {
		return nil
	}
	s, is := o.Type().Underlying().(*types.Struct)
	if !is {
		return nil
	}
	for f := range s.Fields() {
		if f.Name() == field {
			return f
		}
	}
	return nil
}

// isPromoted reports whether a field or a method is used that an embedded struct has.
func isPromoted(info *types.Info, name string) bool {
	for _, s := range info.Selections {
		if s.Obj().Name() == name && len(s.Index()) > 1 {
			return true
		}
	}
	return false
}
