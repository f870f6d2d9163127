package road_test

import (
	"go/ast"
	"go/importer"
	"go/parser"
	"go/token"
	"go/types"
	"path/filepath"
	"strings"
	"testing"
)

// Ways, line 7: whoever may go is a method value, and spots are collected by ranging over a map.
func TestMethodValueAndMap(t *testing.T) {
	names, err := filepath.Glob("*.go")
	if err != nil {
		t.Fatal(err)
	}
	set := token.NewFileSet()
	var files []*ast.File
	for _, name := range names {
		if strings.HasSuffix(name, "_test.go") {
			continue
		}
		file, err := parser.ParseFile(set, name, nil, 0)
		if err != nil {
			t.Fatal(err)
		}
		files = append(files, file)
	}
	info := &types.Info{Types: map[ast.Expr]types.TypeAndValue{}, Selections: map[*ast.SelectorExpr]*types.Selection{}}
	setup := types.Config{Importer: importer.ForCompiler(set, "source", nil)}
	if _, err := setup.Check("pritchel/road", set, files, info); err != nil {
		t.Fatal(err)
	}
	if !hasMethodValue(files, info) {
		t.Error("no method is a value")
	}
	if !rangesOverMap(files, info) {
		t.Error("no map is ranged over")
	}
}

func inspect(files []*ast.File, f func(n ast.Node)) {
	for _, file := range files {
		ast.Inspect(file, func(n ast.Node) bool {
			f(n)
			return true
		})
	}
}

// hasMethodValue reports whether a method named mayGo is used without being called.
func hasMethodValue(files []*ast.File, info *types.Info) bool {
	called := map[ast.Expr]bool{}
	inspect(files, func(n ast.Node) {
		if c, is := n.(*ast.CallExpr); is {
			called[ast.Unparen(c.Fun)] = true
		}
	})
	found := false
	inspect(files, func(n ast.Node) {
		if s, is := n.(*ast.SelectorExpr); is && s.Sel.Name == "mayGo" && !called[s] {
			found = found || info.Selections[s] != nil && info.Selections[s].Kind() == types.MethodVal
		}
	})
	return found
}

func rangesOverMap(files []*ast.File, info *types.Info) bool {
	found := false
	inspect(files, func(n ast.Node) {
		if r, is := n.(*ast.RangeStmt); is {
			_, over := info.Types[r.X].Type.Underlying().(*types.Map)
			found = found || over
		}
	})
	return found
}
