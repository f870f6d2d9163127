package lane_test

import (
	"go/ast"
	"go/parser"
	"go/token"
	"path/filepath"
	"strings"
	"testing"
)

// Ways, line 6: the search for lines goes on in loops that are left by a label.
func TestLabel(t *testing.T) {
	files, err := filepath.Glob("*.go")
	if err != nil {
		t.Fatal(err)
	}
	left := 0
	for _, name := range files {
		if strings.HasSuffix(name, "_test.go") {
			continue
		}
		file, err := parser.ParseFile(token.NewFileSet(), name, nil, 0)
		if err != nil {
			t.Fatal(err)
		}
		ast.Inspect(file, func(n ast.Node) bool {
			if b, is := n.(*ast.BranchStmt); is && b.Label != nil && b.Tok != token.GOTO {
				left++
			}
			return true
		})
	}
	if left == 0 {
		t.Error("no loop is left by a label")
	}
}
