package tests

import (
	"go/ast"
	"go/importer"
	"go/parser"
	"go/token"
	"go/types"
	"path/filepath"
	"slices"
	"strings"
	"testing"
)

// Go orders the calls within a statement, but not the reading of a variable and a call that may change it.
// What the program returns must not depend on this order, which no test of its results can show: the tests below look at its text.

// source is a package with its types.
type source struct {
	fset  *token.FileSet
	files []*ast.File
	info  types.Info
}

func sourceOf(t *testing.T, texts map[string]any) source {
	t.Helper()
	s := source{fset: token.NewFileSet(), info: types.Info{Uses: map[*ast.Ident]types.Object{}, Defs: map[*ast.Ident]types.Object{}, Selections: map[*ast.SelectorExpr]*types.Selection{}, Types: map[ast.Expr]types.TypeAndValue{}}}
	for name, text := range texts {
		f, err := parser.ParseFile(s.fset, name, text, parser.SkipObjectResolution)
		if err != nil {
			t.Fatal(err)
		}
		s.files = append(s.files, f)
	}
	config := types.Config{Importer: importer.ForCompiler(s.fset, "source", nil)}
	if _, err := config.Check("impl", s.fset, s.files, &s.info); err != nil {
		t.Fatal(err)
	}
	return s
}

// evaluated returns the expressions of a statement that are evaluated together.
func evaluated(n ast.Node) []ast.Expr {
	switch s := n.(type) {
	case *ast.ReturnStmt:
		return s.Results
	case *ast.AssignStmt:
		l := slices.Clone(s.Rhs)
		for _, left := range s.Lhs {
			if i, ok := left.(*ast.IndexExpr); ok {
				l = append(l, i.X, i.Index)
			} else if s.Tok != token.ASSIGN && s.Tok != token.DEFINE {
				l = append(l, left)
			}
		}
		return l
	case *ast.ExprStmt:
		return []ast.Expr{s.X}
	case *ast.DeferStmt:
		return []ast.Expr{s.Call}
	case *ast.IfStmt:
		return []ast.Expr{s.Cond}
	case *ast.ForStmt:
		return []ast.Expr{s.Cond}
	case *ast.RangeStmt:
		return []ast.Expr{s.X}
	case *ast.SwitchStmt:
		return []ast.Expr{s.Tag}
	case *ast.CaseClause:
		return s.List
	case *ast.ValueSpec:
		return s.Values
	}
	return nil
}

// root returns the variable of which an expression takes a part, nil if there is none.
func (s source) root(e ast.Expr) types.Object {
	switch x := ast.Unparen(e).(type) {
	case *ast.Ident:
		if v, ok := s.info.Uses[x].(*types.Var); ok {
			return v
		}
	case *ast.SelectorExpr:
		return s.root(x.X)
	case *ast.IndexExpr:
		return s.root(x.X)
	case *ast.StarExpr:
		return s.root(x.X)
	}
	return nil
}

// hasPointer tells whether a value of this type leads to memory that others change.
func hasPointer(t types.Type) bool {
	switch x := t.Underlying().(type) {
	case *types.Pointer:
		return true
	case *types.Struct:
		for f := range x.Fields() {
			if _, ok := f.Type().Underlying().(*types.Pointer); ok {
				return true
			}
		}
	}
	return false
}

// method returns the variable that a method call may change, nil if there is none.
func (s source) method(call *ast.CallExpr) types.Object {
	fun, ok := call.Fun.(*ast.SelectorExpr)
	if !ok || s.info.Selections[fun] == nil || s.info.Selections[fun].Kind() != types.MethodVal {
		return nil
	}
	v := s.root(fun.X)
	f, ok := s.info.Selections[fun].Obj().(*types.Func)
	if v == nil || !ok || !hasPointer(f.Signature().Recv().Type()) {
		return nil
	}
	return v
}

// given returns the variables whose addresses a call is given. What a call within it is given is no matter.
func (s source) given(call *ast.CallExpr) []types.Object {
	l := []types.Object{}
	for _, arg := range call.Args {
		ast.Inspect(arg, func(n ast.Node) bool {
			if x, ok := n.(*ast.UnaryExpr); ok && x.Op == token.AND {
				l = append(l, s.root(x.X))
			}
			_, inner := n.(*ast.CallExpr)
			_, literal := n.(*ast.FuncLit)
			return !inner && !literal
		})
	}
	return l
}

// set returns the variables to which a function literal assigns.
func (s source) set(literal *ast.FuncLit) []types.Object {
	l := []types.Object{}
	ast.Inspect(literal.Body, func(n ast.Node) bool {
		if a, ok := n.(*ast.AssignStmt); ok {
			for _, left := range a.Lhs {
				l = append(l, s.root(left))
			}
		}
		return true
	})
	return l
}

// changes returns the expressions by which a variable may be changed while these are evaluated.
func (s source) changes(l []ast.Expr) map[types.Object][]ast.Node {
	found := map[types.Object][]ast.Node{}
	add := func(n ast.Node, variables ...types.Object) {
		for _, v := range variables {
			if v != nil {
				found[v] = append(found[v], n)
			}
		}
	}
	for _, e := range l {
		ast.Inspect(e, func(n ast.Node) bool {
			switch x := n.(type) {
			case *ast.CallExpr:
				add(x, s.method(x))
				add(x, s.given(x)...)
			case *ast.FuncLit:
				add(x, s.set(x)...)
				return false
			}
			return true
		})
	}
	return found
}

// reads tells whether the expressions read a variable outside of that which changes it. What a variable that is or has a pointer leads to counts, not the pointer.
func (s source) reads(l []ast.Expr, v types.Object, change ast.Node) bool {
	found := false
	for _, e := range l {
		ast.Inspect(e, func(n ast.Node) bool {
			switch x := n.(type) {
			case *ast.FuncLit:
				return false
			case *ast.SelectorExpr:
				if choice := s.info.Selections[x]; choice != nil && choice.Kind() == types.FieldVal && choice.Indirect() && s.root(x) == v && n != change {
					found = true
				}
			case *ast.StarExpr:
				found = found || s.root(x) == v
			case *ast.CallExpr:
				// The receivers of calls are no matter: calls are ordered.
				if fun, ok := x.Fun.(*ast.SelectorExpr); ok && n != change && s.root(fun.X) == v && s.method(x) != nil {
					found = found || s.reads(x.Args, v, change)
					return false
				}
			case *ast.Ident:
				found = found || s.info.Uses[x] == v && !hasPointer(v.Type())
			}
			return n != change
		})
	}
	return found
}

// openReads returns the places where a variable is read beside a call that may change it.
func (s source) openReads() []string {
	places := []string{}
	for _, f := range s.files {
		ast.Inspect(f, func(n ast.Node) bool {
			l := slices.DeleteFunc(slices.Clone(evaluated(n)), func(e ast.Expr) bool { return e == nil })
			for v, changes := range s.changes(l) {
				for _, change := range changes {
					if s.reads(l, v, change) {
						places = append(places, s.fset.Position(change.Pos()).String()+" "+v.Name())
					}
				}
			}
			return true
		})
	}
	return places
}

// TestTheCheckOfOrder lets the check find what it is for.
func TestTheCheckOfOrder(t *testing.T) {
	for statement, open := range map[string]bool{
		"return n, f(&n)": true, "return f(&n), n": true, "return n.a, f(&n)": true, "return n.a + f(&n), n": true, "return n.a, f(&n.l[0])": true, "return n, n.set()": true, "return n, n.set() + n.set()": true, "return *p, p.set()": true, "return p.a, p.set()": true, "return v.a, v.both(1)": true, "return v.a, v.both(v.a)": true, "x, y := n.a, f(&n); return n, x + y": true, "n.a += f(&n); return n, 0": true, "n.k[n.a] = f(&n); return n, 0": true, "if n.a == f(&n) { return n, 1 }; return n, 0": true, "return n, g(func() { n.a = 1 })": true, "return n, len(h(n.a, f(&n)))": true, "return m, n.set() + f(&m.l[0])": true, "return m, h(n.a, f(&n))": true, "return m, f(&n) + p.with(n.a)": true,
		"x := f(&n); return n, x": false, "return m, f(&n)": false, "return m, h(&n, n.a)": false, "return m, n.set()": false, "return m, n.set() + n.set()": false, "return m, p.with(p.a)": false, "return m, v.both(v.a)": false, "return m, v.both(1) + v.own": false, "x, y := n.set(), f(&m); return n, x + y": false, "n.a = f(&n); return n, 0": false, "x := g(func() { n.a = 1 }); return n, x": false, "p = &n; return n, 0": false,
	} {
		text := "package impl\ntype net struct { a int; k []int; l []net }\ntype view struct { *net; own int }\nfunc f(*net) int { return 0 }\nfunc g(func()) int { return 0 }\nfunc h(...any) []int { return nil }\nfunc (p *net) set() int { return 0 }\nfunc (p *net) with(int) int { return 0 }\nfunc (v view) both(int) int { return 0 }\nfunc do(n net, m net, p *net, v view) (any, any) { " + statement + " }\n"
		found := sourceOf(t, map[string]any{"x.go": text}).openReads()
		if (len(found) > 0) != open {
			t.Errorf("in %q, there is %q", statement, found)
		}
	}
}

func TestNoResultDependsOnAnOpenOrder(t *testing.T) {
	paths, _ := filepath.Glob("../impl/*.go")
	texts := map[string]any{}
	for _, path := range paths {
		if !strings.HasSuffix(path, "_test.go") {
			texts[path] = nil
		}
	}
	s := sourceOf(t, texts)
	if len(s.files) < 34 {
		t.Errorf("there are just %d files", len(s.files))
	}
	for _, place := range s.openReads() {
		t.Errorf("a variable is read beside a call that may change it: %s", place)
	}
}
