package print

import (
	"reflect"
	"slices"
	"testing"

	"tallow/api"
)

// P6.2

// same wants that answer, whichever of both stands first.
func same(t *testing.T, want bool, l, m []*api.Stmt) {
	t.Helper()
	if Same(l, m) != want || Same(m, l) != want {
		t.Errorf("Same(%.1000s, %.1000s) = %t, want %t", tell(l), tell(m), !want, want)
	}
}

// fullStmt and fullExpr have something in each field, whatever their kind; they are made anew.
func fullStmt() *api.Stmt {
	return &api.Stmt{Kind: api.StFor, Line: 7, Name: "n", L: nameOf("l"), R: nameOf("r"), To: nameOf("to"), A: blockOf(breakOf(), returnOf(nil)), B: blockOf(localOf("b", nil))}
}

func fullExpr() *api.Expr {
	return &api.Expr{Kind: api.ExBin, Line: 7, N: 5, Text: "+", L: nameOf("l"), R: nameOf("r"), Keys: []*api.Expr{nil, a()}, Args: []*api.Expr{a(), nil, b()}, Params: []string{"p", "q"}, Body: blockOf(breakOf(), returnOf(nil))}
}

// others has, for each field, other values than the full ones have.
func others() map[string][]any {
	return map[string][]any{
		"Kind":   {0, -1, api.StSet, api.ExTable, 100},
		"N":      {int64(0), int64(-5), int64(6), int64(5 + 1<<32)},
		"Text":   {"", "++", "-", "+\x00", " +"},
		"Name":   {"", "N", "nn", "n\x00"},
		"L":      {(*api.Expr)(nil), nameOf("r"), nameOf("L"), strOf("l"), unOf("-", nameOf("l"))},
		"R":      {(*api.Expr)(nil), nameOf("l"), nameOf("R"), strOf("r"), unOf("-", nameOf("r"))},
		"To":     {(*api.Expr)(nil), nameOf("r"), &api.Expr{}, intOf(1)},
		"A":      {[]*api.Stmt(nil), blockOf(breakOf()), blockOf(returnOf(nil), breakOf()), blockOf(breakOf(), returnOf(nil), breakOf()), blockOf(breakOf(), returnOf(nil), nil), blockOf(breakOf(), nil), blockOf(breakOf(), returnOf(a()))},
		"B":      {[]*api.Stmt(nil), blockOf(nil), blockOf(localOf("c", nil)), blockOf(localOf("b", nil), localOf("b", nil)), blockOf(localOf("b", nilOf()))},
		"Keys":   {[]*api.Expr(nil), []*api.Expr{a()}, []*api.Expr{nil}, []*api.Expr{a(), nil}, []*api.Expr{nil, a(), nil}, []*api.Expr{nil, nil}, []*api.Expr{nil, b()}},
		"Args":   {[]*api.Expr(nil), []*api.Expr{a(), b()}, []*api.Expr{a(), nil}, []*api.Expr{b(), nil, a()}, []*api.Expr{a(), nil, b(), nil}, []*api.Expr{a(), a(), b()}, []*api.Expr{nil, nil, b()}},
		"Params": {[]string(nil), []string{"p"}, []string{"q", "p"}, []string{"p", "q", ""}, []string{"p", ""}, []string{"pq"}, []string{"p", "q", "q"}},
		"Body":   {[]*api.Stmt(nil), blockOf(breakOf()), blockOf(returnOf(nil), breakOf()), blockOf(breakOf(), returnOf(nil), nil), blockOf(breakOf(), returnOf(nilOf()))},
	}
}

// placesOfStmt and placesOfExpr put what they are given into a field each.
func placesOfStmt() map[string]func(s *api.Stmt) []*api.Stmt {
	return map[string]func(s *api.Stmt) []*api.Stmt{
		"first":  func(s *api.Stmt) []*api.Stmt { return blockOf(s, breakOf()) },
		"last":   func(s *api.Stmt) []*api.Stmt { return blockOf(nil, breakOf(), s) },
		"A":      func(s *api.Stmt) []*api.Stmt { return blockOf(doOf(breakOf(), s)) },
		"B":      func(s *api.Stmt) []*api.Stmt { return blockOf(ifOf(a(), nil, blockOf(s))) },
		"Body":   func(s *api.Stmt) []*api.Stmt { return blockOf(returnOf(funcOf(nil, s))) },
		"B of a": func(s *api.Stmt) []*api.Stmt { return blockOf(&api.Stmt{Kind: 99, B: blockOf(nil, s)}) },
	}
}

func placesOfExpr() map[string]func(e *api.Expr) []*api.Stmt {
	return map[string]func(e *api.Expr) []*api.Stmt{
		"L":         func(e *api.Expr) []*api.Stmt { return blockOf(setOf(e, a())) },
		"R":         func(e *api.Expr) []*api.Stmt { return blockOf(returnOf(e)) },
		"To":        func(e *api.Expr) []*api.Stmt { return blockOf(forOf("i", a(), e)) },
		"L of one":  func(e *api.Expr) []*api.Stmt { return blockOf(returnOf(binOf(e, "+", a()))) },
		"R of one":  func(e *api.Expr) []*api.Stmt { return blockOf(returnOf(binOf(a(), "+", e))) },
		"Keys":      func(e *api.Expr) []*api.Stmt { return blockOf(returnOf(tableOf(nil, a(), e, a()))) },
		"Args":      func(e *api.Expr) []*api.Stmt { return blockOf(statementOf(callOf(a(), nil, e))) },
		"L of none": func(e *api.Expr) []*api.Stmt { return blockOf(&api.Stmt{L: &api.Expr{L: e}}) },
	}
}

func TestSameButForOneField(t *testing.T) {
	for place, in := range placesOfStmt() {
		same(t, true, in(fullStmt()), in(fullStmt()))
		same(t, false, in(fullStmt()), in(nil))
		for f := range reflect.TypeFor[api.Stmt]().NumField() {
			name := reflect.TypeFor[api.Stmt]().Field(f).Name
			if name != "Line" && len(others()[name]) == 0 {
				t.Fatalf("nothing for %s", name)
			}
			for _, other := range others()[name] {
				s := fullStmt()
				reflect.ValueOf(s).Elem().Field(f).Set(reflect.ValueOf(other))
				if same(t, false, in(fullStmt()), in(s)); t.Failed() {
					t.Fatalf("%s, %s", place, name)
				}
			}
		}
	}
	for place, in := range placesOfExpr() {
		same(t, true, in(fullExpr()), in(fullExpr()))
		same(t, false, in(fullExpr()), in(nil))
		for f := range reflect.TypeFor[api.Expr]().NumField() {
			name := reflect.TypeFor[api.Expr]().Field(f).Name
			if name != "Line" && len(others()[name]) == 0 {
				t.Fatalf("nothing for %s", name)
			}
			for _, other := range others()[name] {
				e := fullExpr()
				reflect.ValueOf(e).Elem().Field(f).Set(reflect.ValueOf(other))
				if same(t, false, in(fullExpr()), in(e)); t.Failed() {
					t.Fatalf("%s, %s", place, name)
				}
			}
		}
	}
}

func TestSameButForLines(t *testing.T) {
	for _, line := range []int{0, 1, -1, 1 << 40} {
		for _, in := range placesOfStmt() {
			s := fullStmt()
			s.Line, s.A[1].Line, s.B[0].Line, s.To.Line = line, line+1, line+2, -line
			same(t, true, in(fullStmt()), in(s))
		}
		for _, in := range placesOfExpr() {
			e := fullExpr()
			e.Line, e.Keys[1].Line, e.Args[0].Line, e.Body[0].Line = line, line+1, line+2, -line
			same(t, true, in(fullExpr()), in(e))
		}
	}
}

// Kinds that are none, and fields that a kind has not, are no matter here.
func TestSameOfWhatIsNone(t *testing.T) {
	for kind := -2; kind < 20; kind++ {
		s, e := fullStmt(), fullExpr()
		s.Kind, e.Kind = kind, kind
		same(t, true, blockOf(s), blockOf(s))
		same(t, true, blockOf(returnOf(e)), blockOf(returnOf(e)))
		same(t, kind == api.StFor, blockOf(s), blockOf(fullStmt()))
		same(t, kind == api.ExBin, blockOf(returnOf(e)), blockOf(returnOf(fullExpr())))
	}
	same(t, true, nil, nil)
	same(t, true, nil, []*api.Stmt{})
	same(t, true, blockOf(nil), blockOf(nil))
	same(t, true, blockOf(nil, breakOf(), nil), blockOf(nil, breakOf(), nil))
	same(t, false, nil, blockOf(nil))
	same(t, false, blockOf(nil), blockOf(nil, nil))
	same(t, false, blockOf(nil), blockOf(&api.Stmt{}))
	same(t, false, blockOf(nil, breakOf()), blockOf(breakOf(), nil))
	same(t, false, blockOf(breakOf()), blockOf(breakOf(), breakOf()))
	same(t, false, blockOf(returnOf(nil)), blockOf(returnOf(&api.Expr{})))
}

// A list that is empty is as good as none.
func TestSameOfListsThatAreEmpty(t *testing.T) {
	s := &api.Stmt{Kind: api.StIf, A: []*api.Stmt{}, B: []*api.Stmt{}}
	e := &api.Expr{Kind: api.ExFunc, Keys: []*api.Expr{}, Args: []*api.Expr{}, Params: []string{}, Body: []*api.Stmt{}}
	for _, in := range placesOfStmt() {
		same(t, true, in(s), in(&api.Stmt{Kind: api.StIf}))
	}
	for _, in := range placesOfExpr() {
		same(t, true, in(e), in(&api.Expr{Kind: api.ExFunc}))
	}
}

// manyStmts and manyExprs have n parts, one within the other.
func manyStmts(n int) []*api.Stmt {
	s := breakOf()
	for i := range n - 1 {
		switch i % 3 {
		case 0:
			s = doOf(s)
		case 1:
			s = &api.Stmt{Kind: api.StIf, B: blockOf(s)}
		case 2:
			s = &api.Stmt{Kind: api.StBreak, A: blockOf(nil, s, nil)}
		}
	}
	return blockOf(s)
}

func manyExprs(n int, deeper func(e *api.Expr) *api.Expr) []*api.Stmt {
	e := nilOf()
	for range n - 2 {
		e = deeper(e)
	}
	return blockOf(returnOf(e))
}

func TestSameOfManyParts(t *testing.T) {
	for _, n := range []int{65535, 65536} {
		same(t, true, manyStmts(n), manyStmts(n))
	}
	for _, n := range []int{65537, 65538, 65600, 200000} {
		same(t, false, manyStmts(n), manyStmts(n))
		same(t, false, manyStmts(n), manyStmts(10))
		same(t, false, manyStmts(n), nil)
	}
	for _, deeper := range []func(e *api.Expr) *api.Expr{
		func(e *api.Expr) *api.Expr { return binOf(e, "+", nil) }, func(e *api.Expr) *api.Expr { return unOf("-", e) }, func(e *api.Expr) *api.Expr { return callOf(nil, nil, e) }, func(e *api.Expr) *api.Expr { return &api.Expr{Kind: api.ExNil, Keys: []*api.Expr{e}} },
	} {
		same(t, true, manyExprs(65536, deeper), manyExprs(65536, deeper))
		same(t, false, manyExprs(65537, deeper), manyExprs(65537, deeper))
	}
	inBody := func(e *api.Expr) *api.Expr { return funcOf(nil, localOf("x", e)) } // two parts each
	same(t, true, manyExprs(32769, inBody), manyExprs(32769, inBody))
	same(t, false, manyExprs(32770, inBody), manyExprs(32770, inBody))
	same(t, false, append(manyExprs(32769, inBody), breakOf()), append(manyExprs(32769, inBody), breakOf()))
	flat := make([]*api.Stmt, 70000)
	same(t, true, flat, flat)
	for i := range 65536 {
		flat[i] = breakOf()
	}
	same(t, true, flat, flat)
	same(t, true, flat, append([]*api.Stmt(nil), flat...))
	flat[65536] = breakOf()
	same(t, false, flat, flat)
	same(t, false, flat, flat[:65536])
}

// A part counts as often as one comes to it.
func TestSameOfPartsThatAreShared(t *testing.T) {
	doubled := func(times int) []*api.Stmt {
		e := nilOf()
		for range times {
			e = binOf(e, "+", e)
		}
		return blockOf(returnOf(e))
	}
	for times := range 16 {
		same(t, true, doubled(times), doubled(times))
		same(t, false, doubled(times), doubled(times+1))
	}
	same(t, false, append(doubled(15), breakOf()), append(doubled(15), breakOf()))
	same(t, false, doubled(16), doubled(16))
	same(t, false, doubled(1000), doubled(1000))
	shared := slices.Repeat(calls(1), 21845)
	same(t, true, append(shared, breakOf()), append(calls(21845), breakOf()))
	same(t, false, append(shared, breakOf(), breakOf()), append(calls(21845), breakOf(), breakOf()))
}

func TestSameOfTreesThatAreTheirOwnParts(t *testing.T) {
	for field, e := range ownPartsOfExprs() {
		l := blockOf(returnOf(e))
		same(t, false, l, l)
		same(t, false, l, blockOf(returnOf(ownPartsOfExprs()[field])))
		same(t, false, l, blockOf(returnOf(a())))
		same(t, false, blockOf(localOf("x", e)), l)
	}
	for field, s := range ownPartsOfStatements() {
		same(t, false, blockOf(s), blockOf(s))
		same(t, false, blockOf(s), blockOf(ownPartsOfStatements()[field]))
		same(t, false, blockOf(breakOf(), s), blockOf(breakOf(), s))
		same(t, false, blockOf(s), blockOf(breakOf()))
	}
}

func TestSameChangesNothing(t *testing.T) {
	l, m := blockOf(fullStmt(), returnOf(fullExpr())), blockOf(fullStmt(), returnOf(fullExpr()))
	Same(l, m)
	if !reflect.DeepEqual(l, blockOf(fullStmt(), returnOf(fullExpr()))) || !reflect.DeepEqual(l, m) {
		t.Errorf("%s, %s", tell(l), tell(m))
	}
}
