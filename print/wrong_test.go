package print

import (
	"maps"
	"reflect"
	"slices"
	"strings"
	"testing"

	"tallow/api"
)

// eachStatement has statements of each kind, with all their parts and without, made anew.
func eachStatement() []*api.Stmt {
	return []*api.Stmt{
		localOf("x", a()), localOf("x", nil), setOf(a(), b()), statementOf(callOf(a())), doOf(breakOf()), whileOf(a(), breakOf()),
		ifOf(a(), blockOf(breakOf()), blockOf(breakOf())), ifOf(a(), nil, nil), ifOf(a(), nil, blockOf(ifOf(a(), nil, nil))), forOf("i", a(), b(), breakOf()),
		returnOf(nil), returnOf(a()), breakOf(), tryOf("e", blockOf(breakOf()), blockOf(breakOf())), localFunctionOf("f", funcOf([]string{"p"}, breakOf())),
	}
}

// stmtFields has the fields that a statement of that kind has.
func stmtFields(kind int) []string {
	switch kind {
	case api.StLocal, api.StFunc:
		return []string{"Name", "R"}
	case api.StSet:
		return []string{"L", "R"}
	case api.StCall, api.StReturn:
		return []string{"R"}
	case api.StDo:
		return []string{"A"}
	case api.StWhile:
		return []string{"R", "A"}
	case api.StIf:
		return []string{"R", "A", "B"}
	case api.StFor:
		return []string{"Name", "R", "To", "A"}
	case api.StTry:
		return []string{"Name", "A", "B"}
	default:
		return nil
	}
}

// exprFields has the fields that an expression of that kind has.
func exprFields(kind int) []string {
	switch kind {
	case api.ExInt:
		return []string{"N"}
	case api.ExStr, api.ExName:
		return []string{"Text"}
	case api.ExIndex:
		return []string{"L", "R"}
	case api.ExCall:
		return []string{"L", "Args"}
	case api.ExFunc:
		return []string{"Params", "Body"}
	case api.ExUn:
		return []string{"Text", "R"}
	case api.ExBin:
		return []string{"Text", "L", "R"}
	case api.ExTable:
		return []string{"Keys", "Args"}
	default:
		return nil
	}
}

// tooLong is a statement that comes to be too long where its name stands.
func tooLong() *api.Stmt { return localOf(strings.Repeat("x", 40000), nil) }

// wrongThere wants ErrArg of a statement that is wrong where it stands, whatever stands behind it; but not if the text is too long ahead of it.
func wrongThere(t *testing.T, s *api.Stmt) {
	t.Helper()
	for _, l := range [][]*api.Stmt{
		{s}, {breakOf(), s}, {s, breakOf()}, {s, tooLong()}, {s, s}, {doOf(s), tooLong()},
		{ifOf(a(), blockOf(s), blockOf(tooLong()))}, {ifOf(a(), nil, blockOf(s)), tooLong()}, {tryOf(tooLong().Name, blockOf(s), nil)}, {tryOf("e", nil, blockOf(s)), tooLong()},
		{returnOf(funcOf(nil, s, tooLong()))}, {whileOf(funcOf(nil, s), tooLong())}, {localFunctionOf("f", funcOf(nil, s)), tooLong()}, {forOf("i", a(), b(), s), tooLong()},
		{localOf("not a name", nil), s, tooLong()}, {s, localOf("not a name", nil)},
	} {
		refuses(t, api.ErrArg, l...)
	}
	for _, l := range [][]*api.Stmt{{tooLong(), s}, {doOf(tooLong()), s}, {ifOf(a(), blockOf(tooLong()), blockOf(s))}, {returnOf(funcOf([]string{tooLong().Name}, s))}, {forOf(tooLong().Name, a(), b(), s)}, {localFunctionOf(tooLong().Name, funcOf(nil, s))}} {
		refuses(t, api.ErrLong, l...)
	}
}

// wrongExprThere wants that of an expression, wherever it stands.
func wrongExprThere(t *testing.T, e *api.Expr) {
	t.Helper()
	long := nameOf(tooLong().Name)
	for _, s := range []*api.Stmt{
		setOf(e, a()), setOf(a(), e), statementOf(e), whileOf(e), ifOf(e, nil, nil), ifOf(a(), nil, blockOf(ifOf(e, nil, nil))), forOf("i", e, long), forOf("i", a(), e), localFunctionOf("f", e),
		returnOf(indexOf(e, long)), returnOf(indexOf(a(), e)), returnOf(callOf(e, long)), returnOf(callOf(a(), e, long)), returnOf(callOf(a(), b(), e)), returnOf(unOf("-", e)),
		returnOf(binOf(e, long.Text, long)), returnOf(binOf(a(), "+", e)), returnOf(binOf(a(), "..", e)), returnOf(tableOf(nil, e, nil, long)), returnOf(tableOf(nil, a(), nil, e)), returnOf(tableOf(strOf("x"), e)), returnOf(tableOf(a(), e, nil, long)),
		returnOf(callOf(funcOf(nil, statementOf(callOf(e)), tooLong()))),
	} {
		wrongThere(t, s)
	}
	if e != nil { // none is what may be left out
		wrongThere(t, localOf("x", e))
		wrongThere(t, returnOf(e))
		wrongThere(t, returnOf(tableOf(e, long)))
		wrongThere(t, returnOf(tableOf(nil, a(), e, long)))
	}
	for _, l := range []*api.Expr{indexOf(long, e), callOf(long, e), callOf(a(), long, e), unOf(long.Text, e), binOf(long, "+", e), binOf(a(), long.Text, e), tableOf(nil, long, nil, e), tableOf(long, e), tableOf(nil, long, e, a())} {
		refuses(t, api.ErrLong, returnOf(l))
	}
	refuses(t, api.ErrLong, setOf(long, e))
	refuses(t, api.ErrLong, forOf("i", long, e))
	refuses(t, api.ErrLong, forOf(long.Text, e, a()))
	refuses(t, api.ErrLong, localFunctionOf(long.Text, e))
}

func TestWhatMustBeThere(t *testing.T) {
	wrongThere(t, nil)
	wrongExprThere(t, nil)
}

func TestKindsThatAreNone(t *testing.T) {
	for _, kind := range []int{0, -1, api.StFunc + 1, 100, 1 << 62, -1 << 63} {
		wrongThere(t, &api.Stmt{Kind: kind})
		wrongThere(t, &api.Stmt{Kind: kind, Name: "x", L: a(), R: a(), To: a(), A: blockOf(tooLong())})
	}
	for _, kind := range []int{0, -1, api.ExTable + 1, 100, 1 << 62, -1 << 63} {
		wrongExprThere(t, &api.Expr{Kind: kind})
		wrongExprThere(t, &api.Expr{Kind: kind, Text: "x", L: a(), R: a(), Args: []*api.Expr{nil}})
	}
}

func TestLocalFunctionsThatAreNone(t *testing.T) {
	for _, e := range append(slices.Collect(maps.Values(eachKind())), nil, &api.Expr{}, &api.Expr{Kind: 13, Params: []string{"p"}}) {
		if e == nil || e.Kind != api.ExFunc {
			wrongThere(t, localFunctionOf("f", e))
			refuses(t, api.ErrLong, localFunctionOf(tooLong().Name, e))
		}
	}
}

func TestKeysWithoutItems(t *testing.T) {
	long := nameOf(tooLong().Name)
	for _, e := range []*api.Expr{
		{Kind: api.ExTable, Keys: []*api.Expr{nil}},
		{Kind: api.ExTable, Keys: []*api.Expr{strOf("x")}},
		{Kind: api.ExTable, Args: []*api.Expr{a()}},
		{Kind: api.ExTable, Args: []*api.Expr{long}},
		{Kind: api.ExTable, Keys: []*api.Expr{strOf("x"), nil}, Args: []*api.Expr{long}},
		{Kind: api.ExTable, Keys: []*api.Expr{long}, Args: []*api.Expr{a(), b()}},
		{Kind: api.ExTable, Keys: make([]*api.Expr, 100), Args: []*api.Expr{a(), b()}},
	} {
		wrongExprThere(t, e)
	}
}

// notThose wants ErrArg of a statement whose text is not read as it; what is wrong in the tree, or too long, goes ahead, wherever it stands.
func notThose(t *testing.T, s *api.Stmt) {
	t.Helper()
	refuses(t, api.ErrArg, s)
	refuses(t, api.ErrArg, breakOf(), s)
	refuses(t, api.ErrArg, doOf(s), breakOf())
	refuses(t, api.ErrArg, s, nil)
	refuses(t, api.ErrLong, s, tooLong())
	refuses(t, api.ErrLong, tooLong(), s)
}

// A name that is none stands in the text as it is.
func TestNamesThatAreNone(t *testing.T) {
	names := []string{"", " ", " a", "a ", "a\n", "1", "1x", "a b", "a.b", "a[b]", "a()", "a, b", "a = 1", "(a)", "-a", "\"a\"", "$", "\x00", "\xc3\xa9", "a -- b", "--", "a\"", strings.Repeat("x", 25), "99999999999999999999", "a = 1\nlocal x"}
	for _, name := range append(names, reserved()...) {
		for _, s := range []*api.Stmt{
			localOf(name, nil), localOf(name, a()), setOf(nameOf(name), a()), setOf(a(), nameOf(name)), statementOf(callOf(nameOf(name))), statementOf(callOf(a(), nameOf(name))), whileOf(nameOf(name)), forOf(name, a(), b()), forOf("i", nameOf(name), a()), tryOf(name, nil, nil),
			localFunctionOf(name, funcOf(nil)), returnOf(funcOf([]string{name})), returnOf(funcOf([]string{"p", name})), returnOf(nameOf(name)), returnOf(indexOf(nameOf(name), strOf("x"))), returnOf(binOf(a(), "+", nameOf(name))), returnOf(tableOf(nil, nameOf(name))), returnOf(tableOf(nameOf(name), a())),
		} {
			notThose(t, s)
		}
	}
	notThose(t, statementOf(nameOf("f()")))
	notThose(t, statementOf(nameOf("f = 1")))
	notThose(t, setOf(nameOf("a.b"), c()))
	notThose(t, returnOf(nameOf("a + b")))
	notThose(t, returnOf(binOf(a(), "+", nameOf("b + c"))))
}

func TestOperatorsThatAreNone(t *testing.T) {
	for _, o := range []string{"", " ", "=", "!", "!=", "<>", "/", "^", ".", "...", ",", "(", "a", "nil", "AND", "+ ", " +", "+\n", "+ 1 +", "+ -", "and not", "--", "..\"x\"..", ".. a ..", "\x00"} {
		notThose(t, returnOf(binOf(a(), o, b())))
		notThose(t, setOf(a(), binOf(binOf(a(), o, b()), "+", c())))
		notThose(t, setOf(a(), binOf(a(), "+", binOf(b(), o, c()))))
	}
	for _, o := range []string{"", " ", "+", "*", "..", "==", "and", "or", "!", "&", "=", "a", "not ", " -", "- -", "-\n", "not not", "NOT", "--", "a +", "(", "\x00"} {
		notThose(t, returnOf(unOf(o, a())))
		notThose(t, returnOf(unOf("-", unOf(o, a()))))
		notThose(t, returnOf(binOf(a(), "+", unOf(o, b()))))
	}
	for _, o := range ahead() {
		if !slices.Contains(operators(), o) {
			notThose(t, returnOf(binOf(a(), o, b())))
		}
	}
}

func TestStatementsThatAreNone(t *testing.T) {
	for _, e := range eachKind() {
		if e.Kind != api.ExCall {
			notThose(t, statementOf(e))
		}
		if e.Kind != api.ExName && e.Kind != api.ExIndex {
			notThose(t, setOf(e, a()))
		}
	}
	for _, e := range []*api.Expr{intOf(-1), intOf(-1 << 63)} {
		notThose(t, returnOf(e))
		notThose(t, setOf(a(), binOf(a(), "-", e)))
	}
	// Statements that are read otherwise where they stand.
	refuses(t, api.ErrArg, returnOf(nil), breakOf())
	refuses(t, api.ErrArg, returnOf(a()), returnOf(a()))
	refuses(t, api.ErrArg, doOf(returnOf(nil), statementOf(callOf(a()))))
	refuses(t, api.ErrArg, setOf(a(), b()), statementOf(callOf(funcOf(nil))))
	refuses(t, api.ErrArg, statementOf(callOf(a())), setOf(indexOf(binOf(a(), "+", b()), strOf("x")), c()))
	prints(t, "a = b\nbreak\n(function()\nend)()\n", setOf(a(), b()), breakOf(), statementOf(callOf(funcOf(nil))))
	prints(t, "local a\n(function()\nend)()\n", localOf("a", nil), statementOf(callOf(funcOf(nil))))
}

// otherThan answers something for a field that is none's and not empty.
func otherThan(field string) any {
	switch field {
	case "N":
		return int64(1)
	case "Text", "Name":
		return "x"
	case "L", "R", "To":
		return a()
	case "Keys", "Args":
		return []*api.Expr{nil}
	case "Params":
		return []string{""}
	default:
		return []*api.Stmt{breakOf()}
	}
}

// A field that the kind has not is not in the text.
func TestFieldsThatTheKindHasNot(t *testing.T) {
	for _, s := range eachStatement() {
		if text, e := Print(blockOf(s)); text == "" || e != api.OK {
			t.Errorf("%s: %d", tell(blockOf(s)), e)
		}
		for _, f := range []string{"Name", "L", "R", "To", "A", "B"} {
			if !slices.Contains(stmtFields(s.Kind), f) {
				l := reflect.ValueOf(s).Elem().FieldByName(f)
				l.Set(reflect.ValueOf(otherThan(f)))
				notThose(t, s)
				l.SetZero()
			}
		}
	}
	for _, e := range eachKind() {
		for _, f := range []string{"N", "Text", "L", "R", "Keys", "Args", "Params", "Body"} {
			if !slices.Contains(exprFields(e.Kind), f) {
				l := reflect.ValueOf(e).Elem().FieldByName(f)
				l.Set(reflect.ValueOf(otherThan(f)))
				notThose(t, returnOf(e))
				notThose(t, setOf(a(), e))
				notThose(t, returnOf(indexOf(a(), e)))
				notThose(t, returnOf(tableOf(e, b())))
				notThose(t, localOf("x", binOf(e, "+", e)))
				l.SetZero()
			}
		}
	}
	notThose(t, localFunctionOf("f", &api.Expr{Kind: api.ExFunc, Text: "f"}))
	notThose(t, returnOf(tableOf(&api.Expr{Kind: api.ExStr, Text: "x", N: 1}, a())))
	notThose(t, returnOf(indexOf(a(), &api.Expr{Kind: api.ExStr, Text: "x", L: a()})))
}

// P6.1: what Parse answers is told by its code alone.
func TestFaultsOfTheText(t *testing.T) {
	deep := a()
	for range 65 {
		deep = unOf("-", deep)
	}
	long := strOf(strings.Repeat("x", 4097))
	bad := localOf("1x", nil)
	form := localOf("1", nil)
	refuses(t, api.ErrLong, returnOf(deep))
	refuses(t, api.ErrLong, returnOf(long))
	refuses(t, api.ErrArg, bad)
	refuses(t, api.ErrArg, form)
	// Wrong words go ahead of wrong forms and of what is too deep.
	refuses(t, api.ErrArg, localOf("x", deep), bad)
	refuses(t, api.ErrArg, bad, localOf("x", long))
	refuses(t, api.ErrLong, localOf("x", long), bad)
	refuses(t, api.ErrLong, form, localOf("x", long))
	refuses(t, api.ErrLong, localOf("x", deep), form)
	refuses(t, api.ErrArg, form, localOf("x", deep))
	refuses(t, api.ErrLong, &api.Stmt{Kind: api.StBreak, Name: "x"}, localOf("x", deep))
	refuses(t, api.ErrLong, localOf("x", deep), &api.Stmt{Kind: api.StBreak, Name: "x"})
	refuses(t, api.ErrArg, localOf("x", deep), nil)
	refuses(t, api.ErrArg, localOf("x", long), nil)
}

func TestTreesThatAreTheirOwnParts(t *testing.T) {
	for field := range ownPartsOfExprs() {
		e := ownPartsOfExprs()[field]
		want := api.ErrLong
		if strings.HasPrefix(field, "none") {
			want = api.ErrArg
		}
		refuses(t, want, returnOf(e))
		refuses(t, want, setOf(a(), e), breakOf())
		refuses(t, want, returnOf(unOf("-", binOf(e, "+", e))))
		refuses(t, want, returnOf(tableOf(nil, a(), e, b())))
		refuses(t, api.ErrArg, nil, localOf("x", e))
		if want == api.ErrLong {
			refuses(t, want, localOf("x", e), nil)
		} else {
			refuses(t, api.ErrLong, localOf("x", e), tooLong())
		}
	}
	for field, s := range ownPartsOfStatements() {
		want := api.ErrLong
		if strings.HasPrefix(field, "none") {
			want = api.ErrArg
		}
		refuses(t, want, s)
		refuses(t, want, breakOf(), s)
		refuses(t, want, doOf(s))
		refuses(t, api.ErrArg, nil, s)
	}
}

// ownPartsOfExprs has an expression for each field by which it can be its own part; the first word of a field that its kind has not is none.
func ownPartsOfExprs() map[string]*api.Expr {
	all := map[string]*api.Expr{
		"L of an index": indexOf(nil, strOf("x")), "R of an index": indexOf(a(), nil), "L of a call": callOf(nil), "Args": callOf(a(), b(), nil), "R of a sign": unOf("-", nil),
		"L of an operator": binOf(nil, "and", b()), "R of an operator": binOf(a(), "and", nil), "L of ..": binOf(nil, "..", b()), "R of ..": binOf(a(), "..", nil), "item": tableOf(nil, nil), "key": tableOf(nil, a()), "Body": funcOf(nil, returnOf(nil)),
		"none: L": a(), "none: R": a(), "none: Args": strOf("s"), "none: Keys": callOf(a()), "none: Body": tableOf(), "none: empty key": intOf(1),
	}
	all["L of an index"].L = all["L of an index"]
	all["R of an index"].R = all["R of an index"]
	all["L of a call"].L = all["L of a call"]
	all["Args"].Args[1] = all["Args"]
	all["R of a sign"].R = all["R of a sign"]
	all["L of an operator"].L = all["L of an operator"]
	all["R of an operator"].R = all["R of an operator"]
	all["L of .."].L = all["L of .."]
	all["R of .."].R = all["R of .."]
	all["item"].Args[0] = all["item"]
	all["key"].Keys[0] = all["key"]
	all["Body"].Body[0].R = all["Body"]
	all["none: L"].L = all["none: L"]
	all["none: R"].R = all["none: R"]
	all["none: Args"].Args = []*api.Expr{all["none: Args"]}
	all["none: Keys"].Keys = []*api.Expr{all["none: Keys"]}
	all["none: Body"].Body = blockOf(returnOf(all["none: Body"]))
	all["none: empty key"].Keys = []*api.Expr{nil, all["none: empty key"]}
	return all
}

func ownPartsOfStatements() map[string]*api.Stmt {
	all := map[string]*api.Stmt{
		"A of do": doOf(nil), "A of while": whileOf(a(), nil), "A of if": ifOf(a(), blockOf(nil), nil), "B of if": ifOf(a(), nil, blockOf(nil)), "B of if, behind another one": ifOf(a(), nil, blockOf(breakOf(), nil)), "A of for": forOf("i", a(), b(), nil),
		"A of try": tryOf("e", blockOf(nil), nil), "B of try": tryOf("e", nil, blockOf(nil)), "Body": localFunctionOf("f", funcOf(nil, nil)), "R": returnOf(funcOf(nil, nil)),
		"none: L": returnOf(nil), "none: To": setOf(a(), funcOf(nil, nil)), "none: A": breakOf(), "none: B": doOf(),
	}
	all["A of do"].A[0] = all["A of do"]
	all["A of while"].A[0] = all["A of while"]
	all["A of if"].A[0] = all["A of if"]
	all["B of if"].B[0] = all["B of if"]
	all["B of if, behind another one"].B[1] = all["B of if, behind another one"]
	all["A of for"].A[0] = all["A of for"]
	all["A of try"].A[0] = all["A of try"]
	all["B of try"].B[0] = all["B of try"]
	all["Body"].R.Body[0] = all["Body"]
	all["R"].R.Body[0] = all["R"]
	all["none: L"].L = funcOf(nil, all["none: L"])
	all["none: To"].To, all["none: To"].R = funcOf(nil, all["none: To"]), a()
	all["none: A"].A = blockOf(all["none: A"])
	all["none: B"].B = blockOf(all["none: B"])
	return all
}
