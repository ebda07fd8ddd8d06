package num

import (
	"math/big"
	"strings"
	"testing"

	"tallow/api"
)

const (
	least = -1 << 63
	most  = 1<<63 - 1
)

// wrongOps are numbers that are no operation's.
var wrongOps = []int{-1, api.LastNum + 1, 100, -100, 256, 1 << 32, least, most}

// edges are the numbers at which answers change their kind: around 0, around the places of shifts, around the ends.
func edges() []int64 {
	l := []int64{0, least, most}
	for _, n := range []int64{1, 2, 3, 5, 7, 8, 10, 60, 62, 63, 64, 65, 127, 128, 255, 256, 257, 320, 1<<16 + 1, 1<<32 - 1, 1 << 32, 1<<32 + 1, 1<<62 - 1, 1 << 62, most - 1} {
		l = append(l, n, -n)
	}
	return append(l, least+1, least+2)
}

// scattered are n numbers of all sizes, the same in each run.
func scattered(n int) []int64 {
	var l []int64
	bits := uint64(88172645463325252)
	for i := range n {
		bits ^= bits << 13
		bits ^= bits >> 7
		bits ^= bits << 17
		l = append(l, int64(bits)>>(i%64))
	}
	return l
}

func pairs(f func(a, b int64)) {
	for _, a := range edges() {
		for _, b := range edges() {
			f(a, b)
		}
	}
	l := scattered(4000)
	for i := range len(l) - 1 {
		f(l[i], l[i+1])
	}
}

func big64() *big.Int { return new(big.Int).Lsh(big.NewInt(1), 64) }

// told is n modulo 2^64, by its words.
func told(n *big.Int) int64 {
	m := new(big.Int).Mod(n, big64()) // from 0 on, whatever n is
	if m.Bit(63) == 1 {
		m.Sub(m, big64())
	}
	return m.Int64()
}

func bitsOf(n int64) *big.Int { return new(big.Int).Mod(big.NewInt(n), big64()) }

// floor is a divided by b, rounded down, and the rest.
func floor(a, b int64) (q, r *big.Int) {
	q, r = new(big.Int).QuoRem(big.NewInt(a), big.NewInt(b), new(big.Int))
	if r.Sign() != 0 && r.Sign() != big.NewInt(b).Sign() {
		q.Sub(q, big.NewInt(1))
		r.Add(r, big.NewInt(b))
	}
	return q, r
}

// moved is a's bits b places up (down, if b is below 0).
func moved(a int64, b *big.Int) int64 {
	n := bitsOf(a)
	switch {
	case b.CmpAbs(big.NewInt(64)) >= 0:
		return 0
	case b.Sign() < 0:
		return told(n.Rsh(n, uint(-b.Int64())))
	default:
		return told(n.Lsh(n, uint(b.Int64())))
	}
}

// model is what the chapter's table says of an operation, reckoned without any bound.
func model(op int, a, b int64) int64 {
	x, y, z := big.NewInt(a), big.NewInt(b), new(big.Int)
	switch op {
	case api.NumAdd:
		return told(z.Add(x, y))
	case api.NumSub:
		return told(z.Sub(x, y))
	case api.NumMul:
		return told(z.Mul(x, y))
	case api.NumDiv:
		q, _ := floor(a, b)
		return told(q)
	case api.NumMod:
		_, r := floor(a, b)
		return told(r)
	case api.NumAnd:
		return told(z.And(bitsOf(a), bitsOf(b)))
	case api.NumOr:
		return told(z.Or(bitsOf(a), bitsOf(b)))
	case api.NumXor:
		return told(z.Xor(bitsOf(a), bitsOf(b)))
	case api.NumShl:
		return moved(a, y)
	default:
		return moved(a, z.Neg(y))
	}
}

func must(t *testing.T, op int, a, b int64) int64 {
	t.Helper()
	n, e := Do(op, a, b)
	if e != api.OK {
		t.Fatalf("Do(%d, %d, %d): error %d", op, a, b, e)
	}
	return n
}

// P1.1

func TestDoIsTheModel(t *testing.T) {
	pairs(func(a, b int64) {
		for op := range api.LastNum + 1 {
			if b == 0 && (op == api.NumDiv || op == api.NumMod) {
				continue
			}
			if n := must(t, op, a, b); n != model(op, a, b) {
				t.Errorf("%d %s %d = %d, want %d", a, Sign(op), b, n, model(op, a, b))
			}
		}
	})
}

func TestDoByHand(t *testing.T) {
	for _, x := range []struct {
		op         int
		a, b, want int64
	}{
		{api.NumAdd, 2, 3, 5}, {api.NumAdd, most, 1, least}, {api.NumAdd, least, least, 0}, {api.NumAdd, least, -1, most},
		{api.NumSub, 2, 3, -1}, {api.NumSub, least, 1, most}, {api.NumSub, 0, least, least}, {api.NumSub, most, -1, least},
		{api.NumMul, -4, 5, -20}, {api.NumMul, 1 << 62, 4, 0}, {api.NumMul, least, -1, least}, {api.NumMul, most, most, 1},
		{api.NumDiv, 7, 2, 3}, {api.NumDiv, -7, 2, -4}, {api.NumDiv, 7, -2, -4}, {api.NumDiv, -7, -2, 3},
		{api.NumDiv, 6, 2, 3}, {api.NumDiv, -6, 2, -3}, {api.NumDiv, 6, -2, -3}, {api.NumDiv, -6, -2, 3},
		{api.NumDiv, 0, -2, 0}, {api.NumDiv, 1, -2, -1}, {api.NumDiv, -1, 2, -1}, {api.NumDiv, least, -1, least},
		{api.NumDiv, least, 1, least}, {api.NumDiv, least, least, 1}, {api.NumDiv, most, least, -1}, {api.NumDiv, least, most, -2},
		{api.NumMod, 7, 3, 1}, {api.NumMod, -7, 3, 2}, {api.NumMod, 7, -3, -2}, {api.NumMod, -7, -3, -1},
		{api.NumMod, 6, 3, 0}, {api.NumMod, -6, 3, 0}, {api.NumMod, 6, -3, 0}, {api.NumMod, 0, -3, 0},
		{api.NumMod, 5, -1, 0}, {api.NumMod, least, -1, 0}, {api.NumMod, least, most, most - 1}, {api.NumMod, most, least, -1},
		{api.NumAnd, 12, 10, 8}, {api.NumAnd, -1, least, least}, {api.NumOr, 12, 10, 14}, {api.NumOr, least, most, -1},
		{api.NumXor, 12, 10, 6}, {api.NumXor, -1, most, least},
		{api.NumShl, 1, 0, 1}, {api.NumShl, 1, 63, least}, {api.NumShl, 1, 64, 0}, {api.NumShl, -1, 65, 0}, {api.NumShl, -1, 256, 0}, {api.NumShl, 1, most, 0},
		{api.NumShl, -1, -1, most}, {api.NumShl, -1, -63, 1}, {api.NumShl, -1, -64, 0}, {api.NumShl, -1, -256, 0}, {api.NumShl, -1, least, 0},
		{api.NumShr, -1, 0, -1}, {api.NumShr, -1, 60, 15}, {api.NumShr, -1, 63, 1}, {api.NumShr, -1, 64, 0}, {api.NumShr, -1, 256, 0}, {api.NumShr, -1, most, 0},
		{api.NumShr, 1, -3, 8}, {api.NumShr, 1, -63, least}, {api.NumShr, 1, -64, 0}, {api.NumShr, 1, -256, 0}, {api.NumShr, 5, least, 0},
	} {
		if n, e := Do(x.op, x.a, x.b); n != x.want || e != api.OK {
			t.Errorf("Do(%d, %d, %d) = %d, %d, want %d", x.op, x.a, x.b, n, e, x.want)
		}
	}
}

func TestDoByNought(t *testing.T) {
	for _, a := range edges() {
		for _, op := range []int{api.NumDiv, api.NumMod} {
			if n, e := Do(op, a, 0); n != 0 || e != api.ErrDiv {
				t.Errorf("Do(%d, %d, 0) = %d, %d", op, a, n, e)
			}
		}
	}
}

func TestDoOfNoOperation(t *testing.T) {
	for _, op := range wrongOps {
		for _, b := range []int64{1, 0, -1, least} {
			if n, e := Do(op, 5, b); n != 0 || e != api.ErrArg {
				t.Errorf("Do(%d, 5, %d) = %d, %d", op, b, n, e)
			}
		}
	}
}

// P1.2

func TestTextAndParse(t *testing.T) {
	for s, n := range map[string]int64{
		"0": 0, "1": 1, "-1": -1, "9": 9, "10": 10, "-10": -10, "100": 100, "1000000000000000000": 1000000000000000000,
		"9223372036854775807": most, "-9223372036854775807": least + 1, "-9223372036854775808": least,
	} {
		if Text(n) != s {
			t.Errorf("Text(%d) = %q", n, Text(n))
		}
		if v, e := Parse(s); v != n || e != api.OK {
			t.Errorf("Parse(%q) = %d, %d", s, v, e)
		}
	}
	for _, n := range append(edges(), scattered(2000)...) {
		if s := big.NewInt(n).String(); Text(n) != s {
			t.Errorf("Text(%d) = %q", n, Text(n))
		}
	}
}

func TestParseOfNoText(t *testing.T) {
	long := strings.Repeat("9", 100000)
	for _, s := range []string{
		"", "-", "--1", "-0", "+1", "+0", "00", "01", "-01", "-00", "000000000000000000000000", "00000000000000000000001",
		"0100000000000000000000", "-0100000000000000000000", "0" + long, "-0" + long,
		" 1", "1 ", "1\n", "\t1", "1\x00", "\x001", "1-", "1-1", "- 1", "1_0", "1,0", "1.0", "1e3", "0x1", "0b1", "0o7", "a", "1a", "/", ":", "1/", "1:",
		"99999999999999999999x", "-99999999999999999999x", "99999999999999999999-", long + ".", "x" + long, "+9223372036854775808",
		"٣", "1٣", "１", "−1", "\xff", "1\xff", "nil",
	} {
		if n, e := Parse(s); n != 0 || e != api.ErrForm {
			t.Errorf("Parse(%.40q) = %d, %d, want %d", s, n, e, api.ErrForm)
		}
	}
}

func TestParseOfOneByteMore(t *testing.T) {
	for c := range 256 {
		want := api.ErrForm
		if '0' <= c && c <= '9' {
			want = api.OK
		}
		for _, s := range []string{"4" + string([]byte{byte(c)}), "4" + string([]byte{byte(c)}) + "2", "-4" + string([]byte{byte(c)})} {
			if _, e := Parse(s); e != want {
				t.Errorf("Parse(%q): %d, want %d", s, e, want)
			}
		}
	}
}

func TestParseOfTooGreat(t *testing.T) {
	for _, s := range []string{
		"9223372036854775808", "-9223372036854775809", "9223372036854775810", "-9223372036854775810", "9999999999999999999", "10000000000000000000",
		"18446744073709551615", "18446744073709551616", "18446744073709551617", "-18446744073709551616", "-18446744073709551617", "100000000000000000000",
		"1" + strings.Repeat("0", 64), "-1" + strings.Repeat("0", 64), strings.Repeat("9", 100000), "-" + strings.Repeat("9", 100000),
	} {
		if n, e := Parse(s); n != 0 || e != api.ErrOver {
			t.Errorf("Parse(%.40q) = %d, %d, want %d", s, n, e, api.ErrOver)
		}
	}
}

// P1.3

func TestSigns(t *testing.T) {
	for op, sign := range []string{"+", "-", "*", "//", "%", "&", "|", "~", "<<", ">>"} {
		if Sign(op) != sign || Op(sign) != op {
			t.Errorf("Sign(%d) = %q, Op(%q) = %d", op, Sign(op), sign, Op(sign))
		}
	}
	for _, op := range wrongOps {
		if Sign(op) != "" {
			t.Errorf("Sign(%d) = %q", op, Sign(op))
		}
	}
	for _, sign := range []string{"", "/", "///", "<", ">", "<<<", "=", "==", "..", "not", "^", "**", "+ ", " +", "++", "+\x00", "&&", "||", "0", "add", "\xff"} {
		if Op(sign) != -1 {
			t.Errorf("Op(%q) = %d", sign, Op(sign))
		}
	}
}

// P1.4

func TestRing(t *testing.T) {
	l := append(edges(), scattered(3000)...)
	do := func(op int, a, b int64) int64 { return must(t, op, a, b) }
	for i, a := range l {
		b, c := l[(i*7+3)%len(l)], l[(i*13+5)%len(l)]
		sum, product := do(api.NumAdd, a, b), do(api.NumMul, a, b)
		laws := []bool{
			sum == do(api.NumAdd, b, a),
			product == do(api.NumMul, b, a),
			do(api.NumAdd, sum, c) == do(api.NumAdd, a, do(api.NumAdd, b, c)),
			do(api.NumMul, product, c) == do(api.NumMul, a, do(api.NumMul, b, c)),
			do(api.NumMul, sum, c) == do(api.NumAdd, do(api.NumMul, a, c), do(api.NumMul, b, c)),
			do(api.NumAdd, a, 0) == a,
			do(api.NumMul, a, 1) == a,
			do(api.NumAdd, a, do(api.NumSub, 0, a)) == 0,
			do(api.NumSub, sum, b) == a,
		}
		for j, holds := range laws {
			if !holds {
				t.Errorf("law %d of %d, %d, %d", j, a, b, c)
			}
		}
	}
}

func TestQuotientAndRest(t *testing.T) {
	pairs(func(a, b int64) {
		if b == 0 {
			return
		}
		q, r := must(t, api.NumDiv, a, b), must(t, api.NumMod, a, b)
		if n := must(t, api.NumAdd, must(t, api.NumMul, b, q), r); n != a {
			t.Errorf("%d, by %d: %d and %d", a, b, q, r)
		}
		if b > 0 && (r < 0 || r >= b) || b < 0 && (r > 0 || r <= b) {
			t.Errorf("%d %% %d = %d", a, b, r)
		}
	})
}

func TestUpAndDown(t *testing.T) {
	for _, a := range append(edges(), scattered(300)...) {
		for b := range int64(64) {
			if b > 0 && uint64(a)>>(64-b) == 0 { // nothing is lost above
				if n := must(t, api.NumShr, must(t, api.NumShl, a, b), b); n != a {
					t.Errorf("%d << %d >> %d = %d", a, b, b, n)
				}
			}
			if b > 0 && uint64(a)<<(64-b) == 0 { // nor below
				if n := must(t, api.NumShl, must(t, api.NumShr, a, b), b); n != a {
					t.Errorf("%d >> %d << %d = %d", a, b, b, n)
				}
			}
			if must(t, api.NumShl, a, -b) != must(t, api.NumShr, a, b) || must(t, api.NumShr, a, -b) != must(t, api.NumShl, a, b) {
				t.Errorf("%d, by %d and by %d", a, b, -b)
			}
		}
	}
}

func TestReadAsWritten(t *testing.T) {
	known := map[string]int64{}
	for _, n := range append(edges(), scattered(5000)...) {
		s := Text(n)
		if v, e := Parse(s); v != n || e != api.OK {
			t.Errorf("Parse(%q) = %d, %d", s, v, e)
		}
		if m, there := known[s]; there && m != n {
			t.Errorf("%q is the text of %d and of %d", s, m, n)
		}
		known[s] = n
	}
}

// The chapter's examples, row by row.

func TestExamples(t *testing.T) {
	type answer struct {
		n int64
		e api.Errno
	}
	do := func(sign string, a, b int64) answer {
		n, e := Do(Op(sign), a, b)
		return answer{n, e}
	}
	read := func(s string) answer {
		n, e := Parse(s)
		return answer{n, e}
	}
	none := func(op int) answer {
		n, e := Do(op, 1, 1)
		return answer{n, e}
	}
	for i, x := range []struct{ got, want answer }{
		{do("//", 7, 2), answer{n: 3}}, {do("//", -7, 2), answer{n: -4}}, {do("//", 7, -2), answer{n: -4}}, {do("//", least, -1), answer{n: least}}, {do("//", 1, 0), answer{e: api.ErrDiv}},
		{do("%", 7, 3), answer{n: 1}}, {do("%", -7, 3), answer{n: 2}}, {do("%", 7, -3), answer{n: -2}}, {do("%", -7, -3), answer{n: -1}}, {do("%", 5, -1), answer{n: 0}},
		{do("<<", 1, 63), answer{n: least}}, {do("<<", 1, 64), answer{n: 0}}, {do("<<", -1, -1), answer{n: most}}, {do(">>", -1, 60), answer{n: 15}}, {do(">>", 1, -3), answer{n: 8}}, {do(">>", 5, least), answer{n: 0}},
		{do("*", 1<<62, 4), answer{n: 0}}, {do("&", 12, 10), answer{n: 8}}, {none(10), answer{e: api.ErrArg}}, {none(-1), answer{e: api.ErrArg}},
		{read("-9223372036854775808"), answer{n: least}}, {read("9223372036854775808"), answer{e: api.ErrOver}},
		{read("01"), answer{e: api.ErrForm}}, {read("-0"), answer{e: api.ErrForm}}, {read(""), answer{e: api.ErrForm}}, {read("-"), answer{e: api.ErrForm}}, {read("+1"), answer{e: api.ErrForm}}, {read("00000000000000000000000"), answer{e: api.ErrForm}},
	} {
		if x.got != x.want {
			t.Errorf("example %d: %v, want %v", i, x.got, x.want)
		}
	}
	if Text(least) != "-9223372036854775808" || Sign(3) != "//" || Op("~") != 7 || Op("/") != -1 || Sign(10) != "" {
		t.Error("examples of texts and signs")
	}
}
