// Package num is layer 1: numbers of 64 bits; see shared/doc/01-num.md.
package num

import (
	"errors"
	"strconv"
	"strings"

	"tallow/api"
)

// signs has each operation's sign at the operation's number.
var signs = [api.LastNum + 1]string{
	api.NumAdd: "+",
	api.NumSub: "-",
	api.NumMul: "*",
	api.NumDiv: "//",
	api.NumMod: "%",
	api.NumAnd: "&",
	api.NumOr:  "|",
	api.NumXor: "~",
	api.NumShl: "<<",
	api.NumShr: ">>",
}

// Do answers what the operation op makes of a and b.
func Do(op int, a, b int64) (int64, api.Errno) {
	if !isOp(op) {
		return 0, api.ErrArg
	}
	if b == 0 && (op == api.NumDiv || op == api.NumMod) {
		return 0, api.ErrDiv
	}
	return operation(op)(a, b), api.OK
}

// Text answers the text of n.
func Text(n int64) string { return strconv.FormatInt(n, 10) }

// Parse answers the number whose text is s.
func Parse(s string) (int64, api.Errno) {
	// strconv also reads "+1", "-0" and "01", and of what is too great it doesn't look at the end; of what is a text it can only find it too great.
	if !isText(s) {
		return 0, api.ErrForm
	}
	n, err := strconv.ParseInt(s, 10, 64)
	if errors.Is(err, strconv.ErrRange) {
		return 0, api.ErrOver
	}
	return n, api.OK
}

// Sign answers the sign of the operation op.
func Sign(op int) string {
	if !isOp(op) {
		return ""
	}
	return signs[op]
}

// Op answers the operation whose sign that is.
func Op(sign string) int {
	for op := range api.LastNum + 1 {
		if signs[op] == sign {
			return op
		}
	}
	return -1
}

func isOp(op int) bool { return 0 <= op && op <= api.LastNum }

// operation wants an operation; those that divide want a b that is not 0.
func operation(op int) func(a, b int64) int64 {
	switch op {
	case api.NumAdd:
		return func(a, b int64) int64 { return a + b }
	case api.NumSub:
		return func(a, b int64) int64 { return a - b }
	case api.NumMul:
		return func(a, b int64) int64 { return a * b }
	case api.NumDiv:
		return func(a, b int64) int64 { return quotient(a, b) }
	case api.NumMod:
		return func(a, b int64) int64 { return a - b*quotient(a, b) }
	case api.NumAnd:
		return func(a, b int64) int64 { return a & b }
	case api.NumOr:
		return func(a, b int64) int64 { return a | b }
	case api.NumXor:
		return func(a, b int64) int64 { return a ^ b }
	case api.NumShl:
		return func(a, b int64) int64 { return shift(a, b, b >= 0) }
	default:
		return func(a, b int64) int64 { return shift(a, b, b < 0) }
	}
}

// quotient rounds down, where Go rounds towards 0: they differ if something is left and just one of a and b is below 0.
func quotient(a, b int64) int64 {
	q := a / b
	if a%b != 0 && (a < 0) != (b < 0) {
		q--
	}
	return q
}

// shift works on a's bits, not on a, for noughts to come in above.
func shift(a, b int64, up bool) int64 {
	if up {
		return int64(uint64(a) << places(b))
	}
	return int64(uint64(a) >> places(b))
}

// places tells how many places b asks for, whichever way; 64 stands for more, since all bits are gone by then.
func places(b int64) uint8 {
	n := uint64(b)
	if b < 0 {
		n = -n // not of b: -2^63 has no opposite among the numbers
	}
	return uint8(min(n, 64))
}

func isText(s string) bool {
	digits := strings.TrimPrefix(s, "-")
	if digits == "" {
		return false
	}
	if digits[0] == '0' {
		return s == "0"
	}
	for i := range len(digits) {
		if digits[i] < '0' || digits[i] > '9' {
			return false
		}
	}
	return true
}
