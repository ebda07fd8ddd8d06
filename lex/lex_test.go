package lex

import (
	"errors"
	"math/big"
	"regexp"
	"slices"
	"strconv"
	"strings"
	"testing"

	"tallow/api"
	"tallow/quote"
)

const most = 1<<63 - 1

var reservedWords = strings.Fields("and break catch do else elseif end false for function if local nil not or return then true try while")

var signWords = strings.Fields("+ - * // % & | ~ << >> == ~= <= >= < > = .. . , ( ) [ ] { } #")

// lexeme is what the chapter calls a blank or a remark, a name, digits, a string, a sign; the longest one is meant.
var lexeme = longest(`^(?:([ \t\r\n]|--[^\n]*)|([A-Za-z_][A-Za-z0-9_]*)|([0-9]+)|("(?:[^"\\\n]|\\[^\n])*")|(` + patternOf(signWords) + `))`)

var (
	number     = regexp.MustCompile(`^(0|[1-9][0-9]*)$`)
	quotedText = regexp.MustCompile(`^"([ !#-\[\]-~]|\\[nt\\"]|\\x[0-9a-f]{2})*"$`)
)

func longest(pattern string) *regexp.Regexp {
	p := regexp.MustCompile(pattern)
	p.Longest()
	return p
}

func patternOf(words []string) string {
	var l []string
	for _, w := range words {
		l = append(l, regexp.QuoteMeta(w))
	}
	return strings.Join(l, "|")
}

func one(b int) string { return string([]byte{byte(b)}) }

func nameOf(text string) api.Token { return api.Token{Kind: api.TokName, Text: text} }

func signOf(text string) api.Token { return api.Token{Kind: api.TokSign, Text: text} }

func stringOf(text string) api.Token { return api.Token{Kind: api.TokStr, Text: text} }

func intOf(n int64) api.Token {
	return api.Token{Kind: api.TokInt, Text: strconv.FormatInt(n, 10), N: n}
}

func on(line int, t api.Token) api.Token {
	t.Line = line
	return t
}

func end(line int) api.Token { return api.Token{Kind: api.TokEnd, Line: line} }

// finds wants those tokens, and the end behind them on the last one's line, or on line 0.
func finds(t *testing.T, text string, want ...api.Token) {
	t.Helper()
	line := 0
	if len(want) > 0 {
		line = want[len(want)-1].Line
	}
	are(t, text, append(slices.Clip(want), end(line)))
}

func are(t *testing.T, text string, want []api.Token) {
	t.Helper()
	l, err := Tokens(text)
	if err != nil || !slices.Equal(l, want) {
		t.Errorf("Tokens(%.80q) = %#.60v, %v, want %#.60v", text, l, err, want)
	}
}

func fails(t *testing.T, text string, code api.Errno, line int) {
	t.Helper()
	l, err := Tokens(text)
	var f *api.Fault
	if !errors.As(err, &f) || *f != (api.Fault{Code: code, At: line}) || len(l) != 0 {
		t.Errorf("Tokens(%.80q) = %#.60v, %v, want error %d at %d", text, l, err, code, line)
		return
	}
	for e := range api.ErrCode + 1 {
		if errors.Is(err, e) != (e == code) {
			t.Errorf("Tokens(%.80q): errors.Is(%v, %d) is %t", text, err, e, e != code)
		}
	}
}

// model is what the chapter says of a text that is not too long.
func model(text string) ([]api.Token, *api.Fault) {
	var l []api.Token
	for at := 0; at < len(text); {
		line := strings.Count(text[:at], "\n")
		m := lexeme.FindStringSubmatch(text[at:])
		if m == nil {
			return nil, &api.Fault{Code: api.ErrWord, At: line}
		}
		at += len(m[0])
		token, code := api.Token{}, api.OK
		switch {
		case m[1] != "":
			continue
		case m[2] != "":
			token, code = modelOfName(m[2])
		case m[3] != "":
			token, code = modelOfDigits(m[3], text[at:])
		case m[4] != "":
			token, code = modelOfString(m[4])
		default:
			token = signOf(m[5])
		}
		if code != api.OK {
			return nil, &api.Fault{Code: code, At: line}
		}
		l = append(l, on(line, token))
	}
	return append(l, end(strings.Count(text, "\n"))), nil
}

func modelOfName(word string) (api.Token, api.Errno) {
	if slices.Contains(reservedWords, word) {
		return signOf(word), api.OK
	}
	if len(word) > 24 {
		return api.Token{}, api.ErrWord
	}
	return nameOf(word), api.OK
}

func modelOfDigits(word, behind string) (api.Token, api.Errno) {
	if !number.MatchString(word) || regexp.MustCompile(`^[A-Za-z_]`).MatchString(behind) {
		return api.Token{}, api.ErrWord
	}
	n, _ := new(big.Int).SetString(word, 10)
	if n.Cmp(big.NewInt(most)) > 0 {
		return api.Token{}, api.ErrOver
	}
	return api.Token{Kind: api.TokInt, Text: word, N: n.Int64()}, api.OK
}

func modelOfString(word string) (api.Token, api.Errno) {
	if !quotedText.MatchString(word) {
		return api.Token{}, api.ErrWord
	}
	s, _ := strconv.Unquote(word) // it knows more escapes than chapter 3, but reads those likewise
	if len(s) > 4096 {
		return api.Token{}, api.ErrLong
	}
	return stringOf(s), api.OK
}

func isTheModel(t *testing.T, text string) (words bool) {
	t.Helper()
	want, f := model(text)
	if f != nil {
		fails(t, text, f.Code, f.At)
		return false
	}
	are(t, text, want)
	return true
}

// texts hands f each text of at most n parts.
func texts(parts []string, n int, f func(text string)) {
	var grow func(text string, left int)
	grow = func(text string, left int) {
		f(text)
		if left == 0 {
			return
		}
		for _, part := range parts {
			grow(text+part, left-1)
		}
	}
	grow("", n)
}

// draws answers a source of numbers below what it is asked, the same in each run.
func draws() func(below int) int {
	bits := uint64(88172645463325252)
	return func(below int) int {
		bits ^= bits << 13
		bits ^= bits >> 7
		bits ^= bits << 17
		return int(bits % uint64(below))
	}
}

// samples are words of all kinds, by their texts.
func samples() map[string]api.Token {
	words := map[string]api.Token{
		"a": nameOf("a"), "_": nameOf("_"), "x9": nameOf("x9"), "End": nameOf("End"), "out": nameOf("out"), strings.Repeat("q", 24): nameOf(strings.Repeat("q", 24)),
		"0": intOf(0), "1": intOf(1), "907": intOf(907), "9223372036854775807": intOf(most),
		`""`: stringOf(""), `"a"`: stringOf("a"), `"--"`: stringOf("--"), `" "`: stringOf(" "), `"\""`: stringOf(`"`), `"\\"`: stringOf(`\`), `"\n"`: stringOf("\n"), `"\x00\xff"`: stringOf("\x00\xff"),
	}
	for _, w := range append(slices.Clone(reservedWords), signWords...) {
		words[w] = signOf(w)
	}
	return words
}

func sorted(words map[string]api.Token) []string {
	var l []string
	for w := range words {
		l = append(l, w)
	}
	slices.Sort(l)
	return l
}

// P4.1

func TestReserved(t *testing.T) {
	if len(reservedWords) != 20 {
		t.Fatal(len(reservedWords))
	}
	for _, w := range reservedWords {
		if !Reserved(w) {
			t.Errorf("Reserved(%q) is false", w)
		}
		for i := range len(w) {
			for _, s := range []string{w[:i], w[i+1:], w[:i] + w[i+1:], w[:i] + strings.ToUpper(w[i:i+1]) + w[i+1:], w[:i] + "_" + w[i+1:], w[:i] + " " + w[i:], w[:i] + "\x00" + w[i:]} {
				if Reserved(s) != slices.Contains(reservedWords, s) {
					t.Errorf("Reserved(%q) is %t", s, Reserved(s))
				}
			}
		}
		for b := range 256 {
			if s := w + one(b); Reserved(s) != slices.Contains(reservedWords, s) {
				t.Errorf("Reserved(%q) is %t", s, Reserved(s))
			}
			if s := one(b) + w; Reserved(s) != slices.Contains(reservedWords, s) {
				t.Errorf("Reserved(%q) is %t", s, Reserved(s))
			}
		}
	}
}

func TestNotReserved(t *testing.T) {
	l := []string{"", " ", "a", "End", "END", "goto", "in", "repeat", "until", "continue", "var", "self", "out", "error", "resume", "else if", "elseif\n", "end end", "none", "null", "n\u043et", strings.Repeat("end", 100000), "\xff"}
	for _, s := range append(l, signWords...) {
		if Reserved(s) {
			t.Errorf("Reserved(%.40q)", s)
		}
	}
}

// P4.2: words

func TestEachReservedWord(t *testing.T) {
	for _, w := range reservedWords {
		finds(t, w, signOf(w))
		finds(t, w+" "+w, signOf(w), signOf(w))
		finds(t, w+"_", nameOf(w+"_"))
		finds(t, "_"+w, nameOf("_"+w))
		finds(t, w+"0", nameOf(w+"0"))
		finds(t, strings.ToUpper(w), nameOf(strings.ToUpper(w)))
		finds(t, strings.ToUpper(w[:1])+w[1:], nameOf(strings.ToUpper(w[:1])+w[1:]))
		finds(t, w+".", signOf(w), signOf("."))
		finds(t, `"`+w+`"`, stringOf(w))
	}
	finds(t, "elseif else if", signOf("elseif"), signOf("else"), signOf("if"))
	finds(t, "endend", nameOf("endend"))
}

func TestEachSign(t *testing.T) {
	if len(signWords) != 27 {
		t.Fatal(len(signWords))
	}
	for _, w := range signWords {
		finds(t, w, signOf(w))
		finds(t, w+" "+w, signOf(w), signOf(w))
		finds(t, "a"+w+"b", nameOf("a"), signOf(w), nameOf("b"))
		finds(t, "1"+w+"2", intOf(1), signOf(w), intOf(2))
		finds(t, `"a"`+w+`"b"`, stringOf("a"), signOf(w), stringOf("b"))
		finds(t, "end"+w+"end", signOf("end"), signOf(w), signOf("end"))
	}
}

func TestSignsGoOnAsLongAsTheyGo(t *testing.T) {
	for text, words := range map[string]string{
		"===": "== =", "====": "== ==", "~==": "~= =", "~~=": "~ ~=", "<<<": "<< <", "<<=": "<< =", "<<<<": "<< <<", "<=<": "<= <", "<==": "<= =", ">>>": ">> >", ">>=": ">> =", ">==": ">= =",
		"=>": "= >", "=<": "= <", "=~": "= ~", "=~=": "= ~=", "<>": "< >", "><": "> <", "...": ".. .", "....": ".. ..", "////": "// //", "-=": "- =", "+-": "+ -", "- -": "- -", "->": "- >",
		"~-": "~ -", "#~": "# ~", "*//*": "* // *", "()[]{}": "( ) [ ] { }", ".,.": ". , .", ".. .": ".. .", ". ..": ". ..", "&&": "& &", "||": "| |", "%%": "% %", "**": "* *", "++": "+ +", "##": "# #",
	} {
		var want []api.Token
		for _, w := range strings.Fields(words) {
			want = append(want, signOf(w))
		}
		finds(t, text, want...)
	}
	finds(t, "1..2", intOf(1), signOf(".."), intOf(2))
	finds(t, "1.2", intOf(1), signOf("."), intOf(2))
	finds(t, "a.b..c", nameOf("a"), signOf("."), nameOf("b"), signOf(".."), nameOf("c"))
	finds(t, "-1", signOf("-"), intOf(1))
	finds(t, "+1", signOf("+"), intOf(1))
}

func TestNames(t *testing.T) {
	for _, w := range []string{"a", "z", "A", "Z", "_", "__", "_0", "a0", "Z9", "aZ_09", "x1y2", "nil1", "andy", "iff", "o", "n", "tru", "whiles", strings.Repeat("n", 23), strings.Repeat("n", 24), strings.Repeat("_", 24), "a" + strings.Repeat("9", 23)} {
		finds(t, w, nameOf(w))
		finds(t, w+","+w, nameOf(w), signOf(","), nameOf(w))
		finds(t, w+`"a"`+w, nameOf(w), stringOf("a"), nameOf(w))
	}
}

func TestNamesThatAreTooLong(t *testing.T) {
	for _, w := range []string{strings.Repeat("n", 25), strings.Repeat("n", 26), strings.Repeat("_", 25), "a" + strings.Repeat("9", 24), strings.Repeat("end", 9), strings.Repeat("n", 48), strings.Repeat("n", 4097), strings.Repeat("n", 1<<15)} {
		fails(t, w, api.ErrWord, 0)
	}
	n := strings.Repeat("n", 25)
	fails(t, "a = 1\n"+n+" = 2", api.ErrWord, 1)
	fails(t, "\n\na."+n, api.ErrWord, 2)
	finds(t, `"`+n+`" --`+n, stringOf(n))
}

func TestInts(t *testing.T) {
	for _, n := range []int64{0, 1, 9, 10, 90, 100, 1234567890, 1<<31 - 1, 1 << 31, 1 << 32, 1000000000000000000, 9000000000000000000, most - 1, most} {
		w := strconv.FormatInt(n, 10)
		finds(t, w, intOf(n))
		finds(t, w+" "+w, intOf(n), intOf(n))
		finds(t, "("+w+")", signOf("("), intOf(n), signOf(")"))
		finds(t, w+`"a"`+w, intOf(n), stringOf("a"), intOf(n))
		finds(t, w+"--a", intOf(n))
		finds(t, w+"\t", intOf(n))
	}
	finds(t, "0 0", intOf(0), intOf(0))
	finds(t, "0.0", intOf(0), signOf("."), intOf(0))
}

func TestIntsThatAreTooGreat(t *testing.T) {
	for _, w := range []string{"9223372036854775808", "9223372036854775809", "9223372036854775810", "10000000000000000000", "18446744073709551615", "18446744073709551616", "18446744073709551617", "99999999999999999999", "1" + strings.Repeat("0", 64), strings.Repeat("9", 1<<15-9)} {
		fails(t, w, api.ErrOver, 0)
		fails(t, "-"+w, api.ErrOver, 0)
		for _, behind := range []string{" a", ".a", ".0", "..", `"a"`, "--a", "\n1x", "$", "\xff", "+1x"} {
			fails(t, w+behind, api.ErrOver, 0)
		}
		fails(t, "x=1\n\n"+w, api.ErrOver, 2)
	}
	finds(t, "9223372036854775807 -- 9223372036854775808", intOf(most))
}

func TestDigitsThatAreNoInt(t *testing.T) {
	for _, w := range []string{
		"00", "01", "09", "000", "007", "0000000000000000000000", "00000000000000000000001", "09223372036854775807", "09223372036854775808", "099999999999999999999", "0" + strings.Repeat("9", 1<<15-9),
		"1x", "1_", "1a2", "0x", "0x1f", "0b1", "0_", "1e5", "1E5", "1_000", "12end", "1and 2", "9223372036854775807x", "01x", "00_",
		"9223372036854775808x", "9223372036854775808_", "99999999999999999999a", "99999999999999999999_1", "18446744073709551616Z", strings.Repeat("9", 1<<15-9) + "x",
	} {
		fails(t, w, api.ErrWord, 0)
		fails(t, "x = "+w+" + 1", api.ErrWord, 0)
		fails(t, "a\n"+w, api.ErrWord, 1)
	}
}

func TestEachByteBehindAWord(t *testing.T) {
	letter := regexp.MustCompile(`^[A-Za-z_]$`)
	for b := range 256 {
		for _, text := range []string{"1" + one(b), "10" + one(b) + "2", "0" + one(b), "a" + one(b), "a1" + one(b) + "b", "+" + one(b), "." + one(b), "<" + one(b), "~" + one(b), "/" + one(b), `"a"` + one(b)} {
			isTheModel(t, text)
		}
		if letter.MatchString(one(b)) {
			fails(t, "1"+one(b), api.ErrWord, 0)
			fails(t, "\n9223372036854775808"+one(b), api.ErrWord, 1)
			finds(t, "a"+one(b), nameOf("a"+one(b)))
			continue
		}
		if _, err := Tokens("9223372036854775808" + one(b)); ('0' > b || b > '9') && !errors.Is(err, api.ErrOver) {
			t.Errorf("%d behind: %v", b, err)
		}
	}
}

func TestStrings(t *testing.T) {
	for w, s := range map[string]string{
		`""`: "", `"a"`: "a", `"ab c"`: "ab c", `" "`: " ", `"'"`: "'", `"\""`: `"`, `"\\"`: `\`, `"\\\""`: `\"`, `"\"\\"`: `"\`, `"\\\\"`: `\\`, `"a\"b"`: `a"b`, `"\"\""`: `""`,
		`"\n\t"`: "\n\t", `"\x0a"`: "\n", `"\x22"`: `"`, `"\x5c"`: `\`, `"\x00\xff"`: "\x00\xff", `"--"`: "--", `"-- a"`: "-- a", `"end"`: "end", `"1x"`: "1x", `"01"`: "01", `"$@!"`: "$@!", `"\\n"`: `\n`,
	} {
		finds(t, w, stringOf(s))
		finds(t, w+w, stringOf(s), stringOf(s))
		finds(t, "a"+w+"1", nameOf("a"), stringOf(s), intOf(1))
		finds(t, w+"--"+w, stringOf(s))
		finds(t, "("+w+" .. "+w+")", signOf("("), stringOf(s), signOf(".."), stringOf(s), signOf(")"))
	}
	finds(t, `"\\" "a"`, stringOf(`\`), stringOf("a"))
	finds(t, `"\"" "a"`, stringOf(`"`), stringOf("a"))
	finds(t, `"\x22" "a"`, stringOf(`"`), stringOf("a"))
}

// What counts is the string's length, not its text's.
func TestLongStrings(t *testing.T) {
	for _, x := range []struct{ part, s string }{{"a", "a"}, {" ", " "}, {`\n`, "\n"}, {`\"`, `"`}, {`\\`, `\`}, {`\x61`, "a"}, {`\xff`, "\xff"}} {
		for _, n := range []int{1, 4095, 4096} {
			finds(t, `"`+strings.Repeat(x.part, n)+`"`, stringOf(strings.Repeat(x.s, n)))
		}
		for _, n := range []int{4097, 4098, 8000} {
			w := `"` + strings.Repeat(x.part, n) + `"`
			fails(t, w, api.ErrLong, 0)
			fails(t, "\n x = \n"+w+"\n", api.ErrLong, 2)
			fails(t, w+"$", api.ErrLong, 0)
			fails(t, w+"\n$", api.ErrLong, 0)
			fails(t, "$\n"+w, api.ErrWord, 0)
		}
	}
}

func TestTextsThatAreNoString(t *testing.T) {
	for _, w := range []string{
		`"`, `"a`, `"""`, `"a"b"`, `a"`, `"\`, `"\"`, `"a\"`, `"\\\"`, `"\\\\\"`, `"a" "`, `"a" "b`, `"a` + "\\\n" + `b"`, "\"a\n\"", "\"\n\"", "\"\\\n\"",
		`"\q"`, `"\a"`, `"\r"`, `"\0"`, `"\x"`, `"\x6"`, `"\xFF"`, `"\x6"1"`, `"\'"`, `"\ "`, `"\N"`, "\"\t\"", "\"\r\"", "\"a\r", "\"\x00\"", "\"\x1f\"", "\"\x7f\"", "\"\x80\"", "\"ä\"", "\"\xff\"",
	} {
		fails(t, w, api.ErrWord, 0)
		fails(t, "\n\n"+w, api.ErrWord, 2)
		fails(t, w+"\n", api.ErrWord, 0)
		fails(t, w+"\n\"", api.ErrWord, 0)
	}
	// A text that is wrong is no string, however long it is.
	for _, n := range []int{4096, 4097, 20000} {
		a := strings.Repeat("a", n)
		for _, w := range []string{`"` + a, `"` + a + "\n" + `"`, `"` + a + `\"`, `"` + a + `\q"`, `"\q` + a + `"`, `"` + a + "\t\"", `"` + a + `\`} {
			fails(t, w, api.ErrWord, 0)
		}
	}
}

func TestBytesThatBeginNoWord(t *testing.T) {
	const begin = "+-*%&|~<>=.,()[]{}#"
	const parting = " \t\r\n"
	for b := range 256 {
		switch {
		case strings.Contains(parting, one(b)):
			if l, err := Tokens(one(b)); err != nil || len(l) != 1 || l[0].Kind != api.TokEnd {
				t.Errorf("Tokens(%q) = %v, %v", one(b), l, err)
			}
		case '0' <= b && b <= '9':
			finds(t, one(b), intOf(int64(b-'0')))
		case 'a' <= b && b <= 'z' || 'A' <= b && b <= 'Z' || b == '_':
			finds(t, one(b), nameOf(one(b)))
		case b < 128 && strings.Contains(begin, one(b)):
			finds(t, one(b), signOf(one(b)))
		default:
			fails(t, one(b), api.ErrWord, 0)
			fails(t, "a\n= "+one(b)+" 1\n", api.ErrWord, 1)
			if b != '"' { // which might be a string with what is ahead
				fails(t, "x"+one(b)+"y", api.ErrWord, 0)
			}
		}
	}
	for _, w := range []string{"!", "!=", "$", "@", "?", ":", ";", "^", "'a'", "`a`", "/", "/ 2", "///", "a / b", "\\", "\\n", "\x00", "\v", "\f", "ä", "\u00a0", "\ufeff", "\u2028", "１", "é1"} {
		fails(t, w, api.ErrWord, 0)
	}
}

// P4.2: the text's length, and what is told first

func TestTextsOfTheGreatestLength(t *testing.T) {
	finds(t, "")
	for _, n := range []int{1<<15 - 1, 1 << 15} {
		finds(t, strings.Repeat(" ", n))
		finds(t, "--"+strings.Repeat("-", n-2))
		finds(t, strings.Repeat(" ", n-1)+"a", nameOf("a"))
		are(t, strings.Repeat("\n", n), []api.Token{end(n)})
		fails(t, strings.Repeat("\n", n-1)+"$", api.ErrWord, n-1)
		if l, err := Tokens(strings.Repeat(".,", n/2)); err != nil || len(l) != n/2*2+1 {
			t.Errorf("%d words, %v", len(l), err)
		}
		if l, err := Tokens(strings.Repeat(`""`, n/2)); err != nil || len(l) != n/2+1 {
			t.Errorf("%d words, %v", len(l), err)
		}
	}
}

func TestTextsThatAreTooLong(t *testing.T) {
	for _, n := range []int{1<<15 + 1, 1<<15 + 2, 1 << 16, 1 << 20} {
		for _, part := range []string{" ", "\n", "a", "9", "0", "-", "$", `"`, "(", "\xff", "\x00"} {
			fails(t, strings.Repeat(part, n), api.ErrLong, 0)
		}
		fails(t, "\n\n$"+strings.Repeat(" ", n), api.ErrLong, 0)
		fails(t, "\n1x"+strings.Repeat("\n", n), api.ErrLong, 0)
		fails(t, strings.Repeat("\n", n)+"$", api.ErrLong, 0)
	}
}

func TestTheFirstOfTwoIsTold(t *testing.T) {
	wrong := map[string]api.Errno{
		"$": api.ErrWord, "1x": api.ErrWord, "00": api.ErrWord, strings.Repeat("n", 25): api.ErrWord, `"\q"`: api.ErrWord, "99999999999999999999x": api.ErrWord,
		"99999999999999999999": api.ErrOver, "9223372036854775808": api.ErrOver, `"` + strings.Repeat("a", 4097) + `"`: api.ErrLong,
	}
	for first, code := range wrong {
		for second := range wrong {
			fails(t, first+" "+second, code, 0)
			fails(t, first+" \n"+second, code, 0)
			fails(t, "\n a "+first+"\n"+second, code, 1)
			fails(t, "-- "+second+"\n\n"+first+"\n"+second, code, 2)
		}
		fails(t, "x"+` "a`+" "+first, api.ErrWord, 0)
		fails(t, first+"\n"+`"a`, code, 0)
		fails(t, "\n"+`"a`+"\n"+first, api.ErrWord, 1)
	}
}

// P4.2, P4.3: lines, blanks, remarks

func TestLines(t *testing.T) {
	for text, want := range map[string][]api.Token{
		"\n":                      {end(1)},
		"\n\n\n":                  {end(3)},
		"\r":                      {end(0)},
		"\r\n":                    {end(1)},
		"\n\r":                    {end(1)},
		"\r\r\n\r":                {end(1)},
		"a":                       {nameOf("a"), end(0)},
		"\na":                     {on(1, nameOf("a")), end(1)},
		"a\n":                     {nameOf("a"), end(1)},
		"a\n\n":                   {nameOf("a"), end(2)},
		"\n\na\n":                 {on(2, nameOf("a")), end(3)},
		"a\nb":                    {nameOf("a"), on(1, nameOf("b")), end(1)},
		"a\r\nb":                  {nameOf("a"), on(1, nameOf("b")), end(1)},
		"a\rb":                    {nameOf("a"), nameOf("b"), end(0)},
		"a\n\nb c\n d":            {nameOf("a"), on(2, nameOf("b")), on(2, nameOf("c")), on(3, nameOf("d")), end(3)},
		" \n\t\n 1 \n":            {on(2, intOf(1)), end(3)},
		"\"a\"\n\"\\n\"\nend\n..": {stringOf("a"), on(1, stringOf("\n")), on(2, signOf("end")), on(3, signOf("..")), end(3)},
		"-\n-":                    {signOf("-"), on(1, signOf("-")), end(1)},
		"=\n=":                    {signOf("="), on(1, signOf("=")), end(1)},
		"1\n2":                    {intOf(1), on(1, intOf(2)), end(1)},
	} {
		are(t, text, want)
	}
}

func TestRemarks(t *testing.T) {
	for text, want := range map[string][]api.Token{
		"--":                      {end(0)},
		"---":                     {end(0)},
		"----":                    {end(0)},
		"--\n":                    {end(1)},
		"--\n--":                  {end(1)},
		"-- a":                    {end(0)},
		"-- a\n":                  {end(1)},
		"--a--b\n":                {end(1)},
		"-- $ \" 1x \xff \x00 ä":  {end(0)},
		"-- \r a\n":               {end(1)},
		"--\ra":                   {end(0)},
		"--[[ a\nb":               {on(1, nameOf("b")), end(1)},
		"a--":                     {nameOf("a"), end(0)},
		"a-- b":                   {nameOf("a"), end(0)},
		"a -- b\nc":               {nameOf("a"), on(1, nameOf("c")), end(1)},
		"a--\nb":                  {nameOf("a"), on(1, nameOf("b")), end(1)},
		"a-- \\\nb":               {nameOf("a"), on(1, nameOf("b")), end(1)},
		"a---b\nc":                {nameOf("a"), on(1, nameOf("c")), end(1)},
		"1--2":                    {intOf(1), end(0)},
		"1 - -2":                  {intOf(1), signOf("-"), signOf("-"), intOf(2), end(0)},
		"1 - --2\n3":              {intOf(1), signOf("-"), on(1, intOf(3)), end(1)},
		"..--..":                  {signOf(".."), end(0)},
		"\"a\"--\"b\"\n\"c\"":     {stringOf("a"), on(1, stringOf("c")), end(1)},
		"\"--\" -- \"a\n":         {stringOf("--"), end(1)},
		"-- a\n-- b\n\n-- c\nx--": {on(4, nameOf("x")), end(4)},
	} {
		are(t, text, want)
	}
}

// gaps part words: blanks, remarks, line feeds. None begins with a dash, which behind a - would be a remark of its own.
func gaps() []string {
	return []string{
		" ", "\t", "\r", "\n", "\r\n", "  ", " \t\r\n \t", "\n\n\n", " --\n", " -- a\n", "\n--\n", " -- \"\n", " -- $ 1x 00 \xff\n", "\n\n-- a\n--b\n\n", " ---\n", " --\n --\n --\n", "\t-- end \r\n", " -- \\\n", " --" + strings.Repeat("n", 100) + "\n",
	}
}

func TestWordsWithGapsBetween(t *testing.T) {
	words := samples()
	l := sorted(words)
	for _, gap := range gaps() {
		lines := strings.Count(gap, "\n")
		for _, a := range l {
			for _, b := range l {
				are(t, a+gap+b, []api.Token{words[a], on(lines, words[b]), end(lines)})
			}
			are(t, gap+a+gap, []api.Token{on(lines, words[a]), end(2 * lines)})
			are(t, gap+gap+a+gap+"--", []api.Token{on(2*lines, words[a]), end(3 * lines)})
		}
	}
}

func TestRemarksDirectlyBehindWords(t *testing.T) {
	words := samples()
	for _, a := range sorted(words) {
		if a == "-" {
			continue
		}
		for _, gap := range []string{"--\n", "-- a\n", "--\"\n\n", "---\n"} {
			lines := strings.Count(gap, "\n")
			are(t, a+gap+a, []api.Token{words[a], on(lines, words[a]), end(lines)})
		}
		are(t, a+"--"+a, []api.Token{words[a], end(0)})
	}
}

// Whole sources: whatever stands between their words, those are the same, each on its line.
func TestSourcesWithGapsBetween(t *testing.T) {
	words, draw := samples(), draws()
	l := sorted(words)
	for range 500 {
		var text strings.Builder
		var want []api.Token
		line := 0
		for range draw(200) {
			a := l[draw(len(l))]
			text.WriteString(a)
			want = append(want, on(line, words[a]))
			for range 1 + draw(3) {
				gap := gaps()[draw(len(gaps()))]
				text.WriteString(gap)
				line += strings.Count(gap, "\n")
			}
		}
		if text.Len() > 1<<15 {
			fails(t, text.String(), api.ErrLong, 0)
			continue
		}
		are(t, text.String(), append(want, end(line)))
	}
}

// P4.2 of all short texts, and of scattered ones

func TestTokensIsTheModel(t *testing.T) {
	for _, x := range []struct {
		parts []string
		n     int
	}{
		{[]string{"-", ".", "=", "<", ">", "~", "/", "\n"}, 5},
		{[]string{`"`, `\`, "n", "\n", "-", "\xff"}, 6},
		{[]string{"0", "1", "a", "_", ".", "$", "\n"}, 5},
		{[]string{"end", "a", "9223372036854775807", "0", `"s"`, `"`, "--", " ", "\n", "=", "]"}, 4},
		{[]string{"nnnnnnnnnnnnnnnnnnnnnnnn", "1", "_", "\n", `"`, "-"}, 4},
	} {
		words, faults := 0, 0
		texts(x.parts, x.n, func(text string) {
			if isTheModel(t, text) {
				words++
			} else {
				faults++
			}
		})
		if words < 100 || faults < 100 {
			t.Errorf("%q: %d texts of words, %d others", x.parts, words, faults)
		}
	}
}

func TestTokensOfScatteredTexts(t *testing.T) {
	parts := append(sorted(samples()), append(gaps(), gaps()...)...)
	parts = append(parts, "--", "\"", "\\", "$", "\x00", "\xff", "00", "1_", "9223372036854775808", "/", "ä")
	draw := draws()
	for range 3000 {
		var text strings.Builder
		for range draw(30) {
			text.WriteString(parts[draw(len(parts))])
			if draw(3) > 0 {
				text.WriteString(" ")
			}
			if draw(40) == 0 {
				text.WriteString(one(draw(256)))
			}
		}
		isTheModel(t, text.String())
	}
}

// A quoted text is a word, and just that is its string.
func TestQuotedStringsAreWords(t *testing.T) {
	draw := draws()
	for range 2000 {
		s := make([]byte, draw(300))
		for i := range s {
			if s[i] = byte(draw(256)); draw(3) == 0 {
				s[i] = "\"\\\n-x"[draw(5)]
			}
		}
		q := quote.Quote(string(s))
		finds(t, q, stringOf(string(s)))
		are(t, q+"\n"+q, []api.Token{stringOf(string(s)), on(1, stringOf(string(s))), end(1)})
	}
}

// R5, R6: what is answered is one's own, and is the same again.
func TestSameAgain(t *testing.T) {
	const text = "local a = {1, \"x\"} -- b\nout(a)"
	first, err := Tokens(text)
	want := slices.Clone(first)
	if err != nil || len(want) != 13 {
		t.Fatal(first, err)
	}
	for i := range first {
		first[i] = api.Token{}
	}
	are(t, text, want)
	_, err = Tokens("\n$")
	err.(*api.Fault).At, err.(*api.Fault).Code = 7, api.ErrNil
	fails(t, "\n$", api.ErrWord, 1)
	are(t, text, want)
}

// The chapter's examples, row by row.

func TestExamples(t *testing.T) {
	finds(t, "x=1..y", nameOf("x"), signOf("="), intOf(1), signOf(".."), nameOf("y"))
	are(t, "", []api.Token{end(0)})
	are(t, "\n", []api.Token{end(1)})
	fails(t, "a\n1x", api.ErrWord, 1)
	fails(t, "01", api.ErrWord, 0)
	fails(t, "$", api.ErrWord, 0)
	fails(t, "9223372036854775808", api.ErrOver, 0)
	if !Reserved("end") || Reserved("End") || Reserved("out") {
		t.Error("Reserved")
	}
}
