package quote

import (
	"regexp"
	"strconv"
	"strings"
	"testing"

	"tallow/api"
)

// form is what the chapter calls a quoted text, written is a string's text.
var (
	form    = regexp.MustCompile(`^"([ !#-\[\]-~]|\\[nt\\"]|\\x[0-9a-f]{2})*"$`)
	written = regexp.MustCompile(`^"([ !#-\[\]-~]|\\[nt\\"]|\\x(0[0-8b-f]|1[0-9a-f]|7f|[89a-f][0-9a-f]))*"$`)
)

// edges has the texts of the bytes at which it changes how one is written.
var edges = map[byte]string{
	0: `\x00`, 1: `\x01`, 8: `\x08`, 9: `\t`, 10: `\n`, 11: `\x0b`, 13: `\x0d`, 15: `\x0f`, 16: `\x10`, 31: `\x1f`, 32: ` `, 33: `!`, 34: `\"`, 35: `#`,
	39: `'`, 48: `0`, 91: `[`, 92: `\\`, 93: `]`, 97: `a`, 110: `n`, 116: `t`, 120: `x`, 125: `}`, 126: `~`, 127: `\x7f`, 128: `\x80`, 159: `\x9f`, 160: `\xa0`, 171: `\xab`, 254: `\xfe`, 255: `\xff`,
}

func one(b int) string { return string([]byte{byte(b)}) }

func within(s string) string { return `"` + s + `"` }

// texts hands f each text of at most n parts, and each of them between quotes.
func texts(parts []string, n int, f func(q string)) {
	var grow func(s string, left int)
	grow = func(s string, left int) {
		f(s)
		f(within(s))
		if left == 0 {
			return
		}
		for _, part := range parts {
			grow(s+part, left-1)
		}
	}
	grow("", n)
}

// scattered are n strings of up to 300 bytes, the same in each run; bytes that are named or near an edge come often.
func scattered(n int) []string {
	const often = "\x00\t\n\x1f !\"#\\nx0af[]~\x7f\x80\xff"
	bits := uint64(88172645463325252)
	draw := func(below int) int {
		bits ^= bits << 13
		bits ^= bits >> 7
		bits ^= bits << 17
		return int(bits % uint64(below))
	}
	var l []string
	for range n {
		s := make([]byte, draw(301))
		for i := range s {
			if s[i] = byte(draw(256)); draw(2) == 0 {
				s[i] = often[draw(len(often))]
			}
		}
		l = append(l, string(s))
	}
	return l
}

func reads(t *testing.T, q, want string) {
	t.Helper()
	if s, e := Unquote(q); s != want || e != api.OK {
		t.Errorf("Unquote(%.60q) = %.60q, %d, want %.60q", q, s, e, want)
	}
}

func fails(t *testing.T, q string, want api.Errno) {
	t.Helper()
	if s, e := Unquote(q); s != "" || e != want {
		t.Errorf("Unquote(%.60q) = %.60q, %d, want error %d", q, s, e, want)
	}
}

// P3.1

func TestQuoteOfEdges(t *testing.T) {
	for b, text := range edges {
		for _, x := range []struct{ s, want string }{
			{one(int(b)), within(text)},
			{"a" + one(int(b)), within("a" + text)},
			{one(int(b)) + "0", within(text + "0")},
			{one(int(b)) + one(int(b)), within(text + text)},
		} {
			if q := Quote(x.s); q != x.want {
				t.Errorf("Quote(%q) = %s, want %s", x.s, q, x.want)
			}
		}
	}
}

func TestQuoteOfEachByte(t *testing.T) {
	for b := range 256 {
		want := `\x` + strconv.FormatInt(int64(b+256), 16)[1:]
		switch {
		case b == '\n':
			want = `\n`
		case b == '\t':
			want = `\t`
		case b == '\\' || b == '"':
			want = `\` + one(b)
		case 32 <= b && b <= 126:
			want = one(b)
		}
		if q := Quote(one(b)); q != within(want) {
			t.Errorf("Quote(%q) = %s, want %s", one(b), q, within(want))
		}
	}
}

func TestQuoteByHand(t *testing.T) {
	for s, want := range map[string]string{
		"": `""`, "ab": `"ab"`, "a b": `"a b"`, `"`: `"\""`, `""`: `"\"\""`, `\`: `"\\"`, `\n`: `"\\n"`, `\x41`: `"\\x41"`, "'": `"'"`, "%s": `"%s"`,
		"\r\n": `"\x0d\n"`, "\a\b\f\v": `"\x07\x08\x0c\x0b"`, "ä": `"\xc3\xa4"`, "\u2028": `"\xe2\x80\xa8"`, "\xc3": `"\xc3"`, "\x1b[0m": `"\x1b[0m"`, "\x009": `"\x009"`,
	} {
		if q := Quote(s); q != want {
			t.Errorf("Quote(%q) = %s, want %s", s, q, want)
		}
	}
}

func TestQuoteOfAnyLength(t *testing.T) {
	for _, n := range []int{1, 4095, 4096, 4097, 1 << 15, 1<<17 + 1} {
		for b, text := range edges {
			if q := Quote(strings.Repeat(one(int(b)), n)); q != within(strings.Repeat(text, n)) {
				t.Errorf("%d times the byte %d: %d bytes", n, b, len(q))
			}
		}
	}
}

// P3.2

func TestUnquoteOfBytesThemselves(t *testing.T) {
	for b := range 256 {
		for _, side := range []string{"", "a", `\n`, `\x00`} {
			if b == '"' || b == '\\' || b < 32 || b > 126 {
				fails(t, within(one(b)), api.ErrForm)
				fails(t, within(one(b)+"!"+side), api.ErrForm)
				fails(t, within(side+one(b)), api.ErrForm)
				continue
			}
			reads(t, within(one(b)), one(b))
			for text, s := range map[string]string{"": "", "a": "a", `\n`: "\n", `\x00`: "\x00"} {
				reads(t, within(text+one(b)+text), s+one(b)+s)
			}
		}
	}
}

func TestUnquoteOfEscapes(t *testing.T) {
	named := map[int]string{'n': "\n", 't': "\t", '\\': `\`, '"': `"`}
	for b := range 256 {
		q := `\` + one(b)
		if s, ok := named[b]; ok {
			reads(t, within(q), s)
			reads(t, within(q+q), s+s)
			reads(t, within("n"+q+"x41"), "n"+s+"x41")
			continue
		}
		fails(t, within(q), api.ErrForm)
		fails(t, within(q+" !"), api.ErrForm)
		fails(t, within("a"+q), api.ErrForm)
	}
}

func TestUnquoteOfDigits(t *testing.T) {
	const lower = "0123456789abcdef"
	for high := range 256 {
		for low := range 256 {
			x, y := strings.IndexByte(lower, byte(high)), strings.IndexByte(lower, byte(low))
			q := `\x` + one(high) + one(low)
			if x < 0 || y < 0 {
				fails(t, within(q), api.ErrForm)
				fails(t, within(q+"0"), api.ErrForm)
				continue
			}
			reads(t, within(q), one(16*x+y))
			reads(t, within("f"+q+"0"), "f"+one(16*x+y)+"0")
		}
	}
}

func TestUnquoteOfNoQuotedText(t *testing.T) {
	for _, q := range []string{
		"", `"`, "a", "ab", `\n`, `"ab`, `ab"`, `a"b`, `"""`, `""""`, `"a"b"`, `"a"b`, `a""`, `""a`, `"a" `, ` "a"`, "\"a\"\n", "\n\"a\"", "'a'", "`a`", "“a”", `'"a"'`,
		`"\`, `"\"`, `\"`, `\""`, `"a\"`, `"\\\"`, `"\\\\\"`, `"a\\"b"`, `"\x`, `"\x"`, `"\x6"`, `"\x6`, `"a\x6"`, `"\x61`, `"\x"61"`, `"\x6"1"`,
		`"\q"`, `"\a"`, `"\r"`, `"\b"`, `"\f"`, `"\v"`, `"\0"`, `"\101"`, `"\u0061"`, `"\U00000061"`, `"\N"`, `"\T"`, `"\X61"`, `"\'"`, `"\ "`, "\"\\\n\"",
		`"\xFF"`, `"\xfF"`, `"\xFf"`, `"\x6A"`, `"\xA6"`, `"\xg0"`, `"\x0g"`, `"\x 1"`, `"\x1 "`, `"\x+1"`, `"\x-1"`, `"\x1_"`, `"\x0x"`, `"\x/0"`, `"\x0:"`, "\"\\x`0\"",
		"\"\n\"", "\"\t\"", "\"\r\"", "\"\x00\"", "\"\x1f\"", "\"\x7f\"", "\"\x80\"", "\"\xff\"", "\"ä\"", "\"a\nb\"", "\"\u2028\"", "\x00\"a\"", "\"a\"\x00", "\xff", "\x80\"\"", "\"\"\x80",
	} {
		fails(t, q, api.ErrForm)
	}
}

func TestUnquoteByHand(t *testing.T) {
	for q, want := range map[string]string{
		`""`: "", `"ab"`: "ab", `" "`: " ", `"~"`: "~", `"\""`: `"`, `"\\"`: `\`, `"\\\""`: `\"`, `"\"\\"`: `"\`, `"\\\\"`: `\\`, `"\\n"`: `\n`, `"\\x61"`: `\x61`, `"\n\t"`: "\n\t", `"'"`: "'",
		`"\x61b"`: "ab", `"\x22"`: `"`, `"\x5c"`: `\`, `"\x5cn"`: `\n`, `"\x5c\x22"`: `\"`, `"\x0a"`: "\n", `"\x09"`: "\t", `"\x20"`: " ", `"\x7e"`: "~", `"\x611"`: "a1", `"\x00\xff"`: "\x00\xff",
		`"\xc3\xa4"`: "ä", `"\xc3"`: "\xc3", `"%d"`: "%d",
	} {
		reads(t, q, want)
	}
}

// What counts is the string's length, not its text's.
func TestUnquoteOfLongTexts(t *testing.T) {
	for _, x := range []struct{ part, s string }{{"a", "a"}, {`\n`, "\n"}, {`\"`, `"`}, {`\\`, `\`}, {`\x61`, "a"}, {`\xff`, "\xff"}, {" ", " "}} {
		for _, n := range []int{0, 1, 4095, 4096} {
			reads(t, within(strings.Repeat(x.part, n)), strings.Repeat(x.s, n))
		}
		for _, n := range []int{4097, 4098, 8192, 1 << 20} {
			fails(t, within(strings.Repeat(x.part, n)), api.ErrLong)
		}
		fails(t, within(strings.Repeat(x.part, 4096)+"b"), api.ErrLong)
		fails(t, within(strings.Repeat(x.part, 4096)+`\x62`), api.ErrLong)
		reads(t, within(strings.Repeat(x.part, 4095)+`\x62`), strings.Repeat(x.s, 4095)+"b")
	}
}

// A long text that is none is just that, wherever it is wrong.
func TestUnquoteOfLongTextsThatAreNone(t *testing.T) {
	for _, n := range []int{4096, 4097, 1 << 20} {
		a := strings.Repeat("a", n)
		for _, q := range []string{
			a, `"` + a, a + `"`, `"` + a + `\"`, within(a + `\q`), within(`\q` + a), within(a + `"` + a), within(a + `\x6`), within(a + `\`), within(a + "\n"), within(a + "\xff"), within(a) + " ", " " + within(a), within(a + `\xFF`),
		} {
			fails(t, q, api.ErrForm)
		}
	}
}

func TestUnquoteIsTheForm(t *testing.T) {
	known := 0
	texts([]string{`"`, `\`, "n", "x", "4", "f", "F", "\n", "\xff"}, 5, func(q string) {
		if !form.MatchString(q) {
			fails(t, q, api.ErrForm)
			return
		}
		known++
		want, err := strconv.Unquote(q) // it knows more escapes than the chapter, but reads the chapter's likewise
		if err != nil {
			t.Fatal(q, err)
		}
		reads(t, q, want)
	})
	if known < 1000 {
		t.Error(known)
	}
}

// P3.3

func TestReadAsWritten(t *testing.T) {
	of := map[string]string{}
	try := func(s string) {
		q := Quote(s)
		reads(t, q, s)
		if !written.MatchString(q) {
			t.Errorf("Quote(%q) = %s", s, q)
		}
		if other, there := of[q]; there && other != s {
			t.Errorf("%s is the text of %q and of %q", q, s, other)
		}
		of[q] = s
	}
	for a := range 256 {
		for b := range 256 {
			try(one(a) + one(b))
		}
		try(one(a))
		try(strings.Repeat(one(a), 4096))
	}
	for _, s := range scattered(3000) {
		try(s)
		try(Quote(s))
	}
	texts([]string{`"`, `\`, "n", "x", "61", "\n", "\x00"}, 5, try)
}

// A text is written back as it was just if it is a string's text.
func TestWrittenAsRead(t *testing.T) {
	both := [2]int{}
	texts([]string{`\`, `"`, "n", "a", " ", `\n`, `\x0a`, `\x09`, `\x00`, `\x22`, `\x5c`, `\x20`, `\x61`, `\x7e`, `\x7f`, `\xff`}, 4, func(q string) {
		s, e := Unquote(q)
		if e != api.OK {
			return
		}
		same := 0
		if written.MatchString(q) {
			same = 1
		}
		both[same]++
		if (Quote(s) == q) != (same == 1) {
			t.Errorf("Quote(Unquote(%s)) = %s", q, Quote(s))
		}
	})
	if both[0] < 1000 || both[1] < 1000 {
		t.Error(both)
	}
}

// A string that is too long has a text too, which nothing reads.
func TestTextsOfTooLongStrings(t *testing.T) {
	for b := range 256 {
		fails(t, Quote(strings.Repeat(one(b), 4097)), api.ErrLong)
	}
}

// R6: no call changes what another one answers.
func TestSameAgain(t *testing.T) {
	for range 3 {
		for b, text := range edges {
			if q := Quote(one(int(b))); q != within(text) {
				t.Errorf("Quote(%q) = %s", one(int(b)), q)
			}
			reads(t, within(text), one(int(b)))
		}
		fails(t, `"\q"`, api.ErrForm)
	}
}

// The chapter's examples, row by row.

func TestExamples(t *testing.T) {
	for s, want := range map[string]string{"ab": `"ab"`, "\x0a\x00\x22\xff": `"\n\x00\"\xff"`} {
		if q := Quote(s); q != want {
			t.Errorf("Quote(%q) = %s, want %s", s, q, want)
		}
	}
	reads(t, `"ab"`, "ab")
	reads(t, `"\x61\n\\"`, "a\n\\")
	reads(t, `""`, "")
	for _, q := range []string{`ab`, `"ab`, `"a"b"`, `"\q"`, `"\x6"`, `"\xFF"`, "\"\n\""} {
		fails(t, q, api.ErrForm)
	}
	reads(t, within(strings.Repeat("a", 4096)), strings.Repeat("a", 4096))
	fails(t, within(strings.Repeat("a", 4097)), api.ErrLong)
}
