package tests

import (
	"fmt"
	"math"
	"slices"
	"strings"
	"testing"
	"unsafe"

	"loop.example/cloth/impl"
)

// checkThaw holds Thaw against the model, and asks that what it gives is well
// made and canonical, and comes again for the same text.
func checkThaw(t *testing.T, s string) impl.Thawed {
	t.Helper()
	got, want := impl.Thaw(s), modelThaw(s)
	if !thawedAlike(got, want) {
		t.Fatalf("Thaw of %q\ngot  %v\nwant %v", s, got, want)
	}
	if again := impl.Thaw(s); !thawedAlike(got, again) {
		t.Fatalf("two answers for %q\n%v\n%v", s, got, again)
	}
	if !got.Ok {
		return got
	}
	if !impl.GraphOk(got.Graph) || !modelOk(got.Graph) || !graphsAlike(impl.Canon(got.Graph), got.Graph) {
		t.Fatalf("%q: not well made, or not canonical: %v", s, got.Graph)
	}
	return got
}

func thawedAlike(a, b impl.Thawed) bool {
	return a.Ok == b.Ok && a.At == b.At && graphsAlike(a.Graph, b.Graph)
}

func wantThawed(t *testing.T, s string, want impl.Graph) {
	t.Helper()
	if got := checkThaw(t, s); !thawedAlike(got, impl.Thawed{Ok: true, Graph: want}) {
		t.Errorf("Thaw of %q\ngot  %v\nwant %v", s, got, want)
	}
}

func wantFault(t *testing.T, s string, at int) {
	t.Helper()
	if got := checkThaw(t, s); !thawedAlike(got, impl.Thawed{At: at}) {
		t.Errorf("Thaw of %q: got %v, want a fault at %d", s, got, at)
	}
}

func TestP5EveryKind(t *testing.T) {
	wantThawed(t, "nil", impl.Graph{})
	wantThawed(t, "{}", graphOf(leads(0), impl.Table{}))
	wantThawed(t, "#1={}", graphOf(leads(0), impl.Table{}))
	for s, v := range plainTold() {
		wantThawed(t, s, graphOf(v))
		wantThawed(t, "{"+s+":"+s+"}", graphOf(leads(0), tableOf(v, v)))
		wantThawed(t, "{"+s+": {"+s+": 1}}", graphOf(leads(0), tableOf(v, leads(1)), tableOf(v, num(1))))
		wantThawed(t, "{7: "+s+", 8: "+s+"}", graphOf(leads(0), tableOf(num(7), v, num(8), v)))
	}
	wantThawed(t, `{"b": 1, "a": 2, 3: 4, true: false, -3: ""}`,
		graphOf(leads(0), tableOf(text("b"), num(1), text("a"), num(2), num(3), num(4), flag(true), flag(false), num(-3), text(""))))
	wantThawed(t, `{true: 1, 1: 2, "1": 3, "true": 4, false: 5, 0: 6, "": 7}`,
		graphOf(leads(0), tableOf(flag(true), num(1), num(1), num(2), text("1"), num(3), text("true"), num(4), flag(false), num(5), num(0), num(6), text(""), num(7))))
}

func TestP5TablesByTheirBraces(t *testing.T) {
	wantThawed(t, "{1: {2: {}, 3: {}}, 4: {5: {}}}", graphOf(leads(0),
		tableOf(num(1), leads(1), num(4), leads(4)),
		tableOf(num(2), leads(2), num(3), leads(3)),
		impl.Table{}, impl.Table{},
		tableOf(num(5), leads(5)), impl.Table{}))
	wantThawed(t, "{1: #3={2: #1={}, 3: #2={}}, 4: {5: #1, 6: #2, 7: #3}}", graphOf(leads(0),
		tableOf(num(1), leads(1), num(4), leads(4)),
		tableOf(num(2), leads(2), num(3), leads(3)),
		impl.Table{}, impl.Table{},
		tableOf(num(5), leads(2), num(6), leads(3), num(7), leads(1))))
}

// pieces is a text cut where spaces and newlines may stand.
func pieces() []string {
	return []string{"", "#12=", "{", "-10", ":", "#12", ",", `"a \22 b"`, ":", "#7=", "{", "}", ",", "true", ":", "#7", ",", "false", ":", "{", "0", ":", "false", ",", `""`, ":", "1", "}", "}", ""}
}

func TestP5SpacesWhereTheyMayStand(t *testing.T) {
	want := graphOf(leads(0),
		tableOf(num(-10), leads(0), text(`a " b`), leads(1), flag(true), leads(1), flag(false), leads(2)),
		impl.Table{}, tableOf(num(0), flag(false), text(""), num(1)))
	all := pieces()
	for _, space := range []string{"", " ", "\n", "  ", "\n \n"} {
		wantThawed(t, strings.Join(all, space), want)
		for i := 1; i < len(all); i++ {
			wantThawed(t, strings.Join(all[:i], "")+space+strings.Join(all[i:], ""), want)
		}
	}
	for _, s := range []string{"nil", "true", "false", "0", "-5", `""`, `" "`, "{}", "#1={}", "#1= {}", "#1=\n\n{ }"} {
		plain := impl.Thaw(s)
		for _, space := range []string{" ", "\n", strings.Repeat(" \n", 1000)} {
			wantThawed(t, space+s, plain.Graph)
			wantThawed(t, s+space, plain.Graph)
			wantThawed(t, space+s+space, plain.Graph)
		}
	}
	wantThawed(t, `" a  "`, graphOf(text(" a  ")))
}

// No other byte is a space, wherever one might stand.
func TestP5OtherSpaces(t *testing.T) {
	all := pieces()
	for _, other := range []string{"\t", "\r", "\r\n", "\v", "\f", "\x00", "\x85", "\xa0", "\u00a0", "\u2003", "//", ";"} {
		for i := 1; i < len(all); i++ {
			head := strings.Join(all[:i], "")
			wantFault(t, head+other+strings.Join(all[i:], ""), len(head))
			wantFault(t, head+" \n"+other+strings.Join(all[i:], ""), len(head)+2)
		}
	}
}

func TestP5SpacesWhereNoneMay(t *testing.T) {
	for _, space := range []string{" ", "\n"} {
		n := len(space)
		for _, c := range []struct {
			s  string
			at int
		}{
			{"n_il", 1}, {"ni_l", 2}, {"t_rue", 1}, {"tr_ue", 2}, {"tru_e", 3}, {"f_alse", 1}, {"fals_e", 4},
			{"-_1", 1}, {"1_2", 1 + n}, {"-1_2", 2 + n}, {"0_0", 1 + n}, {"{1_2: 3}", 2 + n}, {"{-_1: 3}", 2},
			{"#_1={}", 1}, {"#1_={}", 0}, {"#1_0={}", 0}, {"{1: #1={}, 2: #_1}", 15}, {"{1: #12={}, 2: #1_2}", 15},
			{"{1: #12={}, 2: #12_={}}", 18 + n}, {"{1: #1={}, 2: #1_2}", 16 + n},
			{`"\_0a"`, 2}, {`"\0_a"`, 3}, {`"\_""`, 2}, {`"\_\"`, 2},
		} {
			wantFault(t, strings.ReplaceAll(c.s, "_", space), c.at)
		}
	}
	wantFault(t, "\"a\nb\"", 2)
}

func TestP5Numbers(t *testing.T) {
	for s, n := range map[string]int64{
		"0": 0, "1": 1, "-1": -1, "9": 9, "10": 10, "-10": -10, "100200300": 100200300,
		"9223372036854775807": math.MaxInt64, "-9223372036854775808": math.MinInt64,
		"9223372036854775806": math.MaxInt64 - 1, "-9223372036854775807": math.MinInt64 + 1,
	} {
		wantThawed(t, s, graphOf(num(n)))
		wantThawed(t, "{"+s+":1,true:"+s+"}", graphOf(leads(0), tableOf(num(n), num(1), flag(true), num(n))))
	}
	many := strings.Repeat("9", 19000)
	for _, c := range []struct {
		s  string
		at int
	}{
		{"9223372036854775808", 0}, {"-9223372036854775809", 0}, {"9223372036854775810", 0}, {"18446744073709551616", 0}, {"18446744073709551617", 0},
		{"10000000000000000000", 0}, {"-10000000000000000000", 0}, {"36893488147419103233", 0}, {many, 0}, {"-" + many, 0},
		{"00", 1}, {"01", 1}, {"-01", 2}, {"-00", 2}, {"00x", 1}, {"007", 1}, {"0" + many, 1}, {"-0" + many, 2},
		{"-0", 0}, {"-0 ", 0}, {"-0x", 0}, {"-", 1}, {"- ", 1}, {"--1", 1}, {"-x", 1}, {"-a", 1}, {"-nil", 1}, {"-:", 1},
		{"+1", 0}, {"1.0", 1}, {"1e3", 1}, {"0x1", 1}, {"0b1", 1}, {"1_000", 1}, {"1-", 1}, {"1-2", 1}, {".5", 0}, {"0.", 1},
		{"9223372036854775807x", 19}, {"9223372036854775808x", 0},
		{"\u0661", 0}, {"1\u0661", 1},
	} {
		wantFault(t, c.s, c.at)
		wantFault(t, " "+c.s, 1+c.at)
		wantFault(t, "{"+c.s+": 1}", 1+c.at)
		wantFault(t, "{1: "+c.s+"}", 4+c.at)
		wantFault(t, "{1: 2, true:"+c.s+"}", 12+c.at)
	}
}

func TestP5Words(t *testing.T) {
	for _, word := range []string{"nil", "true", "false"} {
		for n := range len(word) {
			wantFault(t, word[:n], n)
			for _, other := range []string{"x", "N", "_", "1", "}", `"`, "\x00", "\xff"} {
				if n > 0 {
					wantFault(t, word[:n]+other+word[n:], n)
					wantFault(t, "{1: "+word[:n]+other, 4+n)
				}
			}
			wantFault(t, word[:n]+strings.ToUpper(word[n:n+1])+word[n+1:], n)
		}
		for _, more := range []string{"x", "s", "1", "0", "-1", "_", "e", "l", `"`, "{", "#1", "nil", "true", "false", word[len(word)-1:], "\x00"} {
			wantFault(t, word+more, len(word))
			wantFault(t, word+" "+more, len(word)+1)
		}
	}
	for _, s := range []string{"Nil", "null", "None", "True", "FALSE", "yes", "undefined", "a", "l", "rue", "'a'", "[]", "(1)", "}", ":", ",", "=", "\\", "*", "\x00", "\xff"} {
		at := 0
		if s == "null" {
			at = 1
		}
		wantFault(t, s, at)
		wantFault(t, "{1:"+s+"}", 3+at)
	}
	for _, s := range []string{"truex", "falsehood"} {
		n := strings.IndexByte(s, 'e') + 1
		wantFault(t, "{"+s+": 1}", 1+n)
		wantFault(t, "{1: "+s+"}", 4+n)
	}
}

func TestP5EveryByteInATextAndEscaped(t *testing.T) {
	for i := range 256 {
		b := byte(i)
		one := string([]byte{b})
		hex := fmt.Sprintf(`\%02x`, b)
		wantThawed(t, `"`+hex+`"`, graphOf(text(one)))
		wantThawed(t, `"x`+hex+hex+`x"`, graphOf(text("x"+one+one+"x")))
		wantThawed(t, `{"`+hex+`0": "`+hex+`f"}`, graphOf(leads(0), tableOf(text(one+"0"), text(one+"f"))))
		switch {
		case b == '"':
			wantFault(t, `"a"b"`, 3)
		case b == '\\':
			wantFault(t, `"a\"`, 4)
		case b < 32 || b > 126:
			wantFault(t, `"a`+one+`b"`, 2)
			wantFault(t, `"`+one, 1)
			wantFault(t, `{"`+one+`": 1}`, 2)
		default:
			wantThawed(t, `"a`+one+`b"`, graphOf(text("a"+one+"b")))
		}
		// behind a backslash, and behind its first digit
		digit := strings.IndexByte("0123456789abcdef", b) >= 0
		switch {
		case b == '"' || b == '\\':
			wantThawed(t, `"\`+one+`"`, graphOf(text(one)))
			wantThawed(t, `"\`+one+`0a"`, graphOf(text(one+"0a")))
			wantFault(t, `"\a`+one+`"`, 3)
		case digit:
			wantFault(t, `"\`+one+`"`, 3)
			wantFault(t, `"\`+one, 3)
			wantThawed(t, `"\`+one+`6"`, graphOf(text(unhex(one+"6"))))
			wantThawed(t, `"\6`+one+`"`, graphOf(text(unhex("6"+one))))
			wantThawed(t, `"\6`+one+`9"`, graphOf(text(unhex("6"+one)+"9")))
		default:
			wantFault(t, `"\`+one+`0"`, 2)
			wantFault(t, `"\0`+one+`"`, 3)
			wantFault(t, `{1: "\`+one+`"}`, 6)
		}
	}
	wantThawed(t, `"\41\42\c3\a9\\\"\22\5c"`, graphOf(text("ABé\\\"\"\\")))
	for s, at := range map[string]int{`"`: 1, `"abc`: 4, `"\`: 2, `"\0`: 3, `"\"`: 3, `"\\`: 3, `"\00`: 4, `"\x41"`: 2, `"\u0041"`: 2, `"\n"`: 2, `"\101"x`: 6, `"\AB"`: 2, `"\aB"`: 3, `""""`: 2, `"a" "b"`: 4, `'a'`: 0} {
		wantFault(t, s, at)
	}
}

// unhex is the byte of two digits.
func unhex(digits string) string {
	var b byte
	fmt.Sscanf(digits, "%x", &b)
	return string([]byte{b})
}

func TestP5LongTexts(t *testing.T) {
	for _, c := range []struct{ raw, one string }{{"x", "x"}, {" ", " "}, {`\ff`, "\xff"}, {`\"`, `"`}, {`\\`, `\`}, {`\41`, "A"}, {`\00`, "\x00"}} {
		long := strings.Repeat(c.raw, impl.MaxText)
		whole := strings.Repeat(c.one, impl.MaxText)
		wantThawed(t, `"`+long+`"`, graphOf(text(whole)))
		wantThawed(t, `{"`+long+`": "`+long+`"}`, graphOf(leads(0), tableOf(text(whole), text(whole))))
		for _, more := range []string{"x", `\"`, `\\`, `\0a`, c.raw + c.raw} {
			wantFault(t, `"`+long+more+`"`, 0)
			wantFault(t, ` "`+more+long+`" `, 1)
			wantFault(t, `{"`+long+more+`": 1}`, 1)
			wantFault(t, `{1: "`+long+more+`"}`, 4)
			// what goes wrong ahead of the closing one is told first
			wantFault(t, `"`+long+more, 1+len(long)+len(more))
			wantFault(t, `"`+long+more+"\t\"", 1+len(long)+len(more))
			wantFault(t, `"`+long+more+`\g"`, 2+len(long)+len(more))
			// and what goes wrong behind it, later
			wantFault(t, `"`+long+more+`"x`, 0)
			wantFault(t, `{"`+long+more+`"x`, 1)
		}
	}
	wantFault(t, `"`+strings.Repeat("x", 19998)+`"`, 0)
	wantFault(t, `"`+strings.Repeat("x", 19999), 20000)
}

func TestP5EveryLabel(t *testing.T) {
	one := graphOf(leads(0), tableOf(num(1), leads(0)))
	shared := graphOf(leads(0), tableOf(num(1), leads(1), num(2), leads(1)), impl.Table{})
	for n := 1; n <= 999; n++ {
		wantThawed(t, fmt.Sprintf("#%d={1:#%d}", n, n), one)
		wantThawed(t, fmt.Sprintf("{1:#%d={},2:#%d}", n, n), shared)
		wantThawed(t, fmt.Sprintf("#%d={}", n), graphOf(leads(0), impl.Table{}))
		wantFault(t, fmt.Sprintf("#%d", n), 0)
		other := n%999 + 1
		wantFault(t, fmt.Sprintf("{1:#%d={},2:#%d}", n, other), len(fmt.Sprintf("{1:#%d={},2:", n)))
		wantThawed(t, fmt.Sprintf("{1:#%d={},2:#%d={},3:#%d,4:#%d}", n, other, other, n),
			graphOf(leads(0), tableOf(num(1), leads(1), num(2), leads(2), num(3), leads(2), num(4), leads(1)), impl.Table{}, impl.Table{}))
	}
}

func TestP5Labels(t *testing.T) {
	wantThawed(t, "#5={1: #5, 2: {3: #5}, 4: #5}", graphOf(leads(0), tableOf(num(1), leads(0), num(2), leads(1), num(4), leads(0)), tableOf(num(3), leads(0))))
	wantThawed(t, "#9={1: #8={1: #9, 2: #8}, 2: #8}", graphOf(leads(0), tableOf(num(1), leads(1), num(2), leads(1)), tableOf(num(1), leads(0), num(2), leads(1))))
	wantThawed(t, "{1: #999={}, 2: #1={}, 3: #999}", graphOf(leads(0), tableOf(num(1), leads(1), num(2), leads(2), num(3), leads(1)), impl.Table{}, impl.Table{}))
	for _, c := range []struct {
		name string
		s    string
		at   int
	}{
		{"0", "#0={}", 0}, {"0, used", "#0", 0}, {"a zero ahead", "#01={}", 0}, {"a zero ahead, used", "{1: #1={}, 2: #01}", 14},
		{"zeros alone", "#00={}", 0}, {"many zeros ahead", "#" + strings.Repeat("0", 9000) + "1={}", 0},
		{"1000", "#1000={}", 0}, {"1000, used", "#1000", 0}, {"1000 in a table", "{1: #1000={}}", 4},
		{"very large", "#" + strings.Repeat("9", 9000) + "={}", 0}, {"round 2^64 to 1", "#18446744073709551617={}", 0},
		{"round 2^64 to one that has its table", "{1: #1={}, 2: #18446744073709551617}", 14},
		{"round 2^32 to 1", "#4294967297={}", 0}, {"round 1000 to 1", "{1: #1={}, 2: #1001}", 14},
		{"no digits", "#={}", 1}, {"no digits, ended", "#", 1}, {"no digits, a table", "#{}", 1}, {"below 0", "#-1={}", 1}, {"letters", "#a={}", 1}, {"two #", "##1={}", 1}, {"a plus", "#+1={}", 1},
		{"hex", "#1a={}", 0}, {"hex, with its table", "{1: #1={}, 2: #1a}", 16},
		{"used ahead of its table", "{1: #1, 2: #1={}}", 4}, {"used, and never given", "{1: {}, 2: #1}", 11},
		{"used in its own name", "#1=#1", 3}, {"used in its own name, spaced", "#1= #1={}", 4},
		{"used ahead of its {", "#1=1", 3},
		{"given in its own table", "#1={1: #1={}}", 7}, {"given twice", "{1: #3={}, 2: #3={}}", 14}, {"given twice, deep", "{1: {2: {3: #3={}}}, 4: {5: #3={}}}", 28},
		{"given thrice", "{1: #3={}, 2: #3, 3: #3={}}", 21},
		{"given twice, told at its =", "{1: #3={}, 2: #3=", 14}, {"given twice, and no table", "{1: #3={}, 2: #3=1}", 14}, {"given twice, and wrong within", "{1: #3={}, 2: #3={x}}", 14},
		{"= behind a space", "{1: #3={}, 2: #3 ={}}", 17},
		{"two =", "#1=={}", 3}, {"ends at =", "#1=", 3}, {"ends behind a space", "#1= ", 4},
		{"no table behind a label: nothing", "#1=nil", 3}, {"a bool", "#1=true", 3}, {"a number", "#1=1", 3}, {"a number below 0", "#1= -1", 4}, {"a text", `#1="a"`, 3}, {"a label", "{1: #1={}, 2: #2=#1}", 17}, {"a brace", "#1=}", 3},
		{"a label as a key", "{#1: 1}", 1}, {"a labelled table as a key", "{#1={}: 1}", 1}, {"a label of the table as a key", "#1={#1: 1}", 4},
		{"not yet, and wrong behind", "#1x", 0}, {"not yet, and a table behind", "#1{}", 0}, {"not yet, and a space behind", "#1 {}", 0},
		{"has its table, and wrong behind", "{1: #1={}, 2: #1x}", 16}, {"has its table, and a table behind", "{1: #1={}, 2: #1{}}", 16}, {"two labels", "{1: #1={}, 2: #1#1}", 16},
	} {
		if got := checkThaw(t, c.s); !thawedAlike(got, impl.Thawed{At: c.at}) {
			t.Errorf("%s: %q: %v, want a fault at %d", c.name, c.s, got, c.at)
		}
	}
}

func TestP5TablesToldWrong(t *testing.T) {
	for s, at := range map[string]int{
		"{": 1, "{ ": 2, "}": 0, "{}}": 2, "{}{}": 2, "{} {}": 3, "{{}}": 1, "{{}: 1}": 1, "{,}": 1, "{, 1: 2}": 1, "{:}": 1, "{: 1}": 1,
		"{1}": 2, "{1": 2, "{1:": 3, "{1: ": 4, "{1:}": 3, "{1: }": 4, "{1:,}": 3, "{1: , 2: 3}": 4, "{1::2}": 3, "{1=2}": 2, "{1,2}": 2, "{1 2}": 3,
		"{1: 2": 5, "{1: 2 ": 6, "{1: 2,": 6, "{1: 2, ": 7, "{1: 2,}": 6, "{1: 2, }": 7, "{1: 2,,}": 6, "{1: 2,, 3: 4}": 6, "{1: 2; 3: 4}": 5, "{1: 2 3: 4}": 6, "{1: 2: 3}": 5, "{1: 2, 3}": 8,
		"{1: 2)": 5, "{1: {}": 6, "{1: {}, }": 8, "{1: {2: 3}": 10, "{1: {2: 3}}}": 11, "{nil: 1}": 1, "{nil": 1, "{1: 2, nil: 3}": 7, "{true: 1, n}": 10,
		"{1: nil}": 4, "{1: nil": 4, "{1: nil x": 4, "{1: nilx}": 4, "{1: ni}": 6, "{1: ni": 6, "{1: nix}": 6, "{1:\n nil}": 5, "{1: 2, 3: nil}": 10, "{1: {2: nil}}": 8, "{1: {}, 2: nil, 1: 2}": 11, "#1={1: #1, 2: nil}": 14,
		"": 0, " ": 1, "\n\n": 2, "1 2": 2, "1, 2": 1, "1: 2": 1, "nil nil": 4, "nil}": 3, "{}, {}": 2, `"a": 1`: 3,
	} {
		wantFault(t, s, at)
	}
}

func TestP5KeysTwice(t *testing.T) {
	keys := []string{"true", "false", "0", "-1", "12", "9223372036854775807", `""`, `"a"`, `"\00"`, `" "`}
	for _, key := range keys {
		for _, between := range []string{"", ", 5: 6", `, "5": {` + key + `: 1}`, ", 5: #1={}, 6: #1"} {
			head := "{" + key + ": 1" + between + ", "
			wantFault(t, head+key+": 2}", len(head))
			wantFault(t, head+key+" : 1}", len(head))
			// told behind the key, whatever comes there
			wantFault(t, head+key, len(head))
			wantFault(t, head+key+"}", len(head))
			wantFault(t, head+key+": nil}", len(head))
			wantFault(t, head+key+" x", len(head))
			wantFault(t, head+"\n"+key+": {", len(head)+1)
		}
		// one key in two tables, one inside of the other
		wantThawed(t, "{"+key+": {"+key+": {}}}", graphOf(leads(0), tableOf(impl.Thaw(key).Graph.Root, leads(1)), tableOf(impl.Thaw(key).Graph.Root, leads(2)), impl.Table{}))
	}
	// one key by two texts
	wantFault(t, `{"A": 1, "\41": 2}`, 9)
	wantFault(t, `{"\"": 1, "\22": 2}`, 10)
	wantFault(t, `{"\5c": 1, "\\": 2}`, 11)
	// another key, though it begins or ends as one
	wantThawed(t, `{1: 1, 12: 2, "1": 3, "12": 4, 2: 5}`, graphOf(leads(0), tableOf(num(1), num(1), num(12), num(2), text("1"), num(3), text("12"), num(4), num(2), num(5))))
	wantFault(t, `{1: 1, 12: 2, 12x`, 14)
	wantFault(t, `{12: 1, 1`, 9)
}

// pairsText is n pairs, as they stand in a table.
func pairsText(n int) string {
	var out []string
	for i := range n {
		out = append(out, fmt.Sprintf("%d: true", i))
	}
	return strings.Join(out, ", ")
}

func TestP5PairsTooMany(t *testing.T) {
	full := pairsText(impl.MaxPairs)
	wantThawed(t, "{"+full+"}", graphOf(leads(0), manyPairs(impl.MaxPairs)))
	wantThawed(t, "{"+full+" \n}", graphOf(leads(0), manyPairs(impl.MaxPairs)))
	wantThawed(t, "{1: {"+full+"}, 2: {"+full+"}}", graphOf(leads(0), tableOf(num(1), leads(1), num(2), leads(2)), manyPairs(impl.MaxPairs), manyPairs(impl.MaxPairs)))
	for _, ahead := range []string{"{", "#1={", `{"in": {`, "{1: {}, 2: {"} {
		head := ahead + full + ", "
		for _, key := range []string{"100", `"a"`, "false", "-7", "0", "99"} {
			for _, behind := range []string{": 1}", "", "}", " x", ": nil}", ": {", ": 1, 101: 2}"} {
				wantFault(t, head+key+behind, len(head))
			}
		}
		// what is no key goes wrong ahead of that
		wantFault(t, head, len(head))
		wantFault(t, head+"}", len(head))
		wantFault(t, head+"nil: 1}", len(head))
		wantFault(t, head+"tru: 1}", len(head)+3)
		wantFault(t, head+`"a`, len(head)+2)
		wantFault(t, head+"01: 1}", len(head)+1)
		wantFault(t, head+"-", len(head)+1)
		wantFault(t, head+"-0: 1", len(head))
	}
}

func TestP5TablesTooMany(t *testing.T) {
	n := impl.MaxTables
	deep := strings.Repeat("{1:", n-1)
	wantThawed(t, deep+"{}"+strings.Repeat("}", n-1), chain(n, num(1)))
	wantThawed(t, deep+"{1:2}"+strings.Repeat("}", n-1), withPair(chain(n, num(1)), n-1, num(1), num(2)))
	wantFault(t, deep+"{1:{", len(deep)+3)
	wantFault(t, deep+"{1:{}}"+strings.Repeat("}", n-1), len(deep)+3)
	wantFault(t, deep+"{1: #1={}}"+strings.Repeat("}", n-1), len(deep)+7)
	wantFault(t, deep+"{1: #1=\n{}}", len(deep)+8)
	wantFault(t, deep+"{1: #1=x", len(deep)+7)
	wantFault(t, deep+"{1: #1", len(deep)+4)
	wantFault(t, deep+"{{", len(deep)+1)
	wantFault(t, deep+"{}"+strings.Repeat("}", n-2)+", 2: {}}", len(deep)+2+n-2+5)
	wantFault(t, "#1="+deep+"{1: #1={", 3+len(deep)+4)
	wantFault(t, strings.Repeat("{1:", 6666), 3*n)
	wantFault(t, strings.Repeat("{", 20000), 1)

	// side by side: two tables of 99 within one, and one that is left
	row := func(n int) string {
		var out []string
		for i := range n {
			out = append(out, fmt.Sprintf("%d: {}", i))
		}
		return "{" + strings.Join(out, ", ") + "}"
	}
	wide := "{1: " + row(99) + ", 2: " + row(98)
	if got := checkThaw(t, wide+"}"); !got.Ok || len(got.Graph.Tables) != n {
		t.Errorf("side by side: %v, %d tables", got.Ok, len(got.Graph.Tables))
	}
	wantFault(t, wide+", 3: {}}", len(wide)+5)
	wantFault(t, wide+", 3: {", len(wide)+5)
	wantFault(t, wide+", 3: nil}", len(wide)+5)
	wantFault(t, wide+", 2: {}}", len(wide)+2)
	if got := checkThaw(t, wide+`, 3: "{"}`); !got.Ok {
		t.Errorf("a brace in a text is no table: %v", got)
	}
}

func TestP5EndsTooEarly(t *testing.T) {
	for _, s := range []string{
		"nil", "true", "false", `"a\"\\\0a b"`, "{}", " \n {}",
		`{ "a" : {1: true, -12: false}, "b\22": { } , 10: "x" }`,
		"{\n1\n:\n{\n}\n,\n2\n:\n-3\n}",
	} {
		if !impl.Thaw(s).Ok {
			t.Fatalf("%q is a frozen text", s)
		}
		for n := range len(s) {
			wantFault(t, s[:n], n)
		}
	}
	// a label that is cut is another one, which may have no table yet
	s := "#10={1: #2={}, 2: #10, 3: #2, 4: #100={}, 5: #100}"
	for n := range len(s) {
		at, first := n, strings.LastIndexByte(s[:n], '#')
		if last := s[max(first, 0):n]; len(last) > 1 && strings.Trim(last[1:], "0123456789") == "" && !strings.Contains(s[:n], last+"=") {
			at = first
		}
		wantFault(t, s[:n], at)
	}
}

func TestP5BehindTheEnd(t *testing.T) {
	for _, s := range []string{"nil", "true", "false", `""`, `"a"`, "{}", "#1={}", "{1: 2}", "#1={1: #1}", "0", "12", "-3", "nil ", "{}\n", "7 "} {
		for i := range 256 {
			one := string([]byte{byte(i)})
			got := checkThaw(t, s+one)
			space, digit := i == ' ' || i == '\n', i >= '0' && i <= '9'
			number := len(s) <= 2 && strings.Trim(s, "-0123456789") == ""
			switch {
			case space:
				wantThawed(t, s+one, impl.Thaw(s).Graph)
			case digit && number && s != "0":
				if !got.Ok {
					t.Errorf("%q: %v", s+one, got)
				}
			default:
				wantFault(t, s+one, len(s))
				wantFault(t, s+" "+one, len(s)+1)
				wantFault(t, s+one+s, len(s))
			}
		}
	}
}

// Of every byte at every kind of place: whether it may stand there.
func TestP5EveryByteEverywhere(t *testing.T) {
	const digits, space = "0123456789", " \n"
	const key = "tf\"-" + digits
	for _, c := range []struct{ head, may string }{
		{"", space + key + "n{#"},
		{" ", space + key + "n{#"},
		{"{", space + key + "}"},
		{"{ ", space + key + "}"},
		{"{1", space + digits + ":"},
		{"{true", space + ":"},
		{`{"a"`, space + ":"},
		{"{1 ", space + ":"},
		{"{1:", space + key + "n{#"},
		{"{1: ", space + key + "n{#"},
		{"{1: 2", space + digits + ",}"},
		{"{1: 0", space + ",}"},
		{`{1: ""`, space + ",}"},
		{"{1: {}", space + ",}"},
		{"{1: 2 ", space + ",}"},
		{"{17: 2,", space + key},
		{"{17: 2, ", space + key},
		{"#", digits},
		{"#1=", space + "{"},
		{"#1= ", space + "{"},
		{"#1={", space + key + "}"},
		{"#1={2: #1", space + digits + "=,}"},
		{"#1={2: #1 ", space + ",}"},
		{"-", digits},
		{"{-", digits},
		{"t", "r"}, {"tr", "u"}, {"tru", "e"},
		{"f", "a"}, {"fa", "l"}, {"fal", "s"}, {"fals", "e"},
		{"n", "i"}, {"ni", "l"},
		{`"\`, digits + `abcdef"\`},
		{`"\a`, digits + "abcdef"},
	} {
		for i := range 256 {
			s := c.head + string([]byte{byte(i)})
			got := checkThaw(t, s)
			// what may stand there is told, if at all, at another place
			if may, here := strings.IndexByte(c.may, byte(i)) >= 0, !got.Ok && got.At == len(c.head); may == here {
				t.Errorf("%q: %v, but that the last byte may stand there is %v", s, got, may)
			}
		}
	}
}

func TestP5MostBytes(t *testing.T) {
	spaces := func(n int) string { return strings.Repeat(" ", n) }
	n := impl.MaxFrozen
	for _, s := range []string{"nil", "7", `"a"`, "{}", "#1={1: #1}"} {
		want := impl.Thaw(s).Graph
		pad := spaces(n - len(s))
		wantThawed(t, pad+s, want)
		wantThawed(t, s+pad, want)
		wantThawed(t, pad[1:]+s, want)
		wantThawed(t, pad[:9000]+s+strings.ReplaceAll(pad[9000:], " ", "\n"), want)
		for _, more := range []string{" ", "\n", "x", "  ", pad} {
			wantFault(t, pad+s+more, n)
			wantFault(t, s+pad+more, n)
			wantFault(t, more+s+pad, n)
		}
	}
	wantThawed(t, "{1:"+spaces(n-5)+"2}", graphOf(leads(0), tableOf(num(1), num(2))))
	wantFault(t, "{1:"+spaces(n-4)+"2}", n)
	wantFault(t, spaces(n), n)
	wantFault(t, spaces(n+1), n)
	wantFault(t, "{"+spaces(n-1), n)
	wantFault(t, spaces(n-1)+"x", n-1)
	wantFault(t, spaces(n)+"x", n)
	// a longer text is told as that, whatever goes wrong in it
	wantFault(t, "x"+spaces(n), n)
	wantFault(t, "x"+spaces(n-1), 0)
	wantFault(t, strings.Repeat("{", n+1), n)
	wantFault(t, strings.Repeat("1", n+1), n)
	wantFault(t, strings.Repeat("1", n), 0)
	wantFault(t, strings.Repeat("x", 1<<20), n)
}

// Of two faults in one text the one is told that is seen first from the left,
// though the place of the other may be ahead of it.
func TestP5TheFirstOfTwo(t *testing.T) {
	long := strings.Repeat("y", impl.MaxText+1)
	for _, c := range []struct {
		s  string
		at int
	}{
		{"x y", 0}, {"{x: y}", 1}, {"{1: x, 1: 2}", 4}, {"{1: 2, 1: x}", 7}, {"{1: nil, 1: x}", 4}, {"{1: 2, 1 x", 7}, {"{1: 2, 1", 7},
		{"{1: nil", 4}, {"{1: nil, 2", 4}, {"{-0: nil}", 1}, {"{1: -0, 1: 2}", 4}, {"{-0", 1}, {"{-01: nil}", 3},
		{"99999999999999999999x", 0}, {"{99999999999999999999", 1}, {"{1: 99999999999999999999, 1: 2}", 4}, {"{1: 2, 99999999999999999999", 7}, {"-99999999999999999999 nil", 0},
		{"#0x", 0}, {"#1000=", 0}, {"#1000=x", 0}, {"#0=#0", 0}, {"#1=x", 3}, {"#1 x", 0}, {"{1: #1, 1: 2}", 4}, {"{1: #0={}, 1: nil}", 4},
		{"#1={1: #1={x}}", 7}, {"#1={1: #2, 2: #1={}}", 7}, {"#1={1: #1, 1: #1={}}", 11}, {"#1={1: nil, 2: #1={}}", 7},
		{`"` + long + `"x`, 0}, {`"` + long + `\x"`, 503}, {`"` + long, 502}, {`{"` + long + `": nil}`, 1}, {`{1: "` + long + `", 1: 2}`, 4}, {`{1: 2, 1: "` + long + `"}`, 7},
		{`{1: 2, "` + long, 509}, {`{"a": nil, "a": 1}`, 6}, {`{"a": 1, "a": nil}`, 9},
		{"{1: {2: nil}, 1: 3}", 8}, {"{1: {2: 3}, 1: nil}", 12}, {"{1: {2: 3, 2: nil}, 1: 3}", 11},
		{"{" + pairsText(100) + ", 0: nil}", 1 + len(pairsText(100)) + 2}, {"{" + pairsText(99) + ", 99: nil, 100: 1}", 1 + len(pairsText(99)) + 6},
		{"{1: 2, 3: 4} x", 13}, {"{1: 2, 3: 4}} x", 12},
	} {
		wantFault(t, c.s, c.at)
	}
}

func TestP5EveryShortText(t *testing.T) {
	const some = "{}:,#=01-n\" "
	for _, c := range []struct {
		head string
		n    int
	}{{"", 5}, {"{1:", 4}, {"{1:1,", 4}, {"#1={1:", 4}, {"{0:#1={},1:", 4}, {"{", 4}, {`"\`, 4}, {"ni", 3}} {
		var all func(s string, n int)
		all = func(s string, n int) {
			checkThaw(t, s)
			for i := 0; i < len(some) && n > 0; i++ {
				all(s+some[i:i+1], n-1)
			}
		}
		all(c.head, c.n)
	}
}

// loosened is a frozen text told another way: with spaces, other labels,
// labels that nobody uses, and bytes escaped that need not be.
func (d *dice) loosened(s string) string {
	shift, labelled := d.below(700), false
	var out strings.Builder
	space := func() { out.WriteString([]string{"", "", " ", "\n", " \n  "}[d.below(5)]) }
	space()
	for i := 0; i < len(s); i++ {
		switch b := s[i]; {
		case b == '"':
			i = d.loosenText(s, i, &out)
		case b == '#':
			n := 0
			for ; i+1 < len(s) && s[i+1] >= '0' && s[i+1] <= '9'; i++ {
				n = 10*n + int(s[i+1]-'0')
			}
			fmt.Fprintf(&out, "#%d", n+shift)
		case b == '=':
			labelled = true
			out.WriteByte(b)
		case b == '{':
			if !labelled && d.below(2) == 0 {
				fmt.Fprintf(&out, "#%d=", 999-strings.Count(out.String(), "{"))
			}
			labelled = false
			fallthrough
		case strings.IndexByte("}:,", b) >= 0:
			space()
			out.WriteByte(b)
			space()
		default:
			out.WriteByte(b)
		}
	}
	space()
	return out.String()
}

// loosenText is the place of the text's closing quote.
func (d *dice) loosenText(s string, i int, out *strings.Builder) int {
	out.WriteByte('"')
	for i++; s[i] != '"'; i++ {
		switch {
		case s[i] == '\\':
			n := 3
			if s[i+1] == '"' || s[i+1] == '\\' {
				n = 2
			}
			out.WriteString(s[i : i+n])
			i += n - 1
		case d.below(3) == 0:
			fmt.Fprintf(out, `\%02x`, s[i])
		default:
			out.WriteByte(s[i])
		}
	}
	out.WriteByte('"')
	return i
}

func TestP5Loosened(t *testing.T) {
	d := dice(14)
	for range 4000 {
		g := d.wild(d.graph(d.below(9), 8))
		s := d.loosened(impl.Freeze(g))
		if len(s) <= impl.MaxFrozen {
			wantThawed(t, s, impl.Canon(g))
		}
	}
}

// edited changes, puts in, takes out or doubles some bytes.
func (d *dice) edited(s string) string {
	bytes := []byte("{}:,#=0123456789-niltruefalse\"\\ \n\t\x00\xffxA")
	b := []byte(s)
	for range 1 + d.below(3) {
		at := d.below(len(b) + 1)
		one := bytes[d.below(len(bytes))]
		switch d.below(5) {
		case 0:
			b = slices.Insert(b, at, one)
		case 1:
			if at < len(b) {
				b[at] = one
			}
		case 2:
			b = slices.Delete(b, at, min(len(b), at+1+d.below(3)))
		case 3:
			b = b[:at]
		case 4:
			to := min(len(b), at+d.below(12))
			b = slices.Insert(b, d.below(len(b)+1), slices.Clone(b[at:to])...)
		}
	}
	return string(b)
}

func TestP5AnyText(t *testing.T) {
	d := dice(15)
	well, ill := 0, 0
	for i := range 30000 {
		g := d.graph(d.below(6), 5)
		if i%3 == 0 {
			g = d.wild(g)
		}
		s := impl.Freeze(g)
		if i%2 == 0 {
			s = d.loosened(s)
		}
		if checkThaw(t, d.edited(s)).Ok {
			well++
		} else {
			ill++
		}
	}
	if well < 2000 || ill < 2000 {
		t.Fatalf("%d are frozen texts, %d not: too few to tell", well, ill)
	}
}

// checkBackAndForth asks what P4 promises of a graph that has a text.
func checkBackAndForth(t *testing.T, name string, g impl.Graph) {
	t.Helper()
	before := copyGraph(g)
	s := impl.Freeze(g)
	if s == "" {
		t.Fatalf("%s: it has no text", name)
	}
	x := checkThaw(t, s)
	if !thawedAlike(x, impl.Thawed{Ok: true, Graph: modelCanon(g)}) || !graphsAlike(x.Graph, impl.Canon(g)) {
		t.Fatalf("%s: thawed from %s\ngot  %v\nwant %v", name, s, x, impl.Canon(g))
	}
	if again := impl.Freeze(x.Graph); again != s {
		t.Fatalf("%s: frozen again\ngot  %s\nwant %s", name, again, s)
	}
	if !impl.Same(x.Graph, g) || len(impl.Apart(x.Graph, g)) != 0 {
		t.Fatalf("%s: thawed as another one: %s", name, s)
	}
	if !graphsAlike(g, before) {
		t.Fatalf("%s: the graph was written into", name)
	}
}

func TestP4ThereAndBack(t *testing.T) {
	for s, v := range plainTold() {
		checkBackAndForth(t, s, graphOf(v))
		checkBackAndForth(t, s, graphOf(leads(0), tableOf(v, v)))
	}
	for name, g := range map[string]impl.Graph{
		"nothing": {}, "nothing, and tables": graphOf(none, ring(3).Tables...), "an empty table": graphOf(leads(0), impl.Table{}), "shared": shared(),
		"a long way": chain(impl.MaxTables, num(1)), "a way of shared tables": chain(impl.MaxTables, num(1), num(2)), "a long ring": ring(impl.MaxTables),
		"many pairs": graphOf(leads(0), manyPairs(impl.MaxPairs)), "not met": graphOf(leads(1), manyPairs(3), impl.Table{}),
		"a ring from another place": graphOf(leads(2), ring(3).Tables...),
	} {
		checkBackAndForth(t, name, g)
	}
	for name, shape := range padded() {
		g := shape(impl.MaxFrozen - len(modelFrozen(shape(0))))
		if len(impl.Freeze(g)) != impl.MaxFrozen {
			t.Fatalf("%s: not as long as may be", name)
		}
		checkBackAndForth(t, name, g)
	}
	d := dice(16)
	for i := range 4000 {
		g := d.graph(d.below(12), 8)
		if i%2 == 0 {
			g = d.wild(g)
		}
		checkBackAndForth(t, fmt.Sprint("graph ", i), g)
		checkBackAndForth(t, fmt.Sprint("graph ", i, ", moved"), d.moved(g))
		checkBackAndForth(t, fmt.Sprint("graph ", i, ", shrunk"), impl.Shrink(g))
	}
}

// Whatever was thawed is frozen to a text that is thawed as the same again.
func TestP4FromTexts(t *testing.T) {
	for s, want := range map[string]string{
		" nil\n": "nil", "-7 ": "-7", `"\41\22"`: `"A\""`, "#5={}": "{}", "#5={1:#5}": "#1={1: #1}", "{1:#9={},2:#8={},3:#8,4:#9}": "{1: #1={}, 2: #2={}, 3: #2, 4: #1}",
		"{1:#9={},2:#8={},3:#8}": "{1: {}, 2: #1={}, 3: #1}", `{ "b" : 1 , "a" : 2 }`: `{"b": 1, "a": 2}`, "#3={true:#2={false:#1={0:#3,1:#1}}}": "#1={true: {false: #2={0: #1, 1: #2}}}",
	} {
		x := checkThaw(t, s)
		if got := impl.Freeze(x.Graph); got != want {
			t.Errorf("%q: got %s, want %s", s, got, want)
		}
		checkBackAndForth(t, s, x.Graph)
	}
}

// What chapter 6 says: the shape comes back, Same does not see it, texts do.
func TestP6ThawedShapes(t *testing.T) {
	for _, same := range [][]string{
		{"{1: #1={}, 2: #1}", "{1: {}, 2: {}}", "{2: {}, 1: {}}", "{2: #1={}, 1: #1}"},
		{"#1={1: #1}", "{1: #1={1: #1}}", "#1={1: {1: #1}}", "{1: {1: #1={1: {1: {1: #1}}}}}"},
		{`{1: {"a": 2, "b": 3}, 4: {"b": 3, "a": 2}}`, `{4: #1={"a": 2, "b": 3}, 1: #1}`},
	} {
		shrunk := impl.Freeze(impl.Shrink(checkThaw(t, same[0]).Graph))
		for i, s := range same {
			g := checkThaw(t, s).Graph
			if got := impl.Freeze(g); got != s {
				t.Errorf("%s is frozen again as %s", s, got)
			}
			if got := impl.Freeze(impl.Shrink(g)); got != shrunk {
				t.Errorf("%s: shrunk to %s, another to %s", s, got, shrunk)
			}
			for _, other := range same[:i] {
				if !impl.Same(g, impl.Thaw(other).Graph) {
					t.Errorf("%s and %s are not the same", s, other)
				}
			}
		}
	}
	if impl.Same(impl.Thaw("#1={1: #1}").Graph, impl.Thaw("#1={1: {1: #1, 2: 3}}").Graph) {
		t.Error("one pair more tells a ring apart")
	}
}

// Each list of the answer is its own, and none of it is the text's memory.
func TestP5NothingShared(t *testing.T) {
	for _, s := range []string{`"abcdef"`, `{"abc": "def", "\67": {"abc": "x"}, 3: #1={1: 1}, 4: #1, 5: {2: 2, 3: 3}}`, "#1={1: #1, 2: {}, 3: {4: 5}}"} {
		bytes := []byte(s)
		x := impl.Thaw(unsafe.String(&bytes[0], len(bytes)))
		for i := range bytes {
			bytes[i] = '?'
		}
		want := modelThaw(s)
		if !thawedAlike(x, want) {
			t.Fatalf("%s: the answer has the text's bytes: %v", s, x)
		}
		for k := range x.Graph.Tables {
			each := impl.Thaw(s)
			overwrite(impl.Graph{Tables: []impl.Table{each.Graph.Tables[k]}})
			each.Graph.Tables[k] = want.Graph.Tables[k]
			if !thawedAlike(each, want) {
				t.Fatalf("%s: table %d shares its pairs with another", s, k)
			}
		}
		overwrite(x.Graph)
		if again := impl.Thaw(s); !thawedAlike(again, want) {
			t.Fatalf("%s: an answer is kept: %v", s, again)
		}
	}
}
