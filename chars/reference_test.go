package chars_test

import (
	"fmt"
	"regexp"
	"strconv"
	"strings"
	"testing"

	"scrub/chars"
)

// The lists of 3.4 and 3.5, as the document has them.
const (
	listOfNumbers = "80 20AC, 82 201A, 83 0192, 84 201E, 85 2026, 86 2020, 87 2021, 88 02C6, 89 2030, 8A 0160, 8B 2039, 8C 0152, " +
		"8E 017D, 91 2018, 92 2019, 93 201C, 94 201D, 95 2022, 96 2013, 97 2014, 98 02DC, 99 2122, 9A 0161, 9B 203A, 9C 0153, 9E 017E, " +
		"9F 0178"
	listWithout = "AMP 26, amp 26, copy A9, deg B0, GT 3E, gt 3E, LT 3C, lt 3C, nbsp A0, not AC, para B6, QUOT 22, quot 22, reg AE, times D7"
	listWith    = "apos; 27, bull; 2022, colon; 3A, copysr; 2117, euro; 20AC, gtdot; 22D7, hellip; 2026, ldquo; 201C, lpar; 28, lsquo; 2018, " +
		"ltimes; 22C9, mdash; 2014, ndash; 2013, NewLine; 0A, notin; 2209, num; 23, parallel; 2225, rdquo; 201D, rpar; 29, rsquo; 2019, " +
		"sol; 2F, Tab; 09, timesb; 22A0, trade; 2122"
)

func hexNumber(s string) int {
	n, err := strconv.ParseInt(s, 16, 64)
	if err != nil {
		panic(err)
	}
	return int(n)
}

// parseList reads one of the lists.
func parseList(list string) map[string]int {
	all := map[string]int{}
	for _, row := range strings.Split(list, ", ") {
		key, number, _ := strings.Cut(row, " ")
		all[key] = hexNumber(number)
	}
	return all
}

// modelNumbers holds 3.4, modelNames 3.5 with each spelling a name of its own.
var (
	modelNumbers = parseList(listOfNumbers)
	modelNames   = func() map[string]string {
		all := map[string]string{}
		for name, char := range parseList(listWithout) {
			all[name] = encode(char)
			all[name+";"] = encode(char)
		}
		for name, char := range parseList(listWith) {
			all[name] = encode(char)
		}
		return all
	}()
)

func modelNumbered(number int) string {
	if 128 <= number && number <= 159 {
		if char, ok := modelNumbers[fmt.Sprintf("%X", number)]; ok {
			return encode(char)
		}
		return lost
	}
	if isGood(number) {
		return encode(number)
	}
	return lost
}

var (
	decimal     = regexp.MustCompile(`^#([0-9]+);?`)
	hexadecimal = regexp.MustCompile(`^#[xX]([0-9A-Fa-f]+);?`)
	wordly      = regexp.MustCompile(`^[0-9A-Za-z=]`)
)

// modelNumeric is the length of a numeric reference and what it gives.
func modelNumeric(near string) (int, string) {
	base, found := 16, hexadecimal.FindStringSubmatch(near)
	if found == nil {
		base, found = 10, decimal.FindStringSubmatch(near)
	}
	if found == nil {
		return 0, "&"
	}
	number, err := strconv.ParseInt(found[1], base, 64)
	if err != nil {
		return len(found[0]), lost
	}
	return len(found[0]), modelNumbered(int(number))
}

// modelUnref does what 3.3 says.
func modelUnref(s string, attr bool) string {
	ahead, behind, found := strings.Cut(s, "&")
	if !found {
		return s
	}
	length, char := 0, "&"
	if strings.HasPrefix(behind, "#") {
		length, char = modelNumeric(behind[:min(len(behind), 31)])
	} else {
		for n := min(len(behind), 31); n > 0 && length == 0; n-- {
			if known, ok := modelNames[behind[:n]]; ok {
				length, char = n, known
			}
		}
		if attr && length > 0 && !strings.HasSuffix(behind[:length], ";") && wordly.MatchString(behind[length:]) {
			length, char = 0, "&"
		}
	}
	return ahead + char + modelUnref(behind[length:], attr)
}

// checkUnref holds both answers against what is wanted.
func checkUnref(t *testing.T, in, text, value string) {
	t.Helper()
	if got := chars.Unref(in, false); got != text {
		t.Errorf("Unref(%q, false) = %q, want %q", in, got, text)
	}
	if got := chars.Unref(in, true); got != value {
		t.Errorf("Unref(%q, true) = %q, want %q", in, got, value)
	}
}

func TestEveryName(t *testing.T) {
	if len(modelNames) != 15*2+24 {
		t.Fatalf("the lists have %d names", len(modelNames))
	}
	for name, char := range modelNames {
		checkUnref(t, "&"+name, char, char)
		for _, behind := range []string{"-", " ", "&", "\"", "\n", "\x80", "é", "?"} {
			checkUnref(t, "&"+name+behind, char+behind, char+behind)
		}
		if strings.HasSuffix(name, ";") {
			checkUnref(t, "&"+name+";", char+";", char+";")
		}
		for _, behind := range []string{"=", "A", "Z", "z", "0", "9"} {
			value := char + behind
			if !strings.HasSuffix(name, ";") {
				value = "&" + name + behind
			}
			checkUnref(t, "&"+name+behind, char+behind, value)
		}
	}
}

func TestNamesAreSpelledExactly(t *testing.T) {
	for name := range parseList(listWith) {
		short := strings.TrimSuffix(name, ";")
		want := chars.Unref("&"+short, false)
		if want == encode(parseList(listWith)[name]) {
			t.Errorf("&%s is known without its semicolon", short)
		}
	}
	for _, in := range []string{"&Amp;", "&aMP", "&Lt;", "&Quot;", "&NBSP;", "&newline;", "&tab;", "&TAB;", "&am", "&l;", "& amp;", "&;", "&", "&&", "amp;", "&bogus;"} {
		checkUnref(t, in, in, in)
	}
}

func TestLongestName(t *testing.T) {
	checkUnref(t, "&notin;", "∉", "∉")
	checkUnref(t, "&notin", "¬in", "&notin")
	checkUnref(t, "&notit", "¬it", "&notit")
	checkUnref(t, "&not;in;", "¬in;", "¬in;")
	checkUnref(t, "&timesb;", "⊠", "⊠")
	checkUnref(t, "&timesb", "×b", "&timesb")
	checkUnref(t, "&times;b;", "×b;", "×b;")
	checkUnref(t, "&copysr;", "℗", "℗")
	checkUnref(t, "&copysr", "©sr", "&copysr")
	checkUnref(t, "&gtdot;&gtdo;", "⋗>do;", "⋗&gtdo;")
	checkUnref(t, "&ltimes;&ltime", "⋉<ime", "⋉&ltime")
	checkUnref(t, "&parallel;&paralle;", "∥¶lle;", "∥&paralle;")
}

func TestGivenTextIsNotLookedAtAgain(t *testing.T) {
	checkUnref(t, "&amp;amp;", "&amp;", "&amp;")
	checkUnref(t, "&amp;#65;", "&#65;", "&#65;")
	checkUnref(t, "&#38;lt;", "&lt;", "&lt;")
	checkUnref(t, "&&amp;lt;", "&&lt;", "&&lt;")
	checkUnref(t, "&num;65;", "#65;", "#65;")
}

func TestEveryNumber(t *testing.T) {
	for number := range 0x110010 {
		want := modelNumbered(number)
		if got := chars.Unref("&#x"+strconv.FormatInt(int64(number), 16)+";", false); got != want {
			t.Fatalf("hexadecimal %d gives %q, want %q", number, got, want)
		}
		if got := chars.Unref("&#"+strconv.Itoa(number), true); got != want {
			t.Fatalf("decimal %d gives %q, want %q", number, got, want)
		}
	}
	for _, in := range []string{
		"&#4294967361;", "&#x100000041;", "&#18446744073709551681;", "&#x10000000000000041;",
		"&#-1;", "&#99999999999999999999999999999;", "&#xFFFFFFFFFFFFFFFFFFFFFFFFFFFF;",
	} {
		want := lost
		if in == "&#-1;" {
			want = in
		}
		checkUnref(t, in, want, want)
	}
}

func TestNumbersEdges(t *testing.T) {
	checkUnref(t, "&#65&#066;&#x43;&#X44&#x4a;&#x4B;", "ABCDJK", "ABCDJK")
	checkUnref(t, "&#65=&#65x&#x41g", "A=AxAg", "A=AxAg")
	checkUnref(t, "&#65;;&#x41 ;", "A;A ;", "A;A ;")
	checkUnref(t, "&#", "&#", "&#")
	checkUnref(t, "&#;&#x;&#X;&#a;&#xg;&# 65;", "&#;&#x;&#X;&#a;&#xg;&# 65;", "&#;&#x;&#X;&#a;&#xg;&# 65;")
	checkUnref(t, "&#&lt;&#x&lt;", "&#<&#x<", "&#<&#x<")
	checkUnref(t, "&#10;&#13;&#9;&#12;&#11;", "\n"+lost+"\t\f"+lost, "\n"+lost+"\t\f"+lost)
}

// At most 31 bytes behind the & are part of a reference.
func TestNumbersEndBehind31Bytes(t *testing.T) {
	zeros := strings.Repeat("0", 28)
	checkUnref(t, "&#"+zeros[1:]+"65;", "A", "A")
	checkUnref(t, "&#"+zeros+"65;", "A;", "A;")
	checkUnref(t, "&#"+zeros+"065;", lost+"5;", lost+"5;")
	checkUnref(t, "&#x"+zeros[2:]+"41;", "A", "A")
	checkUnref(t, "&#X"+zeros[1:]+"41;", "A;", "A;")
	checkUnref(t, "&#x"+zeros+"41;", lost+"1;", lost+"1;")
	nines := strings.Repeat("9", 29)
	checkUnref(t, "&#"+nines+";", lost, lost)
	checkUnref(t, "&#"+nines+"9;", lost+";", lost+";")
	checkUnref(t, "&#"+nines+"99;", lost+"9;", lost+"9;")
	for count := range 40 {
		for _, front := range []string{"&#", "&#x", "&#X"} {
			for _, back := range []string{"", ";", "65;", "65", "41;z", "&lt"} {
				in := front + strings.Repeat("0", count) + back
				checkUnref(t, in, modelUnref(in, false), modelUnref(in, true))
			}
		}
	}
}

func TestUnrefOfShortSequences(t *testing.T) {
	parts := []string{"&", "#", "x", "X", "1", "31", "a", "G", ";", "=", " ", "not", "in;", "amp", "lt;", "AMP", "\x80"}
	var each func(in string, left int)
	each = func(in string, left int) {
		for _, attr := range []bool{false, true} {
			if got, want := chars.Unref(in, attr), modelUnref(in, attr); got != want {
				t.Fatalf("Unref(%q, %v) = %q, want %q", in, attr, got, want)
			}
		}
		if left == 0 {
			return
		}
		for _, part := range parts {
			each(in+part, left-1)
		}
	}
	each("", 2)
	each("&", 4)
	each("x&#", 3)
	each("&not", 3)
}

// escape writes a text or a value as 7.1 says.
func escape(s string, attr bool) string {
	pairs := []string{"&", "&amp;", "<", "&lt;", ">", "&gt;", "\u00a0", "&nbsp;"}
	if attr {
		pairs = append(pairs, "\"", "&quot;")
	}
	return strings.NewReplacer(pairs...).Replace(s)
}

func TestUnrefUndoesEscaping(t *testing.T) {
	parts := []string{"&", "&amp;", "#65;", "<", ">", "\"", "\u00a0", "\xc2", "\xa0", "not", "in;", "=", "&notin", "&#x41", "\n", "a"}
	for _, a := range parts {
		for _, b := range parts {
			for _, c := range parts {
				for _, d := range parts {
					in := a + b + c + d
					for _, attr := range []bool{false, true} {
						if got := chars.Unref(escape(in, attr), attr); got != in {
							t.Fatalf("Unref(%q, %v) = %q, want %q", escape(in, attr), attr, got, in)
						}
					}
				}
			}
		}
	}
}
