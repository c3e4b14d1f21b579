package depend_test

import (
	"fmt"
	"regexp"
	"strings"
	"testing"

	"stevedore/api"
	"stevedore/depend"
	"stevedore/version"
)

// reads tests Terms of a text, and List of it.
func reads(t *testing.T, s string, want [][]api.Term, wrong api.Errno) {
	t.Helper()
	got, err := depend.Terms(s)
	if !same(got, want) || !tells(err, wrong) {
		t.Errorf("Terms(%s) = %s, %v, want %s, %v", show(s), show(got), err, show(want), wrong)
	}
	var list []api.Term
	for _, x := range want {
		list = append(list, x...)
	}
	if len(list) != len(want) && wrong == api.OK {
		list, wrong = nil, api.ErrForm
	}
	l, err := depend.List(s)
	if !same(asks(l), asks(list)) || !tells(err, wrong) {
		t.Errorf("List(%s) = %s, %v, want %s, %v", show(s), show(l), err, show(list), wrong)
	}
}

// tells says whether an error is just that one, without a place.
func tells(err error, want api.Errno) bool {
	if want == api.OK {
		return err == nil
	}
	return err == error(want)
}

// texts are all of at most so many of these pieces.
func texts(most int, of ...string) []string {
	all, longest := []string{""}, []string{""}
	for range most {
		var longer []string
		for _, s := range longest {
			for _, x := range of {
				longer = append(longer, s+x)
			}
		}
		all, longest = append(all, longer...), longer
	}
	return all
}

// Promise 3.1: Terms, and List.
func TestTerms(t *testing.T) {
	aa, bb, cc := anyOf("aa"), anyOf("bb"), anyOf("cc")
	for _, c := range []struct {
		s    string
		want [][]api.Term
	}{
		{"", nil},
		{" ", nil},
		{"\n\t \n", nil},
		{"aa", asks(some(aa))},
		{"aa, bb", asks(some(aa), some(bb))},
		{"aa,bb,aa", asks(some(aa), some(bb), some(aa))},
		{"aa | bb", asks(some(aa, bb))},
		{"aa|bb|cc", asks(some(aa, bb, cc))},
		{"aa | bb, cc", asks(some(aa, bb), some(cc))},
		{"aa, bb | cc", asks(some(aa), some(bb, cc))},
		{"aa (>= 1.0) | bb, cc", asks(some(term("aa", api.AtLeast, "1.0"), bb), some(cc))},
		{"aa(=1.0)", asks(some(term("aa", api.Same, "1.0")))},
		{"\n\taa \n\t(= \t\n1.0\t\n )\t\n ,\n bb\t|\tcc\n", asks(some(term("aa", api.Same, "1.0")), some(bb, cc))},
		{"aa (= 3:1:2-3-4)", asks(some(api.Term{Name: "aa", Op: api.Same, Version: ver(3, "1:2-3", "4")}))},
		{"0+-. (<< 1.0~a+B-~)", asks(some(api.Term{Name: "0+-.", Op: api.Less, Version: ver(0, "1.0~a+B", "~")}))},
		{long(24) + " (>> " + strings.Repeat("1", 40) + ")", asks(some(term(long(24), api.More, strings.Repeat("1", 40))))},
	} {
		reads(t, c.s, c.want, api.OK)
	}
	for _, x := range ops {
		want := asks(some(term("aa", x.op, "1.0")))
		for _, s := range []string{"aa (S 1.0)", "aa(S1.0)", "aa\n(S\n1.0\n)\n", " aa (S1.0 )"} {
			reads(t, strings.Replace(s, "S", x.sign, 1), want, api.OK)
		}
	}
}

// Promise 3.1: Terms and List tell ErrForm.
func TestTermsWrong(t *testing.T) {
	for _, s := range []string{
		",", "|", " , ", "aa,", ",aa", "aa,,bb", "aa, ,bb", "aa|", "|aa", "aa||bb", "aa | | bb", "aa,|bb", "aa|,bb",
		"a", "Aa", "a a", "aa bb", "aa\nbb", "aa;bb", "aa&bb", "aa\r", "\raa", "aa\x00", "aa\v", "\faa", "\u00a0aa", "aa\xff", "+aa", long(25),
		"(", ")", "()", "aa(", "aa)", "aa()", "aa ( )", "(= 1)", "aa, (= 1)", "(= 1) aa", "a (= 1)", "AA (= 1)",
		"aa (=)", "aa (= )", "aa (1)", "aa ( 1)", "aa (aa 1)", "aa (= aa)", "aa = 1", "aa >= 1", "aa (= 1", "aa = 1)", "aa (= 1) bb", "aa (= 1)bb",
		"aa ( = 1)", "aa (\t= 1)", "aa (\n= 1)", "aa (< 1)", "aa (> 1)", "aa (== 1)", "aa (=< 1)", "aa (=> 1)", "aa (<> 1)", "aa (>< 1)", "aa (!= 1)", "aa (< = 1)", "aa (> > 1)",
		"aa (<<< 1)", "aa (<<= 1)", "aa (<== 1)", "aa (>>= 1)", "aa (>>> 1)", "aa (= = 1)", "aa (>= >= 1)",
		"aa (= 1 2)", "aa (= 1\n2)", "aa (= 1, = 2)", "aa (= 1 | = 2)", "aa (= 1,2)", "aa (= 1|2)", "aa (= 1) (= 2)", "aa (= 1)(= 2)", "aa ((= 1))", "aa ((= 1)", "aa (= 1))", "aa (= (1))", "aa (= 1),)",
		"aa (= 1-)", "aa (= a1)", "aa (= 01:1)", "aa (= 1_2)", "aa (= 1\r)", "aa (=\r1)", "aa (= -1)", "aa (= " + strings.Repeat("1", 41) + ")",
		"aa (= 0:1)", "aa (>= 0:1.0-2)",
		strings.Repeat("(", 1_000_000), strings.Repeat(" ", 1_000_000) + "a", "aa (= 1" + strings.Repeat(" ", 1_000_000), strings.Repeat("x", 1_000_000),
	} {
		reads(t, s, nil, api.ErrForm)
		reads(t, "bb, "+s, nil, api.ErrForm)
		reads(t, "bb | "+s, nil, api.ErrForm)
		reads(t, s+", bb", nil, api.ErrForm)
		reads(t, s+" | bb (= 1)", nil, api.ErrForm)
	}
}

// Promise 3.1: of all bytes just blanks, tabs and line feeds are nothing, and only where they may stand.
func TestTermsBytes(t *testing.T) {
	for c := range 256 {
		s := string([]byte{byte(c)})
		blank := strings.Contains(" \t\n", s)
		name := strings.Contains("abcdefghijklmnopqrstuvwxyz0123456789", s)
		for _, x := range []struct {
			text string
			may  bool
		}{
			{s, blank},
			{s + "aa (= 1)", blank || name},
			{"aa" + s + "(= 1)", blank || name || strings.Contains("+-.", s)},
			{"aa (" + s + "= 1)", c == '<' || c == '>'},
			{"aa (>" + s + " 1)", c == '=' || c == '>'},
			{"aa (=" + s + "1)", blank || '0' <= c && c <= '9'},
			{"aa (= 1" + s + ")", blank || version.Right(ver(0, "1"+s, ""))},
			{"aa (= 1)" + s, blank},
		} {
			if _, err := depend.Terms(x.text); (err == nil) != x.may {
				t.Errorf("Terms(%q) tells %v", x.text, err)
			}
		}
	}
}

// Promise 3.1: more than MaxTerms terms, and what comes first from the left.
func TestTermsMany(t *testing.T) {
	aa := func(n int, between string) string { return strings.Repeat(between+"aa", n)[len(between):] }
	many := func(n int) (l []api.Term) {
		for range n {
			l = append(l, anyOf("aa"))
		}
		return l
	}
	reads(t, aa(30, ", "), depend.Singles(many(30)), api.OK)
	reads(t, aa(30, "|"), asks(many(30)), api.OK)
	reads(t, aa(15, "|")+","+aa(15, "|"), asks(many(15), many(15)), api.OK)
	for _, s := range []string{
		aa(31, ", "), aa(31, "|"), aa(15, "|") + "," + aa(16, "|"), aa(30, "|") + ",aa (= 1)", aa(1_000_000, ","), aa(1_000_000, "|"),
		aa(31, ",") + ",", aa(31, ",") + ", a", aa(31, "|") + "|(", aa(31, ",") + " , ,", aa(31, "|") + ",A",
	} {
		reads(t, s, nil, api.ErrLimit)
	}
	for _, s := range []string{
		aa(30, ",") + ",", aa(30, ",") + ",a", aa(30, "|") + "|", aa(30, "|") + ",(", aa(30, ",") + " bb", aa(30, ",") + ",aa (= a)", aa(30, ",") + ",aa bb,aa",
		"," + aa(31, ","), "a," + aa(31, ","), aa(10, ",") + ",," + aa(31, ","), aa(30, ",") + ",|" + aa(31, ","),
	} {
		reads(t, s, nil, api.ErrForm)
	}
}

// written is a term as the document says it, read by other means than the program's.
var written = regexp.MustCompile(`^[ \t\n]*([a-z0-9][-+.a-z0-9]{1,23})[ \t\n]*(?:\((<<|<=|=|>=|>>)[ \t\n]*([^ \t\n]+)[ \t\n]*\))?[ \t\n]*$`)

// read is what the document asks of Terms.
func read(s string) ([][]api.Term, api.Errno) {
	var l [][]api.Term
	if strings.Trim(s, " \t\n") == "" {
		return nil, api.OK
	}
	n := 0
	for _, x := range strings.Split(s, ",") {
		var group []api.Term
		for _, y := range strings.Split(x, "|") {
			m := written.FindStringSubmatch(y)
			if m == nil {
				return nil, api.ErrForm
			}
			one := anyOf(m[1])
			for _, o := range ops {
				if o.sign == m[2] {
					one.Op = o.op
				}
			}
			var err error
			if one.Op != api.Any {
				one.Version, err = version.Parse(m[3])
			}
			if err != nil || version.Print(one.Version) != m[3] {
				return nil, api.ErrForm
			}
			if n++; n > 30 {
				return nil, api.ErrLimit
			}
			group = append(group, one)
		}
		l = append(l, group)
	}
	return l, api.OK
}

// Promise 3.1: Terms and List of many short texts.
func TestTermsShort(t *testing.T) {
	for _, s := range texts(6, "aa", " ", "(", "=", "1", ")", "|", ",") {
		want, wrong := read(s)
		reads(t, s, want, wrong)
	}
	for _, s := range texts(5, "<", ">", "=", " ", "\n", "0:", "1", ")") {
		for _, form := range []string{"aa (%s)", "bb | aa (>%s", "cc, aa(%s 1)\t"} {
			text := fmt.Sprintf(form, s)
			want, wrong := read(text)
			reads(t, text, want, wrong)
		}
	}
}

// Promises 3.1, 3.2: what is written is read as it was, and what is read is Right.
func TestPrintTerms(t *testing.T) {
	kinds := some(anyOf("aa"), anyOf("x+y"), anyOf(long(24)))
	for _, x := range ops {
		kinds = append(kinds, term("aa", x.op, "1.0~a"), api.Term{Name: "b-", Op: x.op, Version: ver(1, "2:3-4", "5")})
	}
	for i, a := range kinds {
		for j, b := range kinds {
			for _, l := range [][][]api.Term{
				asks(some(a)), asks(some(a), some(b)), asks(some(a, b)), asks(some(a, b), some(b, a, b)), asks(some(kinds[min(i, j):]...), some(b)),
			} {
				s, err := depend.Print(l)
				if err != nil {
					t.Errorf("Print(%s) tells %v", show(l), err)
				}
				reads(t, s, l, api.OK)
			}
		}
	}
	for _, s := range texts(5, "aa", " ", "(=", "1", ")", "|", ",") {
		if l, err := depend.Terms(s); err == nil && !depend.Right(l) {
			t.Errorf("Terms(%q) = %s, which is not Right", s, show(l))
		}
	}
}

// Promise 3.1: what is read shares no memory.
func TestTermsApart(t *testing.T) {
	const s = "aa | bb, cc, dd | ee | ff, gg"
	want, _ := read(s)
	l, err := depend.Terms(s)
	if err != nil || len(l) != 4 {
		t.Fatal(l, err)
	}
	for i := range l {
		longer := append(l[i], anyOf("changed"), anyOf("changed"))
		if i > 0 {
			longer[0].Name = "changed"
		}
	}
	l[3][0].Name, l[2][2].Name = "changed", "changed"
	if !same(l[:1], want[:1]) {
		t.Errorf("what is asked for changed with another one: %s", show(l))
	}
	if again, err := depend.Terms(s); err != nil || !same(again, want) {
		t.Errorf("Terms(%q), once more, = %s, %v", s, show(again), err)
	}
}
