package thresh_test

import (
	"fmt"
	"math/rand"
	"strings"
	"testing"

	"thresh/api"
	"thresh/thresh"
)

// wrong holds what all calls that take a text answer to one with a fault, or to one without, against what is wanted.
func wrong(t *testing.T, text string, code api.Errno, line int) {
	t.Helper()
	want := api.Fault{Code: code, Line: line}
	if f := thresh.Check(text); f != want {
		t.Errorf("P5: Check(%q) = %v, want %v", text, f, want)
	}
	s, f := thresh.Print(text)
	if f != want || code != api.OK && s != "" {
		t.Errorf("P5: Print(%q) = %q, %v, want %v", text, s, f, want)
	}
	e, f := thresh.Load(text)
	if f != want || (e == nil) != (code != api.OK) {
		t.Errorf("P6: Load(%q) = %v, %v, want %v", text, e, f, want)
	}
}

// fine holds that a text has no fault.
func fine(t *testing.T, text string) {
	t.Helper()
	wrong(t, text, api.OK, 0)
}

// declared is ahead of clauses; what stands behind it begins in line 2.
const declared = "dom d 3; dom c 3; rel a(d); rel b(d, d); rel k(c); rel s(d, d, d);\n"

func TestLong(t *testing.T) {
	for _, s := range []string{" ", "\n", "%"} {
		fine(t, strings.Repeat(s, 1200))
		wrong(t, strings.Repeat(s, 1201), api.ErrLong, 0)
	}
	text := "dom d 3;\nrel a(d);\na(9).\n$"
	wrong(t, strings.Repeat("\n", 1200-len(text))+text, api.ErrSyntax, 1200-len(text)+4)
	wrong(t, strings.Repeat("\n", 1201-len(text))+text, api.ErrLong, 0)
	wrong(t, strings.Repeat("é", 600), api.ErrSyntax, 1)
	wrong(t, strings.Repeat("é", 600)+" ", api.ErrLong, 0)
}

func TestBytes(t *testing.T) {
	for c := range 256 {
		text := "\n" + string([]byte{byte(c)})
		switch {
		case strings.ContainsRune(" \t%", rune(c)), c == '\n':
			fine(t, text)
		case c >= 'a' && c <= 'z':
			// A NAME may stand there, but not alone.
			wrong(t, text+"\n", api.ErrSyntax, 3)
			wrong(t, text+"(0)\n$", api.ErrSyntax, 3)
		case c >= 'A' && c <= 'Z', c >= '0' && c <= '9', strings.ContainsRune("(),;.!", rune(c)):
			wrong(t, text+"\n", api.ErrSyntax, 2)
			wrong(t, text+"\n$", api.ErrSyntax, 3)
		default:
			wrong(t, text+"\n$", api.ErrSyntax, 2)
		}
	}
	wrong(t, "\n:-\n$", api.ErrSyntax, 3)
	wrong(t, ":\n-", api.ErrSyntax, 1)
	wrong(t, "dom d 3;\r\n", api.ErrSyntax, 1)
	wrong(t, "dom\n\n d3 3; ~", api.ErrSyntax, 3)
}

func TestTokens(t *testing.T) {
	fine(t, "dom abcdef 3;")
	fine(t, "dom a12345 08;")
	fine(t, "dom doms 1; dom rels 1; dom do 1; dom dom1 1;")
	fine(t, "dom d 1;rel r(d);r(X1):-r(X1).r(0):-r(00).")
	// as long as can be: a NAME with the word in it, a VAR with one digit, no blank where none is needed
	wrong(t, "domd 3;", api.ErrSyntax, 1)
	wrong(t, "dom3 d 3;", api.ErrSyntax, 1)
	wrong(t, "dom d\n3rel a(d);", api.ErrSyntax, 2)
	wrong(t, "dom d 3; rel a(d); a(\nX12) :-\n a(X).", api.ErrSyntax, 2)
	// too long: at its beginning, ahead of all that the grammar asks
	wrong(t, "dom abcdefg 3;", api.ErrSyntax, 1)
	wrong(t, ")\n\nabcdefg", api.ErrSyntax, 3)
	wrong(t, ")\n\nabc4567\n$", api.ErrSyntax, 3)
	wrong(t, ")\n\n123\n$", api.ErrSyntax, 3)
	wrong(t, ")\n\n000\n$", api.ErrSyntax, 3)
	wrong(t, ")\nX12\nX1234\n$", api.ErrSyntax, 3)
	wrong(t, ")\n123456\nabcdefg", api.ErrSyntax, 2)
	wrong(t, ")\n12abcdef\nX12ab", api.ErrSyntax, 1)
	wrong(t, ")\n12abcdefg", api.ErrSyntax, 2)
	// in a remark nothing is wrong
	fine(t, "% abcdefg 123 $ \xff :\ndom d 3; % dom")
	fine(t, "%")
	fine(t, "%%\n%\n\n")
	fine(t, "dom%\nd%1\n3%2\n;%3")
	wrong(t, "dom % d 3;", api.ErrSyntax, 1)
	wrong(t, "dom % d 3;\n", api.ErrSyntax, 2)
	wrong(t, "dom d 3; % \n\n$ % \n", api.ErrSyntax, 3)
}

// TestGrammar takes a program token by token, each on a line: each line that is left out, or is another token, is told, or the end.
func TestGrammar(t *testing.T) {
	tokens := strings.Fields("dom d 3 ; rel a ( d ) ; rel b ( d , d ) ; a ( 0 ) . a ( X ) :- b ( X , Y ) , ! a ( Y ) , b ( 1 , X ) .")
	kinds := []string{"dom", "rel", "n", "V", "0", "(", ")", ",", ";", ".", ":-", "!"}
	for i := range len(tokens) + 1 {
		ahead := strings.Join(tokens[:i], "\n")
		if i > 0 {
			ahead += "\n"
		}
		_, want := listen(ahead)
		wrong(t, ahead, want.Code, want.Line)
		if ended := i == 0 || tokens[i-1] == ";" || tokens[i-1] == "."; !ended && want != (api.Fault{Code: api.ErrSyntax, Line: i + 1}) {
			t.Errorf("P5: the text ends behind token %d: %v", i, want)
		}
		without := thresh.Check(strings.TrimSuffix(ahead, "\n"))
		if want.Code == api.ErrSyntax && without != (api.Fault{Code: api.ErrSyntax, Line: i}) {
			t.Errorf("P5: the text ends behind token %d, without an LF: %v", i, without)
		}
		for _, k := range kinds {
			for _, text := range []string{ahead + k + "\n;", ahead + k + "\n" + strings.Join(tokens[min(i+1, len(tokens)):], "\n")} {
				_, want := listen(text)
				wrong(t, text, want.Code, want.Line)
			}
		}
	}
}

func TestMisplaced(t *testing.T) {
	fine(t, "")
	fine(t, "\n")
	for _, text := range []string{
		"dom", "dom d", "dom d 3", "rel", "rel r", "rel r(", "rel r(d", "rel r(d,", "rel r(d)", "a", "a(", "a(0", "a(0,", "a(0)", "a(0):-", "a(0):-!", "a(0):-a", "a(0):-a(0)", "a(0):-a(0),",
	} {
		wrong(t, "\n"+text, api.ErrSyntax, 2)
		wrong(t, "\n"+text+"\n", api.ErrSyntax, 3)
		wrong(t, "\n"+text+"\n%\n", api.ErrSyntax, 4)
	}
	for _, text := range []string{
		"dom d 3.", "dom d;", "dom 3;", "dom D 3;", "dom d X;", "dom rel 3;", "dom d(3);", "rel r;", "rel r();", "rel r(3);", "rel r(X);", "rel r(d d);", "rel r(d,);", "rel r(d).", "rel R(d);", "rel dom(d);",
		"a.", "a().", "a(b).", "a(0 1).", "a(0,).", "a(0);", "a(0),a(0).", "!a(0).", "a(0):-.", "a(0):-a(0);", "a(0):-!!a(0).", "a(0):-a(0)!a(0).", "a(0):-a(0):-a(0).", "a(!0).", "a(a(0)).", "X(0).", "3.", "(0).", ";", ".", ":-a(0).", "a(dom).",
	} {
		wrong(t, "\n"+text+"\n\n", api.ErrSyntax, 2)
		wrong(t, declared+"a(0).\n"+text+"\n", api.ErrSyntax, 3)
	}
	// ahead of all faults of other kinds
	wrong(t, "x(0).\ndom d 9;\ndom d 9\n", api.ErrSyntax, 4)
	wrong(t, "x(X) :- y(Y).\n\n.", api.ErrSyntax, 3)
}

func TestMany(t *testing.T) {
	doms := "dom a 1; dom b 2; dom c 3; dom d 8;"
	fine(t, doms)
	wrong(t, doms+"\ndom\ne\n1;", api.ErrMany, 3)
	wrong(t, doms+"\ndom a 9;", api.ErrMany, 2)
	wrong(t, doms+"\ndom e 9; rel r(x);", api.ErrMany, 2)
	rels := "dom d 2; rel a(d); rel b(d); rel c(d); rel e(d); rel f(d); rel g(d);"
	fine(t, rels)
	wrong(t, rels+"\nrel\nh\n(d);", api.ErrMany, 3)
	wrong(t, rels+"\nrel d(x);", api.ErrMany, 2)
	fine(t, "dom d 2; rel a(d, d, d);")
	wrong(t, "dom d 2; rel a(d, d, d,\nd);", api.ErrMany, 2)
	wrong(t, "dom d 2; rel a(d, d, d,\nx,\ny);", api.ErrMany, 2)
	wrong(t, "dom d 2; rel a(d,\nx, d,\nd);", api.ErrName, 2)
	// facts and rules are both clauses, the same fact twice is two
	full := declared + strings.Repeat("a(0).", 50) + "a(1).a(X):-a(X)."
	fine(t, full)
	wrong(t, full+"\na\n(0).", api.ErrMany, 3)
	wrong(t, full+"\nnone(9).", api.ErrMany, 3)
	wrong(t, full+"\nnone(9) :- a(X).\na(0).", api.ErrMany, 3)
	wrong(t, strings.Replace(full, "(1)", "(\n9)", 1)+"\na(0).", api.ErrRange, 3)
	fine(t, declared+"a(0) :- a(0), a(1), !b(2, 2), k(0).")
	wrong(t, declared+"a(0) :- a(0), a(1), a(2), a(0),\na(0).", api.ErrMany, 3)
	wrong(t, declared+"a(0) :- a(0), a(1), a(2), a(0), !\na(0).", api.ErrMany, 3)
	wrong(t, declared+"a(0) :- a(0), a(1), a(2), a(0),\nx(0),\nx(9).", api.ErrMany, 3)
	fine(t, declared+"s(A, B, C) :- s(A, B, C), b(D, A), s(D, D, D).")
	wrong(t, declared+"s(A, B, C) :- s(A, B, C), b(D,\nE).", api.ErrMany, 3)
	wrong(t, declared+"s(A, B, C) :- s(A, B, C), b(D, A),\nb(D,\nA1).", api.ErrMany, 4)
	wrong(t, declared+"s(A, B, C) :- s(A, B, C), b(D, D), k(\nE).", api.ErrMany, 3)
	wrong(t, declared+"s(A, B, C) :- s(A, B, C), b(D, D), k(\nA).", api.ErrDom, 3)
	// each clause has VARs of its own
	fine(t, declared+"b(A, B) :- b(A, B), b(C, D). b(E, F) :- b(E, F), b(G, H).")
}

func TestTwice(t *testing.T) {
	wrong(t, "dom d 3;\ndom\nd 3;", api.ErrTwice, 3)
	wrong(t, "dom d 3;\ndom d 9;", api.ErrTwice, 2)
	wrong(t, "dom d 3; rel a(d);\ndom a 3;", api.ErrTwice, 2)
	wrong(t, "dom d 3;\nrel d(d);", api.ErrTwice, 2)
	wrong(t, "dom d 3; rel a(d);\nrel a(d, d);", api.ErrTwice, 2)
	wrong(t, "dom d 3; rel a(d);\nrel a(x);", api.ErrTwice, 2)
	fine(t, "dom d 3; rel a(d); a(0). a(0).")
}

func TestNames(t *testing.T) {
	wrong(t, "rel a(\nd); dom d 3;", api.ErrName, 2)
	wrong(t, "dom d 3; rel a(d,\na);", api.ErrName, 2)
	wrong(t, declared+"rel e(d,\na);", api.ErrName, 3)
	wrong(t, declared+"e(0). rel e(d);", api.ErrName, 2)
	wrong(t, declared+"\nd(0).", api.ErrName, 3)
	wrong(t, declared+"a(0) :-\ne(0). rel e(d);", api.ErrName, 3)
	wrong(t, declared+"a(0) :- a(0), !\nd(9).", api.ErrName, 3)
	fine(t, declared+"rel e(d); e(0).")
	fine(t, "dom d 3; rel a(d); a(0). dom e 2; rel b(e); b(1) :- a(2).")
}

func TestRanges(t *testing.T) {
	for size := range 100 {
		text := fmt.Sprintf("dom d\n%d;", size)
		if size >= 1 && size <= 8 {
			fine(t, text)
			fine(t, fmt.Sprintf("dom d 0%d; rel a(d); a(%d).", size, size-1))
			wrong(t, fmt.Sprintf("dom d %d; rel a(d); a(\n%d).", size, size), api.ErrRange, 2)
			wrong(t, fmt.Sprintf("dom d %d; rel a(d); a(\n%02d).", size, size), api.ErrRange, 2)
		} else {
			wrong(t, text, api.ErrRange, 2)
		}
	}
	wrong(t, "dom d\n00;", api.ErrRange, 2)
	wrong(t, "dom c 2; dom d 5; rel a(d, c, d); a(4, 1, 4). a(4,\n2,\n5).", api.ErrRange, 2)
	wrong(t, "dom c 2; dom d 5; rel a(d, c); a(X, 1) :- a(X, 0), !a(X,\n2).", api.ErrRange, 2)
}

func TestArities(t *testing.T) {
	wrong(t, declared+"a\n(0, 0).", api.ErrArity, 2)
	wrong(t, declared+"b(\n9).", api.ErrArity, 2)
	wrong(t, declared+"s(0, 0).", api.ErrArity, 2)
	wrong(t, declared+"s(0, 0, 0, 0).", api.ErrArity, 2)
	wrong(t, declared+"a(X) :- a(X),\nb(X).", api.ErrArity, 3)
	wrong(t, declared+"a(X) :- a(X),\n!b(9, X, X).", api.ErrArity, 3)
	wrong(t, declared+"a(9) :- \nb(X).", api.ErrRange, 2)
}

func TestDoms(t *testing.T) {
	wrong(t, declared+"a(X) :-\nk(\nX).", api.ErrDom, 4)
	wrong(t, declared+"k(X) :- k(X),\n!a(X).", api.ErrDom, 3)
	wrong(t, "dom d 3; dom c 3; rel m(d, c);\nm(X, Y) :- m(X, Y), m(\nX,\nX).", api.ErrDom, 4)
	wrong(t, "dom d 3; dom c 3; rel m(d, c);\nm(X,\nX) :- m(9, X).", api.ErrDom, 3)
	fine(t, "dom d 3; dom c 3; rel m(d, c); rel n(c, d);\nn(X, Y) :- m(Y, X).")
	fine(t, declared+"a(X) :- a(X). k(X) :- k(X).")
}

func TestUnsafe(t *testing.T) {
	wrong(t, declared+"a(X).", api.ErrUnsafe, 2)
	wrong(t, declared+"a\n(\nX).", api.ErrUnsafe, 2)
	wrong(t, declared+"a(0). b(0, 1).\nb(0, X).", api.ErrUnsafe, 3)
	wrong(t, declared+"\na\n(X)\n:- a(Y).", api.ErrUnsafe, 3)
	wrong(t, declared+"a(X) :-\n!b(X, X).", api.ErrUnsafe, 2)
	wrong(t, declared+"a(0) :-\n!b(0, X).", api.ErrUnsafe, 2)
	wrong(t, declared+"b(X, Y) :- a(X), !a(Y), a(0).", api.ErrUnsafe, 2)
	wrong(t, declared+"a(X) :- a(X),\n!b(X, Y), !a(Y).", api.ErrUnsafe, 2)
	fine(t, declared+"k(X) :- !a(Y), k(X), a(Y).")
	fine(t, declared+"a(0) :- !b(0, 1).")
	fine(t, declared+"a(0) :- b(X, Y), s(Z, Z, Z).")
	// behind all faults of one token, ahead of all circles
	wrong(t, declared+"a(X).\na(3).", api.ErrRange, 3)
	wrong(t, declared+"a(X).\nx(0).", api.ErrName, 3)
	wrong(t, declared+"a(X) :- b(X, X), !a(X).\na(X).\na(X).", api.ErrUnsafe, 3)
}

func TestStrata(t *testing.T) {
	wrong(t, declared+"a(0) :- !a(1).", api.ErrStrata, 2)
	wrong(t, declared+"\na\n(X) :- b(X, X),\n!a(X).", api.ErrStrata, 3)
	wrong(t, declared+"a(X) :- b(X, X).\nb(X, X) :- s(X, X, X),\n!a(X).", api.ErrStrata, 3)
	wrong(t, declared+"a(X) :- b(X, Y).\nb(X, X) :- s(X, X, X).\ns(X, X, X) :- b(X, X), !a(X).\n s(0, 0, 0) :- !a(0).", api.ErrStrata, 4)
	wrong(t, declared+"a(0) :- a(1).\na(0) :- a(1),\n!b(0, 0).\nb(0, 0) :- !a(0).", api.ErrStrata, 3)
	// by a lit with !, and where a rule of another head stands between
	wrong(t, declared+"a(0) :- !b(0, 0).\nb(0, 0) :- !s(0, 0, 0).\ns(0, 0, 0) :- !a(0).", api.ErrStrata, 2)
	wrong(t, declared+"k(0) :- !a(0).\na(0) :- !b(0, 0).\nb(0, 0) :- a(0).", api.ErrStrata, 3)
	fine(t, declared+"a(X) :- b(X, Y), !b(Y, X).")
	fine(t, declared+"a(0) :- !b(0, 0). b(0, 0) :- !s(0, 0, 0). s(0, 0, 0) :- !k(0). k(0).")
	fine(t, declared+"b(0, 0) :- a(0), !k(0). a(0) :- b(0, 0), !k(1).")
	// a fact hangs on nothing
	fine(t, declared+"a(0). b(0, 0). b(1, 1) :- !a(1).")
}

func TestPrint(t *testing.T) {
	for _, c := range [][2]string{
		{"", ""}, {" \t\n%dom d 3;", ""},
		{"dom d 1;", "dom d 1;\n"},
		{"dom\td\n08\n;\n", "dom d 8;\n"},
		{"dom d 3;rel\nr%x\n(d,d ,d);", "dom d 3;\nrel r(d, d, d);\n"},
		{"dom d 8;rel r(d);r(07).r(00).r(7).r(7).", "dom d 8;\nrel r(d);\nr(7).\nr(0).\nr(7).\nr(7).\n"},
		{"dom d 8; rel r(d, d); rel q1(d); r(X,X1):-r(X , 03),! q1 (X1),q1(X1) .", "dom d 8;\nrel r(d, d);\nrel q1(d);\nr(X, X1) :- r(X, 3), !q1(X1), q1(X1).\n"},
		{"dom d 2; rel r(d); r(0). dom e 1; rel q(e); q(0) :- !r(0). r(1) :- r(0).", "dom d 2;\nrel r(d);\nr(0).\ndom e 1;\nrel q(e);\nq(0) :- !r(0).\nr(1) :- r(0).\n"},
	} {
		for _, text := range c {
			if s, f := thresh.Print(text); s != c[1] || f != (api.Fault{}) {
				t.Errorf("P5: Print(%q) = %q, %v, want %q", text, s, f, c[1])
			}
		}
	}
	// what is printed may be longer than a text may be
	text := "dom d 2;rel a(d,d,d);" + strings.Repeat("a(0,0,0):-a(0,0,0),a(0,0,0),a(0,0,0).", 31)
	if s, f := thresh.Print(text); f != (api.Fault{}) || len(s) <= 1200 || strings.Count(s, "\n") != 33 {
		t.Errorf("P5: Print of %d bytes = %d bytes, %v", len(text), len(s), f)
	} else {
		wrong(t, s, api.ErrLong, 0)
	}
}

// TestTextsAgainstSaid holds texts that were written by chance, and spoilt, against what the document's words make of them.
func TestTextsAgainstSaid(t *testing.T) {
	dice := rand.New(rand.NewSource(11))
	seen := map[api.Errno]int{}
	for n := range 6000 {
		items := write(dice)
		if n%5 == 0 {
			items = swell(dice, items)
		}
		if n%7 == 0 {
			dice.Shuffle(len(items), func(i, j int) { items[i], items[j] = items[j], items[i] })
		}
		tokens := pieces(items)
		if n%3 > 0 {
			tokens = spoil(dice, tokens)
		}
		text := spaced(dice, tokens)
		s, want := listen(text)
		seen[want.Code]++
		wrong(t, text, want.Code, want.Line)
		if s == nil {
			continue
		}
		printed, _ := thresh.Print(text)
		again, f := thresh.Print(printed)
		if printed != strings.Join(s.items, "") || len(printed) <= 1200 && (again != printed || f != (api.Fault{})) {
			t.Errorf("P5: Print(%q) = %q, Print of that %q, %v, want %q", text, printed, again, f, strings.Join(s.items, ""))
		}
		if t.Failed() {
			return
		}
	}
	for code := api.OK; code <= api.ErrStrata; code++ {
		isOfTexts := code == api.OK || code >= api.ErrLong
		if isOfTexts && seen[code] < 20 {
			t.Errorf("only %d texts with the code %d", seen[code], code)
		}
	}
}

// TestNoise takes bytes by chance, of all kinds or of those that tokens are made of.
func TestNoise(t *testing.T) {
	dice := rand.New(rand.NewSource(13))
	usual := "dom rel(),;.:-!%\n\tX0a129"
	for n := range 3000 {
		noise := make([]byte, dice.Intn(40))
		for i := range noise {
			noise[i] = byte(dice.Intn(256))
			if n%2 == 0 {
				noise[i] = usual[dice.Intn(len(usual))]
			}
		}
		text := string(noise)
		_, want := listen(text)
		wrong(t, text, want.Code, want.Line)
	}
}
