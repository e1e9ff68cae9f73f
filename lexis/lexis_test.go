package lexis

import (
	"slices"
	"strings"
	"testing"

	"truss/api"
)

type token = api.Token

func tok(kind int, text string, at int) token {
	return token{Kind: kind, Text: text, At: at}
}

func checkTokens(t *testing.T, source string, want ...token) {
	t.Helper()
	got, at, err := Tokens(source)
	if err != api.OK || at != 0 || !slices.Equal(got, want) {
		t.Errorf("Tokens(%q) = %v, %d, %d; want %v", source, got, at, err, want)
	}
}

func checkTokensError(t *testing.T, source string, wantAt int, want api.Errno) {
	t.Helper()
	got, at, err := Tokens(source)
	if err != want || at != wantAt || len(got) != 0 {
		t.Errorf("Tokens(%q) = %v, %d, %d; want none, %d, %d", source, got, at, err, wantAt, want)
	}
}

// P1.1

func TestTokensOfDeclaration(t *testing.T) {
	checkTokens(t, "s : nat -> nat. % successor",
		tok(api.TName, "s", 0), tok(api.TSign, ":", 2), tok(api.TName, "nat", 4), tok(api.TSign, "->", 8),
		tok(api.TName, "nat", 11), tok(api.TSign, ".", 14), tok(api.TEnd, "", 27))
}

func TestTokensOfDirective(t *testing.T) {
	checkTokens(t, "%mode plus +M -N.",
		tok(api.TWord, "%mode", 0), tok(api.TName, "plus", 6), tok(api.TSign, "+", 11), tok(api.TUpper, "M", 12),
		tok(api.TSign, "-", 14), tok(api.TUpper, "N", 15), tok(api.TSign, ".", 16), tok(api.TEnd, "", 17))
}

func TestTokensOfNothing(t *testing.T) {
	checkTokens(t, "", tok(api.TEnd, "", 0))
	checkTokens(t, " \t\r\n", tok(api.TEnd, "", 4))
	checkTokens(t, "% all of it", tok(api.TEnd, "", 11))
}

func TestTokensOfEachSign(t *testing.T) {
	for _, sign := range []string{":", ".", "->", "<-", "{", "}", "[", "]", "(", ")", "+", "-", "*", "|", "="} {
		checkTokens(t, sign, tok(api.TSign, sign, 0), tok(api.TEnd, "", len(sign)))
	}
}

func TestTokensWithoutBlanks(t *testing.T) {
	checkTokens(t, "-->-<-",
		tok(api.TSign, "-", 0), tok(api.TSign, "->", 1), tok(api.TSign, "-", 3), tok(api.TSign, "<-", 4), tok(api.TEnd, "", 6))
	checkTokens(t, "a'_1(_)B%c7.",
		tok(api.TName, "a'_1", 0), tok(api.TSign, "(", 4), tok(api.THole, "_", 5), tok(api.TSign, ")", 6),
		tok(api.TUpper, "B", 7), tok(api.TWord, "%c7", 8), tok(api.TSign, ".", 11), tok(api.TEnd, "", 12))
	checkTokens(t, "12.0",
		tok(api.TNum, "12", 0), tok(api.TSign, ".", 2), tok(api.TNum, "0", 3), tok(api.TEnd, "", 4))
}

func TestTokensAroundBlanks(t *testing.T) {
	checkTokens(t, "a b\tc\nd\re ",
		tok(api.TName, "a", 0), tok(api.TName, "b", 2), tok(api.TName, "c", 4), tok(api.TName, "d", 6),
		tok(api.TName, "e", 8), tok(api.TEnd, "", 10))
}

func TestTokensAroundComments(t *testing.T) {
	for _, comment := range []string{"% $", "%\t$", "%\r$", "%%$", "%%", "%", "% a % b", "%% %a"} {
		source := "a" + comment
		checkTokens(t, source, tok(api.TName, "a", 0), tok(api.TEnd, "", len(source)))
		checkTokens(t, source+"\nb",
			tok(api.TName, "a", 0), tok(api.TName, "b", len(source)+1), tok(api.TEnd, "", len(source)+2))
	}
	checkTokens(t, "%\r\n%\n% \nb%", tok(api.TName, "b", 8), tok(api.TEnd, "", 10))
}

func TestTokensAtLimits(t *testing.T) {
	name := strings.Repeat("n", api.MaxName)
	checkTokens(t, name, tok(api.TName, name, 0), tok(api.TEnd, "", api.MaxName))
	checkTokensError(t, "a "+name+"n", 2, api.ErrSyntax)
	upper := "N" + name[1:]
	checkTokens(t, upper, tok(api.TUpper, upper, 0), tok(api.TEnd, "", api.MaxName))
	checkTokensError(t, upper+"'", 0, api.ErrSyntax)
	checkTokens(t, "%"+name, tok(api.TWord, "%"+name, 0), tok(api.TEnd, "", api.MaxName+1))
	checkTokensError(t, "%"+name+"n", 0, api.ErrSyntax)
	checkTokens(t, "10000", tok(api.TNum, "10000", 0), tok(api.TEnd, "", 5))
	checkTokensError(t, " 10001", 1, api.ErrSyntax)
}

func TestTokensOfLongestSource(t *testing.T) {
	blanks := strings.Repeat(" ", api.MaxSource)
	checkTokens(t, blanks, tok(api.TEnd, "", api.MaxSource))
	checkTokensError(t, blanks+" ", 0, api.ErrFull)
	checkTokensError(t, "$"+blanks, 0, api.ErrFull)
	got, _, err := Tokens(strings.Repeat("a ", api.MaxSource/2))
	if err != api.OK || len(got) != api.MaxSource/2+1 {
		t.Error(len(got), err)
	}
}

func TestTokensNotAllowed(t *testing.T) {
	wrong := map[string]int{
		"a<b": 1, "01": 0, "00": 0, "_x": 0, "__": 0, "_1": 0, "_'": 0, "1a": 0, "1_": 0, "1'": 0, "a >": 2, "<": 0, "< -": 0,
		"->>": 2, "<->": 2, "%1": 0, "%_": 0, "%Mode": 0, "%(": 0, "%'": 0, "b %.": 2, "'a": 0, "99999999999999999999": 0,
		"a\x00": 1, "a, b": 1, "a;b": 1, "caf\xc3\xa9": 3, "a\v": 1, "a\f": 1, "#": 0, "abc $ _x": 4, "%%\n$": 3,
	}
	for source, at := range wrong {
		checkTokensError(t, source, at, api.ErrSyntax)
	}
}

func TestTokensOfEachByte(t *testing.T) {
	alone := " \t\n\r%_:.{}[]()+-*|=0123456789abcdefghijklmnopqrstuvwxyzABCDEFGHIJKLMNOPQRSTUVWXYZ"
	for b := range 256 {
		source := string([]byte{byte(b)})
		if strings.Contains(alone, source) {
			if _, _, err := Tokens(source); err != api.OK {
				t.Errorf("Tokens(%q): %d", source, err)
			}
		} else {
			checkTokensError(t, source, 0, api.ErrSyntax)
		}
	}
}

// P1.2

func checkJoin(t *testing.T, tokens []token, want string) {
	t.Helper()
	if got, err := Join(tokens); err != api.OK || got != want {
		t.Errorf("Join(%v) = %q, %d; want %q", tokens, got, err, want)
	}
}

func TestJoin(t *testing.T) {
	checkJoin(t, nil, "")
	checkJoin(t, []token{tok(api.TEnd, "", 3)}, "")
	checkJoin(t, []token{tok(api.TName, "a", -7)}, "a")
	checkJoin(t, []token{tok(api.TName, "a", 9), tok(api.TEnd, "", 3), tok(api.TEnd, "", 3), tok(api.TUpper, "B", 9)}, "a B")
	checkJoin(t, []token{
		tok(api.TName, "type", 0), tok(api.TUpper, "X'", 0), tok(api.THole, "_", 0), tok(api.TSign, "-", 0), tok(api.TSign, "->", 0),
		tok(api.TSign, "<-", 0), tok(api.TWord, "%mode", 0), tok(api.TNum, "10000", 0), tok(api.TNum, "0", 0),
	}, "type X' _ - -> <- %mode 10000 0")
}

func TestJoinNotATokenOfASource(t *testing.T) {
	wrong := []token{
		tok(api.TName, "", 0), tok(api.TName, "A", 0), tok(api.TUpper, "a", 0), tok(api.TName, "a ", 0), tok(api.TName, " a", 0),
		tok(api.TName, "a b", 0), tok(api.TName, "a%", 0), tok(api.TName, "a-", 0), tok(api.TName, "_", 0), tok(api.TName, "aaaaaaaaaaaaaaaaa", 0),
		tok(api.THole, "__", 0), tok(api.THole, "_x", 0), tok(api.THole, "_.", 0), tok(api.THole, "", 0), tok(api.TSign, "", 0), tok(api.TSign, "<", 0),
		tok(api.TSign, ">", 0), tok(api.TSign, "--", 0), tok(api.TSign, "->.", 0), tok(api.TSign, "a", 0), tok(api.TSign, "%", 0),
		tok(api.TWord, "mode", 0), tok(api.TWord, "%", 0), tok(api.TWord, "%%", 0), tok(api.TWord, "% a", 0), tok(api.TWord, "%A", 0),
		tok(api.TNum, "01", 0), tok(api.TNum, "10001", 0), tok(api.TNum, "-1", 0), tok(api.TNum, "", 0), tok(api.TNum, "1 ", 0), tok(api.TNum, "1.", 0),
		tok(api.TEnd, "a", 0), tok(api.TEnd, " ", 0), tok(0, "", 0), tok(0, "a", 0), tok(0, "$", 0), tok(8, "a", 0), tok(-1, "a", 0),
		tok(api.TName, strings.Repeat("a", 100000), 0),
	}
	for _, x := range wrong {
		if got, err := Join([]token{tok(api.TName, "a", 0), x}); err != api.ErrArg || got != "" {
			t.Errorf("Join of %v = %q, %d", x, got, err)
		}
	}
}

func TestJoinTokensAgain(t *testing.T) {
	first, _, _ := Tokens("lam:(tm->tm)->tm.%a\n%mode x +Y-Z*W|=0.[_]<-{a'}--> % end")
	text, err := Join(first)
	if err != api.OK {
		t.Fatal(err)
	}
	again, _, err := Tokens(text)
	same := func(a, b token) bool { return a.Kind == b.Kind && a.Text == b.Text }
	if err != api.OK || !slices.EqualFunc(first, again, same) {
		t.Error(text, again, err)
	}
}

func TestJoinOfManyTokens(t *testing.T) {
	many := slices.Repeat([]token{tok(api.TName, "abc", 0)}, 5000)
	got, err := Join(many)
	if err != api.OK || len(got) != 5000*4-1 {
		t.Error(len(got), err)
	}
}

// P1.3

func TestNames(t *testing.T) {
	small := []string{"a", "z", "type", "x_1'", "a''''", "nAT", "a" + strings.Repeat("9", api.MaxName-1)}
	capital := []string{"A", "Z", "Type", "X_1'", "NAT", "N" + strings.Repeat("_", api.MaxName-1)}
	neither := []string{"", "_", "_x", "1", "1a", "'", "'a", "a b", " a", "a ", "a-b", "a\n", "%a", "\xc3\xa9", "a\x00",
		strings.Repeat("a", api.MaxName+1), "A" + strings.Repeat("a", api.MaxName), "@", "[", "`", "{", "a/", "a:", "a@", "a[", "a`", "a{"}
	check := func(names []string, isSmall, isCapital bool) {
		for _, name := range names {
			if IsSmall(name) != isSmall || IsCapital(name) != isCapital {
				t.Errorf("%q: %v %v", name, IsSmall(name), IsCapital(name))
			}
		}
	}
	check(small, true, false)
	check(capital, false, true)
	check(neither, false, false)
}

// P1.4

func TestPlace(t *testing.T) {
	places := []struct {
		source           string
		at, line, column int
	}{
		{"", 0, 1, 1}, {"abc", 0, 1, 1}, {"abc", 2, 1, 3}, {"abc", 3, 1, 4}, {"ab\ncd", 2, 1, 3}, {"ab\ncd", 3, 2, 1},
		{"ab\ncd", 4, 2, 2}, {"ab\ncd", 5, 2, 3}, {"\n\n", 0, 1, 1}, {"\n\n", 1, 2, 1}, {"\n\n", 2, 3, 1}, {"a\r\nb", 2, 1, 3},
		{"\xc3\xa9x", 2, 1, 3}, {strings.Repeat("a\n", 50000) + "b", 100001, 50001, 2},
	}
	for _, p := range places {
		if line, column, err := Place(p.source, p.at); line != p.line || column != p.column || err != api.OK {
			t.Errorf("Place at %d = %d, %d, %d; want %d, %d", p.at, line, column, err, p.line, p.column)
		}
	}
}

func TestPlaceOutside(t *testing.T) {
	for _, at := range []int{-1, 4, -1 << 63, 1<<63 - 1} {
		if line, column, err := Place("abc", at); line != 0 || column != 0 || err != api.ErrArg {
			t.Error(at, line, column, err)
		}
	}
	if _, _, err := Place("", 1); err != api.ErrArg {
		t.Error(err)
	}
}
