package syntax

import (
	"slices"
	"strings"
	"testing"

	"truss/api"
)

// P2.2

func checkRaw(t *testing.T, r api.Raw, want api.Errno) {
	t.Helper()
	if got := Check(r); got != want {
		t.Errorf("Check(%v) = %d; want %d", r, got, want)
	}
}

// wrongRaws are not well formed, each for one reason.
func wrongRaws() []api.Raw {
	a := name("a")
	long := strings.Repeat("a", api.MaxName+1)
	return []api.Raw{
		{}, {Op: -1}, {Op: 8}, {Op: 1 << 62}, {Op: 8, Args: []api.Raw{a, a}},
		{Op: api.RType, Name: "type"}, {Op: api.RType, Args: []api.Raw{a}}, {Op: api.RHole, Name: "_"}, {Op: api.RHole, Args: []api.Raw{a}},
		name(""), name("type"), name("_"), name("1"), name("a b"), name(long), {Op: api.RName, Name: "a", Args: []api.Raw{a}},
		{Op: api.RApp}, {Op: api.RApp, Args: []api.Raw{a}}, {Op: api.RApp, Args: []api.Raw{a, a, a}}, {Op: api.RApp, Name: "a", Args: []api.Raw{a, a}},
		{Op: api.RArrow}, {Op: api.RArrow, Args: []api.Raw{a}}, {Op: api.RArrow, Args: []api.Raw{a, a, a}}, {Op: api.RArrow, Name: "a", Args: []api.Raw{a, a}},
		pi("", a, a), pi("type", a, a), pi(long, a, a), {Op: api.RPi, Name: "x", Args: []api.Raw{a}}, {Op: api.RPi, Name: "x"},
		lam("", a, a), lam("type", a, a), lam("_", a, a), {Op: api.RLam, Name: "x", Args: []api.Raw{a}}, {Op: api.RLam, Name: "x", Args: []api.Raw{a, a, a}},
		app(a, api.Raw{}), app(name("type"), a), pi("x", name(""), a), lam("x", a, arrow(a, api.Raw{Op: 9})),
		chain(api.MaxDepth + 1), bush(api.MaxRaw + 1), chain(100000), doubled(60),
	}
}

func TestCheck(t *testing.T) {
	a := name("a")
	right := []api.Raw{
		a, name("A"), name(strings.Repeat("a", api.MaxName)), typ(), hole(), {Op: api.RName, Name: "a", Args: []api.Raw{}},
		app(typ(), hole()), arrow(lam("X", hole(), a), typ()), pi("x", hole(), a), lam("x", a, a), chain(api.MaxDepth), bush(api.MaxRaw - 1),
	}
	for _, r := range right {
		checkRaw(t, r, api.OK)
	}
	for _, r := range wrongRaws() {
		checkRaw(t, r, api.ErrArg)
	}
}

func TestCheckOfExpressionWithinItself(t *testing.T) {
	args := []api.Raw{name("a"), name("a")}
	args[1] = api.Raw{Op: api.RApp, Args: args}
	checkRaw(t, args[1], api.ErrArg)
}

func checkParts(t *testing.T, want api.Errno, parts ...api.Part) {
	t.Helper()
	if got := CheckItem(api.Item{Word: "w", Parts: parts}); got != want {
		t.Errorf("CheckItem of %v = %d; want %d", parts, got, want)
	}
}

func TestCheckItemOfDeclarations(t *testing.T) {
	right := []api.Item{
		{Name: "a", Raw: name("b")},
		{Name: "a", Raw: typ(), Parts: []api.Part{}},
		{Name: strings.Repeat("a", api.MaxName), Raw: chain(api.MaxDepth)},
	}
	for _, x := range right {
		if err := CheckItem(x); err != api.OK {
			t.Errorf("CheckItem(%v) = %d", x, err)
		}
	}
	wrong := []api.Item{
		{}, {Raw: typ()}, {Name: "a"}, {Name: "A", Raw: typ()}, {Name: "type", Raw: typ()}, {Name: "_", Raw: typ()}, {Name: "a b", Raw: typ()},
		{Name: strings.Repeat("a", api.MaxName+1), Raw: typ()}, {Name: "a", Raw: typ(), Parts: []api.Part{{Op: api.PName, Name: "a"}}},
	}
	for _, r := range wrongRaws() {
		wrong = append(wrong, api.Item{Name: "a", Raw: r})
	}
	for _, x := range wrong {
		if err := CheckItem(x); err != api.ErrArg {
			t.Errorf("CheckItem(%v) = %d", x, err)
		}
	}
}

func TestCheckItemOfDirectives(t *testing.T) {
	for _, word := range []string{"w", "type", "mode", strings.Repeat("w", api.MaxName)} {
		if err := CheckItem(api.Item{Word: word}); err != api.OK {
			t.Error(word, err)
		}
	}
	wrong := []api.Item{
		{Word: "W"}, {Word: "%w"}, {Word: "_"}, {Word: "1"}, {Word: " "}, {Word: strings.Repeat("w", api.MaxName+1)},
		{Word: "w", Name: "a"}, {Word: "w", Raw: typ()}, {Word: "w", Raw: api.Raw{Name: "a"}}, {Word: "w", Raw: api.Raw{Args: []api.Raw{{}}}},
	}
	for _, x := range wrong {
		if err := CheckItem(x); err != api.ErrArg {
			t.Errorf("CheckItem(%v) = %d", x, err)
		}
	}
	checkItem := api.Item{Word: "w", Raw: api.Raw{Args: []api.Raw{}}, Parts: []api.Part{}}
	if err := CheckItem(checkItem); err != api.OK {
		t.Error("empty lists are as good as nil", err)
	}
}

func TestCheckItemOfParts(t *testing.T) {
	n := api.Part{Op: api.PName, Name: "N"}
	colon := api.Part{Op: api.PMark, Sign: ":"}
	right := []api.Part{
		n, colon, {Op: api.PSign, Sign: "+", Name: "n"}, {Op: api.PSign, Sign: "-", Name: "N"}, {Op: api.PSign, Sign: "*", Name: "n"},
		{Op: api.PNum}, {Op: api.PNum, N: api.MaxNumber}, {Op: api.PTerm, Raw: typ()}, {Op: api.PLex}, {Op: api.PSim}, {Op: api.PLex, Parts: []api.Part{n}},
		{Op: api.PLex, Parts: []api.Part{colon}}, {Op: api.PLex, Parts: []api.Part{n, n, colon}}, {Op: api.PLex, Parts: []api.Part{colon, colon}},
		{Op: api.PLex, Parts: []api.Part{n, {Op: api.PMark, Sign: "="}}}, {Op: api.PSim, Parts: []api.Part{n, colon}},
		{Op: api.PBind, Name: "n", Raw: hole()}, {Op: api.PMark, Sign: "|"}, {Op: api.PMark, Sign: "="},
	}
	checkParts(t, api.OK, right...)
	checkParts(t, api.OK, n, colon)
	for _, p := range right {
		checkParts(t, api.OK, p)
		checkParts(t, api.OK, api.Part{Op: api.PSim, Parts: []api.Part{p}})
	}
	wrong := []api.Part{
		{}, {Op: -1}, {Op: 9}, {Op: api.PName}, {Op: api.PName, Name: "type"}, {Op: api.PName, Name: "_"}, {Op: api.PName, Name: "1"},
		{Op: api.PSign, Name: "n"}, {Op: api.PSign, Sign: "+"}, {Op: api.PSign, Sign: "+", Name: "type"}, {Op: api.PSign, Sign: ":", Name: "n"},
		{Op: api.PSign, Sign: "+-", Name: "n"}, {Op: api.PNum, N: -1}, {Op: api.PNum, N: api.MaxNumber + 1}, {Op: api.PTerm}, {Op: api.PBind, Name: "n"},
		{Op: api.PBind, Raw: typ()}, {Op: api.PBind, Name: "type", Raw: typ()}, {Op: api.PMark}, {Op: api.PMark, Sign: "."}, {Op: api.PMark, Sign: "+"},
		{Op: api.PLex, Parts: []api.Part{n, colon}}, {Op: api.PLex, Parts: []api.Part{n, colon, n}}, {Op: api.PLex, Parts: []api.Part{{}}}, {Op: api.PSim, Parts: []api.Part{{}}},
	}
	for _, r := range wrongRaws() {
		wrong = append(wrong, api.Part{Op: api.PTerm, Raw: r}, api.Part{Op: api.PBind, Name: "n", Raw: r})
	}
	for _, p := range wrong {
		checkParts(t, api.ErrArg, p)
		checkParts(t, api.ErrArg, n, p)
		checkParts(t, api.ErrArg, api.Part{Op: api.PSim, Parts: []api.Part{p}})
	}
}

func TestCheckItemOfFieldsWithoutMeaning(t *testing.T) {
	meant := map[int]string{api.PName: "name", api.PSign: "sign name", api.PNum: "n", api.PTerm: "raw", api.PLex: "parts", api.PSim: "parts",
		api.PBind: "name raw", api.PMark: "sign"}
	whole := api.Part{Sign: "+", Name: "n", N: 7, Raw: typ(), Parts: []api.Part{{Op: api.PName, Name: "n"}}}
	clear := map[string]func(*api.Part){
		"sign": func(p *api.Part) { p.Sign = "" }, "name": func(p *api.Part) { p.Name = "" }, "n": func(p *api.Part) { p.N = 0 },
		"raw": func(p *api.Part) { p.Raw = api.Raw{} }, "parts": func(p *api.Part) { p.Parts = nil },
	}
	for op, fields := range meant {
		right := whole
		right.Op = op
		if op == api.PMark {
			right.Sign = ":"
		}
		for field, clear := range clear {
			if !slices.Contains(strings.Fields(fields), field) {
				clear(&right)
			}
		}
		checkParts(t, api.OK, right)
		for field := range clear {
			if slices.Contains(strings.Fields(fields), field) {
				continue
			}
			wrong := right
			switch field {
			case "sign":
				wrong.Sign = whole.Sign
			case "name":
				wrong.Name = whole.Name
			case "n":
				wrong.N = whole.N
			case "raw":
				wrong.Raw = whole.Raw
			case "parts":
				wrong.Parts = whole.Parts
			}
			checkParts(t, api.ErrArg, wrong)
		}
	}
}

func TestCheckItemLimits(t *testing.T) {
	n := api.Part{Op: api.PNum, N: 1}
	checkParts(t, api.OK, slices.Repeat([]api.Part{n}, api.MaxRaw)...)
	checkParts(t, api.ErrArg, slices.Repeat([]api.Part{n}, api.MaxRaw+1)...)
	checkParts(t, api.ErrArg, slices.Repeat([]api.Part{n}, 1000000)...)
	within := func(count int) api.Part {
		return api.Part{Op: api.PLex, Parts: slices.Repeat([]api.Part{n}, count)}
	}
	checkParts(t, api.OK, within(api.MaxRaw-1))
	checkParts(t, api.ErrArg, within(api.MaxRaw))
	checkParts(t, api.OK, within(api.MaxRaw/2-1), within(api.MaxRaw/2-1))
	checkParts(t, api.ErrArg, within(api.MaxRaw/2-1), within(api.MaxRaw/2))
	nested := func(depth int) api.Part {
		p := n
		for range depth - 1 {
			p = api.Part{Op: api.PSim, Parts: []api.Part{p}}
		}
		return p
	}
	checkParts(t, api.OK, nested(api.MaxDepth), nested(3))
	checkParts(t, api.ErrArg, nested(3), nested(api.MaxDepth+1))
	checkParts(t, api.ErrArg, nested(100000))
	// The depth of what is in parentheses does not count as that of the parts.
	checkParts(t, api.OK, api.Part{Op: api.PSim, Parts: []api.Part{{Op: api.PTerm, Raw: chain(api.MaxDepth)}}})
	double := n
	for range 39 {
		double = api.Part{Op: api.PSim, Parts: []api.Part{double, double}}
	}
	checkParts(t, api.ErrArg, double)
}

// Every function with an expression or an item refuses those that are not well formed, and gives nothing else.
func TestNotWellFormed(t *testing.T) {
	for _, r := range wrongRaws() {
		if s, err := Text(r); s != "" || err != api.ErrArg {
			t.Error("Text", s, err)
		}
		if l, err := Free(r); len(l) != 0 || err != api.ErrArg {
			t.Error("Free", l, err)
		}
		if u, err := Rename(r, "a", "b"); !equal(u, api.Raw{}) || err != api.ErrArg {
			t.Error("Rename", u, err)
		}
		if s, err := TextItem(api.Item{Name: "a", Raw: r}); s != "" || err != api.ErrArg {
			t.Error("TextItem", s, err)
		}
	}
	if s, err := TextItem(api.Item{Word: "w", Parts: []api.Part{{}}}); s != "" || err != api.ErrArg {
		t.Error("TextItem", s, err)
	}
}
