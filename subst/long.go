package subst

import "truss/api"

func long(head, n int, simple api.Simple) api.Term {
	count := len(simple.Args)
	t := api.Term{Op: api.TApp, Head: head, N: n}
	if head == api.HVar {
		t.N += count
	}
	for i, arg := range simple.Args {
		t.Args = append(t.Args, long(api.HVar, count-1-i, arg))
	}
	for range count {
		t = api.Term{Op: api.TLam, Args: []api.Term{t}}
	}
	return t
}

// short returns the head of which a term is a long form, if it is one.
func short(t api.Term) (head, n int, ok bool) {
	count := 0
	for t.Op == api.TLam {
		count++
		t = t.Args[0]
	}
	if t.Op != api.TApp || len(t.Args) != count {
		return 0, 0, false
	}
	for i, arg := range t.Args {
		if head, n, ok := short(arg); !ok || head != api.HVar || n != count-1-i {
			return 0, 0, false
		}
	}
	if t.Head != api.HVar {
		return t.Head, t.N, true
	}
	return t.Head, t.N - count, t.N >= count
}
