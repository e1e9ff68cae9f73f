package shape_test

import (
	"slices"
	"testing"

	"truss/api"
	"truss/build"
	"truss/shape"
	"truss/term"
)

var (
	typ = build.Type
	pi  = build.Pi
	to  = build.To
	lam = build.Lam
	v   = build.Var
	c   = build.Con
	m   = build.Meta
)

// P5.1, P12.2: what the outermost TPis are, and what they are around

func TestShape(t *testing.T) {
	sig := build.Whole()
	const none = -1
	for _, x := range []struct {
		t       api.Term
		domains []api.Term
		result  api.Term
		target  int
	}{
		{typ(), nil, typ(), none},
		{c(build.Nat), nil, c(build.Nat), build.Nat},
		{c(build.Vec, c(build.Z)), nil, c(build.Vec, c(build.Z)), build.Vec},
		{to(c(0), c(1), typ()), []api.Term{c(0), c(1)}, typ(), none},
		{to(to(c(0), c(1)), c(build.Tm)), []api.Term{to(c(0), c(1))}, c(build.Tm), build.Tm},
		{c(build.Z), nil, c(build.Z), none},
		{c(len(sig)), nil, c(len(sig)), none},
		{c(api.MaxN), nil, c(api.MaxN), none},
		{v(0), nil, v(0), none},
		{m(0), nil, m(0), none},
		{lam(pi(c(0), c(0))), nil, lam(pi(c(0), c(0))), none},
		{pi(v(2), lam(c(0))), []api.Term{v(2)}, lam(c(0)), none},
	} {
		var domains []api.Term
		for domain := range shape.Domains(x.t) {
			domains = append(domains, domain)
		}
		result, count := shape.Result(x.t)
		if len(domains) != len(x.domains) || count != len(x.domains) || !term.Same(result, x.result) {
			t.Errorf("%v has the domains %v, %d, and the result %v", x.t, domains, count, result)
		}
		for i, domain := range domains {
			if !term.Same(domain, x.domains[i]) {
				t.Errorf("%v has the domains %v", x.t, domains)
			}
		}
		if got := shape.IsKind(x.t); got != (x.result.Op == api.TType) {
			t.Errorf("IsKind(%v) = %v", x.t, got)
		}
		target, ok := shape.Target(sig, x.t)
		if ok != (x.target != none) || ok && target != x.target || !ok && target != 0 {
			t.Errorf("Target(%v) = %v, %v", x.t, target, ok)
		}
	}
}

// P13.1, P14.2: which arguments are dependent, and which are premises

func TestClause(t *testing.T) {
	for _, x := range []struct {
		t                   api.Term
		dependent, premises []int
	}{
		{typ(), nil, nil},
		{c(0, v(0)), nil, nil},
		{lam(pi(c(0), v(0))), nil, nil},
		{to(c(0), c(1), typ()), nil, []int{0, 1}},
		{pi(c(0), c(1, v(0))), []int{0}, nil},
		{pi(c(0), pi(c(1, v(0)), c(2))), []int{0}, []int{1}},
		{pi(c(0), pi(c(1), c(1, v(1)))), []int{0}, []int{1}},
		{pi(c(0), pi(c(1), c(1, v(0)))), []int{1}, []int{0}},
		{pi(c(0), pi(c(1), c(1, v(2)))), nil, []int{0, 1}},
		{pi(c(0), pi(pi(c(0), c(1, v(0))), c(1, lam(v(2))))), []int{0}, []int{1}},
		{pi(c(0), pi(pi(c(0), c(1, v(1))), pi(c(0), v(0)))), []int{0, 2}, []int{1}},
	} {
		got := shape.Clause(x.t)
		if !slices.Equal(got.Dependent, x.dependent) || !slices.Equal(got.Premises, x.premises) {
			t.Errorf("Clause(%v) = %v, want %v, %v", x.t, got, x.dependent, x.premises)
		}
	}
}

// Domains can be visited again, and left.
func TestDomainsAgain(t *testing.T) {
	domains := shape.Domains(to(c(0), c(1), c(2)))
	for range 2 {
		count := 0
		for range domains {
			count++
			if count == 2 {
				break
			}
		}
		if count != 2 {
			t.Errorf("%d domains are visited", count)
		}
	}
	for domain := range domains {
		if domain.N != 0 {
			t.Errorf("the first domain is %v", domain)
		}
		break
	}
}
