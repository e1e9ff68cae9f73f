package depend

import (
	"truss/api"
	"truss/shape"
	"truss/term"
)

// A matrix says whether one constant leads to another one.
type matrix [api.MaxDecls][api.MaxDecls]bool

// reach makes a matrix of single steps that of any number of steps, of at least one.
func (m *matrix) reach() {
	for via := range m {
		for from := range m {
			if !m[from][via] {
				continue
			}
			for to := range m {
				m[from][to] = m[from][to] || m[via][to]
			}
		}
	}
}

// needs returns which constant needs which.
func needs(sig []api.Decl) *matrix {
	var m matrix
	for n, d := range sig {
		constants, _ := term.Constants(d.Class)
		for _, needed := range constants {
			m[n][needed] = true
		}
	}
	m.reach()
	return &m
}

// keptBy returns the constants of a list and all that they need, ascending.
func keptBy(sig []api.Decl, list []int) []int {
	var kept [api.MaxDecls]bool
	needed := needs(sig)
	for _, n := range list {
		kept[n] = true
		for other := range sig {
			kept[other] = kept[other] || needed[n][other]
		}
	}
	return numbers(len(sig), func(n int) bool { return kept[n] })
}

// below returns which family is below which.
func below(sig []api.Decl) *matrix {
	var m matrix
	for n, d := range sig {
		m.place(sig, d.Class)
		if !shape.IsKind(d.Class) {
			continue
		}
		m[n][n] = true
		for domain := range shape.Domains(d.Class) {
			if target, ok := shape.Target(sig, domain); ok {
				m[target][n] = true
			}
		}
	}
	m.reach()
	return &m
}

// place places the targets of a type's domains directly below its target, and in the same way within the domains. (Objects
// and kinds have no targets.)
func (m *matrix) place(sig []api.Decl, t api.Term) {
	upper, hasTarget := shape.Target(sig, t)
	for domain := range shape.Domains(t) {
		if lower, ok := shape.Target(sig, domain); ok && hasTarget {
			m[lower][upper] = true
		}
		m.place(sig, domain)
	}
}
