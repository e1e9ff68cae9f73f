package maker

import (
	"slices"

	"truss/api"
)

// Omitting returns a raw expression in which some arguments are omitted: holes stand for them, or names that are not known.
// The variables in scope have these names.
func (m *Maker) Omitting(r api.Raw, names []string) api.Raw {
	result := api.Raw{Op: r.Op, Name: r.Name}
	for i, arg := range r.Args {
		switch {
		case r.Op == api.RApp && i == 1 && m.Below(4) == 0:
			arg = m.omitted(names)
		case (r.Op == api.RPi || r.Op == api.RLam) && i == 1:
			arg = m.Omitting(arg, append(slices.Clip(names), r.Name))
		default:
			arg = m.Omitting(arg, names)
		}
		result.Args = append(result.Args, arg)
	}
	return result
}

// omitted returns a hole, or a capital name with variables; now and then something else.
func (m *Maker) omitted(names []string) api.Raw {
	name := func(s string) api.Raw { return api.Raw{Op: api.RName, Name: s} }
	apply := func(f, x api.Raw) api.Raw { return api.Raw{Op: api.RApp, Args: []api.Raw{f, x}} }
	r := name(string(rune('A' + m.Below(5))))
	switch m.Below(20) {
	case 0, 1, 2, 3, 4, 5:
		return api.Raw{Op: api.RHole}
	case 6:
		return name([]string{"z", "s", "empty", "lam", "beta"}[m.Below(5)])
	case 7:
		return apply(r, name("z"))
	}
	for _, s := range names {
		if m.Below(3) > 0 {
			r = apply(r, name(s))
		}
	}
	return r
}
