package theory_test

import (
	"slices"
	"testing"

	"lexprior/api"
	"lexprior/ground"
	"lexprior/syntax"
	"lexprior/theory"
)

// TestThereAndBack: of theories, and of bytes.
func TestThereAndBack(t *testing.T) {
	t.Parallel()
	m := newMaker(131)
	taken, refused := 0, 0
	for range 10000 {
		x := m.theory(8, 8)
		b, errno := theory.Encode(x)
		back, errno2, at := theory.Decode(b)
		if errno != api.OK || errno2 != api.OK || at != len(b) || !same(back, x) {
			t.Fatalf("P12.6: %+v came back as %+v, %d, %d, %d", x, back, errno, errno2, at)
		}
		b = m.spoilBytes(b)
		y, errno, _ := theory.Decode(b)
		if errno != api.OK {
			refused++
			continue
		}
		taken++
		if again, errno := theory.Encode(y); errno != api.OK || !slices.Equal(again, b) {
			t.Fatalf("P12.6: Decode takes % X, which is not Encode's % X, %d", b, again, errno)
		}
	}
	if taken < 500 || refused < 500 {
		t.Errorf("only %d were taken and %d refused", taken, refused)
	}
}

func cone(t testing.TB, x api.Theory, lits []int) []int {
	t.Helper()
	c, errno := theory.Cone(x, lits)
	if errno != api.OK {
		t.Fatalf("P12.4: Cone(%+v, %d): %d", x, lits, errno)
	}
	return c
}

func union(a, b []int) []int {
	all := slices.Concat(a, b)
	slices.Sort(all)
	return slices.Compact(all)
}

func TestCones(t *testing.T) {
	t.Parallel()
	m := newMaker(132)
	grew := 0
	for range 10000 {
		x := m.theory(14, 10)
		one, other := m.some(4, x.Lits), m.some(4, x.Lits)
		a, b, both := cone(t, x, one), cone(t, x, other), cone(t, x, append(slices.Clone(one), other...))
		if again := cone(t, x, a); !slices.Equal(again, a) {
			t.Fatalf("P12.7: of %+v the cone %d has the cone %d", x, a, again)
		}
		if !slices.Equal(union(a, both), both) {
			t.Fatalf("P12.7: of %+v the cone %d of more is less than %d", x, both, a)
		}
		if !slices.Equal(union(a, b), both) {
			t.Fatalf("P12.7: of %+v the cones %d and %d together are not %d", x, a, b, both)
		}
		if len(a) > len(one) && len(a) < x.Lits {
			grew++
		}
	}
	if grew < 2000 {
		t.Errorf("only %d cones were more than what they are of, and less than all", grew)
	}
}

func TestParts(t *testing.T) {
	t.Parallel()
	m := newMaker(133)
	ruled, beaten := 0, 0
	for range 10000 {
		x := m.theory(8, 12)
		all, rules, errno := theory.Part(x, upTo(x.Lits))
		if errno != api.OK || !same(all, x) || !slices.Equal(rules, upTo(len(x.Rules))) {
			t.Fatalf("P12.8: Part of %+v by all literals: %+v, %d, %d", x, all, rules, errno)
		}
		part, rules, errno := theory.Part(x, m.some(12, x.Lits))
		if errno != api.OK {
			t.Fatalf("P12.8: Part of %+v: %d", x, errno)
		}
		wantCheck(t, "P12.8: a part", part, api.OK, 0)
		if len(part.Rules) != len(rules) {
			t.Fatalf("P12.4: of %+v %d rules and %d old numbers", x, len(part.Rules), len(rules))
		}
		if len(rules) > 1 && len(rules) < len(x.Rules) {
			ruled++
			beaten += len(slices.Concat(part.Beats...))
		}
	}
	if ruled < 1000 || beaten < 1000 {
		t.Errorf("only %d parts had some rules, with %d that are beaten", ruled, beaten)
	}
}

// TestLayersFall: along each dependency; foes are in one; each layer up to the last has a literal.
func TestLayersFall(t *testing.T) {
	t.Parallel()
	m := newMaker(134)
	fell := 0
	for range 10000 {
		x := m.theory(14, 14)
		layers, many, errno := theory.Layers(x)
		if errno != api.OK {
			t.Fatalf("P12.5: Layers(%+v): %d", x, errno)
		}
		for pair := range dependencies(x) {
			if layers[pair[1]] > layers[pair[0]] {
				t.Fatalf("P12.9: of %+v %d depends on %d, with the layers %d", x, pair[0], pair[1], layers)
			}
			fell += layers[pair[0]] - layers[pair[1]]
		}
		for lit, foes := range x.Foes {
			for _, foe := range foes {
				if layers[lit] != layers[foe] {
					t.Fatalf("P12.5: of %+v the foes %d and %d have the layers %d", x, lit, foe, layers)
				}
			}
		}
		if all := union(layers, nil); !slices.Equal(all, upTo(many)) {
			t.Fatalf("P12.9: of %+v the layers are %d, not %d", x, all, many)
		}
	}
	if fell < 10000 {
		t.Errorf("layers fell only by %d", fell)
	}
}

// TestGrounds: theories of statutes may be.
func TestGrounds(t *testing.T) {
	for _, text := range []string{
		"",
		"kind person. member anna, ben : person. pred p(person). pred q(person, person). source a rank 1. rule r of a at 2001-01-01 : p(X), X != ben => q(X, Y).",
		"kind person. member anna : person. amount help(person) : 10, 20. number income(person). source a rank 1. rule r of a at 2001-01-01 : {income(X) < 10} => help(X) = 20.",
		"kind person. member ann, ben, cem : person. pred old(person). pred single(person). pred married(person). class single, married. amount help(person) : 10, 20, 30. source act rank 1. rule r of act at 2001-01-01 : old(X) => help(X) = 20. rule s of act at 2001-01-01 : married(X) ~> -help(X) = 20. rule u of act at 2001-01-01 : single(X) -> help(X) = 30.",
	} {
		s, errno, at := syntax.Parse(text)
		if errno != api.OK {
			t.Fatalf("Parse(%q): %d, %d", text, errno, at)
		}
		g, errno, at := ground.Ground(s)
		if errno != api.OK {
			t.Fatalf("Ground(%q): %d, %d", text, errno, at)
		}
		wantCheck(t, text, g.Theory, api.OK, 0)
		wantRound(t, g.Theory)
		layers, many := modelLayers(g.Theory)
		wantLayers(t, g.Theory, layers, many, api.OK)
	}
}
