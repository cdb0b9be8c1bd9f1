package generic_test

import (
	"slices"
	"testing"

	"trestle/api"
	"trestle/generic"
)

// G7: the instances of a name, of any Kind, right or not.
func TestInstances(t *testing.T) {
	l := parse(t, exampleA+exampleI+exampleG+`MODULE I = G(A) END I.
INTERFACE J = H(A) END J.
MODULE G; END G.
INTERFACE K = G(A, B) END K.
MODULE J = A(G) END J.
MODULE H = G(Z) END H.
INTERFACE G2 = I(G) END G2.`)
	for name, want := range map[string][]int{
		"G": {1, 3, 6, 8}, "H": {4}, "A": {7}, "I": {9}, "J": nil, "K": nil, "G2": nil, "Z": nil, "g": nil, "E": nil, "END": nil,
	} {
		if got, f := generic.Instances(l, name); !slices.Equal(got, want) || f != (api.Fault{}) {
			t.Errorf("Instances(%s): %v, %+v; expected %v", name, got, f, want)
		}
	}
	if got, f := generic.Instances(nil, "G"); len(got) > 0 || f != (api.Fault{}) {
		t.Errorf("Instances in no library: %v, %+v", got, f)
	}
}

// G7: Instances is as the definition says.
func TestInstancesByDefinition(t *testing.T) {
	libraries(71, 300, func(g *generator, l []api.Unit) {
		for _, name := range []string{"G", "H", "A", "I", "Z"} {
			var want []int
			for i, u := range l {
				if u.Of == name {
					want = append(want, i)
				}
			}
			if got, f := generic.Instances(l, name); !slices.Equal(got, want) || f != (api.Fault{}) {
				t.Fatalf("Instances(%s) of %+v: %v, %+v; expected %v", name, l, got, f, want)
			}
		}
	})
}
