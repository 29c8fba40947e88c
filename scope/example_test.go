package scope_test

import (
	"slices"
	"testing"

	"signetry/api"
	"signetry/scope"
)

// The examples of the chapter, in its order.
func TestChapterExamples(t *testing.T) {
	l := units(
		"a: package p; message M { message N {} enum E { Z = 0; } } message N {}",
		`b: package p.q; import "a"; message M {} service S {}`)

	has(t, l,
		"message p.M a 35",
		"enum p.M.E a 57",
		"message p.M.N a 47",
		"message p.N a 80",
		"message p.q.M b 49",
		"service p.q.S b 62")

	finds(t, l, "b", "p.q", "M", "p.q.M")
	finds(t, l, "b", "p.q", "p.M", "p.M a")
	finds(t, l, "b", "p.q", "N", "p.N a")
	finds(t, l, "b", "p.q", "M.N", "p.M.N a")
	finds(t, l, "b", "p.q", "q.M", "p.q.M")

	fails(t, l, "b", "p.q.M", ".M", api.ErrName)
	finds(t, l, "b", "p.q.M", ".p.M.E", "p.M.E a")
	finds(t, l, "b", "p.q.M", "S", "p.q.S")
	finds(t, l, "a", "p.M", "N", "p.M.N")
	fails(t, l, "a", "p.M", "q.M", api.ErrName)

	if got := scope.Scopes("p.q.M"); !slices.Equal(got, []string{"p.q.M", "p.q", "p", ""}) {
		t.Errorf("the scopes are %q", got)
	}
}
