package bound_test

import (
	"strings"
	"testing"

	"handloom/api"
)

// faults wants a text to have a fault where @ stands in it.
func faults(t *testing.T, src string, err api.Errno) {
	t.Helper()
	ahead, behind, ok := strings.Cut(src, "@")
	if !ok {
		t.Fatalf("%q has no place", src)
	}
	want := api.Fault{Err: err, At: place(1+strings.Count(ahead, "\n"), len(ahead)-strings.LastIndex(ahead, "\n"))}
	if got := holds(t, prog(t, ahead+behind)); got != want {
		t.Errorf("Of(%q): %v, want %v", src, got, want)
	}
}

// grows and tooBig want functions of house's types to have ErrGrow, ErrBig, where @ stands.
func grows(t *testing.T, src string) {
	t.Helper()
	faults(t, house+src+start, api.ErrGrow)
}

func tooBig(t *testing.T, src string) {
	t.Helper()
	faults(t, house+src+start, api.ErrBig)
}
