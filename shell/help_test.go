package shell_test

import (
	"strings"
	"testing"

	"bartizan/api"
	"bartizan/shell"
)

// is fails unless what is told is what is wanted.
func is[T comparable](t *testing.T, what string, got, want T) {
	t.Helper()
	if got != want {
		t.Errorf("%s: %v, want %v", what, got, want)
	}
}

// run answers what is told of a script that isn't too long.
func run(t *testing.T, text string) string {
	t.Helper()
	told, err := shell.Run(text)
	if err != api.OK {
		t.Fatalf("Run(%q) answered the error %d", text, err)
	}
	return told
}

// play runs a script that stands beside its answers: what stands ahead of " > " is
// a line, what stands behind it is what is to be told (_ is nothing).
func play(t *testing.T, script string) {
	t.Helper()
	var lines, want []string
	for _, l := range strings.Split(script, "\n") {
		if l = strings.TrimLeft(l, "\t"); l == "" {
			continue
		}
		line, told, ok := strings.Cut(l, " > ")
		if !ok {
			t.Fatalf("the test's line %q has no answer", l)
		}
		lines, want = append(lines, line), append(want, strings.ReplaceAll(told, "_", ""))
	}
	told := strings.Split(run(t, strings.Join(lines, "\n")), "\n")
	if len(told) != len(want)+1 || told[len(want)] != "" {
		t.Fatalf("%d answers %q, want %d", len(told)-1, told, len(want))
	}
	for i, w := range want {
		if told[i] != w {
			t.Errorf("line %d, %q: %q, want %q", i, lines[i], told[i], w)
		}
	}
}
