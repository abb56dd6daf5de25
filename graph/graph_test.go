package graph_test

import (
	"fmt"
	"math"
	"math/rand"
	"slices"
	"testing"

	"bartizan/graph"
)

// link is one from a node to another.
type link struct{ from, to uint64 }

// of makes a graph of these links.
func of(l ...link) *graph.Graph {
	g := graph.New()
	for _, x := range l {
		g.Link(x.from, x.to)
	}
	return g
}

// goes fails unless Cycle(at) has just these nodes, in that order (none: there is no cycle), and Victim the greatest.
func goes(t *testing.T, g *graph.Graph, at uint64, want ...uint64) {
	t.Helper()
	if c, ok := g.Cycle(at); !slices.Equal(c, want) || ok != (len(want) > 0) {
		t.Errorf("Cycle(%d) = %v, %t, want %v", at, c, ok, want)
	}
	most := uint64(0)
	for _, n := range want {
		most = max(most, n)
	}
	if v, ok := g.Victim(at); v != most || ok != (len(want) > 0) {
		t.Errorf("Victim(%d) = %d, %t, want %d", at, v, ok, most)
	}
}

// waits fails unless Out(from) has just these nodes.
func waits(t *testing.T, g *graph.Graph, from uint64, want ...uint64) {
	t.Helper()
	if out := g.Out(from); !slices.Equal(out, want) {
		t.Errorf("Out(%d) = %v, want %v", from, out, want)
	}
}

// free fails unless Free answers what is wanted.
func free(t *testing.T, g *graph.Graph, want bool) {
	t.Helper()
	if g.Free() != want {
		t.Errorf("Free = %t, want %t", !want, want)
	}
}

func TestExampleOfTheChapter(t *testing.T) {
	g := of(link{1, 2}, link{2, 3}, link{3, 1}, link{2, 1})
	goes(t, g, 1, 1, 2)
	goes(t, g, 3, 3, 1, 2)
	goes(t, g, 2, 2, 1)
	free(t, g, false)
}

func TestNew(t *testing.T) {
	g := graph.New()
	for _, n := range []uint64{0, 1, math.MaxUint64} {
		waits(t, g, n)
		goes(t, g, n)
	}
	free(t, g, true)
	g.Cut()
	g.Cut(0, 1, math.MaxUint64)
	free(t, g, true)
	g.Link(1, 1)
	goes(t, graph.New(), 1)
}

func TestLink(t *testing.T) {
	g := graph.New()
	g.Link(5)
	waits(t, g, 5)
	g.Link(5, 9, 0, math.MaxUint64, 9, 7)
	g.Link(5, 7, 8)
	g.Link(5)
	waits(t, g, 5, 0, 7, 8, 9, math.MaxUint64)
	for _, n := range []uint64{0, 7, 8, 9, math.MaxUint64} {
		waits(t, g, n)
		goes(t, g, n)
	}
	goes(t, g, 5)
	free(t, g, true)
}

func TestCut(t *testing.T) {
	full := func() *graph.Graph {
		g := graph.New()
		for n := range uint64(4) {
			g.Link(n, 0, 1, 2, 3)
		}
		return g
	}
	g := full()
	g.Cut()
	g.Cut(4, 9)
	for n := range uint64(4) {
		waits(t, g, n, 0, 1, 2, 3)
	}
	g.Cut(2)
	waits(t, g, 2)
	waits(t, g, 0, 0, 1, 3)
	waits(t, g, 3, 0, 1, 3)
	goes(t, g, 2)
	g.Link(2, 0)
	waits(t, g, 2, 0)
	waits(t, g, 0, 0, 1, 3)
	goes(t, g, 2)

	g = full()
	g.Cut(0, 3, 3, 7, 0)
	waits(t, g, 0)
	waits(t, g, 1, 1, 2)
	waits(t, g, 2, 1, 2)
	waits(t, g, 3)
	free(t, g, false)
	g.Cut(1, 2)
	for n := range uint64(4) {
		waits(t, g, n)
	}
	free(t, g, true)
}

// Only one that is cut breaks a ring.
func TestCutBreaksRings(t *testing.T) {
	for n := uint64(1); n <= 3; n++ {
		g := of(link{1, 2}, link{2, 3}, link{3, 1}, link{1, 4}, link{5, 1})
		g.Cut(4, 5)
		free(t, g, false)
		g.Cut(n)
		free(t, g, true)
		for at := uint64(1); at <= 5; at++ {
			goes(t, g, at)
		}
	}
}

func TestCycle(t *testing.T) {
	cases := []struct {
		what  string
		links []link
		at    uint64
		want  []uint64
	}{
		{"itself", []link{{1, 1}}, 1, []uint64{1}},
		{"itself, and a longer way", []link{{1, 0}, {0, 1}, {1, 1}}, 1, []uint64{1}},
		{"another one waits for itself", []link{{1, 2}, {2, 2}}, 1, nil},
		{"node 0", []link{{0, 5}, {5, 0}}, 0, []uint64{0, 5}},
		{"the greatest", []link{{0, math.MaxUint64}, {math.MaxUint64, 0}}, math.MaxUint64, []uint64{math.MaxUint64, 0}},
		{"a ring behind it", []link{{1, 2}, {2, 3}, {3, 2}}, 1, nil},
		{"a ring ahead of it", []link{{2, 3}, {3, 2}, {3, 1}}, 1, nil},
		{"a shorter one through a greater node", []link{{1, 2}, {2, 3}, {3, 1}, {1, 9}, {9, 1}}, 1, []uint64{1, 9}},
		{"the second node decides", []link{{1, 3}, {3, 2}, {2, 1}, {1, 2}, {2, 4}, {4, 1}, {2, 9}}, 3, []uint64{3, 2, 1}},
		{"the second node, not the third", []link{{5, 2}, {2, 9}, {9, 5}, {5, 3}, {3, 1}, {1, 5}}, 5, []uint64{5, 2, 9}},
		{"the third node", []link{{5, 2}, {2, 9}, {9, 5}, {2, 8}, {8, 5}, {2, 1}}, 5, []uint64{5, 2, 8}},
		{"the fourth node", []link{{5, 2}, {2, 3}, {3, 9}, {3, 7}, {3, 8}, {9, 5}, {8, 5}, {2, 4}, {4, 1}, {1, 5}, {7, 6}, {6, 5}}, 5, []uint64{5, 2, 3, 8}},
		{"two ways to one node", []link{{9, 1}, {9, 2}, {1, 4}, {2, 3}, {3, 9}, {4, 9}, {2, 4}}, 9, []uint64{9, 1, 4}},
	}
	for _, c := range cases {
		t.Run(c.what, func(t *testing.T) {
			goes(t, of(c.links...), c.at, c.want...)
			slices.Reverse(c.links)
			goes(t, of(c.links...), c.at, c.want...)
		})
	}
}

func TestFree(t *testing.T) {
	cases := []struct {
		what  string
		links []link
		want  bool
	}{
		{"none", nil, true},
		{"one", []link{{1, 2}}, true},
		{"a row", []link{{1, 2}, {2, 3}, {3, 4}}, true},
		{"a diamond", []link{{1, 2}, {1, 3}, {2, 4}, {3, 4}}, true},
		{"two rows that meet", []link{{1, 3}, {2, 3}, {3, 0}, {1, 0}}, true},
		{"itself", []link{{1, 1}}, false},
		{"two", []link{{1, 2}, {2, 1}}, false},
		{"a ring far off", []link{{1, 2}, {5, 6}, {6, 7}, {7, 5}}, false},
		{"a ring that is come to", []link{{1, 2}, {2, 3}, {3, 4}, {4, 3}}, false},
		{"a ring that is gone from", []link{{3, 4}, {4, 3}, {3, 2}, {2, 1}}, false},
		{"a ring of 0", []link{{0, 1}, {1, 0}}, false},
	}
	for _, c := range cases {
		t.Run(c.what, func(t *testing.T) { free(t, of(c.links...), c.want) })
	}
}

// A long way is neither too deep nor too slow.
func TestLongRing(t *testing.T) {
	const size = 50000
	g := graph.New()
	var want []uint64
	for n := range uint64(size) {
		g.Link(n, n+1)
		want = append(want, n)
	}
	goes(t, g, 0)
	free(t, g, true)
	g.Link(size, 0)
	goes(t, g, 0, append(want, size)...)
	free(t, g, false)
	g.Cut(size / 2)
	goes(t, g, 0)
	free(t, g, true)
}

func TestNilGraph(t *testing.T) {
	var g *graph.Graph
	g.Link(1, 1)
	g.Cut(1)
	g.Cut()
	waits(t, g, 1)
	goes(t, g, 1)
	goes(t, g, 0)
	free(t, g, true)
}

// What is handed in is neither changed nor kept, and no answer is handed out twice.
func TestMemory(t *testing.T) {
	g := graph.New()
	to := []uint64{3, 2, 77, 99}
	g.Link(1, to[:2]...)
	g.Link(3, 1)
	cut := []uint64{8, 7, 99}
	g.Cut(cut[:2]...)
	if !slices.Equal(to, []uint64{3, 2, 77, 99}) || !slices.Equal(cut, []uint64{8, 7, 99}) {
		t.Errorf("an argument has changed: %v, %v", to, cut)
	}
	to[0], to[1] = 50, 60
	for range 2 {
		out := g.Out(1)
		c, _ := g.Cycle(1)
		waits(t, g, 1, 2, 3)
		goes(t, g, 1, 1, 3)
		spoil(out)
		spoil(c)
	}
	waits(t, g, 1, 2, 3)
	goes(t, g, 1, 1, 3)
}

// spoil writes over a list and its spare room.
func spoil(l []uint64) {
	l = l[:cap(l)]
	for i := range l {
		l[i] = 1000 + uint64(i)
	}
}

// plain is a graph as a table of what is linked to what.
type plain [6][6]bool

// best answers the least of the shortest ways from the path's end back to its beginning, by trying all.
func (p *plain) best(path []uint64) []uint64 {
	var found []uint64
	end := path[len(path)-1]
	for to := range uint64(len(p)) {
		var way []uint64
		if !p[end][to] {
			continue
		}
		if to == path[0] {
			way = slices.Clone(path)
		} else if !slices.Contains(path, to) {
			way = p.best(append(slices.Clone(path), to))
		}
		if way != nil && (found == nil || len(way) < len(found) || len(way) == len(found) && slices.Compare(way, found) < 0) {
			found = way
		}
	}
	return found
}

func (p *plain) out(from uint64) []uint64 {
	var all []uint64
	for to, linked := range p[from] {
		if linked {
			all = append(all, uint64(to))
		}
	}
	return all
}

func (p *plain) cut(node uint64) {
	for n := range p {
		p[n][node], p[node][n] = false, false
	}
}

func TestRunsAgainstAPlainModel(t *testing.T) {
	for seed := range int64(150) {
		r := rand.New(rand.NewSource(seed))
		g := graph.New()
		p := &plain{}
		for range 40 {
			some := make([]uint64, r.Intn(3))
			for i := range some {
				some[i] = uint64(r.Intn(len(p)))
			}
			if r.Intn(4) == 0 {
				g.Cut(some...)
				for _, n := range some {
					p.cut(n)
				}
			} else {
				from := uint64(r.Intn(len(p)))
				g.Link(from, some...)
				for _, to := range some {
					p[from][to] = true
				}
			}
			rings := 0
			for n := range uint64(len(p)) {
				want := p.best([]uint64{n})
				rings += len(want)
				waits(t, g, n, p.out(n)...)
				goes(t, g, n, want...)
			}
			free(t, g, rings == 0)
			if t.Failed() {
				t.Fatal(fmt.Sprint("run ", seed))
			}
		}
	}
}
