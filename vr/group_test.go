package vr_test

import (
	"bytes"
	"fmt"
	"math/rand"
	"slices"
	"testing"

	"undercroft/api"
	"undercroft/vr"
)

// group is some replicas and the messages between them that are on their way.
type group struct {
	t       *testing.T
	nodes   []vr.State
	air     []vr.Msg
	history [][]byte // the longest that was ever committed
	asked   int
	met     map[string]int
}

func newGroup(t *testing.T, n int, draws func() []int, met map[string]int) *group {
	t.Helper()
	g := &group{t: t, met: met}
	for id := range n {
		s, err := vr.New(id, n, draws())
		if err != api.OK {
			t.Fatalf("New = %d", err)
		}
		g.nodes = append(g.nodes, s)
	}
	return g
}

// step lets an event happen to a replica, and looks at what follows.
func (g *group) step(id int, e vr.Event) api.Errno {
	g.t.Helper()
	before := g.nodes[id]
	after, told, err := vr.Step(before, e)
	if err != api.OK {
		if !none(after, told) {
			g.t.Fatalf("%s, %s: %s, %s, %s", brief(before), brief(e), brief(after), brief(told), errorName(err))
		}
		// Of replicas that keep to the words nothing but these is refused.
		if e.Kind != 3 || err != api.ErrState {
			g.t.Fatalf("%s, %s: %s", brief(before), brief(e), errorName(err))
		}
		return err
	}
	follows(g.t, before, after, e)
	g.nodes[id] = after
	g.air = append(g.air, told...)
	g.look(id)
	return api.OK
}

// follows holds what follows by a step to P19.3.
func follows(t *testing.T, before, after vr.State, e vr.Event) {
	t.Helper()
	if err := vr.Check(after); err != api.OK {
		t.Fatalf("%s, %s: %s may not be", brief(before), brief(e), brief(after))
	}
	if after.View < before.View || after.Last < before.Last || after.Commit < before.Commit {
		t.Fatalf("%s, %s: %s goes down", brief(before), brief(e), brief(after))
	}
	if !sameLog(after.Log[:before.Commit], before.Log[:before.Commit]) {
		t.Fatalf("%s, %s: %s: what was committed is gone", brief(before), brief(e), brief(after))
	}
}

// look holds what a replica has committed to the one history.
func (g *group) look(id int) {
	g.t.Helper()
	s := g.nodes[id]
	n := min(s.Commit, len(g.history))
	if !sameLog(s.Log[:n], g.history[:n]) {
		g.t.Fatalf("%s: the history is %s", brief(s), brief(g.history))
	}
	if s.Commit > n {
		g.history = cloneLog(s.Log[:s.Commit])
	}
}

// deliver lets the k-th message arrive.
func (g *group) deliver(k int) {
	g.t.Helper()
	m := g.air[k]
	g.air = slices.Delete(g.air, k, k+1)
	g.met[fmt.Sprint("kind ", m.Kind)]++
	g.step(m.To, hear(m))
}

func (g *group) ask(id int) {
	g.t.Helper()
	g.asked++
	if g.step(id, ask(fmt.Sprint("request ", g.asked))) == api.OK {
		g.met["asked"]++
	}
}

func (g *group) restart(id int) {
	g.t.Helper()
	s, err := vr.Restart(g.nodes[id])
	if err != api.OK {
		g.t.Fatalf("%s: Restart = %s", brief(g.nodes[id]), errorName(err))
	}
	follows(g.t, g.nodes[id], s, vr.Event{})
	g.nodes[id] = s
	g.met["restarted"]++
}

// play is one step by chance. Messages are lost, doubled and overtaken; those that sleep neither tick nor hear.
func (g *group) play(chance *rand.Rand, asleep []bool) {
	g.t.Helper()
	id := chance.Intn(len(g.nodes))
	switch what := chance.Intn(200); {
	case what < 2:
		g.restart(id)
	case what < 4:
		asleep[id] = !asleep[id]
	case what < 6:
		clear(asleep)
	case what < 16:
		g.ask(id)
	case what < 80:
		if !asleep[id] {
			g.step(id, tick())
		}
	case len(g.air) == 0:
		return
	case what < 194:
		k := 0
		if chance.Intn(6) == 0 {
			k = chance.Intn(len(g.air))
		}
		if m := g.air[k]; asleep[m.To] || asleep[m.From] && chance.Intn(2) == 0 {
			g.air = slices.Delete(g.air, k, k+1)
			return
		}
		g.deliver(k)
	case what < 198:
		g.air = slices.Delete(g.air, 0, 1)
	default:
		g.air = append(g.air, g.air[chance.Intn(len(g.air))])
	}
	if len(g.air) > 60 {
		g.air = slices.Delete(g.air, 0, 20)
	}
}

// agree tells whether all are normal in one view, with one log, of which all is committed.
func (g *group) agree() bool {
	first := g.nodes[0]
	return !slices.ContainsFunc(g.nodes, func(s vr.State) bool {
		return s.Status != 0 || s.View != first.View || !sameLog(s.Log, first.Log) || s.Commit != len(s.Log)
	})
}

// settle lets fair rounds pass, till all agree; it tells how many.
func (g *group) settle(rounds int) int {
	g.t.Helper()
	for round := range rounds {
		if g.agree() {
			return round
		}
		for range len(g.air) {
			g.deliver(0)
		}
		for id := range g.nodes {
			g.step(id, tick())
		}
	}
	return rounds
}

// P19.3, and what is built on it: scripts on groups, by chance. What is committed anywhere is one history, and when all goes well again all have it.
func TestGroups(t *testing.T) {
	met := map[string]int{}
	for seed := range 300 {
		chance := rand.New(rand.NewSource(int64(seed)))
		draws := func() []int {
			return slices.Repeat([]int{chance.Int(), -chance.Int()}, chance.Intn(20))
		}
		g := newGroup(t, 1+seed%6, draws, met)
		asleep := make([]bool, len(g.nodes))
		for range 3000 {
			if slices.ContainsFunc(g.nodes, func(s vr.State) bool { return len(s.Log) > 60 }) {
				break
			}
			g.play(chance, asleep)
		}
		was := cloneLog(g.history)
		if rounds := g.settle(2000); rounds == 2000 {
			t.Fatalf("seed %d: it does not settle: %s", seed, brief(g.nodes))
		}
		if len(g.history) < len(was) || !sameLog(g.history[:len(was)], was) {
			t.Fatalf("seed %d: %s, behind it %s", seed, brief(was), brief(g.history))
		}
		met["views"] += g.nodes[0].View
		met["committed"] += len(g.history)
		if g.nodes[0].View > 0 && len(g.history) > 0 {
			met["both"]++
		}
		once(t, g.history)
	}
	for _, name := range []string{"asked", "both", "kind 1", "kind 2", "kind 3", "kind 4", "kind 5", "kind 6", "kind 7", "restarted", "views", "committed"} {
		if met[name] < 100 {
			t.Errorf("%s: met only %d times", name, met[name])
		}
	}
}

// once holds a history to one of each request.
func once(t *testing.T, l [][]byte) {
	t.Helper()
	seen := map[string]int{}
	for _, entry := range l {
		seen[string(entry)]++
		if seen[string(entry)] > 1 {
			t.Fatalf("%s stands twice in %s", entry, bytes.Join(l, []byte(", ")))
		}
	}
}
