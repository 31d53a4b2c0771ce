package ballot

import (
	"fmt"
	"math/rand"
	"reflect"
	"slices"
	"testing"

	"commonhold/api"
)

// roomy: a copy with others behind it, in its spare room.
func roomy(l []api.Turn) []api.Turn {
	return slices.Concat(l, turns(ask(77, 7), hand(0), hand(1)))[:len(l)]
}

// whole: turns with all that their list has, spare room too, as a text.
func whole(l []api.Turn) string { return fmt.Sprint(l == nil, len(l), l[:cap(l)]) }

// apart: whether two lists have no memory in common, their spare room counted.
func apart[A, B any](a []A, b []B) bool {
	lowA, highA := bounds(a)
	lowB, highB := bounds(b)
	return lowA == highA || lowB == highB || highA <= lowB || highB <= lowA
}

// bounds: where the memory of a list begins and ends.
func bounds[T any](l []T) (uintptr, uintptr) {
	v := reflect.ValueOf(l)
	return v.Pointer(), v.Pointer() + uintptr(v.Cap())*v.Type().Elem().Size()
}

// The checks themselves find what they are there for.
func TestChecks(t *testing.T) {
	l, o := roomy(asks(3)), outcomes(sent(1), sent(2), sent(3))
	if !apart(l, o) || !apart(l, slices.Clone(l)) || !apart(l[:0:0], l) || !apart(o[:1:1], o[1:]) {
		t.Error("memory is shared where none is")
	}
	if apart(l, l) || apart(o, o[2:]) || apart(o[:1], o[1:]) || apart(l[:4][3:], l) || apart(o[:0], o) {
		t.Error("no memory is shared where some is")
	}
	for i, change := range []func(){
		func() { l[0].Kind++ }, func() { l[1].Who++ }, func() { l[2].Round++ }, func() { l[0].Value++ }, func() { l[:4][3].Who++ }, func() { l[:6][5].Kind++ }, func() { l = l[:2] }, func() { l = l[:2:2] },
	} {
		was := whole(l)
		if change(); whole(l) == was {
			t.Errorf("change %d: all is as it was", i)
		}
	}
	if whole(nil) == whole([]api.Turn{}) {
		t.Error("lists are told as one that are not")
	}
}

// checkShares: that a play leaves what was handed in as it was, and that its answers share nothing.
func checkShares(t *testing.T, voters int, l []api.Turn) {
	t.Helper()
	l = roomy(l)
	was := whole(l)
	first, _ := Play(voters, l)
	again, _ := Play(voters, l)
	if whole(l) != was {
		t.Fatalf("Play(%d, %s): what was handed in is changed", voters, brief(l))
	}
	if !apart(first, again) || !apart(first, l) || !apart(again, l) {
		t.Fatalf("Play(%d, %s): memory is shared", voters, brief(l))
	}
}

// P21.1: what is handed in stays as it is, and what comes out is new.
func TestShares(t *testing.T) {
	for voters := -1; voters <= api.MaxVoters+1; voters++ {
		checkShares(t, voters, nil)
		checkShares(t, voters, turns(ask(1, 5), ask(1, 5), hand(0), hand(1), lose(0), halt(1), api.Turn{}))
		checkShares(t, voters, asks(api.MaxPlay))
		checkShares(t, voters, asks(api.MaxPlay+1))
	}
	random := rand.New(rand.NewSource(213))
	for i := range 1000 {
		voters := 1 + i%api.MaxVoters
		checkShares(t, voters, randomTurns(random, voters, 12, 1+random.Intn(60)))
	}
}

// What was answered stays when what was handed in is written over, and the other way round.
func TestAnswersStay(t *testing.T) {
	random := rand.New(rand.NewSource(214))
	for i := range 500 {
		voters := 1 + i%api.MaxVoters
		l := roomy(randomTurns(random, voters, 12, 60))
		want := modelPlay(voters, l)
		first, _ := Play(voters, l)
		clear(first[:cap(first)])
		again, _ := Play(voters, l)
		clear(l[:cap(l)])
		if !slices.Equal(again, want) {
			t.Errorf("what was answered of %d voters is changed: %s; want %s", voters, brief(again), brief(want))
		}
	}
}
