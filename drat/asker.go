package drat

import (
	"fathom/api"
	"fathom/prop"
)

// asker asks whether clauses are at hand by units of others that come and go.
type asker struct {
	p *prop.Prop
	// spare is a variable that no clause has, see settle; 0: there is none.
	spare int
}

// newAsker is one of a formula, for the clauses of steps.
func newAsker(f api.Cnf, l []api.Step) *asker {
	top := 0
	for _, c := range f.Clauses {
		top = max(top, greatest(c))
	}
	for _, s := range l {
		top = max(top, greatest(s.Lits))
	}
	a := &asker{}
	if top < api.MaxVar {
		top++
		a.spare = top
	}
	a.p, _ = prop.New(api.Cnf{Vars: top, Clauses: f.Clauses})
	return a
}

// add puts a clause behind the others; false, if there is no room.
func (a *asker) add(c []int) bool {
	_, e := a.p.Add(c)
	return e == api.OK
}

// drop takes the clause of a number out, if there is one.
func (a *asker) drop(n int) {
	if a.p.Drop(n) == api.ErrBad {
		// It is a reason of what was settled: the next question settles that anew, without it.
		a.p.Back(0)
		a.p.Drop(n)
	}
}

// isAtHand tells whether a clause is at hand by units.
func (a *asker) isAtHand(c []int) bool {
	a.settle()
	defer a.p.Back(a.p.Levels())
	for _, l := range c {
		switch a.p.Value(l) {
		case 1:
			// Its negation was decided ahead, and they are a tautology; or it follows, and its reason would be broken.
			return true
		case 0:
			a.p.Decide(-l)
		}
	}
	return a.p.Run() >= 0
}

// settle lets what follows without any question follow, so that not each question finds it anew. It does so above level 0: what is a reason there could never be dropped.
func (a *asker) settle() {
	if a.spare == 0 {
		return
	}
	if a.p.Levels() == 0 {
		a.p.Decide(a.spare)
	}
	a.p.Run()
}

// greatest is the greatest variable of a clause; 0, if it has none.
func greatest(c []int) int {
	top := 0
	for _, l := range c {
		top = max(top, l, -l)
	}
	return top
}
