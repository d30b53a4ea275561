package whole

import (
	"reflect"
	"slices"
	"testing"

	"hasp/api"
	"hasp/close"
	"hasp/desk"
	"hasp/join"
	"hasp/lean"
	"hasp/match"
	"hasp/norm"
	"hasp/order"
	"hasp/pairs"
	"hasp/rules"
	"hasp/sub"
	"hasp/term"
	"hasp/text"
	"hasp/unify"
)

func TestExamplesOfTerms(t *testing.T) { // 1 to 4
	one := read(t, "f(x,g(a))")
	if part, e := term.Part(one, 2); len(one) != 4 || !slices.Equal(part, read(t, "g(a)")) || e != api.OK {
		t.Errorf("1: %v, %v %d", one, part, e)
	}
	if got, e := sub.Apply(become(t, "x = g(y)", "y = x"), read(t, "f(x,y)")); !slices.Equal(got, read(t, "f(g(y),x)")) || e != api.OK {
		t.Errorf("2: %v %d", got, e)
	}
	if s, is, e := match.Fit(read(t, "f(x,g(y))"), read(t, "f(h(a),g(x))")); !reflect.DeepEqual(s, become(t, "x = h(a)", "y = x")) || !is || e != api.OK {
		t.Errorf("3: %v %v %d", s, is, e)
	}
	if s, is, e := unify.Meet(read(t, "f(x,g(y))"), read(t, "f(z,x)")); !reflect.DeepEqual(s, become(t, "x = g(y)", "z = g(y)")) || !is || e != api.OK {
		t.Errorf("4: %v %v %d", s, is, e)
	}
}

func TestExamplesOfRules(t *testing.T) { // 5 to 7
	if is, e := order.Above(rising, read(t, "f(f(x,y),z)"), read(t, "f(x,f(y,z))")); !is || e != api.OK {
		t.Errorf("5: %v %d", is, e)
	}
	one := read(t, "f(f(a,b),a)")
	if steps, e := rules.Steps(group(t), one); len(steps) != 2 || e != api.OK {
		t.Errorf("6: %v %d", steps, e)
	}
	if got, n, e := norm.Form(group(t), one); !slices.Equal(got, read(t, "f(b,a)")) || n != 2 || e != api.OK {
		t.Errorf("7: %v %d %d", got, n, e)
	}
}

func TestExamplesOfPairs(t *testing.T) { // 8 to 10
	if got, e := pairs.All(group(t)); len(got) != 3 || e != api.OK {
		t.Errorf("8: %v %d", got, e)
	}
	if is, e := join.All(group(t)); is || e != api.OK {
		t.Errorf("9: %v %d", is, e)
	}
	if l, n, e := close.Run(rising, []api.Pair{law(t, "g(g(x)) = x"), law(t, "g(a) = b")}); len(l) != 3 || n != 5 || e != api.OK {
		t.Errorf("10: %v %d %d", l, n, e)
	}
}

func TestExamplesOfTheRest(t *testing.T) { // 11 to 13
	if got, e := lean.All(group(t), read(t, "f(x,a)")); len(got) != 3 || e != api.OK {
		t.Errorf("11: %v %d", got, e)
	}
	if s, e := text.Show(api.Term{4, -1, 2, 0}); s != "f(x,g(a))" || len(s) != 9 || e != api.OK {
		t.Errorf("12: %q %d", s, e)
	}
	if got, e := desk.Play("say g(g(x)) = x\nsay g(a) = b\nclose\nform g(g(g(b)))\n"); got != "ok\nok\n3 5\na 2\n" || e != api.OK {
		t.Errorf("13: %q %d", got, e)
	}
}
