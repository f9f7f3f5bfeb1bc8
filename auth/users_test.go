package auth_test

import (
	"testing"

	"strongroom/api"
	"strongroom/auth"
)

func TestNewOfNoUsers(t *testing.T) {
	for _, l := range [][]api.User{nil, {}, people()[:0]} {
		for _, payload := range []string{annComes, password("", ""), password("bob", ""), login("", "ssh-connection", "none", "")} {
			g := auth.New(l)
			mustTell(t, "no users", g, place{})
			mustAnswer(t, "no users", g, asks, accepts)
			for range 4 {
				mustAnswer(t, "no users", g, payload, refuses)
				mustTell(t, "no users", g, place{})
			}
			mustAnswer(t, "no users", g, payload, bye14)
			mustTell(t, "no users", g, place{dead: true})
		}
	}
}

// TestNewOfSameNames: each of two users of the same name has its own pass.
func TestNewOfSameNames(t *testing.T) {
	for _, l := range [][]api.User{
		{{Name: "ann", Pass: "one"}, {Name: "ann", Pass: "two"}},
		{{Name: "ann", Pass: "two"}, {Name: "ann", Pass: "one"}},
		{{Name: "ann", Pass: "one"}, {Name: "bob", Pass: "three"}, {Name: "ann", Pass: "two"}, {Name: "ann", Pass: "one"}},
	} {
		for _, c := range []struct{ pass, want string }{{"one", letsIn}, {"two", letsIn}, {"three", refuses}, {"onetwo", refuses}, {"", refuses}} {
			g := auth.New(l)
			mustAnswer(t, "two of the same name", g, asks, accepts)
			mustAnswer(t, "two of the same name", g, password("ann", c.pass), c.want)
			want := place{}
			if c.want == letsIn {
				want = place{user: "ann", in: true}
			}
			mustTell(t, "two of the same name, "+c.pass, g, want)
		}
	}
}

// TestNewOfSamePass: a pass that two have tells nothing of who comes.
func TestNewOfSamePass(t *testing.T) {
	l := []api.User{{Name: "ann", Pass: "one"}, {Name: "bob", Pass: "one"}}
	for _, name := range []string{"ann", "bob"} {
		g := auth.New(l)
		mustAnswer(t, "the same pass", g, asks, accepts)
		mustAnswer(t, "the same pass", g, password(name, "one"), letsIn)
		mustTell(t, "the same pass", g, place{user: name, in: true})
	}
}

// TestGatesApart: what is done at one Gate is not told by another, of the same users.
func TestGatesApart(t *testing.T) {
	l := people()
	one, two, three := auth.New(l), auth.New(l), auth.New(l)
	mustAnswer(t, "one", one, asks, accepts)
	mustAnswer(t, "one", one, annComes, letsIn)
	mustAnswer(t, "two", two, annComes, bye2)
	mustTell(t, "three", three, place{})
	mustAnswer(t, "three", three, asks, accepts)
	mustAnswer(t, "three", three, password("bob", ""), letsIn)
	mustTell(t, "one", one, place{user: "ann", in: true})
	mustTell(t, "two", two, place{dead: true})
	mustTell(t, "three", three, place{user: "bob", in: true})
}
