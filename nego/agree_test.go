package nego_test

import (
	"fmt"
	"math/rand"
	"slices"
	"strings"
	"testing"

	"strongroom/api"
	"strongroom/nego"
)

func TestChoose(t *testing.T) {
	for _, c := range []struct {
		client, server, name string
		want                 api.Errno
	}{
		{"a b", "c b", "b", api.OK},
		{"a", "b", "", api.ErrNone},
		{"", "", "", api.ErrNone},
		{"", "a", "", api.ErrNone},
		{"a", "", "", api.ErrNone},
		{"a", "a", "a", api.OK},
		{"a b", "b a", "a", api.OK},
		{"b a", "a b", "b", api.OK},
		{"x a b", "b a", "a", api.OK},
		{"x y b", "a b c", "b", api.OK},
		{"a b c", "c", "c", api.OK},
		{"c", "a b c", "c", api.OK},
		{"c b a", "a b c", "c", api.OK},
		{"a a b", "b b", "b", api.OK},
		{"a b a", "a", "a", api.OK},
		{"zlib none", "none zlib", "zlib", api.OK},
		// Names are the same as a whole, or not at all.
		{"none", "non", "", api.ErrNone},
		{"non", "none", "", api.ErrNone},
		{"None", "none", "", api.ErrNone},
		{"none,zlib", "none zlib", "", api.ErrNone},
		{"ne none", "none nones", "none", api.OK},
		{"a@x a", "a@y a", "a", api.OK},
	} {
		if name, why := nego.Choose(strings.Fields(c.client), strings.Fields(c.server)); name != c.name || why != c.want {
			t.Errorf("P9.2: Choose(%s, %s): %q, %v; want %q, %v", c.client, c.server, name, why, c.name, c.want)
		}
	}
}

// TestChooseOfAnyTexts: Choose does not ask whether names are right.
func TestChooseOfAnyTexts(t *testing.T) {
	if name, why := nego.Choose(nil, nil); name != "" || why != api.ErrNone {
		t.Errorf("P9.2: Choose(nil, nil): %q, %v", name, why)
	}
	long := strings.Repeat("x", 1<<16)
	for _, s := range []string{"", ",", "a,b", "\x00", "\xff\xfe", "\u00e9", long} {
		if name, why := nego.Choose([]string{"other", s}, []string{"a", "b", s}); name != s || why != api.OK {
			t.Errorf("P9.2: Choose of %.20q: %.20q, %v", s, name, why)
		}
		if name, why := nego.Choose([]string{s}, []string{s + "x", "x" + s}); name != "" || why != api.ErrNone {
			t.Errorf("P9.2: Choose of %.20q and longer ones: %.20q, %v", s, name, why)
		}
	}
}

// chosen is Choose another way: by what of the client is left when all that the server has not is taken out.
func chosen(client, server []string) (string, api.Errno) {
	left := slices.DeleteFunc(slices.Clone(client), func(name string) bool { return !slices.Contains(server, name) })
	if len(left) == 0 {
		return "", api.ErrNone
	}
	return left[0], api.OK
}

func TestChooseInAllOrders(t *testing.T) {
	letters := strings.Split("abcdefgh", "")
	r := rand.New(rand.NewSource(5))
	for range 20000 {
		var client, server []string
		for _, list := range []*[]string{&client, &server} {
			for range r.Intn(6) {
				*list = append(*list, letters[r.Intn(len(letters))])
			}
		}
		name, why := nego.Choose(client, server)
		wantName, want := chosen(client, server)
		if name != wantName || why != want {
			t.Errorf("P9.2: Choose(%q, %q): %q, %v; want %q, %v", client, server, name, why, wantName, want)
		}
	}
}

// TestChooseOfLongLists: the only one in common may stand anywhere.
func TestChooseOfLongLists(t *testing.T) {
	for _, at := range []int{0, 1, 250, 498, 499} {
		for _, other := range []int{0, 1, 250, 498, 499} {
			var client, server []string
			for i := range 500 {
				client, server = append(client, fmt.Sprint("c", i)), append(server, fmt.Sprint("s", i))
			}
			if name, why := nego.Choose(client, server); name != "" || why != api.ErrNone {
				t.Errorf("P9.2: Choose of long lists: %q, %v", name, why)
			}
			client[at], server[other] = "both", "both"
			if name, why := nego.Choose(client, server); name != "both" || why != api.OK {
				t.Errorf("P9.2: Choose of long lists, at %d and %d: %q, %v", at, other, name, why)
			}
		}
	}
}

func mustAgree(t *testing.T, client, server nego.Lists, want [8]string) {
	t.Helper()
	if got, why := nego.Agree(client, server); got != want || why != api.OK {
		t.Errorf("P9.2: Agree(%s, %s): %q, %v; want %q", show(client), show(server), got, why, want)
	}
}

func mustDisagree(t *testing.T, client, server nego.Lists) {
	t.Helper()
	if got, why := nego.Agree(client, server); got != [8]string{} || why != api.ErrNone {
		t.Errorf("P9.2: Agree(%s, %s): %q, %v", show(client), show(server), got, why)
	}
}

func TestAgreeOfOurs(t *testing.T) {
	ours := [8]string{"curve25519-sha256", "strongroom-mac", "chacha20-poly1305", "chacha20-poly1305", "none", "none", "none", "none"}
	mustAgree(t, nego.Ours(nil), nego.Ours(nil), ours)
	mustAgree(t, nego.Ours([]byte(someCookie)), nego.Ours([]byte("another")), ours)
	mustDisagree(t, openSSH(), nego.Ours(nil))
	mustDisagree(t, nego.Ours(nil), openSSH())
	mustDisagree(t, nego.Lists{}, nego.Lists{})
	mustDisagree(t, nego.Ours(nil), nego.Lists{})
	mustDisagree(t, nego.Lists{}, nego.Ours(nil))
}

// TestAgreeUnlikeInBothDirections: the chapter's second example: what goes one way may be of another name than what comes back.
func TestAgreeUnlikeInBothDirections(t *testing.T) {
	client := fields("", false, "k1 k2", "h", "c1 c2", "c2 c1", "m1 m2", "m2 m1", "none zlib", "zlib none")
	server := fields("", false, "k2 k1", "h", "c1 c2", "c1 c2", "m2 m1", "m2 m1", "zlib none", "zlib none")
	mustAgree(t, client, server, [8]string{"k1", "h", "c1", "c2", "m1", "m2", "none", "zlib"})
	mustAgree(t, server, client, [8]string{"k2", "h", "c1", "c1", "m2", "m2", "zlib", "zlib"})
	// Each list is held against its own: what both have elsewhere does not help.
	client = fields("", false, "k", "h", "c1", "c2", "m1", "m2", "z1", "z2")
	mustAgree(t, client, client, [8]string{"k", "h", "c1", "c2", "m1", "m2", "z1", "z2"})
	for i := 2; i < 8; i += 2 {
		turned := client
		turned.Names[i], turned.Names[i+1] = turned.Names[i+1], turned.Names[i]
		mustDisagree(t, client, turned)
	}
}

// TestAgreeWithout: each of the first eight must have one in common, and beside the refusal nothing of those ahead of it is told.
func TestAgreeWithout(t *testing.T) {
	for i := range 8 {
		for j := range 8 {
			for _, names := range [][]string{nil, {}, {"other"}, {"others", "other", ""}} {
				client, server := nego.Ours(nil), nego.Ours(nil)
				client.Names[i] = names
				mustDisagree(t, client, nego.Ours(nil))
				mustDisagree(t, nego.Ours(nil), client)
				server.Names[j] = names
				mustDisagree(t, nego.Ours(nil), server)
				if i != j {
					mustDisagree(t, client, server)
				}
			}
		}
	}
}

// TestAgreeOnTheRest: the last two lists, the cookies and what follows do not matter.
func TestAgreeOnTheRest(t *testing.T) {
	want := [8]string{"a", "b", "c", "d", "e", "f", "g", "h"}
	for _, last := range []string{"", "x", "y", "x y", ","} {
		for _, other := range []string{"", "x", "z"} {
			client := fields("one", true, "a", "b", "c", "d", "e", "f", "g", "h", last, other)
			server := fields(someCookie, false, "a", "b", "c", "d", "e", "f", "g", "h", other, last)
			mustAgree(t, client, server, want)
			mustAgree(t, server, client, want)
		}
	}
}

func TestAgreeIsChooseOfEach(t *testing.T) {
	letters := strings.Split("abcdefgh", "")
	r := rand.New(rand.NewSource(6))
	for range 20000 {
		var both [2]nego.Lists
		for k := range both {
			for i := range 10 {
				for range 1 + r.Intn(6) {
					both[k].Names[i] = append(both[k].Names[i], letters[r.Intn(len(letters))])
				}
			}
		}
		var wants [8]string
		want := api.OK
		for i := range wants {
			name, why := chosen(both[0].Names[i], both[1].Names[i])
			wants[i], want = name, max(want, why)
		}
		if want == api.OK {
			mustAgree(t, both[0], both[1], wants)
		} else {
			mustDisagree(t, both[0], both[1])
		}
	}
}
