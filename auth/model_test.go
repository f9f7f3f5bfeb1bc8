package auth_test

import (
	"fmt"
	"math/rand"
	"testing"

	"strongroom/api"
	"strongroom/auth"
)

// model is a Gate as the chapter's words say it one by one, with a reading of its own.
type model struct {
	users           []api.User
	asked, in, dead bool
	name            string
	tries           int
}

// cutText parts a Text of 64 bytes at most from what stands behind it.
func cutText(s string) (string, string, bool) {
	if len(s) < 4 || s[:3] != "\x00\x00\x00" || s[3] > 64 || len(s) < 4+int(s[3]) {
		return "", "", false
	}
	end := 4 + int(s[3])
	return s[4:end], s[end:], true
}

func (m *model) end(bye string) []string {
	m.dead = true
	return []string{bye}
}

func (m *model) do(payload string) []string {
	if m.dead || payload == "" {
		return nil
	}
	kind, rest := payload[0], payload[1:]
	switch {
	case kind == 1:
		m.dead = true
		return nil
	case kind >= 2 && kind <= 4:
		return nil
	case kind == 5 && !m.asked:
		return m.service(rest)
	case kind == 50 && m.asked:
		return m.login(rest)
	}
	return m.end(bye2)
}

func (m *model) service(rest string) []string {
	name, rest, ok := cutText(rest)
	if !ok || rest != "" {
		return m.end(bye2)
	}
	if name != "ssh-userauth" {
		return m.end(bye7)
	}
	m.asked = true
	return []string{accepts}
}

func (m *model) login(rest string) []string {
	var texts [3]string
	for i := range texts {
		var ok bool
		if texts[i], rest, ok = cutText(rest); !ok {
			return m.end(bye2)
		}
	}
	if m.in {
		return nil
	}
	if texts[1] != "ssh-connection" {
		return m.end(bye7)
	}
	if texts[2] == "password" {
		if rest == "" || rest[0] != 0 {
			return m.end(bye2)
		}
		pass, more, ok := cutText(rest[1:])
		if !ok || more != "" {
			return m.end(bye2)
		}
		for _, u := range m.users {
			if u == (api.User{Name: texts[0], Pass: pass}) {
				m.in, m.name = true, texts[0]
				return []string{letsIn}
			}
		}
	}
	if m.tries++; m.tries == 5 {
		return m.end(bye14)
	}
	return []string{refuses}
}

func oneOf(r *rand.Rand, l ...string) string { return l[r.Intn(len(l))] }

// somePayload is a right one mostly, now and then with a byte changed, cut off, or with bytes behind it.
func somePayload(r *rand.Rand) string {
	var b []byte
	switch r.Intn(24) {
	case 0:
		b = []byte{byte(r.Intn(256))}
	case 1:
		b = []byte(oneOf(r, "", "\x02", "\x03x", "\x04", "\x02"))
	case 2, 3:
		b = []byte(service(oneOf(r, "ssh-userauth", "ssh-userauth", "ssh-userauth", "ssh-connection", at64, at65)))
	default:
		name := oneOf(r, "ann", "ann", "bob", "two", "eve", at64, at65, "")
		second := oneOf(r, "ssh-connection", "ssh-connection", "ssh-connection", "ssh-connection", "ssh-connection", "ssh-connection", "ssh-userauth", at65)
		method := oneOf(r, "password", "password", "password", "none", "publickey", at64, at65)
		rest := oneOf(r, "\x00", "\x00", "\x00", "\x00", "\x00", "\x00", "\x00", "\x01") + text(oneOf(r, "one", "", "first", "second", at64, at65, "no"))
		b = []byte(login(name, second, method, rest))
	}
	switch r.Intn(20) {
	case 0:
		if len(b) > 0 {
			b[r.Intn(len(b))] ^= byte(1 << r.Intn(8))
		}
	case 1:
		b = b[:r.Intn(len(b)+1)]
	case 2:
		b = append(b, byte(r.Intn(3)))
	}
	return string(b)
}

// TestModel: many talks; most of them begin with the service, or they would seldom come far.
func TestModel(t *testing.T) {
	seen := map[string]int{}
	for round := range 60000 {
		r := rand.New(rand.NewSource(int64(round)))
		users := people()[:r.Intn(len(people())+1)]
		g, m := auth.New(users), &model{users: users}
		for step := range 14 {
			payload := somePayload(r)
			if step == 0 && r.Intn(10) > 0 {
				payload = asks
			}
			got, want := g.Do([]byte(payload)), m.do(payload)
			name, in := g.User()
			if fmt.Sprintf("%x", got) != fmt.Sprintf("%x", want) || name != m.name || in != m.in || g.Dead() != m.dead {
				t.Fatalf("P11.1, P11.2: round %d, step %d: Do(%x): %x, %q, %v, %v; want %x, %q, %v, %v", round, step, payload, got, name, in, g.Dead(), want, m.name, m.in, m.dead)
			}
			for _, answer := range want {
				seen[answer]++
			}
		}
	}
	for _, answer := range []string{accepts, refuses, letsIn, bye2, bye7, bye14} {
		if seen[answer] < 100 {
			t.Errorf("the talks lead to %x %d times: too seldom", answer, seen[answer])
		}
	}
}
