package auth_test

import (
	"strings"
	"testing"
)

// rightOnes are those that let a user in.
func rightOnes() []struct{ payload, user string } {
	return []struct{ payload, user string }{
		{annComes, "ann"},
		{password("ann", "one"), "ann"},
		{password("bob", ""), "bob"},
		{password(at64, at64), at64},
		{password("two", "first"), "two"},
		{password("two", "second"), "two"},
		{password("", "nobody"), ""},
		{password("a\x00\xff", "\xfe\x00,\n"), "a\x00\xff"},
	}
}

func TestLogin(t *testing.T) {
	for _, p := range outside() {
		for _, c := range rightOnes() {
			p.mustLetIn(t, c.payload, c.user)
		}
	}
}

// wrongTries have a wrong name, a wrong pass, a right pass of another user, or another method.
func wrongTries() []string {
	tries := []string{
		password("eve", "one"), password("", ""), password("an", "one"), password("ann ", "one"), password("ann\x00", "one"), password("Ann", "one"), password("bnn", "one"),
		password("ann", ""), password("ann", "on"), password("ann", "one "), password("ann", "ones"), password("ann", "One"), password("ann", "ond"), password("ann", "nne"), password("ann", "\x00\x00\x00"),
		password("bob", "one"), password("ann", "first"), password("ann", "nobody"), password("", "one"), password("two", "one"), password("two", "third"), password("two", "firstsecond"),
		password("one", "ann"), password("bob", "bob"), password("bob", "\x00"), password(at64, "x"), password("ann", at64), password(at64, strings.Repeat("x", 63)),
		password(strings.Repeat("x", 63), at64), password("a", "\xfe\x00,\n"), password("long", at64),
	}
	for _, method := range []string{"none", "publickey", "hostbased", "keyboard-interactive", "", "Password", "passwor", "password ", "assword", "password,password", "\xff\x00", at64} {
		for _, rest := range []string{"", "\x00", "\x01", "\x00" + text("one"), "\x01" + text("one"), "\x00" + text("one") + "x", text(at65), "\xff\xff\xff\xff", strings.Repeat("y", 30000)} {
			tries = append(tries, login("ann", "ssh-connection", method, rest))
		}
	}
	return tries
}

func TestWrongTries(t *testing.T) {
	for _, p := range outside() {
		for _, payload := range wrongTries() {
			p.mustCount(t, payload)
		}
	}
}

// otherSeconds are second Texts that are not the right one.
func otherSeconds() []string {
	return []string{"", "ssh-connectio", "ssh-connection ", "ssh-connection\x00", "SSH-connection", "sh-connection", "ssh-connectiom", "ssh-userauth", "password", "\xff", strings.Repeat("x", 63), at64}
}

// rests are what may stand behind three Texts: those of a right password, of a wrong one, and of none.
func rests() []string {
	return []string{"\x00" + text("one"), "\x00" + text("no"), "\x01" + text("one"), "\x00" + text("one") + "x", "\x00" + text(at65), "\x00", "", "y", "\xff\xff\xff\xff\xff"}
}

// TestOtherSecondText: it is looked at ahead of the method, and of a password's rest.
func TestOtherSecondText(t *testing.T) {
	for _, p := range outside() {
		for _, second := range otherSeconds() {
			for _, method := range []string{"password", "none", "", at64} {
				for _, rest := range rests() {
					p.mustEnd(t, login("ann", second, method, rest), bye7)
					p.mustEnd(t, login("eve", second, method, rest), bye7)
				}
			}
		}
	}
}

// wrongRests are what stands behind the method password and is not so, of a right pass and of wrong ones.
func wrongRests() []string {
	wrong := []string{
		"\x00" + text(at65), "\x00" + text(strings.Repeat("x", 1000)), "\x00" + text(strings.Repeat("x", 70000)),
		"\x00" + text("one") + "\x00", "\x00" + text("one") + text("two"), "\x00" + text("") + "\x00", "\x00" + text("no") + "x", "\x00" + text(at64) + "x",
		"\x00\xff\xff\xff\xffone", "\x00\x80\x00\x00\x03one", "\x00\x00\x00\x00\x04one", "\x00\x00\x00\x00\x02one", "\x00\x03\x00\x00\x00one", "\x00one", text("one"),
	}
	for _, pass := range []string{"one", "no", "", at64} {
		right := "\x00" + text(pass)
		for n := range len(right) {
			wrong = append(wrong, right[:n])
		}
		for _, changes := range []string{"\x01", "\x02", "\x07", "\x80", "\xff"} {
			wrong = append(wrong, changes+text(pass), changes+text(pass)+text("another"))
		}
	}
	return wrong
}

// TestRestOfPassword: it is no try, wherever in a row of tries it stands.
func TestRestOfPassword(t *testing.T) {
	for _, p := range outside() {
		for _, rest := range wrongRests() {
			for _, name := range []string{"ann", "bob", "eve", "", at64} {
				p.mustEnd(t, login(name, "ssh-connection", "password", rest), bye2)
			}
		}
	}
}

// wrongTexts are 50s whose three Texts are not so.
func wrongTexts() []string {
	pass := "\x00" + text("one")
	wrong := []string{
		login(at65, "ssh-connection", "password", "\x00"+text("long")),
		login(at65, "ssh-connection", "none", ""),
		login("ann", at65, "password", pass),
		login("ann", "ssh-connection"+strings.Repeat(" ", 51), "none", ""),
		login("ann", "ssh-connection", at65, ""),
		login("ann", "ssh-connection", at65, pass),
		login("ann", "ssh-other", at65, ""),
		login(at65, "ssh-other", "none", ""),
		login(strings.Repeat("x", 70000), "ssh-connection", "password", pass),
		"\x32\xff\xff\xff\xffann" + text("ssh-connection") + text("password") + pass,
		"\x32" + text("ann") + "\xff\xff\xff\xffssh-connection" + text("password") + pass,
		"\x32" + text("ann") + text("ssh-connection") + "\xff\xff\xff\xffpassword" + pass,
		"\x32" + text("ann") + text("ssh-connection") + "\x00\x00\x00\x20password" + pass,
		"\x32ann",
	}
	for _, right := range []string{
		login("ann", "ssh-connection", "password", ""), login("ann", "ssh-connection", "none", ""), login(at64, "ssh-connection", at64, ""),
		login("ann", "ssh-other", "password", ""), login("", "", "", ""), login("eve", at64, "none", ""),
	} {
		for n := 1; n < len(right); n++ {
			wrong = append(wrong, right[:n])
		}
	}
	return wrong
}

func TestThreeTexts(t *testing.T) {
	for _, p := range append(outside(), inside()...) {
		for _, payload := range wrongTexts() {
			p.mustEnd(t, payload, bye2)
		}
	}
}

// TestLoginAheadOfService: whatever it holds.
func TestLoginAheadOfService(t *testing.T) {
	p := place{name: ahead}
	for _, c := range rightOnes() {
		p.mustEnd(t, c.payload, bye2)
	}
	for _, payload := range append(wrongTries(), wrongTexts()...) {
		p.mustEnd(t, payload, bye2)
	}
	for _, second := range otherSeconds() {
		p.mustEnd(t, login("ann", second, "password", "\x00"+text("one")), bye2)
	}
	for _, rest := range wrongRests() {
		p.mustEnd(t, login("ann", "ssh-connection", "password", rest), bye2)
	}
}

// TestLoginWithUserIn: three Texts are enough then; whoever is in stays in.
func TestLoginWithUserIn(t *testing.T) {
	for _, p := range inside() {
		for _, c := range rightOnes() {
			p.mustPass(t, c.payload)
		}
		for _, payload := range wrongTries() {
			p.mustPass(t, payload)
		}
		for _, second := range otherSeconds() {
			for _, rest := range rests() {
				p.mustPass(t, login("bob", second, "password", rest))
				p.mustPass(t, login("bob", second, at64, rest))
			}
		}
		for _, rest := range wrongRests() {
			p.mustPass(t, login("bob", "ssh-connection", "password", rest))
		}
	}
}

// TestNoTriesWithUserIn: wrong ones are not counted any more.
func TestNoTriesWithUserIn(t *testing.T) {
	for _, p := range inside() {
		g := p.gate(t)
		for _, payload := range wrongTries() {
			mustAnswer(t, p.name, g, payload)
		}
		mustTell(t, p.name+", behind many wrong tries", g, p)
	}
}

// TestTries: there may be as many wrong ones as there are ahead of MaxTries, of whatever kinds, and what is passed by stands between them.
func TestTries(t *testing.T) {
	wrong := []string{password("ann", "no"), password("eve", "one"), login("ann", "ssh-connection", "none", ""), login("", "ssh-connection", at64, "rest"), password("bob", "one")}
	for first := range wrong {
		for _, between := range []string{"", "\x02", "\x03", "\x04" + annComes} {
			g := place{name: behind, payloads: []string{asks}}.gate(t)
			for n := range 4 {
				mustAnswer(t, "tries", g, wrong[(first+n)%5], refuses)
				mustAnswer(t, "tries", g, between)
				mustTell(t, "tries", g, place{})
			}
			mustAnswer(t, "the fifth try", g, wrong[(first+4)%5], bye14)
			mustTell(t, "the fifth try", g, place{dead: true})
			mustAnswer(t, "behind the fifth try", g, annComes)
			mustTell(t, "behind the fifth try", g, place{dead: true})
		}
	}
}
