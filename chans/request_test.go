package chans_test

import (
	"testing"

	"strongroom/chans"
)

func TestRequestStarts(t *testing.T) {
	for _, want := range []string{"\x00", "\x01", "\x02", "\x07", "\x80", "\xff"} {
		for ch := range uint32(4) {
			m := after(session(20, 1, 1), session(21, 1, 1), session(22, 1, 1), session(23, 1, 1))
			var yes, no []string
			if want != "\x00" {
				yes, no = list(success(20+ch)), list(failure(20+ch))
			}
			mustDo(t, "the first time", m, starts(ch, want), yes, event(chans.Opened, int(ch)))
			for range 3 {
				mustDo(t, "once more", m, starts(ch, want), no)
			}
			place{}.mustTell(t, "98", m, false)
			mustDo(t, "another channel", m, starts((ch+1)%4, want), answersOf(want, (ch+1)%4), event(chans.Opened, int(ch+1)%4))
		}
	}
}

// answersOf is what a right 98 with that want is answered on a channel that the other end calls 20 and so many.
func answersOf(want string, ch uint32) []string {
	if want == "\x00" {
		return nil
	}
	return list(success(20 + ch))
}

// others are kinds and rests that start nothing.
func others() [][2]string {
	sftp := text("sftp")
	return [][2]string{
		{"subsystem", ""}, {"subsystem", text("")}, {"subsystem", text("ftp")}, {"subsystem", text("sftpd")}, {"subsystem", text("SFTP")}, {"subsystem", text("sftp\x00")}, {"subsystem", text(at64)}, {"subsystem", text(at65)},
		{"subsystem", sftp + "\x00"}, {"subsystem", sftp + sftp}, {"subsystem", "sftp"}, {"subsystem", sftp[:3]}, {"subsystem", sftp[:4]}, {"subsystem", sftp[:7]}, {"subsystem", "\x00" + sftp}, {"subsystem", "\xff\xff\xff\xffsftp"}, {"subsystem", many("\x00", 40000)},
		{"shell", ""}, {"shell", sftp}, {"exec", text("ls")}, {"sftp", sftp}, {"", ""}, {"", sftp}, {"Subsystem", sftp}, {"subsystem ", sftp}, {"subsyste", sftp}, {"subsystem\x00", sftp}, {"\xff\x00", "\xff"}, {at64, sftp},
	}
}

// TestRequestOfOthers: they are refused, and the one that is right may still come behind them.
func TestRequestOfOthers(t *testing.T) {
	for _, x := range others() {
		for _, m := range []*chans.Mux{after(open7), after(open7, ending(0))} {
			mustDo(t, "others", m, request(0, x[0], wants, x[1]), list(failure(7)))
			mustDo(t, "others", m, request(0, x[0], "\xff", x[1]), list(failure(7)))
			mustDo(t, "others", m, request(0, x[0], wantsNot, x[1]), nil)
			place{}.mustTell(t, "others", m, false)
			mustDo(t, "behind others", m, starts(0, wants), list(success(7)), event(chans.Opened, 0))
			mustDo(t, "others, behind Opened", m, request(0, x[0], wants, x[1]), list(failure(7)))
			mustDo(t, "others, behind Opened", m, request(0, x[0], wantsNot, x[1]), nil)
		}
	}
}

// TestRequestOpensNothingElse: what is refused doesn't let bytes by.
func TestRequestOpensNothingElse(t *testing.T) {
	for _, x := range others() {
		m := after(open7)
		mustDo(t, "others", m, request(0, x[0], wantsNot, x[1]), nil)
		mustDo(t, "94 behind others", m, data(0, "abc"), nil)
	}
}

func TestRequestThatIsNotSo(t *testing.T) {
	for _, p := range living()[1:6] {
		p.mustEnd(t, request(0, at65, wants, ""))
		p.mustEnd(t, request(0, at65, wantsNot, text("sftp")))
		p.mustEnd(t, "\x62"+u32(0)+"\xff\xff\xff\xffsubsystem\x01"+text("sftp"))
		head := len(request(0, "subsystem", wants, ""))
		for n := 1; n < head; n++ {
			p.mustEnd(t, starts(0, wants)[:n])
			p.mustEnd(t, starts(0, wantsNot)[:n])
		}
		p.mustEndCut(t, request(0, "shell", wants, ""))
	}
}

// TestRequestCutBehindWant: from want on it is a rest, and one that starts nothing.
func TestRequestCutBehindWant(t *testing.T) {
	whole := starts(0, wants)
	for n := len(request(0, "subsystem", wants, "")); n < len(whole); n++ {
		m := after(open7)
		mustDo(t, "cut off behind want", m, whole[:n], list(failure(7)))
		mustDo(t, "whole", m, whole, list(success(7)), event(chans.Opened, 0))
	}
}
