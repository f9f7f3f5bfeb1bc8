package path_test

import (
	"math/rand"
	"strings"
)

// eachText calls f with every text of at most that many bytes, all of them out of letters.
func eachText(letters string, most int, f func(string)) {
	texts := []string{""}
	for range most + 1 {
		var next []string
		for _, s := range texts {
			f(s)
			for i := range len(letters) {
				next = append(next, s+letters[i:i+1])
			}
		}
		texts = next
	}
}

// someText is a path that is mostly right; of some the length is around MaxPath.
func someText(r *rand.Rand) string {
	pieces := []string{"/", "/", ".", "..", "...", "a", "bc", "\xff", "\u00e9", longest}
	if r.Intn(8) == 0 {
		pieces = append(pieces, "\x00", tooLong)
	}
	most := r.Intn(40)
	if r.Intn(4) == 0 {
		most = 190 + r.Intn(15)
	}
	var b strings.Builder
	for b.Len() < most {
		b.WriteString(pieces[r.Intn(len(pieces))])
		if r.Intn(3) > 0 {
			b.WriteByte('/')
		}
	}
	if s := b.String(); r.Intn(2) == 0 {
		return s[:min(len(s), most)]
	}
	return b.String()
}
