package path_test

import (
	"slices"
	"strings"
	"testing"
	"unsafe"

	"strongroom/api"
	"strongroom/path"
)

// severalTexts lead to each answer, refusals too.
func severalTexts() []string {
	return []string{
		"", "/", "a", "/a", "ab", "/ab/", "ab/cd", "/ab//cd/../ef/.", "../ab/..", "...", longest, "/" + longest + "/" + longest, strings.Repeat("a/", 100), strings.Repeat("/", 200),
		tooLong, "ab/c\x00/..", "ab/cd/" + tooLong, strings.Repeat("a/", 101), strings.Repeat("\x00", 201),
	}
}

// within is a text that lies among others, with a part of a path ahead of it and behind it.
func within(s string) string {
	whole := "ahead/.." + s + "behind/../\x00"
	return whole[len("ahead/..") : len(whole)-len("behind/../\x00")]
}

// shares says whether both texts lie in the same memory.
func shares(a, b string) bool {
	if len(a) == 0 || len(b) == 0 {
		return false
	}
	startA, startB := uintptr(unsafe.Pointer(unsafe.StringData(a))), uintptr(unsafe.Pointer(unsafe.StringData(b)))
	return startA < startB+uintptr(len(b)) && startB < startA+uintptr(len(a))
}

// TestReadsNothingAround: what lies ahead of a text and behind it does not matter, and stays.
func TestReadsNothingAround(t *testing.T) {
	for _, s := range severalTexts() {
		given := within(s)
		mustAgree(t, given)
		mustBeRight(t, given, right(s))
		if given != s {
			t.Errorf("R2: %.50q was changed to %.50q", s, given)
		}
	}
}

func TestTextsAreNewMemory(t *testing.T) {
	for _, s := range severalTexts() {
		given := within(s)
		names, _ := path.Split(given)
		for _, name := range names {
			if shares(name, given) {
				t.Errorf("R2: Split(%.50q): %q lies in what was handed in", s, name)
			}
		}
		if c, _ := path.Clean(given); shares(c, given) {
			t.Errorf("R2: Clean(%.50q): %q lies in what was handed in", s, c)
		}
		if whole := path.Join([]string{given}); shares(whole, given) {
			t.Errorf("R2: Join of %.50q alone lies in what was handed in", s)
		}
		if whole := path.Join([]string{"", given}); shares(whole, given) {
			t.Errorf("R2: Join of nothing and %.50q lies in what was handed in", s)
		}
	}
}

// TestListsAreNewMemory: what one Split answered may be changed, its spare room too, and no other answer changes with it.
func TestListsAreNewMemory(t *testing.T) {
	for _, s := range severalTexts() {
		first, why := path.Split(s)
		want := slices.Clone(first)
		second, _ := path.Split(s)
		all := second[:cap(second)]
		for i := range all {
			all[i] = "spoilt"
		}
		if !slices.Equal(first, want) {
			t.Errorf("R2: two answers of Split(%.50q) share memory", s)
		}
		if third, again := path.Split(s); !slices.Equal(third, want) || again != why {
			t.Errorf("R2: Split(%.50q) is %q, %v once an answer of it was changed; want %q, %v", s, third, again, want, why)
		}
	}
}

// TestJoinLeavesItsList: the names stay, and so does the room behind them, which is not read either.
func TestJoinLeavesItsList(t *testing.T) {
	for _, names := range [][]string{nil, {}, {"a"}, {"a", "b"}, {"", "..", "c/d", "\x00"}, slices.Repeat([]string{longest}, 50)} {
		room := append(slices.Clone(names), "mark", "mark", "mark")
		before := slices.Clone(room)
		whole := path.Join(room[:len(names)])
		if strings.Contains(whole, "mark") || !slices.Equal(room, before) {
			t.Errorf("R2: Join(%.50q): %.50q, and behind the call %.50q", names, whole, room)
		}
		want := strings.Clone(whole)
		for i := range room {
			room[i] = "spoilt"
		}
		if whole != want {
			t.Errorf("R2: Join(%.50q) changed with its list", names)
		}
	}
}

// TestKeepsNothing: what was asked ahead, refusals too, does not matter.
func TestKeepsNothing(t *testing.T) {
	for _, s := range severalTexts() {
		for _, ahead := range severalTexts() {
			path.Split(ahead)
			path.Clean(ahead)
			path.Join([]string{ahead})
			path.Right(ahead)
			mustAgree(t, s)
			mustBeRight(t, s, right(s))
			mustJoin(t, "/"+s, s)
			mustJoin(t, "/")
		}
	}
}

// TestAnswersNothingBesideARefusal: whatever was read ahead of it.
func TestAnswersNothingBesideARefusal(t *testing.T) {
	for _, s := range []string{"a/b/\x00", "a/../\x00", "\x00/a", "a/b/" + tooLong} {
		mustNotSplit(t, s, api.ErrName)
	}
	for _, s := range []string{strings.Repeat("a/b", 67), strings.Repeat("/", 201)} {
		mustNotSplit(t, s, api.ErrLong)
	}
}
