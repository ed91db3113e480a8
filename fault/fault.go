// Package fault is layer 1, errors that have a position in the input: see shared/doc/01-fault.md.
package fault

import (
	"strconv"
	"strings"

	"tholepin/api"
)

// At is a fault at a position. OK is no fault, so it has no position either.
func At(code api.Errno, at int) api.Fault {
	if code == api.OK {
		return api.Fault{}
	}
	return api.Fault{Code: code, At: at}
}

// Good tells whether a fault is none.
func Good(f api.Fault) bool { return f.Code == api.OK }

// Shift is the same fault further on, for bytes that are a part of others.
func Shift(f api.Fault, by int) api.Fault { return At(f.Code, f.At+by) }

// First is the first fault that is not good.
func First(l ...api.Fault) api.Fault {
	for _, f := range l {
		if !Good(f) {
			return f
		}
	}
	return api.Fault{}
}

// words is made anew by each call, so that no one can change it for another.
func words() [21]string {
	return [...]string{
		api.OK:              "ok",
		api.ErrShort:        "short",
		api.ErrLong:         "long",
		api.ErrInvalid:      "invalid",
		api.ErrNonMinimal:   "non-minimal",
		api.ErrOverflow:     "overflow",
		api.ErrSum:          "sum",
		api.ErrKind:         "kind",
		api.ErrVersion:      "version",
		api.ErrRest:         "rest",
		api.ErrToken:        "token",
		api.ErrBound:        "bound",
		api.ErrNonCanonical: "non-canonical",
		api.ErrOrder:        "order",
		api.ErrMagic:        "magic",
		api.ErrTooLarge:     "too-large",
		api.ErrNone:         "none",
		api.ErrArg:          "arg",
		api.ErrState:        "state",
		api.ErrNil:          "nil",
		api.ErrForm:         "form",
	}
}

// Word is the word of a code, or nothing if the number is no code.
func Word(code api.Errno) string {
	l := words()
	if code < 0 || int(code) >= len(l) {
		return ""
	}
	return l[code]
}

// Find is the code that has a word.
func Find(word string) (api.Errno, bool) {
	for code, w := range words() {
		if w == word {
			return api.Errno(code), true
		}
	}
	return api.OK, false
}

// Text is a fault as a text, or nothing if its code has no word.
func Text(f api.Fault) string {
	word := Word(f.Code)
	if Good(f) || word == "" {
		return word
	}
	return word + " " + strconv.Itoa(f.At)
}

// Parse is the fault of a text.
func Parse(s string) (api.Fault, bool) {
	word, place, _ := strings.Cut(s, " ")
	code, _ := Find(word)
	at, _ := strconv.Atoi(place)
	f := At(code, at)
	// Whatever went wrong above, the result then has another text than s. Asking
	// for the text once therefore refuses unknown words, missing positions and
	// positions in any form (a sign +, leading zeros, too many digits) but one.
	if Text(f) != s {
		return api.Fault{}, false
	}
	return f, true
}
