package stall

import (
	"slices"
	"strconv"
	"strings"

	"bibelot/api"
)

const (
	maxName   = 12 // characters
	maxNumber = 1000000
)

// line is a line as it was read: a remark, a command, a question, or nonsense.
type line interface {
	text() string
}

// source is the text of a line.
type source string

func (t source) text() string {
	return string(t)
}

// remark is a line without a reply.
type remark struct {
	source
}

// command is a line that changes the stall, or is refused.
type command struct {
	source
	words words
	do    func(words) api.Errno
}

// question is a line that changes nothing, and is answered or refused.
type question struct {
	source
	words words
	ask   func(words) (string, api.Errno)
}

// nonsense is a line that says nothing that can be done, or is said to no stall.
type nonsense struct {
	source
	number refused
}

// refused is an error number as an error.
type refused api.Errno

func (r refused) Error() string {
	return told("error", int(r))
}

// lineError is an error with the line that caused it.
type lineError struct {
	line  line
	cause error
}

func (e lineError) Error() string {
	return e.line.text() + ": " + e.cause.Error()
}

func (e lineError) Unwrap() error {
	return e.cause
}

// words are those behind the first word of a line: names, and then numbers.
type words struct {
	names   []string
	numbers []int
}

// form tells how many names a line has, and how many numbers.
type form struct {
	names, least, most int
}

func numbers(n int) form {
	return form{least: n, most: n}
}

func (f form) fits(w words) bool {
	return len(w.names) == f.names && f.least <= len(w.numbers) && len(w.numbers) <= f.most
}

// read tells what a line says to the stall.
func (s *Stall) read(text string) line {
	switch {
	case s == nil:
		return nonsense{source(text), refused(api.ErrNil)}
	case len(text) > api.MaxLine || strings.Contains(text, "\n"):
		return nonsense{source(text), refused(api.ErrLong)}
	case text == "" || text[0] == '#':
		return remark{source(text)}
	}
	list := strings.Split(text, " ")
	first := list[0]
	if w, ok := wordsOf(list[1:]...); ok {
		if f, do := s.commandFor(first); do != nil && f.fits(w) {
			return command{source(text), w, do}
		}
		if f, ask := s.questionFor(first); ask != nil && f.fits(w) {
			return question{source(text), w, ask}
		}
	}
	return nonsense{source(text), refused(api.ErrLine)}
}

// wordsOf reads names and the numbers behind them. As words between which there is more than one blank have an empty one between them, these are refused, too.
func wordsOf(list ...string) (words, bool) {
	names := slices.IndexFunc(list, isNoName)
	if names < 0 {
		return words{names: list}, true
	}
	w := words{names: list[:names]}
	for _, word := range list[names:] {
		number, ok := numberOf(word)
		if !ok {
			return words{}, false
		}
		w.numbers = append(w.numbers, number)
	}
	return w, true
}

func isNoName(word string) bool {
	return word == "" || len(word) > maxName || strings.ContainsFunc(word, isNoLetter)
}

func isNoLetter(character rune) bool {
	return character < 'a' || character > 'z'
}

// numberOf reads a number. Atoi takes more ways to write one than a line may have, but only one of them is how it is written back.
func numberOf(word string) (int, bool) {
	number, err := strconv.Atoi(word)
	if err != nil || number < -maxNumber || number > maxNumber || strconv.Itoa(number) != word {
		return 0, false
	}
	return number, true
}
