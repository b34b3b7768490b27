package lex

import (
	"strings"

	"bellows/api"
)

// words are those that are no names, with their kinds.
func words() map[string]int {
	m := map[string]int{"true": api.TokCon, "false": api.TokCon}
	for _, w := range []string{
		"let", "val", "fun", "and", "in", "end", "if", "then", "else", "case", "of", "fn",
		"datatype", "exception", "raise", "handle", "andalso", "orelse", "div", "mod",
	} {
		m[w] = api.TokSign
	}
	return m
}

// signLen is how long the longest sign is with which s begins, 0, if none.
func signLen(s string) int {
	if len(s) >= 2 {
		switch s[:2] {
		case "<>", "<=", ">=", "::", ":=", "=>", "->":
			return 2
		}
	}
	if strings.IndexByte("()[],;=<>+-*^!|_~", s[0]) >= 0 {
		return 1
	}
	return 0
}

func isBlank(c byte) bool { return c == ' ' || c == '\t' || c == '\n' || c == '\r' }

func isDigit(c byte) bool { return '0' <= c && c <= '9' }

func isSmall(c byte) bool { return 'a' <= c && c <= 'z' }

func isGreat(c byte) bool { return 'A' <= c && c <= 'Z' }

// inName: is it a letter of a name?
func inName(c byte) bool { return isSmall(c) || isGreat(c) || isDigit(c) || c == '_' || c == '\'' }
