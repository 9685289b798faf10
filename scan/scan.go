// Package scan is layer 1: it reads lines and numbers.
package scan

import (
	"bytes"
	"slices"
	"strconv"
	"strings"

	"retorter/api"
)

// Line tells what stands in b from at on up to the next byte 10, and where the line behind it begins.
func Line(b []byte, at int) (string, int, api.Errno) {
	if at < 0 || at > len(b) {
		return "", 0, api.ErrArg
	}
	length := bytes.IndexByte(b[at:], '\n')
	if length < 0 {
		return "", 0, api.ErrShort
	}
	end := at + length
	return string(b[at:end]), end + 1, api.OK
}

// Number tells the number that s writes, if it is at most most.
func Number(s string, most int) (int, api.Errno) {
	if !isDecimal(s) {
		return 0, api.ErrSyntax
	}
	// All of s is digits here, so Atoi can fail only because no int holds the number: then it is above every most.
	n, err := strconv.Atoi(s)
	if err != nil || n > most {
		return 0, api.ErrLong
	}
	return n, api.OK
}

// Words tells the parts of s between single blanks.
func Words(s string) ([]string, bool) {
	words, ok := split(s)
	// A piece of s would keep all of s alive.
	for i, w := range words {
		words[i] = strings.Clone(w)
	}
	return words, ok
}

// Numbers tells the numbers that s writes between single blanks: least to most of them, each at most top.
func Numbers(s string, least, most, top int) ([]int, api.Errno) {
	words, ok := split(s)
	if !ok || len(words) < least || len(words) > most {
		return nil, api.ErrSyntax
	}
	numbers := make([]int, len(words))
	for i, w := range words {
		n, errno := Number(w, top)
		if errno != api.OK {
			return nil, errno
		}
		numbers[i] = n
	}
	return numbers, api.OK
}

// split tells the words of s as pieces of s itself, for those who do not hand them out.
func split(s string) ([]string, bool) {
	words := strings.Split(s, " ")
	// An empty s, a blank at an end and two blanks side by side all leave an empty part, and nothing else does.
	if slices.Contains(words, "") {
		return nil, false
	}
	return words, true
}

// isDecimal tells whether s is one digit or more, without a 0 ahead of others.
func isDecimal(s string) bool {
	if s == "" || len(s) > 1 && s[0] == '0' {
		return false
	}
	for i := range len(s) {
		if s[i] < '0' || s[i] > '9' {
			return false
		}
	}
	return true
}
