// Package value: schemas, and the values of a schema as bytes.
package value

import (
	"math"

	"orchard/api"
)

// shape is what the values of a type are made of.
type shape int

const (
	ofNumber shape = iota
	ofBytes
	ofVector
	ofRecord
)

// letter is what a type begins with. What its shape does not need is 0.
type letter struct {
	sign        byte
	shape       shape
	size        int // bytes of a number
	least, most int
	text        bool // the bytes are UTF-8
	end         byte // the bracket that closes it
}

var letters = [...]letter{
	{sign: '?', shape: ofNumber, size: 1, least: 0, most: 1},
	{sign: '4', shape: ofNumber, size: 4, least: math.MinInt32, most: math.MaxInt32},
	{sign: '8', shape: ofNumber, size: 8, least: math.MinInt64, most: math.MaxInt64},
	{sign: 'b', shape: ofBytes},
	{sign: 't', shape: ofBytes, text: true},
	{sign: '[', shape: ofVector, end: ']'},
	{sign: '(', shape: ofRecord, end: ')'},
}

// Type is a type of a schema: its letter, and the types within its brackets.
type Type struct {
	letter letter
	parts  []Type
}

// part is the type of element i of a vector or a record.
func (t Type) part(i int) Type {
	if t.letter.shape == ofVector {
		return t.parts[0]
	}
	return t.parts[i]
}

// Parse reads a schema; false, if the text is none.
func Parse(schema string) (Type, bool) {
	if len(schema) > api.MaxSchema {
		return Type{}, false
	}
	t, rest, ok := parseType(schema, 0)
	if !ok || rest != "" {
		return Type{}, false
	}
	return t, true
}

// parseType reads the type that s begins with, within depth pairs of brackets, and tells what is left of s.
func parseType(s string, depth int) (Type, string, bool) {
	if s == "" || depth > api.MaxDepth {
		return Type{}, "", false
	}
	l, ok := findLetter(s[0])
	if !ok {
		return Type{}, "", false
	}
	if l.end == 0 {
		return Type{letter: l}, s[1:], true
	}
	parts, rest, ok := parseParts(s[1:], l, depth+1)
	return Type{letter: l, parts: parts}, rest, ok
}

// parseParts reads the types that s begins with, and the bracket that closes l behind them.
func parseParts(s string, l letter, depth int) ([]Type, string, bool) {
	var parts []Type
	for s != "" && s[0] != l.end {
		t, rest, ok := parseType(s, depth)
		if !ok {
			return nil, "", false
		}
		parts = append(parts, t)
		s = rest
	}
	if s == "" || len(parts) == 0 || l.shape == ofVector && len(parts) > 1 {
		return nil, "", false
	}
	return parts, s[1:], true
}

func findLetter(sign byte) (letter, bool) {
	for _, l := range letters {
		if l.sign == sign {
			return l, true
		}
	}
	return letter{}, false
}
