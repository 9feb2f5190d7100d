// Package message: what a session is sent, and what comes out of it.
package message

import "orchard/api"

// Hello, events and faults have the same schema in all versions; so has what comes out of a request that does not go well, which is as a fault.
const (
	helloSchema = "(4)"
	eventSchema = "(4844t)"
	errorSchema = "(484)"
)

// requests are the schemas of requests, by kind and version. There is no kind 0 and no version 0.
var requests = [api.Ping + 1][api.Newest + 1]string{
	api.Create: {1: "(44tb)", 2: "(44tbt)"},
	api.Delete: {1: "(44t4)", 2: "(44t4)"},
	api.Set:    {1: "(44tb4)", 2: "(44tb4)"},
	api.Get:    {1: "(44t?)", 2: "(44t?)"},
	api.Exists: {1: "(44t?)", 2: "(44t?)"},
	api.List:   {1: "(44t?)", 2: "(44t?)"},
	api.Ping:   {1: "(44)", 2: "(44)"},
}

// answers are the schemas of what comes out of requests that go well, by kind and version.
var answers = [api.Ping + 1][api.Newest + 1]string{
	api.Create: {1: "(484t)", 2: "(484t)"},
	api.Delete: {1: "(484)", 2: "(484)"},
	api.Set:    {1: "(484(8844))", 2: "(484(8844))"},
	api.Get:    {1: "(484b(8844))", 2: "(484bt(8844))"},
	api.Exists: {1: "(484(8844))", 2: "(484(8844))"},
	api.List:   {1: "(484[t])", 2: "(484[t])"},
	api.Ping:   {1: "(484)", 2: "(484)"},
}

// hasNotes tells whether a version knows of notes.
func hasNotes(version int) bool { return version > 1 }
