package filter

import "foliowright/api"

// A byte below runsEnd tells how many bytes follow it, one above it how often one does.
const (
	runsEnd  = 128
	longest  = 128 // of a run, alike or not
	runsFull = 257 // less how often a byte stands
)

// makeRuns: runs of bytes that are the same, and of those that aren't.
func makeRuns(s string) []byte {
	var b []byte
	for s != "" {
		n := same(s)
		if n > 1 {
			b = append(b, byte(runsFull-n), s[0])
		} else {
			n = apart(s)
			b = append(b, byte(n-1))
			b = append(b, s[:n]...)
		}
		s = s[n:]
	}
	return append(b, runsEnd)
}

// same: how often the first byte of s stands there.
func same(s string) int {
	most := min(len(s), longest)
	for i := range most {
		if s[i] != s[0] {
			return i
		}
	}
	return most
}

// apart: how many bytes of s stand ahead of two that are the same.
func apart(s string) int {
	most := min(len(s), longest)
	for i := range most {
		if i+1 < len(s) && s[i] == s[i+1] {
			return i
		}
	}
	return most
}

// takeRuns: the bytes whose runs stand ahead of the end.
func takeRuns(s string) ([]byte, error) {
	var b []byte
	for s != "" {
		n := int(s[0])
		if n == runsEnd {
			return b, nil
		}
		s = s[1:]
		need := 1
		if n < runsEnd {
			need = n + 1
		}
		if len(s) < need {
			return nil, api.ErrEnd
		}
		b = run(b, n, s[:need])
		s = s[need:]
		// Told at once, so that a short text never makes a long one.
		if len(b) > api.MaxData {
			return nil, api.ErrMany
		}
	}
	return nil, api.ErrEnd
}

// run: b, and the run that the byte n tells, with the bytes behind it.
func run(b []byte, n int, s string) []byte {
	if n < runsEnd {
		return append(b, s...)
	}
	for range runsFull - n {
		b = append(b, s[0])
	}
	return b
}
