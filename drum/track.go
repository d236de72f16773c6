package drum

import (
	"bytes"

	"folkmoot/api"
)

// track is a file's bytes, of which so many are safe, from the front on.
type track struct {
	laid []byte
	safe int
}

// add lays lists behind what is there, one behind the other.
func (t *track) add(b [][]byte) {
	for _, l := range b {
		t.laid = append(t.laid, l...)
	}
}

// cut leaves what stays when the power fails, and tells how many bytes are gone.
func (t *track) cut(tail api.Tail) int {
	loose := len(t.laid) - t.safe
	kept := min(max(tail.Keep, 0), loose)
	if kept < loose {
		// a copy, for the bytes that are gone are not to hold memory that the drum has no room for
		t.laid = bytes.Clone(t.laid[:t.safe+kept])
	}
	if kept > 0 {
		t.laid[len(t.laid)-1] ^= tail.Turn
	}
	t.safe = len(t.laid)
	return loose - kept
}
