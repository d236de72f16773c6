package journal

import (
	"bytes"
	"iter"

	"folkmoot/flat"
)

// frame is the bytes of a base, or of a record: which of the two, the payload, and the sum of these.
func frame(base bool, payload []byte) []byte {
	p := &flat.Pen{}
	p.Bool(base)
	p.Text(string(payload))
	p.Int(int64(flat.Sum(p.Bytes())))
	return p.Bytes()
}

// frames yields of each of a file's frames whether it is a base, and its payload, up to the first one that is not whole.
func frames(b []byte) iter.Seq2[bool, []byte] {
	return func(yield func(bool, []byte) bool) {
		e := flat.Open(b)
		for at := 0; at < len(b); at = len(b) - e.Left() {
			base, payload := e.Bool(), []byte(e.Text())
			e.Int()
			// What was read is whole if it would be laid just so, sum and all; what a blind eye answers never would.
			if !bytes.HasPrefix(b[at:], frame(base, payload)) {
				return
			}
			if base && at > 0 {
				return
			}
			if !yield(base, payload) {
				return
			}
		}
	}
}
