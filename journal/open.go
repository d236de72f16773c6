package journal

import (
	"folkmoot/api"
	"folkmoot/drum"
)

// check is the file of a journal that is opened, the one behind all that there are; or why it can't be.
func check(d *drum.Drum, size int) (int, api.Errno) {
	if d == nil {
		return 0, api.ErrNone
	}
	if size < 1 || size > api.MaxRoom {
		return 0, api.ErrArg
	}
	if d.Dead() {
		return 0, api.ErrDead
	}
	file := 1
	if l := d.Files(); len(l) > 0 {
		file = l[len(l)-1] + 1
	}
	if file > api.MaxFiles {
		return 0, api.ErrMany
	}
	return file, api.OK
}

// read is the base and the records of a drum's files; without a base nil. A base stands for all that was told ahead of it.
func read(d *drum.Drum) ([]byte, [][]byte, api.Errno) {
	var base []byte
	var records [][]byte
	for _, file := range d.Files() {
		b, err := d.Read(file)
		if err != api.OK {
			return nil, nil, err
		}
		for isBase, payload := range frames(b) {
			if isBase {
				base, records = payload, nil
			} else {
				records = append(records, payload)
			}
		}
	}
	return base, records, api.OK
}
