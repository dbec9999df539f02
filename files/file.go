package files

import (
	"bytes"
	"slices"
)

// file is what it has, and what is safe of it. A file that was synced without bytes is safe; one that was not synced is not.
type file struct {
	has    []byte
	safe   []byte
	synced bool
}

// sync lets both share their bytes, so that it costs nothing however long the file is: what is appended lands behind them, and what is written or torn is other memory.
func (f *file) sync() {
	f.safe, f.synced = f.has, true
}

func (f *file) isSafe() bool { return f.synced && bytes.Equal(f.has, f.safe) }

// tear leaves what a crash leaves; of a file that is not safe at all there must be a draw of at least 0.
func (f *file) tear(draw int) {
	f.has = slices.Clone(f.left(draw)) // a piece would keep what is lost
	f.sync()
}

// left is, of a file that is not safe at all, a piece of all its bytes: those stand behind the none that are safe.
func (f *file) left(draw int) []byte {
	if draw < 0 {
		return f.safe
	}
	from := 0
	if bytes.HasPrefix(f.has, f.safe) {
		from = len(f.safe)
	}
	many := len(f.has) - from
	return f.has[:from+draw%(many+1)]
}
