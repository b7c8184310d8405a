package disk

// piece is bytes that stand behind those of the pieces ahead of it; nil has none.
// No piece is ever changed: a Disk that was copied as a value has the same ones, and must not be touched.
type piece struct {
	ahead *piece
	from  int // how many bytes stand ahead of it
	b     []byte
}

// end answers how many bytes there are up to the end of p.
func (p *piece) end() int {
	if p == nil {
		return 0
	}
	return p.from + len(p.b)
}

// with answers the bytes up to the end of p, and b behind them.
func (p *piece) with(b []byte) *piece {
	if len(b) == 0 {
		return p
	}
	end := p.end() + len(b)
	ahead := p
	// Each piece stays longer than the next one: so they are few, and no byte is copied often.
	for ahead != nil && len(ahead.b) <= end-ahead.end() {
		ahead = ahead.ahead
	}
	from := ahead.end()
	return &piece{ahead, from, p.joined(from, b)}
}

// joined answers the bytes from the beginning of a piece on, and b behind them, in new memory.
func (p *piece) joined(from int, b []byte) []byte {
	size := p.end() - from
	all := make([]byte, size+len(b))
	copy(all[size:], b)
	for ; p.end() > from; p = p.ahead {
		copy(all[p.from-from:], p.b)
	}
	return all
}

// first answers the first n of the bytes up to the end of p.
func (p *piece) first(n int) *piece {
	for p != nil && p.from >= n {
		p = p.ahead
	}
	if p.end() <= n {
		return p
	}
	return p.ahead.with(p.b[:n-p.from])
}
