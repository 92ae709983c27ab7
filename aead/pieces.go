package aead

// pieces are two pieces of memory that hold one text, the second one's bytes behind the first one's.
type pieces [2][]byte

// size gives the text's bytes.
func (p pieces) size() int {
	return len(p[0]) + len(p[1])
}

// walk goes over the text's first n bytes: what each piece has of them, with its place in the text. n is at most size.
func (p pieces) walk(n int, step func(at int, part []byte)) {
	at := 0
	for _, piece := range p {
		part := piece[:min(len(piece), n-at)]
		step(at, part)
		at += len(part)
	}
}

// text gives the first n bytes.
func (p pieces) text(n int) string {
	b := make([]byte, n)
	p.walk(n, func(at int, part []byte) {
		copy(b[at:], part)
	})
	return string(b)
}

// put writes s over the first bytes.
func (p pieces) put(s string) {
	p.walk(len(s), func(at int, part []byte) {
		copy(part, s[at:])
	})
}
