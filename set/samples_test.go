package set_test

import "bonsai/api"

// model is a set as the document's Words say it, byte by byte, so that what is held against it is worked out in another way.
type model [256]bool

// edges stand at both ends of a word, and of all bytes.
var edges = []byte{0, 1, 62, 63, 64, 65, 126, 127, 128, 129, 190, 191, 192, 193, 254, 255}

func modelOf(s api.Bytes) model {
	var m model
	for b := range m {
		m[b] = s[b/64]>>(b%64)&1 == 1
	}
	return m
}

func (m model) bytes() api.Bytes {
	var s api.Bytes
	for b, in := range m {
		if in {
			s[b/64] |= 1 << (b % 64)
		}
	}
	return s
}

func (m model) list() string {
	var l []byte
	for b, in := range m {
		if in {
			l = append(l, byte(b))
		}
	}
	return string(l)
}

func (m model) not() model {
	for b := range m {
		m[b] = !m[b]
	}
	return m
}

func single(b byte) model {
	var m model
	m[b] = true
	return m
}

func between(a, b int) model {
	var m model
	for n := a; n <= b; n++ {
		m[n] = true
	}
	return m
}

// every tells all bytes of which one in so many stands in the set, from one on.
func every(step, from int) model {
	var m model
	for n := from; n < 256; n += step {
		m[n] = true
	}
	return m
}

// scattered tells a set that is the same each time it is asked for: a row of numbers says which bytes are in it.
func scattered(seed uint32, oneOf uint32) model {
	var m model
	for b := range m {
		seed = seed*1664525 + 1013904223
		m[b] = (seed>>16)%oneOf == 0
	}
	return m
}

// models are sets of all sorts: of none, one, all, all but one; runs within words, over their ends, up to 255, parted by one byte alone; and scattered ones.
func models() []model {
	l := []model{{}, model{}.not()}
	for _, b := range edges {
		l = append(l, single(b), single(b).not(), between(0, int(b)), between(int(b), 255))
	}
	for i := range 4 {
		l = append(l, between(64*i, 64*i+63), between(64*i, 64*i+63).not())
	}
	for _, at := range []int{63, 127, 191} {
		l = append(l, between(at, at+1), between(at-1, at+2), between(at-3, at+3), between(at, at+1).not())
	}
	l = append(l, every(2, 0), every(2, 1), every(3, 0), every(64, 0), every(64, 63), every(3, 2).not())
	l = append(l, between('a', 'c'), between('a', 'b'), between('0', '9'), between(200, 255))
	for n := range uint32(12) {
		l = append(l, scattered(n, 2), scattered(n+100, 30), scattered(n+200, 30).not())
	}
	return l
}

func samples() []api.Bytes {
	var l []api.Bytes
	for _, m := range models() {
		l = append(l, m.bytes())
	}
	return l
}
