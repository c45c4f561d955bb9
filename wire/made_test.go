package wire_test

import (
	"math/rand"
	"slices"

	"lexprior/api"
)

// maker makes steps and bytes.
type maker struct {
	chance *rand.Rand
}

func newMaker(seed int64) *maker {
	return &maker{chance: rand.New(rand.NewSource(seed))}
}

func (m *maker) oneIn(many int) bool {
	return m.chance.Intn(many) == 0
}

func pick[T any](m *maker, list ...T) T {
	return list[m.chance.Intn(len(list))]
}

// from: a number from least to most; often one of the edges, or one that is small.
func (m *maker) from(least, most int) int {
	return pick(m, least, least+1, most-1, most, least+m.chance.Intn(most-least+1), least+m.chance.Intn(min(most-least, 3)+1))
}

// choices: some; none of them is now nil, now empty.
func (m *maker) choices(most int) []api.Choice {
	list := pick(m, nil, []api.Choice{})
	for range pick(m, 0, 0, 0, 1, 2, m.chance.Intn(most+1)) {
		list = append(list, api.Choice{Place: m.from(-1, api.MaxBody-1), Rule: m.from(-1, api.MaxRules-1)})
	}
	return list
}

// step: any that may be.
func (m *maker) step() api.Step {
	return api.Step{
		Tag: api.Tag(m.from(1, 4)), Lit: m.from(0, api.MaxLits-1), How: api.How(m.from(1, 5)), Rule: m.from(-1, api.MaxRules-1),
		Choices: m.choices(pick(m, 3, 3, 3, 20, 300)),
	}
}

// steps: as many as that or fewer.
func (m *maker) steps(most int) []api.Step {
	var l []api.Step
	for range m.chance.Intn(most + 1) {
		l = append(l, m.step())
	}
	return l
}

// spoil: one thing about a list becomes another, which may be or not.
func (m *maker) spoil(l []api.Step) []api.Step {
	if len(l) == 0 {
		return make([]api.Step, 1)
	}
	all := changes()
	pick(m, all...).turn(&l[m.chance.Intn(len(l))])
	return l
}

// turnParts: some parts of the bytes say something else, mostly what they may not.
func (m *maker) turnParts(l []api.Step) []byte {
	all := parts(l)
	var b []byte
	turned := m.chance.Intn(len(all))
	for n, p := range all {
		switch {
		case n != turned:
			b = append(b, p.bytes()...)
		case m.oneIn(3):
			least, most := p.kind.bounds()
			b = append(b, part{p.kind, uint64(m.from(int(least), int(most)))}.bytes()...)
		default:
			b = append(b, pick(m, wrongs(p)...).b...)
		}
	}
	return b
}

// turnBytes: some bytes are others, some go, some come.
func (m *maker) turnBytes(b []byte) []byte {
	b = slices.Clone(b)
	for range pick(m, 1, 1, 2, 5) {
		at := m.chance.Intn(len(b) + 1)
		switch {
		case at < len(b) && m.oneIn(2):
			b[at] = byte(pick(m, m.chance.Intn(256), m.chance.Intn(6), 0x80, 0xFF))
		case at < len(b) && m.oneIn(2):
			b = slices.Delete(b, at, at+1)
		default:
			b = slices.Insert(b, at, byte(pick(m, m.chance.Intn(256), m.chance.Intn(6), 0x80)))
		}
	}
	return b
}

// bytes: such as may be read, or nearly; most have a sum that is right, so that the faults ahead of it are met, and what is not one is taken.
func (m *maker) bytes() []byte {
	l := m.steps(pick(m, 0, 1, 2, 6))
	b, _ := laid(parts(l))
	switch m.chance.Intn(5) {
	case 0:
		b = m.turnParts(l)
	case 1:
		b = m.turnBytes(b)
	case 2:
		b = append([]byte("lxd\x01"), byte(m.chance.Intn(3)))
		for range m.chance.Intn(12) {
			b = append(b, byte(pick(m, m.chance.Intn(6), m.chance.Intn(6), m.chance.Intn(6), m.chance.Intn(256))))
		}
	}
	if !m.oneIn(8) {
		b = summed(b)
	}
	switch m.chance.Intn(16) {
	case 0, 1:
		b = m.turnBytes(b)
	case 2:
		b = append(b, make([]byte, 1+m.chance.Intn(6))...)
	}
	return b
}
