package memory

import (
	"palaver/api"
	"palaver/words"
)

// ClassOf is a thing's class; also of SmallIntegers and Characters.
func (m *Memory) ClassOf(o api.Oop) (int, api.Errno) {
	switch words.Tag(o) {
	case api.TagSmall:
		return api.ClassSmall, api.OK
	case api.TagChar:
		return api.ClassChar, api.OK
	}
	x, err := m.Head(o)
	return x.Class, err
}

// Format is what an object is made of.
func (m *Memory) Format(o api.Oop) (api.Format, api.Errno) {
	x, err := m.Head(o)
	return x.Format, err
}

// Text is an object's bytes.
func (m *Memory) Text(o api.Oop) (string, api.Errno) {
	n, err := m.textSize(o)
	if err != api.OK {
		return "", err
	}
	b := make([]byte, n)
	for i := range b {
		b[i], _ = m.Byte(o, i)
	}
	return string(b), api.OK
}

// SetText lays bytes into an object's, from a place on.
func (m *Memory) SetText(o api.Oop, at int, s string) api.Errno {
	n, err := m.textSize(o)
	if err != api.OK {
		return err
	}
	// Compared so, because the sum of both may be no int.
	if at < 0 || at > n-len(s) {
		return api.ErrHeapIndex
	}
	for i := range len(s) {
		m.SetByte(o, at+i, s[i])
	}
	return api.OK
}

// textSize is how many bytes an object has, if it is one of bytes or a method.
func (m *Memory) textSize(o api.Oop) (int, api.Errno) {
	f, err := m.Format(o)
	if err != api.OK {
		return 0, err
	}
	switch f {
	case api.FormatBytes, api.FormatMethod:
		return m.Bytes(o)
	}
	return 0, api.ErrHeapKind
}
