package heap

import (
	"cmp"
	"slices"

	"palaver/api"
)

// gap is a range of words that are no object's.
type gap struct {
	begin int
	end   int
}

func (g gap) size() int {
	return g.end - g.begin
}

// gaps lie one behind the other, with objects between them.
type gaps []gap

func (l gaps) longest() int {
	n := 0
	for _, g := range l {
		n = max(n, g.size())
	}
	return n
}

// after is the place in the list of the first gap that begins behind a word.
func (l gaps) after(at int) int {
	i, _ := slices.BinarySearchFunc(l, at+1, func(g gap, at int) int { return cmp.Compare(g.begin, at) })
	return i
}

// takeFirst takes so many words from the first gap that is long enough; where they begin.
func (l *gaps) takeFirst(size int) (int, api.Errno) {
	for i, g := range *l {
		if g.size() >= size {
			l.cut(i, g.begin, g.begin+size)
			return g.begin, api.OK
		}
	}
	return 0, api.ErrHeapFull
}

// take takes the words of a range, if all of them are free.
func (l *gaps) take(begin, end int) api.Errno {
	i := l.after(begin) - 1
	if i < 0 || end > (*l)[i].end {
		return api.ErrHeapFull
	}
	l.cut(i, begin, end)
	return api.OK
}

// cut leaves of a gap what lies on both sides of a range of it.
func (l *gaps) cut(i, begin, end int) {
	var left gaps
	for _, g := range [...]gap{{(*l)[i].begin, begin}, {end, (*l)[i].end}} {
		if g.size() > 0 {
			left = append(left, g)
		}
	}
	*l = slices.Replace(*l, i, i+1, left...)
}

// give makes words free again: they and the gaps on both sides become one.
func (l *gaps) give(begin, end int) {
	from := l.after(begin)
	to := from
	if from > 0 && (*l)[from-1].end == begin {
		from--
		begin = (*l)[from].begin
	}
	if to < len(*l) && (*l)[to].begin == end {
		end = (*l)[to].end
		to++
	}
	*l = slices.Replace(*l, from, to, gap{begin, end})
}
