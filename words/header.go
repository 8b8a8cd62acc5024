package words

import "palaver/api"

// The widths of the fields of a header's first word.
const (
	classBits  = 12
	formatBits = 3
	spareBits  = 3
	hashBits   = 22
	ageBits    = 4
	flagBits   = 1
)

// Each field begins where the one below it ends.
const (
	classAt  = 0
	formatAt = classAt + classBits
	spareAt  = formatAt + formatBits
	hashAt   = spareAt + spareBits
	ageAt    = hashAt + hashBits
	markedAt = ageAt + ageBits
	notedAt  = markedAt + flagBits
	usedBits = notedAt + flagBits
)

// The mask of a field is also the greatest number that it holds.
const (
	classMask  = 1<<classBits - 1
	formatMask = 1<<formatBits - 1
	spareMask  = 1<<spareBits - 1
	hashMask   = 1<<hashBits - 1
	ageMask    = 1<<ageBits - 1
	flagMask   = 1<<flagBits - 1
)

// Pack is a header as two words.
func Pack(h api.Header) (uint64, uint64, api.Errno) {
	if !valid(h) {
		return 0, 0, api.ErrWordsRange
	}
	a := uint64(h.Class)<<classAt |
		uint64(h.Format)<<formatAt |
		uint64(h.Spare)<<spareAt |
		uint64(h.Hash)<<hashAt |
		uint64(h.Age)<<ageAt |
		flag(h.Marked)<<markedAt |
		flag(h.Noted)<<notedAt
	return a, uint64(h.Slots), api.OK
}

// Unpack is two words as a header.
func Unpack(a, b uint64) (api.Header, api.Errno) {
	// The fields leave out the bits above them, and an int may not hold the whole of b: both are looked at first.
	if a>>usedBits != 0 || b > api.MaxSlots {
		return api.Header{}, api.ErrWordsRange
	}
	h := api.Header{
		Class:  int(a >> classAt & classMask),
		Format: api.Format(a >> formatAt & formatMask),
		Spare:  int(a >> spareAt & spareMask),
		Hash:   int(a >> hashAt & hashMask),
		Age:    int(a >> ageAt & ageMask),
		Slots:  int(b),
		Marked: a>>markedAt&flagMask != 0,
		Noted:  a>>notedAt&flagMask != 0,
	}
	if !valid(h) {
		return api.Header{}, api.ErrWordsRange
	}
	return h, api.OK
}

func flag(is bool) uint64 {
	if is {
		return 1
	}
	return 0
}

func valid(h api.Header) bool {
	return within(h.Class, classMask) &&
		within(h.Spare, spareMask) &&
		within(h.Hash, hashMask) &&
		within(h.Age, ageMask) &&
		within(h.Slots, api.MaxSlots) &&
		suits(h.Format, h.Spare, h.Slots)
}

func within(n, most int) bool {
	return n >= 0 && n <= most
}

// suits tells whether an object of a format may have so many spare bytes and slots.
func suits(f api.Format, spare, slots int) bool {
	switch f {
	case api.FormatMethod:
		// The slot that counts its literals has no bytes: the slots behind it are as those of bytes.
		slots--
		fallthrough
	case api.FormatBytes:
		return slots >= 0 && (spare == 0 || slots >= 1)
	case api.FormatEphemeron:
		// The slot of its key is always there: those behind it are as those of pointers.
		slots--
		fallthrough
	case api.FormatPointers, api.FormatWeak, api.FormatWords:
		return slots >= 0 && spare == 0
	}
	return false
}
