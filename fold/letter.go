package fold

// Letter tells whether a rune is a letter: P5.2.
func Letter(r rune) bool {
	switch {
	case in(r, 0x41, 0x5a), in(r, 0x61, 0x7a), r == 0xaa, r == 0xb5, r == 0xba: // Latin
		fallthrough
	case in(r, 0xc0, 0xd6), in(r, 0xd8, 0xf6), in(r, 0xf8, 0x2af): // Latin of all languages
		fallthrough
	case in(r, 0x370, 0x373), in(r, 0x376, 0x377), in(r, 0x37b, 0x37d), r == 0x37f: // Greek
		fallthrough
	case r == 0x386, in(r, 0x388, 0x38a), r == 0x38c, in(r, 0x38e, 0x3a1), in(r, 0x3a3, 0x3ff) && r != 0x3f6: // Greek
		fallthrough
	case in(r, 0x400, 0x52f) && !in(r, 0x482, 0x489): // Cyrillic
		fallthrough
	case in(r, 0x5d0, 0x5ea), in(r, 0x620, 0x64a), in(r, 0x904, 0x939): // Hebrew, Arabic, Devanagari
		fallthrough
	case in(r, 0x3041, 0x3096), in(r, 0x30a1, 0x30fa), in(r, 0x4e00, 0x9fff), in(r, 0xac00, 0xd7a3): // Japanese, Chinese, Korean
		return true
	}
	return false
}

// Digit tells whether a rune is a digit: P5.2.
func Digit(r rune) bool {
	return in(r, 0x30, 0x39) || in(r, 0x660, 0x669) || in(r, 0x966, 0x96f) || in(r, 0xff10, 0xff19)
}

// Mark tells whether a rune is a mark: P5.2.
func Mark(r rune) bool {
	return in(r, 0x300, 0x36f) || in(r, 0x483, 0x489) || in(r, 0x591, 0x5bd) || in(r, 0x64b, 0x65f) ||
		r == 0x93c || in(r, 0x20d0, 0x20f0) || in(r, 0xfe20, 0xfe2f)
}

// in tells whether a rune is in a range, both ends counted.
func in(r, from, to rune) bool { return from <= r && r <= to }
