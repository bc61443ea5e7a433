package fold

// Lower tells the lower case of a rune: P5.2.
func Lower(r rune) rune {
	switch {
	case in(r, 0x41, 0x5a), in(r, 0xc0, 0xde) && r != 0xd7, in(r, 0x391, 0x3ab) && r != 0x3a2, in(r, 0x410, 0x42f):
		return r + 0x20
	case in(r, 0x100, 0x137) && r != 0x130 && r != 0x131, in(r, 0x14a, 0x177), in(r, 0x460, 0x481), in(r, 0x48a, 0x4bf), in(r, 0x4d0, 0x52f):
		return r | 1 // pairs, the even one ahead
	case in(r, 0x139, 0x148), in(r, 0x179, 0x17e), in(r, 0x4c1, 0x4ce):
		return r + r&1 // pairs, the odd one ahead
	case in(r, 0x388, 0x38a):
		return r + 0x25
	case in(r, 0x38e, 0x38f):
		return r + 0x3f
	case in(r, 0x400, 0x40f):
		return r + 0x50
	}
	return lowerAlone(r)
}

// lowerAlone tells the lower case of a rune whose neighbours go by other sums.
func lowerAlone(r rune) rune {
	switch r {
	case 0x178:
		return 0xff
	case 0x4c0:
		return 0x4cf
	case 0x386:
		return 0x3ac
	case 0x38c:
		return 0x3cc
	}
	return r
}
