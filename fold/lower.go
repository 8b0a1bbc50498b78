package fold

// A capitalRow is a row of runes, step apart from each other, that all lie equally far from their lower case.
type capitalRow struct{ first, last, step, shift rune }

// The rows stand in the order of their runes, none of which is in two of them.
var capitalRows = []capitalRow{
	{'A', 'Z', 1, 32},
	{0xc0, 0xd6, 1, 32},
	{0xd8, 0xde, 1, 32},
	{0x100, 0x12e, 2, 1},
	{0x132, 0x136, 2, 1},
	{0x139, 0x147, 2, 1},
	{0x14a, 0x176, 2, 1},
	{0x178, 0x178, 1, 0xff - 0x178},
	{0x179, 0x17d, 2, 1},
	{0x386, 0x386, 1, 0x3ac - 0x386},
	{0x388, 0x38a, 1, 37},
	{0x38c, 0x38c, 1, 64},
	{0x38e, 0x38f, 1, 63},
	{0x391, 0x3a1, 1, 32},
	{0x3a3, 0x3ab, 1, 32},
	{0x400, 0x40f, 1, 80},
	{0x410, 0x42f, 1, 32},
}

// lower returns the lower case of a rune, which has as many bytes as the rune itself.
func lower(r rune) rune {
	for _, row := range capitalRows {
		if r > row.last {
			continue
		}
		if r >= row.first && (r-row.first)%row.step == 0 {
			return r + row.shift
		}
		// The rows that follow begin behind this one.
		return r
	}
	return r
}
