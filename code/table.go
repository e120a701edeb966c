package code

// row is one instruction: its number, its name, and a letter an operand.
type row struct {
	op      uint32
	name    string
	letters string
}

// stored is the letter of an operand that is where something is stored; of all others it is L.
const stored = 'S'

// instructions: all that there are, by their numbers.
func instructions() [130]row {
	return [...]row{
		{0x00, "nop", ""}, {0x10, "add", "LLS"}, {0x11, "sub", "LLS"}, {0x12, "mul", "LLS"},
		{0x13, "div", "LLS"}, {0x14, "mod", "LLS"}, {0x15, "neg", "LS"}, {0x18, "bitand", "LLS"},
		{0x19, "bitor", "LLS"}, {0x1a, "bitxor", "LLS"}, {0x1b, "bitnot", "LS"}, {0x1c, "shiftl", "LLS"},
		{0x1d, "sshiftr", "LLS"}, {0x1e, "ushiftr", "LLS"},
		{0x20, "jump", "L"}, {0x22, "jz", "LL"}, {0x23, "jnz", "LL"}, {0x24, "jeq", "LLL"},
		{0x25, "jne", "LLL"}, {0x26, "jlt", "LLL"}, {0x27, "jge", "LLL"}, {0x28, "jgt", "LLL"},
		{0x29, "jle", "LLL"}, {0x2a, "jltu", "LLL"}, {0x2b, "jgeu", "LLL"}, {0x2c, "jgtu", "LLL"},
		{0x2d, "jleu", "LLL"}, {0x30, "call", "LLS"}, {0x31, "return", "L"}, {0x32, "catch", "SL"},
		{0x33, "throw", "LL"}, {0x34, "tailcall", "LL"},
		{0x40, "copy", "LS"}, {0x41, "copys", "LS"}, {0x42, "copyb", "LS"}, {0x44, "sexs", "LS"},
		{0x45, "sexb", "LS"}, {0x48, "aload", "LLS"}, {0x49, "aloads", "LLS"}, {0x4a, "aloadb", "LLS"},
		{0x4b, "aloadbit", "LLS"}, {0x4c, "astore", "LLL"}, {0x4d, "astores", "LLL"}, {0x4e, "astoreb", "LLL"},
		{0x4f, "astorebit", "LLL"}, {0x50, "stkcount", "S"}, {0x51, "stkpeek", "LS"}, {0x52, "stkswap", ""},
		{0x53, "stkroll", "LL"}, {0x54, "stkcopy", "L"},
		{0x70, "streamchar", "L"}, {0x71, "streamnum", "L"}, {0x72, "streamstr", "L"}, {0x73, "streamunichar", "L"},
		{0x100, "gestalt", "LLS"}, {0x101, "debugtrap", "L"}, {0x102, "getmemsize", "S"}, {0x103, "setmemsize", "LS"},
		{0x104, "jumpabs", "L"}, {0x110, "random", "LS"}, {0x111, "setrandom", "L"},
		{0x120, "quit", ""}, {0x121, "verify", "S"}, {0x122, "restart", ""}, {0x123, "save", "LS"},
		{0x124, "restore", "LS"}, {0x125, "saveundo", "S"}, {0x126, "restoreundo", "S"}, {0x127, "protect", "LL"},
		{0x128, "hasundo", "S"}, {0x129, "discardundo", ""},
		{0x130, "glk", "LLS"}, {0x140, "getstringtbl", "S"}, {0x141, "setstringtbl", "L"}, {0x148, "getiosys", "SS"},
		{0x149, "setiosys", "LL"}, {0x150, "linearsearch", "LLLLLLLS"}, {0x151, "binarysearch", "LLLLLLLS"}, {0x152, "linkedsearch", "LLLLLLS"},
		{0x160, "callf", "LS"}, {0x161, "callfi", "LLS"}, {0x162, "callfii", "LLLS"}, {0x163, "callfiii", "LLLLS"},
		{0x170, "mzero", "LL"}, {0x171, "mcopy", "LLL"}, {0x178, "malloc", "LS"}, {0x179, "mfree", "L"},
		{0x180, "accelfunc", "LL"}, {0x181, "accelparam", "LL"},
		{0x190, "numtof", "LS"}, {0x191, "ftonumz", "LS"}, {0x192, "ftonumn", "LS"}, {0x198, "ceil", "LS"},
		{0x199, "floor", "LS"}, {0x1a0, "fadd", "LLS"}, {0x1a1, "fsub", "LLS"}, {0x1a2, "fmul", "LLS"},
		{0x1a3, "fdiv", "LLS"}, {0x1a4, "fmod", "LLSS"}, {0x1a8, "sqrt", "LS"},
		{0x1c0, "jfeq", "LLLL"}, {0x1c1, "jfne", "LLLL"}, {0x1c2, "jflt", "LLL"}, {0x1c3, "jfle", "LLL"},
		{0x1c4, "jfgt", "LLL"}, {0x1c5, "jfge", "LLL"}, {0x1c8, "jisnan", "LL"}, {0x1c9, "jisinf", "LL"},
		{0x200, "numtod", "LSS"}, {0x201, "dtonumz", "LLS"}, {0x202, "dtonumn", "LLS"}, {0x203, "ftod", "LSS"},
		{0x204, "dtof", "LLS"}, {0x208, "dceil", "LLSS"}, {0x209, "dfloor", "LLSS"},
		{0x210, "dadd", "LLLLSS"}, {0x211, "dsub", "LLLLSS"}, {0x212, "dmul", "LLLLSS"}, {0x213, "ddiv", "LLLLSS"},
		{0x214, "dmodr", "LLLLSS"}, {0x215, "dmodq", "LLLLSS"}, {0x218, "dsqrt", "LLSS"},
		{0x230, "jdeq", "LLLLLLL"}, {0x231, "jdne", "LLLLLLL"}, {0x232, "jdlt", "LLLLL"}, {0x233, "jdle", "LLLLL"},
		{0x234, "jdgt", "LLLLL"}, {0x235, "jdge", "LLLLL"}, {0x238, "jdisnan", "LLL"}, {0x239, "jdisinf", "LLL"},
	}
}
