package addr_test

import (
	"regexp"
	"slices"
	"strings"
	"testing"

	"pouch/addr"
	"pouch/api"
	"pouch/samples"
	"pouch/token"
)

// What is valid, for strings of which each byte is written as a rune of its own: the counts are of bytes then.
var (
	atomBytes   = `[^\x00-\x20\x7f()<>\[\]:;@\\,."]+`
	dotAtom     = regexp.MustCompile(`\A` + atomBytes + `(?:\.` + atomBytes + `)*\z`)
	rightLocal  = regexp.MustCompile(`\A[^\x00-\x1f\x7f]{1,64}\z`)
	rightHost   = regexp.MustCompile(`\A\[[^\x00-\x20\x7f\[\]\\]*\]\z`)
	rightName   = regexp.MustCompile(`\A[^\x00-\x1f\x7f]{0,200}\z`)
	escapedByte = regexp.MustCompile(`["\\]`)
)

// wide is s with a rune for each byte.
func wide(s string) string {
	runes := make([]rune, len(s))
	for i := range len(s) {
		runes[i] = rune(s[i])
	}
	return string(runes)
}

// rightOf is what Right returns, as the chapter defines it.
func rightOf(a api.Addr) bool {
	host := wide(a.Domain)
	return rightLocal.MatchString(wide(a.Local)) && rightName.MatchString(wide(a.Name)) && len(a.Domain) <= 255 && (dotAtom.MatchString(host) || rightHost.MatchString(host))
}

// writtenOf is what Write returns for one address, as the chapter defines it.
func writtenOf(a api.Addr) string {
	local := a.Local
	if !dotAtom.MatchString(wide(local)) {
		local = "\"" + escapedByte.ReplaceAllString(local, "\\$0") + "\""
	}
	if a.Name == "" {
		return local + "@" + a.Domain
	}
	return token.Quote(a.Name) + " <" + local + "@" + a.Domain + ">"
}

func checkRight(t *testing.T, a api.Addr, want bool) {
	t.Helper()
	if got := addr.Right(a); got != want {
		t.Errorf("Right(%d, %d, %d bytes: {%.40q %.40q %.40q}) = %v", len(a.Name), len(a.Local), len(a.Domain), a.Name, a.Local, a.Domain, got)
	}
}

func checkWrite(t *testing.T, want string, l ...api.Addr) {
	t.Helper()
	if got := addr.Write(l); got != want {
		t.Errorf("Write(%s) = %.80q, want %.80q", shown(l), got, want)
	}
}

// locals, domains and names list fields of addresses: valid ones first, as many as the numbers say.
const (
	goodLocals  = 21
	goodDomains = 14
	goodNames   = 25
)

func locals() []string {
	return []string{
		"a", "a.b", "a.b.c", "A-z_0", "é", "\xff\x80", "!#$%&'*+-/=?^_`{|}~", "a b", " ", " a ", ".", "..", "a.", ".a", "a..b", "\"", "\\", "a\"b\\c", "<x@y>, (z): [w];", strings.Repeat("a", 64), strings.Repeat("\"", 64),
		"", strings.Repeat("a", 65), strings.Repeat(" ", 65), "\n", "a\r\nb", "\x00", "a\x1f", "\x7f", "\t",
	}
}

func domains() []string {
	return []string{
		"b", "B.c", "b.c.d.e", "é", "\xff\x80", "-_!", "[]", "[1.2]", "[IPv6:::1]", "[\"(<@,;.>)\"]", "[\xff\x80]", strings.Repeat("b", 255), "[" + strings.Repeat("1", 253) + "]", "b" + strings.Repeat(".c", 127),
		"", ".", "b.", ".b", "b..c", "b c", " b", "b ", "\"b\"", "(b)", "<b>", "b@c", "b,c", "b;c", "b:c", "b\\c", "[", "]", "[b", "b]", "[b]]", "[[b]", "[b][c]", "[b]c", "c[b]", "[b].c", "[\\]", "[b\\]c]", "[ ]", "[b c]", "[b\n]", "[\x00]", "[\x7f]", "\x00", "b\n", "\x7f", strings.Repeat("b", 256), "[" + strings.Repeat("1", 254) + "]",
	}
}

func names() []string {
	return []string{
		"", "n", "n m", "n m o", "é ü", "\xff\x80", "!#$%&'*+-/=?^_`{|}~", "=?utf-8?q?n?=", " ", "  ", " n", "n ", "n  m", "n.", "J. R. T", ".", "\"", "\\", "n\"m\\o", "\"n\"", "<x@y>, (z): [w];", "(n", "[n", strings.Repeat("n", 200), strings.Repeat(" \"", 100),
		strings.Repeat("n", 201), "\n", "n\r\nm", "\x00", "n\x1f", "\x7f", "\t",
	}
}

// P11.2: each bound of each field.
func TestBounds(t *testing.T) {
	for _, c := range []struct {
		bytes               int
		local, domain, name bool
	}{
		{0, false, false, true},
		{1, true, true, true},
		{2, true, true, true},
		{63, true, true, true},
		{64, true, true, true},
		{65, false, true, true},
		{199, false, true, true},
		{200, false, true, true},
		{201, false, true, false},
		{254, false, true, false},
		{255, false, true, false},
		{256, false, false, false},
		{1000000, false, false, false},
	} {
		for _, unit := range []string{"a", "\xff"} {
			s := strings.Repeat(unit, c.bytes)
			checkRight(t, named("n", s, "b"), c.local)
			checkRight(t, named("n", "a", s), c.domain)
			checkRight(t, named(s, "a", "b"), c.name)
		}
		for _, unit := range []string{" ", ".", "\"", "\\", "é"} {
			s := strings.Repeat(unit, c.bytes)[:c.bytes]
			checkRight(t, plain(s, "b"), c.local)
			checkRight(t, named(s, "a", "b"), c.name)
		}
		if c.bytes > 1 {
			s := "[" + strings.Repeat("b", c.bytes-2) + "]"
			checkRight(t, plain("a", s), c.domain)
			checkRight(t, plain("a", strings.Repeat("b.", c.bytes)[:c.bytes-1]+"b"), c.domain)
		}
	}
	longest := named(strings.Repeat("n", 200), strings.Repeat("a", 64), strings.Repeat("b", 255))
	checkRight(t, longest, true)
	longest.Domain = "[" + strings.Repeat("b", 253) + "]"
	checkRight(t, longest, true)
	checkRight(t, api.Addr{}, false)
}

// P11.2: each byte in each field, alone, at the start, in the midst and at the end.
func TestRightOfBytes(t *testing.T) {
	all := samples.AllBytes()
	for i := range len(all) {
		b := all[i : i+1]
		text := i >= 32 && i != 127
		solid := text && i != 32
		atom := solid && !strings.Contains(`()<>[]:;@\,."`, b)
		inner := solid && !strings.Contains(`[]\`, b)
		for _, pattern := range []string{"%", "%a", "a%", "a%a", "%%"} {
			s := strings.ReplaceAll(pattern, "%", b)
			checkRight(t, plain(s, "b"), text)
			checkRight(t, named(s, "a", "b"), text)
			checkRight(t, plain("a", s), atom || b == "." && pattern == "a%a")
			checkRight(t, plain("a", "["+s+"]"), inner)
			checkRight(t, plain("a", "x."+s+".x"), atom || b == "." && pattern == "a%a")
			checkRight(t, plain("a", "["+s), b == "]" && pattern == "a%" || b == "]" && pattern == "%")
		}
	}
}

// P11.2: domains that are dot-atoms, literals and neither; locals and names of all kinds.
func TestRight(t *testing.T) {
	for i, local := range locals() {
		for k, domain := range domains() {
			for j, name := range names() {
				checkRight(t, named(name, local, domain), i < goodLocals && k < goodDomains && j < goodNames)
			}
		}
	}
	for _, domain := range []string{"a", "a.b", "a.b.c", "[]", "[.]", "[..]", "[a.]", "[.a]", "[@]", "[\"]", "[(]", "[)]", "[<>,;:]"} {
		checkRight(t, plain("a", domain), true)
	}
	for _, domain := range []string{"..", "...", "a...b", ".a.", "a.b.", ".a.b", "a. b", "a .b", "[][]", "[[]]", "[]]", "[[]", "][", "]]", "[[", "[a\\b]", "[\\\\]", "[\\[]", "a[]", "[]a", "a.[]", "[].a", " [a]", "[a] ", "[\t]", "[\r\n]", "[\xa0 ]"} {
		checkRight(t, plain("a", domain), false)
	}
}

// P11.2: Right against a reference of its own kind, for fields of all kinds.
func TestRightAgainstReference(t *testing.T) {
	list := append(samples.Words("a.[]\\ \x7f\xff", 4), samples.Words(samples.AllBytes(), 2)...)
	for _, s := range list {
		for _, a := range []api.Addr{plain(s, "b"), plain("a", s), plain("a", "["+s+"]"), named(s, "a", "b")} {
			checkRight(t, a, rightOf(a))
		}
	}
}

// P11.3: no address, one and several.
func TestWriteOfLists(t *testing.T) {
	checkWrite(t, "")
	checkWrite(t, "", []api.Addr{}...)
	checkWrite(t, "a@b", plain("a", "b"))
	checkWrite(t, "n <a@b>", named("n", "a", "b"))
	checkWrite(t, "a@b, c@d", plain("a", "b"), plain("c", "d"))
	checkWrite(t, "a@b, a@b, a@b", plain("a", "b"), plain("a", "b"), plain("a", "b"))
	checkWrite(t, "n m <a@b>, c@[1.2], \"o, p\" <\"q r\"@s>", named("n m", "a", "b"), plain("c", "[1.2]"), named("o, p", "q r", "s"))
	checkWrite(t, "\"\"@, \"\"@", api.Addr{}, api.Addr{})
}

// P11.3: names that need quotes and names that need none, locals that are dot-atoms and locals that are none, in addresses that are valid and others that are not.
func TestWrite(t *testing.T) {
	for _, c := range []struct{ name, written string }{
		{"n", "n"},
		{"n m", "n m"},
		{"é \xff", "é \xff"},
		{"J. R. T", "\"J. R. T\""},
		{"n.", "\"n.\""},
		{" ", "\" \""},
		{" n", "\" n\""},
		{"n ", "\"n \""},
		{"n  m", "\"n  m\""},
		{"n, m", "\"n, m\""},
		{"n\"m\\o", "\"n\\\"m\\\\o\""},
		{"<a@b>", "\"<a@b>\""},
		{"n\nm\r", "\"n\\\nm\\\r\""},
		{"n\x00\x7f", "\"n\x00\x7f\""},
		{strings.Repeat("n", 300), strings.Repeat("n", 300)},
	} {
		checkWrite(t, c.written+" <a@b>", named(c.name, "a", "b"))
		checkWrite(t, c.written+" <\"a \"@>", named(c.name, "a ", ""))
		checkWrite(t, "x@y, "+c.written+" <a@[b c]>", plain("x", "y"), named(c.name, "a", "[b c]"))
	}
	for _, c := range []struct{ local, written string }{
		{"a", "a"},
		{"a.b.c", "a.b.c"},
		{"é.\xff", "é.\xff"},
		{"!#$%&'*+-/=?^_`{|}~", "!#$%&'*+-/=?^_`{|}~"},
		{strings.Repeat("a", 300), strings.Repeat("a", 300)},
		{"", "\"\""},
		{".", "\".\""},
		{"a.", "\"a.\""},
		{".a", "\".a\""},
		{"a..b", "\"a..b\""},
		{"a b", "\"a b\""},
		{"a b.c d", "\"a b.c d\""},
		{" ", "\" \""},
		{" a", "\" a\""},
		{"a ", "\"a \""},
		{"\"", "\"\\\"\""},
		{"\\", "\"\\\\\""},
		{"\\\"", "\"\\\\\\\"\""},
		{"\"a\"", "\"\\\"a\\\"\""},
		{"a\"b\\c", "\"a\\\"b\\\\c\""},
		{"a\\", "\"a\\\\\""},
		{"(a)", "\"(a)\""},
		{"[a]", "\"[a]\""},
		{"a@b", "\"a@b\""},
		{"<>,;:", "\"<>,;:\""},
		{"a\n", "\"a\n\""},
		{"\r\n", "\"\r\n\""},
		{"\t", "\"\t\""},
		{"a\x00\x7f", "\"a\x00\x7f\""},
		{"\xff ", "\"\xff \""},
	} {
		for _, domain := range []string{"b", "B.c", "[1.2]", "", ".", "b c", "[b", "\"b\"", "\\", "b\n", "\xff"} {
			checkWrite(t, c.written+"@"+domain, plain(c.local, domain))
			checkWrite(t, "n <"+c.written+"@"+domain+">", named("n", c.local, domain))
		}
	}
}

// P11.3: each byte in each field, alone, at the start, in the midst and at the end.
func TestWriteOfBytes(t *testing.T) {
	all := samples.AllBytes()
	for i := range len(all) {
		for _, pattern := range []string{"%", "%a", "a%", "a%a", "%%"} {
			s := strings.ReplaceAll(pattern, "%", all[i:i+1])
			for _, a := range []api.Addr{plain(s, "b"), plain("a", s), named(s, "a", "b"), named(s, s, s)} {
				checkWrite(t, writtenOf(a), a)
			}
		}
	}
}

// P11.3: Write against a reference of its own kind, for addresses of all kinds.
func TestWriteAgainstReference(t *testing.T) {
	var list []api.Addr
	var want []string
	for _, local := range locals() {
		for _, domain := range domains() {
			for _, name := range names() {
				list = append(list, named(name, local, domain))
				want = append(want, writtenOf(list[len(list)-1]))
				checkWrite(t, want[len(want)-1], list[len(list)-1])
			}
		}
	}
	checkWrite(t, strings.Join(want, ", "), list...)
	for _, s := range append(samples.Words("ab.\" \\", 5), samples.Words(samples.AllBytes(), 2)...) {
		a := plain(s, "b")
		checkWrite(t, writtenOf(a), a)
	}
}

// P11.3: the letters of the domain are lowered, and nothing else.
func TestCanon(t *testing.T) {
	for _, c := range []struct {
		a    api.Addr
		want string
	}{
		{api.Addr{}, "@"},
		{plain("a", ""), "a@"},
		{plain("", "b"), "@b"},
		{plain("A", "B"), "A@b"},
		{plain("A.B", "C.D"), "A.B@c.d"},
		{plain("a", "eXaMPLE.Org"), "a@example.org"},
		{plain("aB", "[IPv6:ABCD]"), "aB@[ipv6:abcd]"},
		{plain("A b", "[1.2]"), "A b@[1.2]"},
		{plain("X\"Y\\", "Z"), "X\"Y\\@z"},
		{plain("É", "É"), "É@É"},
		{plain("\xc9", "\xc9\xff"), "\xc9@\xc9\xff"},
		{plain("K", "\u212a"), "K@\u212a"},
		{plain("A@B", "C@D"), "A@B@c@d"},
		{plain("A\n", " B\x00"), "A\n@ b\x00"},
		{named("Name", "A", "B"), "A@b"},
		{named("N <X@Y>", "", ""), "@"},
		{plain(strings.Repeat("A", 1000), strings.Repeat("B.", 1000)), strings.Repeat("A", 1000) + "@" + strings.Repeat("b.", 1000)},
	} {
		if got := addr.Canon(c.a); got != c.want {
			t.Errorf("Canon(%s) = %.60q, want %.60q", shown([]api.Addr{c.a}), got, c.want)
		}
	}
	all := samples.AllBytes()
	for i := range len(all) {
		b, want := all[i:i+1], all[i:i+1]
		if i >= 'A' && i <= 'Z' {
			want = "abcdefghijklmnopqrstuvwxyz"[i-'A' : i-'A'+1]
		}
		if got := addr.Canon(named(b, "x"+b+b, b+"y"+b)); got != "x"+b+b+"@"+want+"y"+want {
			t.Errorf("Canon of byte %d = %q", i, got)
		}
	}
}

// P11.6: parsing what Write gives for valid addresses gives them back, alone and in lists.
func TestWrittenIsParsed(t *testing.T) {
	var list []api.Addr
	for _, local := range locals()[:goodLocals] {
		for _, domain := range domains()[:goodDomains] {
			for _, name := range names()[:goodNames] {
				a := named(name, local, domain)
				list = append(list, a)
				checkRight(t, a, true)
				checkParse(t, addr.Write([]api.Addr{a}), true, a)
			}
		}
	}
	checkParse(t, addr.Write(list), true, list...)
	checkParse(t, addr.Write(nil), true)
	for _, s := range append(samples.Words("ab.\" \\", 5), samples.Words(samples.AllBytes(), 2)...) {
		for _, a := range []api.Addr{plain(s, "b"), plain("a", s), plain("a", "["+s+"]"), named(s, "a", "b"), named(s, s, s)} {
			if addr.Right(a) {
				checkParse(t, addr.Write([]api.Addr{a}), true, a)
				checkParse(t, addr.Write([]api.Addr{a, plain("x", "y"), a}), true, a, plain("x", "y"), a)
			}
		}
	}
	for seed := range uint64(3000) {
		a := named(samples.Noise(int(seed%7), seed), samples.Noise(1+int(seed%3), seed+1), drawn("ab.", 1+int(seed%9), seed))
		if addr.Right(a) {
			checkParse(t, addr.Write([]api.Addr{a, a}), true, a, a)
		}
	}
}

// P11.5, R2: Write, Right and Canon change and keep nothing of their arguments.
func TestAddressesAreNotKept(t *testing.T) {
	for _, a := range []api.Addr{{}, plain("pouch", "mail"), plain("a b", "[1.2]"), named("name", "local", "DOMAIN"), named("n, m", "a\"b", "c"), named("", "", "B"), named("x", "", ""), named(" ", ".", "\n")} {
		name, nameMemory := inMemory(a.Name)
		local, localMemory := inMemory(a.Local)
		domain, domainMemory := inMemory(a.Domain)
		full := []api.Addr{named(name, local, domain), plain("behind", "the list")}
		written, canon, right := addr.Write(full[:1]), addr.Canon(full[0]), addr.Right(full[0])
		if full[0] != a || full[1] != plain("behind", "the list") {
			t.Errorf("the arguments became %s", shown(full))
		}
		clear(nameMemory)
		clear(localMemory)
		clear(domainMemory)
		clear(full)
		wantCanon := a.Local + "@" + strings.ToLower(a.Domain)
		if written != writtenOf(a) || canon != wantCanon || right != rightOf(a) {
			t.Errorf("what was returned for %s became %q, %q, %v", shown([]api.Addr{a}), written, canon, right)
		}
	}
	list := []api.Addr{named("n", "a", "B"), plain("c d", "E")}
	before := slices.Clone(list)
	addr.Write(list)
	if !slices.Equal(list, before) {
		t.Errorf("Write changed the list to %s", shown(list))
	}
}

// P1: Write, Right and Canon end soon for long fields and lists.
func TestLongAddresses(t *testing.T) {
	for _, unit := range []string{"a", "a.", ".", " ", "\"", "\\", "[", "(", "\x00", "\xff"} {
		s := strings.Repeat(unit, 50000)
		a := named(s, s, s)
		checkRight(t, a, false)
		checkWrite(t, writtenOf(a), a)
		if got := addr.Canon(a); got != s+"@"+s {
			t.Errorf("Canon of %q, repeated, has %d bytes", unit, len(got))
		}
	}
	list := slices.Repeat([]api.Addr{named("n", "a", "b")}, 50000)
	checkParse(t, addr.Write(list), true, list...)
}
