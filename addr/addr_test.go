package addr_test

import (
	"fmt"
	"regexp"
	"slices"
	"strings"
	"testing"
	"unsafe"

	"pouch/addr"
	"pouch/api"
	"pouch/samples"
	"pouch/token"
)

// A field is told of by one sign for each of its tokens: a for an atom, q for a quoted string, l for a literal, b for a bad one, and each special for itself.
const specSigns = `([aq](?:\.[aq])*)@(a(?:\.a)*|l)`

var (
	units    = regexp.MustCompile(`<[^>]*>?|[^<]`)
	specOnly = regexp.MustCompile(`\A()` + specSigns + `\z`)
	inAngles = regexp.MustCompile(`\A([aq.]*)<(?:@[^:>]*:)?` + specSigns + `>\z`)
	blanks   = regexp.MustCompile(`[\t\n\r ]`)
)

// signs returns the signs of tokens.
func signs(l []api.Token) string {
	var text strings.Builder
	for _, one := range l {
		switch one.Kind {
		case api.TAtom:
			text.WriteString("a")
		case api.TQuoted:
			text.WriteString("q")
		case api.TLiteral:
			text.WriteString("l")
		case api.TBad:
			text.WriteString("b")
		default:
			text.WriteString(one.Text)
		}
	}
	return text.String()
}

// values joins the values of tokens by single spaces, but none before a dot that is a special.
func values(l []api.Token) string {
	var text strings.Builder
	for i, one := range l {
		if i > 0 && one != (api.Token{Kind: api.TSpecial, Text: "."}) {
			text.WriteString(" ")
		}
		text.WriteString(token.Value(one))
	}
	return text.String()
}

// addressOf is what a piece denotes, as the chapter defines it.
func addressOf(l []api.Token) (api.Addr, bool) {
	shape := signs(l)
	at := specOnly.FindStringSubmatchIndex(shape)
	if at == nil {
		at = inAngles.FindStringSubmatchIndex(shape)
	}
	if at == nil {
		return api.Addr{}, false
	}
	var local, domain []string
	for _, one := range l[at[4]:at[5]] {
		if one.Kind != api.TSpecial {
			local = append(local, token.Value(one))
		}
	}
	for _, one := range l[at[6]:at[7]] {
		if one.Kind != api.TSpecial {
			domain = append(domain, one.Text)
		}
	}
	return api.Addr{
		Name:   values(l[at[2]:at[3]]),
		Local:  strings.Join(local, "."),
		Domain: blanks.ReplaceAllLiteralString(strings.Join(domain, "."), ""),
	}, true
}

// parsed is what Parse returns, as the chapter defines it: angle brackets with what is inside them are one unit, and a unit that is a separator divides pieces.
func parsed(s string) ([]api.Addr, bool) {
	l := token.Bare(token.Scan(s))
	var list []api.Addr
	all, from, to := true, 0, 0
	for _, unit := range append(units.FindAllString(signs(l), -1), ",") {
		switch unit {
		case ",", ";":
			if one, ok := addressOf(l[from:to]); ok {
				list = append(list, one)
			} else {
				all = all && from == to
			}
			from = to + 1
		case ":":
			from = to + 1
		}
		to += len(unit)
	}
	return list, all
}

// isOpen reports whether a comment, a quoted string, a literal or an angle bracket is open at the end of a field.
func isOpen(s string) bool {
	l := token.Bare(token.Scan(s))
	shape := signs(l)
	inside := strings.LastIndexByte(shape, '<') > strings.LastIndexByte(shape, '>')
	return inside || len(l) > 0 && l[len(l)-1].Kind == api.TBad && strings.ContainsAny(l[len(l)-1].Text[:1], "([\"")
}

func plain(local, domain string) api.Addr { return api.Addr{Local: local, Domain: domain} }

func named(name, local, domain string) api.Addr {
	return api.Addr{Name: name, Local: local, Domain: domain}
}

// shown is a list of addresses as a test tells of it.
func shown(l []api.Addr) string {
	text := fmt.Sprintf("%d addresses", len(l))
	for _, one := range l[:min(5, len(l))] {
		text += fmt.Sprintf(" {%.40q %.40q %.40q}", one.Name, one.Local, one.Domain)
	}
	return text
}

// checkParse holds what Parse returns for s against what is wanted.
func checkParse(t *testing.T, s string, clean bool, want ...api.Addr) {
	t.Helper()
	if got, ok := addr.Parse(s); !slices.Equal(got, want) || ok != clean {
		t.Errorf("Parse(%.80q) = %s, %v, want %s, %v", s, shown(got), ok, shown(want), clean)
	}
}

// checkOne holds a piece that denotes an address against it, alone and among others.
func checkOne(t *testing.T, piece string, want api.Addr) {
	t.Helper()
	first, last := plain("first", "x"), named("the last", "last", "[y]")
	checkParse(t, piece, true, want)
	checkParse(t, "first@x,"+piece, true, first, want)
	checkParse(t, piece+";the last<last@[y]>", true, want, last)
	checkParse(t, "first@x ; "+piece+" , "+piece+", the last <last@[y]>", true, first, want, want, last)
	checkParse(t, "group:"+piece+";", true, want)
	checkParse(t, "no address,"+piece, false, want)
}

// checkNone holds that a piece denotes no address, alone and among others, which it leaves as they are.
func checkNone(t *testing.T, piece string) {
	t.Helper()
	first, last := plain("first", "x"), named("the last", "last", "[y]")
	checkParse(t, piece, false)
	checkParse(t, "group:"+piece, false)
	checkParse(t, "first@x,"+piece, false, first)
	checkParse(t, ";,"+piece, false)
	if !isOpen(piece) {
		checkParse(t, piece+";the last<last@[y]>", false, last)
		checkParse(t, "first@x,"+piece+",the last<last@[y]>;", false, first, last)
		checkParse(t, piece+","+piece, false)
	}
}

// spelled makes strings of words over signs: q and l become a quoted string and a literal, c a comment, u a comment that is not closed, b a byte that is no token.
func spelled(alphabet string, longest int) []string {
	words := samples.Words(alphabet, longest)
	spell := strings.NewReplacer("q", `"q. r"`, "l", "[1 .2]", "c", "(c, <d>)", "u", "(", "b", "\x00")
	for i, word := range words {
		words[i] = spell.Replace(word)
	}
	return words
}

// drawn returns a string of bytes of the alphabet without a pattern.
func drawn(alphabet string, length int, seed uint64) string {
	text := []byte(samples.Noise(length, seed))
	for i, b := range text {
		text[i] = alphabet[int(b)%len(alphabet)]
	}
	return string(text)
}

// fields lists fields of all kinds: every pair of bytes, short ones of the tokens that matter, alone and around angle brackets, and ones without a pattern.
func fields() []string {
	list := samples.Words(samples.AllBytes(), 2)
	list = append(list, spelled("aq.@<>:,", 5)...)
	list = append(list, spelled("a.@<>:;lqcub \\", 4)...)
	list = append(list, spelled("a@<>,", 7)...)
	list = append(list, samples.Words("a@\"[](", 5)...)
	for _, w := range spelled("aql.@:<>,", 4) {
		list = append(list, "<"+w+">", "a<"+w+"a@a>", "a. q<@"+w+":a@a>", w+"<a@a>", "a@a,"+w+",a@"+w, w+".a@a", "a@a."+w)
	}
	for seed := range uint64(100) {
		list = append(list, samples.Noise(1000, seed))
		list = append(list, drawn("aaaa@@..<>,; ", 1000, seed), drawn("aab@.<>,;:()[]\"\\ \x00", 1000, seed))
	}
	return append(list, samples.AllBytes())
}

// P11.1: fields of which every piece is empty.
func TestEmptyFields(t *testing.T) {
	for _, s := range []string{"", " ", "\t", "\r\n", " \t\r\n ", "()", "(a@b)", " (a) ( b (c)) ", "(\\))", ",", ";", ",,", ";;", ",;,", " , ; ", "(a),(b);(c)", ":", "::", "g:", "g:;", "g: ;", "g:,", ":;:,:", "g h:;", "\"g\":;", "[g]:;", "a@b:", "a.b@c:;", "<a@b>:", "x<a@b>:;", "<:>:", "<a@b:;,>:", "\x00:", "\\:;", "g:(a@b);", "x:y:,z:;"} {
		checkParse(t, s, true)
		checkParse(t, s+","+s, true)
		checkParse(t, s+";a@b", true, plain("a", "b"))
		checkParse(t, "a@b,"+s, true, plain("a", "b"))
	}
}

// P11.1: one piece, several, and empty ones at the start, in the midst and at the end.
func TestPieces(t *testing.T) {
	a, b, c := plain("a", "x"), named("B b", "b", "y"), plain("c", "[z]")
	checkParse(t, "a@x", true, a)
	checkParse(t, "a@x,B b<b@y>", true, a, b)
	checkParse(t, "a@x;B b<b@y>", true, a, b)
	checkParse(t, "a@x,B b<b@y>;c@[z]", true, a, b, c)
	checkParse(t, "c@[z],c@[z],a@x", true, c, c, a)
	for _, gap := range []string{",", ";", ",,", ";;", ",;", ";,", " , ,\r\n ;", "(,),", ",(;)", ",g:,", ",g:", ";g:", ",g:;", ",g:,;h:", ";:;:"} {
		checkParse(t, "a@x"+gap+"B b<b@y>"+gap+"c@[z]", true, a, b, c)
		checkParse(t, "B b<b@y>"+gap+gap+"a@x"+gap, true, b, a)
		checkParse(t, gap+"c@[z]"+gap+"B b<b@y>"+gap, true, c, b)
	}
}

// P11.1: commas and semicolons that divide no pieces.
func TestSeparatorsInside(t *testing.T) {
	for _, separator := range []string{",", ";", ",,", ";,;"} {
		checkOne(t, "\"a"+separator+"b\"@c", plain("a"+separator+"b", "c"))
		checkOne(t, "\"a"+separator+"b\" <c@d>", named("a"+separator+"b", "c", "d"))
		checkOne(t, "a@[b"+separator+"c]", plain("a", "[b"+separator+"c]"))
		checkOne(t, "a(b"+separator+"c)@d", plain("a", "d"))
		checkOne(t, "a<b(c"+separator+"d)@e>", named("a", "b", "e"))
		checkOne(t, "a<@b"+separator+"c:d@e>", named("a", "d", "e"))
		checkNone(t, "a<b@c"+separator+"d@e>")
		checkNone(t, "a<b"+separator+"c@d>")
		checkNone(t, "<"+separator+">")
		checkNone(t, "<"+separator)
		checkNone(t, "a<b@c"+separator+"d@e")
		checkNone(t, "\"a"+separator+"b@c")
		checkNone(t, "(a"+separator+"b@c")
		checkNone(t, "[a"+separator+"b@c")
	}
	// What nothing opened encloses no separator, and a bracket that is closed does no longer.
	checkParse(t, "a>,b@c", false, plain("b", "c"))
	checkParse(t, "a),b@c", false, plain("b", "c"))
	checkParse(t, "a],b@c", false, plain("b", "c"))
	checkParse(t, "a\\,b@c", false, plain("b", "c"))
	checkParse(t, "<a@b>>,c@d", false, plain("c", "d"))
	checkParse(t, "<<a@b>,c@d>", false)
	checkParse(t, "<<a@b>,c@d,>", false, plain("c", "d"))
	checkParse(t, "<a,b@c", false)
	checkParse(t, "e@f,<a,b@c;d@e", false, plain("e", "f"))
	checkParse(t, "e@f,(a,b@c;d@e", false, plain("e", "f"))
}

// P11.1: names of groups, which everything up to the last colon outside angle brackets is.
func TestGroups(t *testing.T) {
	checkOne(t, "g:a@b", plain("a", "b"))
	checkOne(t, " g : a@b ", plain("a", "b"))
	checkOne(t, "g h:a@b", plain("a", "b"))
	checkOne(t, ":a@b", plain("a", "b"))
	checkOne(t, "::a@b", plain("a", "b"))
	checkOne(t, "x: y: a@b", plain("a", "b"))
	checkOne(t, "a@b:c@d", plain("c", "d"))
	checkOne(t, "<a@b>:c@d", plain("c", "d"))
	checkOne(t, "x<a@b>y:z<c@d>", named("z", "c", "d"))
	checkOne(t, "<a:b>:c:<d@e>", plain("d", "e"))
	checkOne(t, "g:<@r:a@b>", plain("a", "b"))
	checkOne(t, "g:\"h:i\"<a@b>", named("h:i", "a", "b"))
	checkOne(t, "g(:):a(:)@b", plain("a", "b"))
	checkOne(t, "[g:]>\x00.:a@[b:c]", plain("a", "[b:c]"))
	checkOne(t, "<a>b@c:d@e", plain("d", "e"))
	checkNone(t, "g:a")
	checkNone(t, "g:a@b c")
	checkNone(t, "g a@b")
	checkNone(t, "a<b:c@d>")
	checkNone(t, "<a@b:c@d>")
	checkNone(t, "<g:a@b>")
	checkNone(t, "<a:b@c")
	checkNone(t, "<a@b>c:d")
	checkNone(t, "a@b:c")
	checkNone(t, "\"g:\"a@b")
	checkNone(t, "(g:a@b")
	checkParse(t, "g:a@b,c@d;e@f", true, plain("a", "b"), plain("c", "d"), plain("e", "f"))
	checkParse(t, "g:a@b,h:c@d;i:;j:e@f", true, plain("a", "b"), plain("c", "d"), plain("e", "f"))
	checkParse(t, "g:a@b", true, plain("a", "b"))
	checkParse(t, "g:a@b,", true, plain("a", "b"))
	checkParse(t, "g:,a@b", true, plain("a", "b"))
	checkParse(t, "g:a@b,c:", true, plain("a", "b"))
	checkParse(t, "a@b:,c@d", true, plain("c", "d"))
	checkParse(t, "g: a@b, \"x y\" <c.d@E>;", true, plain("a", "b"), named("x y", "c.d", "E"))
}

// P11.1: addr-specs of one word and of several, of atoms, of quoted strings and of both.
func TestSpecs(t *testing.T) {
	for _, c := range []struct{ local, want string }{
		{"a", "a"},
		{"a.b", "a.b"},
		{"a.b.c.d", "a.b.c.d"},
		{"a . b", "a.b"},
		{"\"a\"", "a"},
		{"\"\"", ""},
		{"\"a b\"", "a b"},
		{"\"a\".\"b\"", "a.b"},
		{"\"\".\"\"", "."},
		{"\"a b\".\"c\"", "a b.c"},
		{"a.\"b c\"", "a.b c"},
		{"\"a.b\".c", "a.b.c"},
		{"a.\"\".b", "a..b"},
		{"\".\"", "."},
		{"\"a\\\"b\\\\c\\d\"", "a\"b\\cd"},
		{"\"a\r\n b\"", "a b"},
		{"\"a\\\r\\\nb\"", "a\r\nb"},
		{"\"<@>,;:\"", "<@>,;:"},
		{"\"(a)\"", "(a)"},
		{"\"\x00\x7f\"", "\x00\x7f"},
		{"\xff", "\xff"},
		{"é.ü", "é.ü"},
		{"!#$%&'*+-/=?^_`{|}~", "!#$%&'*+-/=?^_`{|}~"},
		{strings.Repeat("a", 300), strings.Repeat("a", 300)},
		{strings.Repeat("a.", 300) + "b", strings.Repeat("a.", 300) + "b"},
	} {
		checkOne(t, c.local+"@d", plain(c.want, "d"))
		checkOne(t, "<"+c.local+"@d>", plain(c.want, "d"))
		checkOne(t, "n <"+c.local+"@[d]>", named("n", c.want, "[d]"))
	}
	for _, local := range []string{"", ".", "..", "a.", ".a", "a..b", "a...b", ".a.", "a.b.", ".a.b", "a b", "a \"b\"", "\"a\" b", "\"a\"\"b\"", "a\"b\"", "\"a\"b", "a.b c", "a b.c", "\"a\".", ".\"a\"", "\"a\"..\"b\"", "[a]", "a.[b]", "[a].b", "a[b]", "\\", "a\\b", "a)", ")a", "]", "a]", "\x00", "a\x00", "\x7fa", "a.\x01", "a(b)c", "()", "(a)"} {
		checkNone(t, local+"@d")
		checkNone(t, "<"+local+"@d>")
		checkNone(t, "n <"+local+"@[d]>")
	}
}

// P11.1: an addr-spec has one @, which is neither its first token nor its last one.
func TestAtSigns(t *testing.T) {
	for _, piece := range []string{"a", "a.b", "\"a\"", "\"a@b\"", "[a@b]", "a b", ".", "@", "@@", "a@", "@a", "a.b@", "@a.b", "a@@b", "a@b@c", "a@b@", "@a@b", "a@[b]@c", "a@b.@c", "\"a\"@", "@\"a\"", "@[a]", "a@(b)", "(a)@b", "a at b", "a\\@b"} {
		checkNone(t, piece)
		checkNone(t, "<"+piece+">")
		checkNone(t, "n <"+piece+">")
	}
	checkOne(t, "\"a@b\"@c", plain("a@b", "c"))
	checkOne(t, "a@[b@c]", plain("a", "[b@c]"))
	checkOne(t, "a(@)@(@)b", plain("a", "b"))
}

// P11.1: domains of atoms and of one literal, which loses its blanks and nothing else.
func TestDomains(t *testing.T) {
	for _, c := range []struct{ domain, want string }{
		{"b", "b"},
		{"B.c", "B.c"},
		{"b.c.d.e", "b.c.d.e"},
		{"b . c\t.\r\n d", "b.c.d"},
		{"\xff.é", "\xff.é"},
		{"_-=?", "_-=?"},
		{strings.Repeat("b.", 300) + "c", strings.Repeat("b.", 300) + "c"},
		{"[]", "[]"},
		{"[1.2.3.4]", "[1.2.3.4]"},
		{"[ ]", "[]"},
		{"[1 2]", "[12]"},
		{"[1\t2]", "[12]"},
		{"[1\n2]", "[12]"},
		{"[1\r2]", "[12]"},
		{"[ \t1. \r\n 2\n]", "[1.2]"},
		{"[1\v2\f3\u00a04\x00\x08\x0e\x1f\x7f]", "[1\v2\f3\u00a04\x00\x08\x0e\x1f\x7f]"},
		{"[\xff\x80\xc3]", "[\xff\x80\xc3]"},
		{"[1[2]", "[1[2]"},
		{"[1\\]2]", "[1\\]2]"},
		{"[\\\\]", "[\\\\]"},
		{"[\\ \\\r\\\n\\\t]", "[\\\\\\\\]"},
		{"[(1) \"2\" <3>,;:@]", "[(1)\"2\"<3>,;:@]"},
	} {
		checkOne(t, "a@"+c.domain, plain("a", c.want))
		checkOne(t, "<a@"+c.domain+">", plain("a", c.want))
		checkOne(t, "\"n\" <\"a\"@ "+c.domain+" >", named("n", "a", c.want))
	}
	for _, domain := range []string{"", ".", "..", "b.", ".b", "b..c", ".b.", "b.c.", "b c", "b.c d", "\"b\"", "b.\"c\"", "\"b\".c", "\"\"", "[b].c", "c.[b]", "[b] c", "c [b]", "[b].", ".[b]", "[b][c]", "[b].[c]", "[b]]", "[b]\"c\"", "\"c\"[b]", "]", "b]", "\\b", "b\\", "b)", "\x00", "b\x00", "\x7fb", "(b)", "b(c)d"} {
		checkNone(t, "a@"+domain)
		checkNone(t, "<a@"+domain+">")
		checkNone(t, "n <\"a\"@ "+domain+" >")
	}
}

// P11.1: angle brackets.
func TestAngleBrackets(t *testing.T) {
	checkOne(t, "<a@b>", plain("a", "b"))
	checkOne(t, "n<a@b>", named("n", "a", "b"))
	checkOne(t, " n < a @ b > ", named("n", "a", "b"))
	checkOne(t, "n<a@b>(c)", named("n", "a", "b"))
	checkOne(t, "(c)<(d)a@b(e)>(f)", plain("a", "b"))
	checkOne(t, "\"<\" <a@b>", named("<", "a", "b"))
	checkOne(t, "\"n>\" <a@b>", named("n>", "a", "b"))
	checkOne(t, "n(<)<a@b(>)>", named("n", "a", "b"))
	checkOne(t, "<\"<>\"@[<>]>", plain("<>", "[<>]"))
	for _, piece := range []string{"<", ">", "<>", "><", "< >", "n<>", "<(a@b)>", "<a>", "<a@b", "n<a@b", "n a@b>", "a@b>", ">a@b", "<a@b>>", "n<a@b>>", "<<a@b>", "<<a@b>>", "<<>a@b>", "n<<a@b>>", "<a<@b>", "<a@<b>", "<a@b<>", "<a@b><", "<a@b>c", "<a@b>c@d", "<a@b>.", "<a@b>\"c\"", "<a@b>[c]", "<a@b>\x00", "<a@b>\\", "<a@b><c@d>", "<a@b> <c@d>", "n<a@b>m<c@d>", "n><a@b>", "><a@b>", "n>m<a@b>", "<>a@b", "a<>@b", "a@b<>", "a@b<", "a@<b>", "<a>@b", "a@b<c@d>", "<a@b,>", "<,a@b>", "<a@b,c@d>", "<a@b;>", "<;a@b>", "<a@b;c@d>", "<:a@b>", "<a@b:>"} {
		checkNone(t, piece)
	}
}

// P11.1: names in front of angle brackets.
func TestNames(t *testing.T) {
	for _, c := range []struct{ tokens, want string }{
		{"", ""},
		{"n", "n"},
		{"n m", "n m"},
		{"n  \t\r\n m", "n m"},
		{"n(c)m", "n m"},
		{"n o p", "n o p"},
		{"\"n\"", "n"},
		{"\"n\"m", "n m"},
		{"n\"m\"", "n m"},
		{"\"n\"\"m\"", "n m"},
		{"\"n o\" p", "n o p"},
		{"\" n  o \"", " n  o "},
		{"\" n \" \" o \"", " n   o "},
		{"\"n, o; p: <q@r>\"", "n, o; p: <q@r>"},
		{"\"n\\\"o\\\\p\\q\"", "n\"o\\pq"},
		{"\"n\r\n o\"", "n o"},
		{"\"n\\\no\"", "n\no"},
		{"\"\"", ""},
		{"\"\" n", " n"},
		{"n \"\"", "n "},
		{"\"\"\"\"", " "},
		{"n \"\" \"\" o", "n   o"},
		{".", "."},
		{"..", ".."},
		{". .", ".."},
		{".n", ". n"},
		{"n.", "n."},
		{"n .", "n."},
		{"n.m", "n. m"},
		{"n..m", "n.. m"},
		{". n .", ". n."},
		{"J. R. R. T", "J. R. R. T"},
		{"J.R.", "J. R."},
		{"\"n.\" m", "n. m"},
		{"\"n\".\"m\"", "n. m"},
		{"\".\"", "."},
		{"n \".\"", "n ."},
		{"n \".m\"", "n .m"},
		{"\"\".", "."},
		{".\"\"", ". "},
		{"(c)n(d)", "n"},
		{"\xff é", "\xff é"},
		{"=?utf-8?q?n?= o", "=?utf-8?q?n?= o"},
		{"\"\x00\x7f\"", "\x00\x7f"},
		{strings.Repeat("n ", 300), strings.Repeat("n ", 299) + "n"},
	} {
		checkOne(t, c.tokens+"<a@b>", named(c.want, "a", "b"))
		checkOne(t, " "+c.tokens+" (x) <@r:a@b>", named(c.want, "a", "b"))
	}
	for _, tokens := range []string{"@", "n@", "n@m", "@n", ")", "n)", "]", "n]", "\\", "n\\m", ">", "[n]", "n [m]", "[n] m", ".[n]", "\x00", "n\x00", "\x7f n", "n \x1f m", "\"n\" @"} {
		checkNone(t, tokens+"<a@b>")
		checkNone(t, tokens+" <@r:a@b>")
	}
}

// P11.1: a route is an @ and everything up to the first colon.
func TestRoutes(t *testing.T) {
	for _, route := range []string{"@r:", "@:", "@r,@s:", "@r,s:", "@ r . s : ", "@,:", "@;:", "@@:", "@.:", "@r r:", "@a@b:", "@<:", "@r<s:", "@<<:", "@[r:s]:", "@\"r:>\":", "@(r:>)s:", "@\x00:", "@)\\]:"} {
		checkOne(t, "<"+route+"a@b>", plain("a", "b"))
		checkOne(t, "n <"+route+"\"a\".c@[b]>", named("n", "a.c", "[b]"))
		// There is one route and no more.
		checkNone(t, "<"+route+route+"a@b>")
		checkNone(t, "<"+route+":a@b>")
		checkNone(t, "<"+route+"s:a@b>")
		checkNone(t, "<"+route+">")
		checkNone(t, "<"+route+"a>")
		checkNone(t, "<"+route+"@b>")
		checkNone(t, "<"+route+"a@>")
	}
	for _, inner := range []string{"@r", "@", "@r a@b", "@r,a@b", "r:a@b", ":a@b", "r,@s:a@b", "a@b:", "a@b:c", "a@b:c@d", "a@b@r:", "a@b @r:c@d", "r@:a@b", "[@r:]a@b", "\"@r:\"a@b"} {
		checkNone(t, "<"+inner+">")
		checkNone(t, "n <"+inner+">")
	}
	// A piece without angle brackets has no route: up to the colon it is the name of a group.
	checkOne(t, "@r:a@b", plain("a", "b"))
	checkNone(t, "@r,s")
}

// P11.1: what is not closed, and bytes that are no tokens.
func TestBadTokens(t *testing.T) {
	for _, bad := range []string{"(", "\"", "[", "(c", "\"q", "[l", "(a@b", "\"a@b", "[a@b", "(c,d@e;f:g", "\"c,d@e;f:g", "[c,d@e;f:g", "(\\)", "\"\\\"", "[\\]", "((c)", "\x00", "\x01", "\x1f", "\x7f"} {
		checkNone(t, bad)
		checkNone(t, bad+"a@b")
		checkNone(t, "a"+bad+"@b")
		checkNone(t, "a@"+bad+"b")
		checkNone(t, "a@b"+bad)
		checkNone(t, "a@b "+bad)
		checkNone(t, "a."+bad+"@b")
		checkNone(t, "a@b."+bad)
		checkNone(t, bad+"<a@b>")
		checkNone(t, "n "+bad+"<a@b>")
		checkNone(t, "<"+bad+"a@b>")
		checkNone(t, "<a@b"+bad+">")
		checkNone(t, "<a@b>"+bad)
	}
	checkParse(t, "a@b,(c", false, plain("a", "b"))
	checkParse(t, "a@b,\"c", false, plain("a", "b"))
	checkParse(t, "a@b;[c", false, plain("a", "b"))
	checkParse(t, "a@b;<c", false, plain("a", "b"))
}

// P11.1: each single byte, where a token may stand.
func TestBytesInFields(t *testing.T) {
	all := samples.AllBytes()
	for i := range len(all) {
		b := all[i : i+1]
		for _, s := range []string{"%", "%a@b", "a%@b", "a%c@b", "a.%@b", "a@%", "a@%b", "a@b%", "a@b%c", "a@b%c@d", "a@[%]", "a@[b%c]", "\"%\"@b", "\"a%\"@b", "(%)a@b", "%<a@b>", "n%<a@b>", "n%m<a@b>", "\"%\"<a@b>", "<%a@b>", "<a%@b>", "<a@b%>", "<a@b>%", "<@%:a@b>", "<@r%a@b>"} {
			s = strings.ReplaceAll(s, "%", b)
			list, clean := parsed(s)
			checkParse(t, s, clean, list...)
		}
		if i > 32 && i != 127 && !strings.Contains(`()<>[]:;@\,."`, b) {
			checkOne(t, b+"@"+b, plain(b, b))
			checkOne(t, b+"<"+b+"."+b+"@"+b+">", named(b, b+"."+b, b))
		}
	}
}

// P11.1: white space and comments between any two tokens, and at both ends, change nothing.
func TestSpaceBetweenTokens(t *testing.T) {
	for _, c := range []struct {
		tokens string
		want   []api.Addr
	}{
		{"a @ b", []api.Addr{plain("a", "b")}},
		{"a . c @ b . d", []api.Addr{plain("a.c", "b.d")}},
		{"\"a\" . c @ [1.2]", []api.Addr{plain("a.c", "[1.2]")}},
		{"< a . c @ b . d >", []api.Addr{plain("a.c", "b.d")}},
		{"n . \"m\" o < @ r , s : a @ b >", []api.Addr{named("n. m o", "a", "b")}},
		{"g : a @ b , n < c @ [d] > ; e @ f", []api.Addr{plain("a", "b"), named("n", "c", "[d]"), plain("e", "f")}},
		{"g : ; , ;", nil},
	} {
		for _, space := range []string{" ", "\t", "\n", "\r", "\r\n ", " \t \r\n\t", "()", "(c)", "(c)(d)", " (c (d)\\)) ", "(\"<a@b>,;:)", "(\r\n)"} {
			s := strings.ReplaceAll(c.tokens, " ", space)
			checkParse(t, s, true, c.want...)
			checkParse(t, space+s+space, true, c.want...)
		}
	}
	// They do not join tokens either.
	for _, piece := range []string{"a c@b", "a(c)d@b", "a@b c", "a@b(c)d", "a .. c@b", "a. .c@b", "a.(x).c@b", "a @ @ b", "a@(x)@b"} {
		checkNone(t, piece)
	}
}

// P11.1: pieces that denote no address leave the others as they are, in their order.
func TestMixedFields(t *testing.T) {
	a, b := plain("a", "x"), named("B", "b", "y")
	for _, bad := range []string{"c", "c@", "@d", "c d", "<>", "<c>", "<c@d>e", "[c]@d", "c@d@e", ".", "\x00", ">", "n [m] <c@d>"} {
		checkParse(t, bad+",a@x,B<b@y>", false, a, b)
		checkParse(t, "a@x,"+bad+";B<b@y>", false, a, b)
		checkParse(t, "a@x;B<b@y>,"+bad, false, a, b)
		checkParse(t, bad+","+bad+",B<b@y>,"+bad+",,a@x,"+bad, false, b, a)
		checkParse(t, "g:"+bad+",a@x;h:B<b@y>,"+bad+";", false, a, b)
		checkParse(t, bad, false)
		checkParse(t, bad+":a@x", true, a)
	}
	checkParse(t, "a@b@c, d@e", false, plain("d", "e"))
	checkParse(t, "a, <b,c@d>, e@f", false, plain("e", "f"))
}

// P11.1: Parse against a reference of its own kind, for fields of all kinds.
func TestParseAgainstReference(t *testing.T) {
	for _, s := range fields() {
		list, clean := parsed(s)
		checkParse(t, s, clean, list...)
	}
}

// P11.6: two fields that are joined by a comma have the addresses of both, where nothing is open at the end of the first one.
func TestJoinedFields(t *testing.T) {
	list := []string{"", " ", "a@b", "n <a@b>", "a@b,", ",a@b;", "g:a@b", "g:a@b;", "g:", "a@b:", "a", "@", "<>", "a>", "a)", "a]", "a\\", "\x00", "\"x,\"@[y]", "a(c)@b(d)", "<@r,s:t@u>", ">", "[x]", ".", "c@d@e", "(a@b", "\"a@b", "[a@b", "<a@b", "a@b,<", "<<a@b>,c@d", "<a@b><", "\\\"a\"@b"}
	list = append(list, spelled("a@<>:q(", 3)...)
	for seed := range uint64(20) {
		list = append(list, samples.Noise(60, seed), drawn("aab@.<>,;:()[]\"\\ \x00", 60, seed))
	}
	joined := 0
	for _, one := range list {
		if isOpen(one) {
			continue
		}
		ones, oneClean := addr.Parse(one)
		for _, other := range list {
			others, otherClean := addr.Parse(other)
			checkParse(t, one+","+other, oneClean && otherClean, slices.Concat(ones, others)...)
			joined++
		}
	}
	if joined < len(list)*len(list)/4 {
		t.Errorf("only %d fields were joined, of %d", joined, len(list))
	}
	// Where something is open, the comma belongs to it.
	for _, open := range []string{"a@b (", "a@b \"", "a@b [", "n <", "n <a@b"} {
		list, clean := addr.Parse(open + "," + "c@d")
		if !isOpen(open) || len(list) > 0 || clean {
			t.Errorf("Parse(%q) = %s, %v", open+",c@d", shown(list), clean)
		}
	}
	checkParse(t, "<@r,s:c@d>", true, plain("c", "d"))
	checkParse(t, "\"a,b\"@c", true, plain("a,b", "c"))
}

// inMemory is a string that lies in memory which a test may write over.
func inMemory(s string) (string, []byte) {
	memory := append([]byte(s), 0)
	return unsafe.String(&memory[0], len(s)), memory
}

// P11.5, R2: Parse changes and keeps nothing of its argument: the addresses stay as they are when its memory is written over.
func TestParseKeepsNoArgument(t *testing.T) {
	for _, s := range []string{"", "a@b", "pouch@mail", "name <local@domain>", "\"q\" <\"l\"@[d]>", "a . b @ c . d", "g: a@b, \"x y\" <@r:c.d@E>;, e@[1 2]", "\"\"@b", "no address, a@b"} {
		list, clean := parsed(s)
		text, memory := inMemory(s)
		got, ok := addr.Parse(text)
		if text != s {
			t.Errorf("Parse changed its argument to %q", text)
		}
		clear(memory)
		if !slices.Equal(got, list) || ok != clean {
			t.Errorf("what Parse(%q) returned became %s, want %s", s, shown(got), shown(list))
		}
	}
}

// P11.5: lists that were returned are fresh: one stays as it is when another call follows, and changing it changes nothing else.
func TestParsedListsAreFresh(t *testing.T) {
	const s = "a@b, n <c@d>, \"e f\"@[g]"
	want := []api.Addr{plain("a", "b"), named("n", "c", "d"), plain("e f", "[g]")}
	first, _ := addr.Parse(s)
	second, _ := addr.Parse(s)
	addr.Parse("w@x, y z <y@z>, v@u, t@s")
	first[0] = plain("changed", "too")
	_ = append(first[:1], plain("more", "x"), plain("more", "y"), plain("more", "z"))
	if !slices.Equal(second, want) {
		t.Errorf("another list became %s", shown(second))
	}
	checkParse(t, s, true, want...)
}

// P1: Parse ends soon for long fields of the kinds that it stops at.
func TestLongFields(t *testing.T) {
	const many = 50000
	for _, c := range []struct {
		unit  string
		count int
		clean bool
	}{
		{"a", 0, false},
		{" ", 0, true},
		{",", 0, true},
		{";", 0, true},
		{":", 0, true},
		{"a:", 0, true},
		{"g:;", 0, true},
		{"(", 0, false},
		{"()", 0, true},
		{"[", 0, false},
		{"<", 0, false},
		{">", 0, false},
		{"<>", 0, false},
		{"@", 0, false},
		{".", 0, false},
		{"a.", 0, false},
		{"a@", 0, false},
		{"\x00", 0, false},
		{"\\", 0, false},
		{"<:", 0, false},
		{"<a@b>:", 0, true},
		{"a,", 0, false},
		{"<,", 0, false},
		{"a@b,", many, true},
		{"n <a@b>;", many, true},
		{"g:a@b;", many, true},
		{"a,b@c,", many, false},
		{"<@r,s:a@b>,", many, true},
	} {
		list, clean := addr.Parse(strings.Repeat(c.unit, many))
		if len(list) != c.count || clean != c.clean {
			t.Errorf("Parse of %q, repeated, = %s, %v", c.unit, shown(list), clean)
		}
	}
	long := strings.Repeat("a.", many) + "a"
	checkParse(t, long+"@"+long, true, plain(long, long))
	checkParse(t, strings.Repeat("a ", many)+"<a@b>", true, named(strings.Repeat("a ", many-1)+"a", "a", "b"))
	checkParse(t, "<@"+strings.Repeat("<,@", many)+":a@b>", true, plain("a", "b"))
	checkParse(t, "a@["+strings.Repeat(" 1", many)+"]", true, plain("a", "["+strings.Repeat("1", many)+"]"))
}
