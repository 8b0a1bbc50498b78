package ctype_test

import (
	"fmt"
	"slices"
	"strconv"
	"strings"
	"testing"

	"pouch/ctype"
	"pouch/samples"
)

// checkParams holds the parameters of rows against what is wanted, behind a content type and behind a disposition.
func checkParams(t *testing.T, rows string, want ...string) {
	t.Helper()
	checkType(t, "a/b;"+rows, "a", "b", want...)
	checkWord(t, "a;"+rows, "a", want...)
	checkWord(t, ";"+rows, "", want...)
	checkWord(t, ";;"+rows, "", want...)
	checkNoType(t, ";"+rows)
	checkReference(t, "a/b;"+rows)
}

// permuted lists all orders of l.
func permuted(l []string) [][]string {
	if len(l) == 0 {
		return [][]string{nil}
	}
	var all [][]string
	for i := range l {
		rest := slices.Delete(slices.Clone(l), i, i+1)
		for _, order := range permuted(rest) {
			all = append(all, append([]string{l[i]}, order...))
		}
	}
	return all
}

// P12.1: the parameter of a row.
func TestRows(t *testing.T) {
	for _, c := range []struct{ row, name, value string }{
		{"x=y", "x", "y"},
		{" x=y ", "x", "y"},
		{"X=Y", "x", "Y"},
		{"x =y", "x", "y"},
		{"x= y", "x", "y"},
		{"x = y", "x", "y"},
		{"x=", "x", ""},
		{"x=y z", "x", "yz"},
		{"x y=z", "xy", "z"},
		{"x Y . Z=w", "xy.z", "w"},
		{"x=y=z", "x", "y=z"},
		{"x==", "x", "="},
		{"x==y", "x", "=y"},
		{"x=y=", "x", "y="},
		{"x=y z=w", "x", "yz=w"},
		{"x= =", "x", "="},
		{"x =y=z", "x", "y=z"},
		{"x=y.z", "x", "y.z"},
		{"x=.", "x", "."},
		{"x=y/z?", "x", "y/z?"},
		{"x.y=z", "x.y", "z"},
		{".=y", ".", "y"},
		{"x@y=z", "x@y", "z"},
		{"x=@y,<z>:\\w", "x", "@y,<z>:\\w"},
		{"\"x\"=y", "\"x\"", "y"},
		{"\"X=Y\"z=w", "\"x=y\"z", "w"},
		{"[x]=y", "[x]", "y"},
		{"[x=y]=z", "[x=y]", "z"},
		{"(x=y)z=w", "z", "w"},
		{"x(c)=(d)y(e)", "x", "y"},
		{"x\x00=y", "x\x00", "y"},
		{"x]=y", "x]", "y"},
		{"x=\"y\"", "x", "y"},
		{"x= \"y\"", "x", "y"},
		{"x=\r\n\t\"y\"", "x", "y"},
		{"x=(c)\"y\"", "x", "y"},
		{"x =\"y\"", "x", "y"},
		{"x=\"\"", "x", ""},
		{"x=\" y  z \"", "x", " y  z "},
		{"x=\"y\\\"z\\\\w\\v\"", "x", "y\"z\\wv"},
		{"x=\"y\r\n z\"", "x", "y z"},
		{"x=\"y\\\r\\\nz\"", "x", "y\r\nz"},
		{"x=\"y;z=w\"", "x", "y;z=w"},
		{"x=\"(y)\"", "x", "(y)"},
		{"x=\"y\xff\x80\"", "x", "y\xff\x80"},
		{"x=\"y\"z", "x", "y"},
		{"x=\"y\" z=w", "x", "y"},
		{"x=\"y\"\"z\"", "x", "y"},
		{"x=\"\"\"z\"", "x", ""},
		{"x=\"y\"[z]\x00\\", "x", "y"},
		{"x=y\"z\"", "x", "y\"z\""},
		{"x=y \"z\"", "x", "y\"z\""},
		{"x==\"y\"", "x", "=\"y\""},
		{"x=y=\"z\"", "x", "y=\"z\""},
		{"x=.\"y\"", "x", ".\"y\""},
		{"x= =\"y\"", "x", "=\"y\""},
		{"x=[y]\"z\"", "x", "[y]\"z\""},
		{"x=\x01\"y\"", "x", "\x01\"y\""},
		{"x=y\"\\\"\"", "x", "y\"\\\"\""},
		{"x=[y\\]]", "x", "[y\\]]"},
		{"\"w\"x=\"y\"", "\"w\"x", "y"},
		{"é=ü", "é", "ü"},
		{"É\xff=\xff", "É\xff", "\xff"},
		{"x=%41", "x", "%41"},
		{"x=utf-8''y", "x", "utf-8''y"},
		{"x%41=y", "x%41", "y"},
		{"x'=y", "x'", "y"},
	} {
		checkParams(t, c.row, c.name, c.value)
		checkParams(t, "k=l;"+c.row+";m=n", "k", "l", c.name, c.value, "m", "n")
		checkParams(t, c.row+";"+c.row, c.name, c.value)
	}
	for _, row := range []string{"", "x", "x y", "=", "=y", " = y", "=\"y\"", "==", "==y", "= x=y", "(x)=y", "\"x=y\"", "\"x\"", "\"=\"", "[x=y]", "[=]", "(x=y)", "x\"=\"y", "x(=)y", "x:y", ".", "x.y", "\x00", "\\", "/"} {
		checkParams(t, row)
		checkParams(t, "k=l;"+row+";m=n", "k", "l", "m", "n")
	}
}

// P12.1: each single byte in a name and in a value.
func TestBytesInRows(t *testing.T) {
	all := samples.AllBytes()
	for i := range len(all) {
		b := all[i : i+1]
		for _, s := range []string{"%=y", "x%=y", "%x=y", "x%z=y", "x=%", "x=%y", "x=y%", "x=y%z", "x=\"%\"", "x=\"y%z\"", "x=%\"y\"", "x%\"y\"", "x*%=y", "x*0%=y", "x*%0=y", "x*=%", "x*=''%", "x*=%''y", "x*=utf-8'%'y", "x*=latin1''y%z", "x*0=%;x*1=y", "x*0*=''y;x*1=%", "x*0*=%;x*1*=y"} {
			checkReference(t, "a/b;"+strings.ReplaceAll(s, "%", b)+";m=n")
		}
		if i > 32 && i != 127 && !strings.Contains(`()<>[]:;@\,."=*`, b) {
			checkParams(t, b+"="+b, lowered(b), b)
			checkParams(t, "x"+b+"z=y"+b+"w", "x"+lowered(b)+"z", "y"+b+"w")
		}
	}
}

// P12.1: names that end with an asterisk, and names with a number behind one.
func TestNames(t *testing.T) {
	for _, c := range []struct {
		name, decoded string
		extended      bool
	}{
		{"n", "n", false},
		{"N", "n", false},
		{"n*", "n", true},
		{"*", "*", false},
		{"**", "*", true},
		{"***", "**", true},
		{"n**", "n*", true},
		{"n***", "n**", true},
		{"*n", "*n", false},
		{"*n*", "*n", true},
		{"n*0", "n", false},
		{"n*0*", "n", true},
		{"N*0*", "n", true},
		{"n**0", "n*", false},
		{"n*0**", "n*0*", true},
		{"n**0*", "n*", true},
		{"n*64", "n*64", false},
		{"n*64*", "n*64", true},
		{"n*99", "n*99", false},
		{"n*100", "n*100", false},
		{"n*99999999999999999999", "n*99999999999999999999", false},
		{"n*00", "n*00", false},
		{"n*00*", "n*00", true},
		{"n*01", "n*01", false},
		{"n*-1", "n*-1", false},
		{"n*-0", "n*-0", false},
		{"n*+0", "n*+0", false},
		{"n*+1*", "n*+1", true},
		{"n*x", "n*x", false},
		{"n*0x", "n*0x", false},
		{"n*0x0*", "n*0x0", true},
		{"n*X*", "n*x", true},
		{"n*1*0", "n*1", false},
		{"n*1*0*", "n*1", true},
		{"n*0*1*0", "n*0*1", false},
		{"n*1*x", "n*1*x", false},
		{"n*1*2x*", "n*1*2x", true},
		{"*0", "", false},
		{"*0*", "", true},
		{"**0", "*", false},
		{"*0*0", "*0", false},
		{"*64", "*64", false},
		{"n.m*0*", "n.m", true},
		{"n.m*", "n.m", true},
		{"n*.0", "n*.0", false},
		{"n*0.", "n*0.", false},
		{"n*\"0\"", "n*\"0\"", false},
		{"\"n\"*0", "\"n\"", false},
		{"n *0", "n", false},
		{"n* 0", "n", false},
		{"n*0 *", "n", true},
		{"n * 0 *", "n", true},
		{"n*(c)0", "n", false},
		{"é*", "é", true},
		{"\xff*0", "\xff", false},
		{"n*\u0660", "n*\u0660", false},
	} {
		value := "%41'b'%42"
		if c.extended {
			value = "B"
		}
		checkParams(t, c.name+"=%41'b'%42", c.decoded, value)
		checkParams(t, "k=l;"+c.name+"=\"%41'b'%42\";m=n", "k", "l", c.decoded, value, "m", "n")
	}
	for n := -70; n < 200; n++ {
		number := strconv.Itoa(n)
		switch {
		case n == 0:
			checkParams(t, "x*0=y", "x", "y")
		case 0 < n && n < 64:
			checkParams(t, "x*"+number+"=y")
			checkParams(t, "x*"+number+"*=y")
		default:
			checkParams(t, "x*"+number+"=y", "x*"+number, "y")
			checkParams(t, "x*"+number+"*=y", "x*"+number, "y")
		}
	}
}

// P12.1: sections in order, in any other order, with gaps, twice, and beside parameters without a section.
func TestSections(t *testing.T) {
	checkParams(t, "x*0=a", "x", "a")
	checkParams(t, "x*0=a;x*1=b", "x", "ab")
	checkParams(t, "x*0=a;x*1=b;x*2=c", "x", "abc")
	checkParams(t, "x*0=\"a \";X*1=\"b;\"", "x", "a b;")
	checkParams(t, "x*0=;x*1=;x*2=", "x", "")
	checkParams(t, "x*0=;x*1=b", "x", "b")
	for _, order := range permuted([]string{"x*0=a", "x*1=b", "x*2=c", "x*3=d"}) {
		checkParams(t, strings.Join(order, ";"), "x", "abcd")
	}
	// A section that is missing ends the value.
	for _, order := range permuted([]string{"x*0=a", "x*2=c", "x*3=d", "m=n"}) {
		rows := strings.Join(order, ";")
		if order[0] == "m=n" {
			checkParams(t, rows, "m", "n", "x", "a")
		} else {
			checkParams(t, rows, "x", "a", "m", "n")
		}
	}
	checkParams(t, "x*0=a;x*1=b;x*3=d;x*4=e", "x", "ab")
	checkParams(t, "x*0=a;x*63=z", "x", "a")
	checkParams(t, "x*0=a;x*01=b", "x", "a", "x*01", "b")
	// Without section 0 there is no value of sections.
	checkParams(t, "x*1=b")
	checkParams(t, "x*1=b;x*2=c;m=n", "m", "n")
	checkParams(t, "x*63*=b")
	checkParams(t, "x*1=b;m=n;x=a", "x", "a", "m", "n")
	checkParams(t, "x*1*=b;m=n;x*=a", "x", "a", "m", "n")
	// Of one number the first section counts, however it is written.
	checkParams(t, "x*0=a;x*0=b", "x", "a")
	checkParams(t, "x*0=a;x*0*=b", "x", "a")
	checkParams(t, "x*0*=%41;x*0=b", "x", "A")
	checkParams(t, "x*0=a;x*1=b;x*1=c;x*1*=d;x*2=e", "x", "abe")
	checkParams(t, "x*1*=%62;x*1=c;x*0=a", "x", "ab")
	checkParams(t, "x*0=;x*0=b;x*1=c", "x", "c")
	// Names do not mix.
	checkParams(t, "x*0=a;y*0=c;x*1=b;y*1=d;*0=e;*1=f;**0=g", "x", "ab", "y", "cd", "", "ef", "*", "g")
	checkParams(t, "x*1*0=a;x*1=b;x*1*1=c", "x*1", "ac")
	checkParams(t, "x*0=a;X*1=b;X=c", "x", "ab")
}

// P12.1: sections, an extended parameter and a plain one of the same name, in any order.
func TestPrecedence(t *testing.T) {
	for _, c := range []struct{ rows, want string }{
		{"x=p", "p"},
		{"x=p|x=q", ""},
		{"x*=e", "e"},
		{"x=p|x*=e", "e"},
		{"x*0=s|x=p", "s"},
		{"x*0=s|x*=e", "s"},
		{"x*0=s|x*=e|x=p", "s"},
		{"x*0*=s|x*=e|x=p", "s"},
		{"x*0=s|x*=e|x=p|x*1=t", "st"},
		{"x*0=|x*=e|x=p", ""},
		{"x*1=t|x*=e|x=p", "e"},
		{"x*1=t|x=p", "p"},
		{"x*1=t|x*=e", "e"},
		{"x*=|x=p", ""},
		{"x*1=t|x*=|x=p", ""},
	} {
		for _, order := range permuted(strings.Split(c.rows, "|")) {
			want := c.want
			if c.rows == "x=p|x=q" {
				want = order[0][2:]
			}
			checkParams(t, strings.Join(order, ";"), "x", want)
		}
	}
	checkParams(t, "x*=e;x*=f;x=p", "x", "e")
	checkParams(t, "x*=f;x*=e;x=p", "x", "f")
	checkParams(t, "x*=;x*=e", "x", "")
	checkParams(t, "x=;x=p", "x", "")
	checkParams(t, "x=1;y=2;x=3;y=4;z=5", "x", "1", "y", "2", "z", "5")
}

// P12.1: names stand in the order in which they first occur, be it in a section that does not count.
func TestOrderOfNames(t *testing.T) {
	checkParams(t, "z=1;y=2;x=3", "z", "1", "y", "2", "x", "3")
	checkParams(t, "z*5=0;y=2;z=1", "z", "1", "y", "2")
	checkParams(t, "z*1=b;y*1=d;y*0=c;z*0=a", "z", "ab", "y", "cd")
	checkParams(t, "z=0;y=2;z*0=1", "z", "1", "y", "2")
	checkParams(t, "z*9=0;y=2;z*8=1;x*0=3;x*=4", "y", "2", "x", "3")
	checkParams(t, "z*=1;=0;y=2;w", "z", "1", "y", "2")
	checkParams(t, "*0=1;y=2;**=3;*=4", "", "1", "y", "2", "*", "3")
}

// P12.1: all 64 sections, in order and backwards.
func TestAllSections(t *testing.T) {
	for _, star := range []string{"", "*"} {
		var rows []string
		want := ""
		for n := range 64 {
			rows = append(rows, fmt.Sprintf("x*%d%s=s%d-", n, star, n))
			want += fmt.Sprintf("s%d-", n)
		}
		rows = append(rows, "x*64"+star+"=no", "x*065"+star+"=no")
		checkParams(t, strings.Join(rows, ";"), "x", want, "x*64", "no", "x*065", "no")
		slices.Reverse(rows)
		checkParams(t, strings.Join(rows, ";"), "x*065", "no", "x*64", "no", "x", want)
		rows = slices.DeleteFunc(rows, func(row string) bool { return strings.HasPrefix(row, "x*40") })
		checkParams(t, strings.Join(rows, ";"), "x*065", "no", "x*64", "no", "x", want[:strings.Index(want, "s40")])
	}
}

// P12.1: extended values: their character sets.
func TestCharsets(t *testing.T) {
	for _, c := range []struct{ value, want string }{
		{"", ""},
		{"a", "a"},
		{"'", "'"},
		{"a'b", "a'b"},
		{"''", ""},
		{"'''", "'"},
		{"''''", "''"},
		{"''a", "a"},
		{"'de'a", "a"},
		{"''a'b", "a'b"},
		{"''a'b'c", "a'b'c"},
		{"utf-8''a", "a"},
		{"utf-8'de'a", "a"},
		{"utf-8'de'a'b", "a'b"},
		{"utf-8'de'", ""},
		{"utf-8'a", "utf-8'a"},
		{"%e2%82%ac", "€"},
		{"%e2%82", "\ufffd\ufffd"},
		{"''%e2%82%ac", "€"},
		{"''%80a", "\ufffda"},
		{"utf-8''%e2%82%ac", "€"},
		{"UTF-8''%E2%82%AC", "€"},
		{"Utf8''%e2%82%aC", "€"},
		{"utf-8''%ff%e2a", "\ufffd\ufffda"},
		{"iso-8859-1'de'%e9%4z", "é%4z"},
		{"ISO-8859-1''%80%ff", "\u0080ÿ"},
		{"latin1''%e9", "é"},
		{"us-ascii''%41%e9", "A\ufffd"},
		{"ASCII''%7f%80", "\x7f\ufffd"},
		{"windows-1252''%80", "€"},
		{"CP1252''%80%81", "€\u0081"},
		{"koi8-r''%80%c1", "€Á"},
		{"unknown'x'%80", "€"},
		{" ''%80", "\ufffd"},
		{"\" ''%80\"", "€"},
		{"%20''%80", "€"},
		{"%75tf-8''%c3%a9", "Ã©"},
		{"utf%2d8''%c3%a9", "Ã©"},
		{"%''%80", "€"},
		{"utf-8%27%27%41", "utf-8''A"},
		{"utf-8'%27%41", "utf-8''A"},
		{"utf-8%27'x'%80", "€"},
		{"\"utf-8''%e2%82%ac x\"", "€ x"},
		{"\"utf-8'a b;c'd\"", "d"},
		{"é", "é"},
		{"\xe9", "\ufffd"},
		{"''\xe9%e9", "\ufffd\ufffd"},
		{"''\xc3%a9", "é"},
		{"latin1''\xe9%e9", "éé"},
		{"latin1''é", "Ã©"},
		{"us-ascii''é", "\ufffd\ufffd"},
		{"\xff''%80", "€"},
	} {
		checkParams(t, "x*="+c.value, "x", c.want)
		checkParams(t, "x*0*="+c.value, "x", c.want)
		checkParams(t, "x=no;x*1*=%2d;x*0*="+c.value+";y", "x", c.want+"-")
	}
	// A value that is not extended is neither decoded nor repaired.
	for _, value := range []string{"utf-8''%41", "''%41", "%41", "\xff", "\xe2\x82", "latin1''\xe9"} {
		checkParams(t, "x="+value, "x", value)
		checkParams(t, "x*0="+value, "x", value)
		checkParams(t, "x*0="+value+";x*1*=%ff%e9;x*2=%41", "x", value+"\xff\xe9%41")
	}
}

// P12.1: percent signs.
func TestPercentSigns(t *testing.T) {
	for _, c := range []struct{ value, want string }{
		{"%41", "A"},
		{"%4a%4A%6f%6F", "JJoo"},
		{"%00%0a%7f", "\x00\n\x7f"},
		{"%", "%"},
		{"%%", "%%"},
		{"%4", "%4"},
		{"%41%", "A%"},
		{"%41%4", "A%4"},
		{"a%4", "a%4"},
		{"%4g", "%4g"},
		{"%g4", "%g4"},
		{"%gg", "%gg"},
		{"%%41", "%A"},
		{"%4%41", "%4A"},
		{"%41%%", "A%%"},
		{"%2541", "%41"},
		{"%25%34%31", "%41"},
		{"%-1", "%-1"},
		{"%+1", "%+1"},
		{"%0x41", "%0x41"},
		{"%\"41\"", "%\"41\""},
		{"\"% 1\"", "% 1"},
		{"\"%4 1\"", "%4 1"},
		{"% 41", "A"},
		{"%4(c)1", "A"},
		{"%.41", "%.41"},
		{"%é41", "%é41"},
		{"%4\u0661", "%4\u0661"},
		{"%41b%42c%43", "AbBcC"},
	} {
		for _, set := range []string{"''", "utf-8'en'"} {
			value := set + c.value
			if strings.HasPrefix(c.value, "\"") {
				value = "\"" + set + c.value[1:]
			}
			checkParams(t, "x*="+value, "x", c.want)
			checkParams(t, "x*0*="+value, "x", c.want)
		}
		checkParams(t, "x*="+c.value, "x", c.want)
		checkParams(t, "x*0=a;x*1*="+c.value+";x*2=%41", "x", "a"+c.want+"%41")
	}
	hexes := "0123456789abcdefABCDEF"
	for i := range len(hexes) {
		for k := range len(hexes) {
			sign := "%" + hexes[i:i+1] + hexes[k:k+1]
			checkParams(t, "x*=latin1''"+sign, "x", converted("latin1", percentless(sign)))
		}
	}
	all := samples.AllBytes()
	for i := range len(all) {
		for _, s := range []string{"%" + all[i:i+1] + "1", "%4" + all[i:i+1], "%4" + all[i:i+1] + "1", "%" + all[i:i+1] + "41"} {
			checkReference(t, "a/b;x*="+s)
			checkReference(t, "a/b;x*=\"''"+s+"\"")
		}
	}
}

// P12.1: what is split over two sections.
func TestSplitValues(t *testing.T) {
	// A percent sign is decoded in its section alone, the bytes of a character in the whole.
	checkParams(t, "x*0*=''%;x*1*=41", "x", "%41")
	checkParams(t, "x*0*=''%4;x*1*=1", "x", "%41")
	checkParams(t, "x*0*=''%4;x*1=1%41;x*2*=%4", "x", "%41%41%4")
	checkParams(t, "x*0*=utf-8''%e2%82;x*1*=%ac", "x", "€")
	checkParams(t, "x*0*=utf-8''%e2;x*1*=%82;x*2*=%ac", "x", "€")
	checkParams(t, "x*0*=''%e2;x*1=\x82;x*2*=%ac", "x", "€")
	checkParams(t, "x*0*=''%e2;x*1=%82;x*2*=%82%ac", "x", "\ufffd%82\ufffd\ufffd")
	checkParams(t, "x*0=\xe2;x*1*=%82%ac", "x", "€")
	checkParams(t, "x*0=\xe2;x*1*=%82", "x", "\xe2\x82")
	checkParams(t, "x*0*=latin1''%c3;x*1*=%a9", "x", "Ã©")
	// The prefix is that of section 0.
	checkParams(t, "x*0*=utf-8;x*1*=''%41", "x", "utf-8''A")
	checkParams(t, "x*0*=utf-8';x*1*='%c3%a9", "x", "utf-8''é")
	checkParams(t, "x*0*=latin1';x*1*='%e9", "x", "latin1''\ufffd")
	checkParams(t, "x*0*=utf-8'';x*1*=latin1''%c3%a9", "x", "latin1''é")
	checkParams(t, "x*0*=latin1'';x*1*=utf-8''%c3%a9", "x", "utf-8''Ã©")
	checkParams(t, "x*0*=latin1''%e9;x*1=\xe9;x*2*=%e9", "x", "ééé")
	checkParams(t, "x*0=latin1''%e9;x*1*=latin1''%41", "x", "latin1''%e9latin1''A")
	checkParams(t, "x*1*=latin1''%41;x*0*=b", "x", "blatin1''A")
	// Sections of both kinds.
	checkParams(t, "x*0=a%41;x*1*=%41;x*2=%41", "x", "a%41A%41")
	checkParams(t, "x*0*=%41;x*1=%41;x*2*=%41", "x", "A%41A")
	checkParams(t, "x*0*=''a;x*1=\"b \\\" c\";x*2*=%20d", "x", "ab \" c d")
	checkParams(t, "a*0*=utf-8''%e2%82; a*1*=%ac;CHARSET=\"x y\"", "a", "€", "charset", "x y")
}

// sectioned writes the pieces of a value as sections, by turns with percent signs and, where they may be, in double quotes.
func sectioned(pieces []string, turn int) []string {
	var rows []string
	for n, piece := range pieces {
		if row := fmt.Sprintf("x*%d", n); n > 0 && (n+turn)%2 == 0 {
			rows = append(rows, row+"="+quotedOf(piece))
			continue
		}
		row := fmt.Sprintf("x*%d*=", n)
		if n == 0 {
			row += "utf-8''"
		}
		rows = append(rows, row+percentedOf(piece))
	}
	return rows
}

// quotedOf is a quoted string of which s is the value, and percentedOf is s with a percent sign for each byte.
func quotedOf(s string) string {
	text := "\""
	for i := range len(s) {
		text += "\\" + s[i:i+1]
	}
	return text + "\""
}

func percentedOf(s string) string {
	text := ""
	for i := range len(s) {
		text += fmt.Sprintf("%%%02x", s[i])
	}
	return text
}

// P12.5: a value that is split into sections at any places, in any order, is read as the whole value.
func TestSectionsOfAnySplit(t *testing.T) {
	for _, value := range []string{"", "a", "ab", "abc d", "a€b", "'é'", "%41", "\U0001f600", ";\"\\=", "a\r\nb\x00"} {
		for i := range len(value) + 1 {
			for k := i; k <= len(value); k++ {
				pieces := []string{value[:i], value[i:k], value[k:]}
				for turn := range 2 {
					for _, order := range permuted(sectioned(pieces, turn)) {
						checkParams(t, strings.Join(order, ";"), "x", value)
					}
				}
			}
		}
	}
	for seed := range uint64(60) {
		value := converted("", samples.Noise(63, seed))[:60]
		value = converted("us-ascii", value)
		var pieces []string
		cuts := samples.Noise(40, seed+100)
		rest := value
		for i := range len(cuts) {
			at := int(cuts[i]) % 6
			at = min(at, len(rest))
			pieces = append(pieces, rest[:at])
			rest = rest[at:]
		}
		rows := sectioned(append(pieces, rest), int(seed))
		slices.SortFunc(rows, func(a, b string) int {
			return strings.Compare(samples.Noise(4, seed+uint64(a[2])*uint64(len(a))), samples.Noise(4, seed+uint64(b[2])*uint64(len(b))))
		})
		got, ok := ctype.Parse("a/b;" + strings.Join(rows, ";"))
		if !ok || !slices.Equal(got.Params, list("x", value)) {
			t.Errorf("the sections of %q are read as %s", value, shown(got.Params))
		}
	}
}
