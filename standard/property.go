package standard

import "strings"

// property is put together class by class, so that a class's name stands once.
func property() string {
	var file strings.Builder
	line := func(text string) { file.WriteString(text + "\n") }
	class := func(name string, all ...string) {
		for _, points := range all {
			line(points + ";" + name)
		}
	}
	line("# Sentence_Break, a part of it")
	class("CR", "000D")
	class("LF", "000A")
	class("Sep", "0085", "2028..2029")
	class("Extend", "0300..036F", "0483..0489", "0591..05BD", "064B..065F", "200C..200D", "FE00..FE0F")
	class("Format", "00AD", "200E..200F", "202A..202E", "FEFF")
	class("Sp", "0009", "000B..000C", "0020", "00A0", "1680", "2000..200A", "202F", "205F", "3000")
	class("Lower", "0061..007A", "00AA", "00B5", "00BA", "00DF..00F6", "00F8..00FF", "03AC..03CE", "0430..045F")
	class("Upper", "0041..005A", "00C0..00D6", "00D8..00DE", "0391..03A1", "03A3..03AB", "0400..042F")
	class("OLetter", "05D0..05EA", "0621..064A", "3041..3096", "30A1..30FA", "4E00..9FFF", "AC00..D7A3")
	class("Numeric", "0030..0039", "0660..0669", "066B..066C")
	class("ATerm", "002E", "2024", "FE52", "FF0E")
	class("STerm", "0021", "003F", "0589", "061F", "3002", "FF01", "FF1F", "FF61")
	class("SContinue", "002C..002D", "003A", "055D", "060C", "2013..2014", "3001", "FF0C..FF0D", "FF1A")
	class("Close", "0022", "0027..0029", "005B", "005D", "007B", "007D", "00AB", "00BB", "2018..201F", "2039..203A", "3008..3011", "FF08..FF09")
	return file.String()
}
