package standard_test

// The texts as they stand in the chapter, each with 0A behind its last line.
const (
	sentencesText = `# UAX #29, sentences
let ParaSep = [Sep CR LF]
let SATerm = [STerm ATerm]
SB3: CR >< LF
SB4: ParaSep <>
SB5: >< [Extend Format]
skip [Extend Format]
SB6: ATerm >< Numeric
SB7: [Upper Lower] ATerm >< Upper
SB8: ATerm Close* Sp* >< [^ OLetter Upper Lower Sep CR LF STerm ATerm]* Lower
SB8a: SATerm Close* Sp* >< [SContinue STerm ATerm]
SB9: SATerm Close* >< [Close Sp Sep CR LF]
SB10: SATerm Close* Sp* >< [Sp Sep CR LF]
suppress Sp
SB11: SATerm Close* Sp* <>
else ><
`

	wordsText = `# UAX #29, words (without WB3c)
let Letter = [ALetter Hebrew_Letter]
let Middle = [MidLetter MidNumLet Single_Quote]
let Decimal = [MidNum MidNumLet Single_Quote]
let RI = Regional_Indicator
WB3: CR >< LF
WB3a: [Newline CR LF] <>
WB3b: <> [Newline CR LF]
WB3d: WSegSpace >< WSegSpace
WB4: >< [Extend Format ZWJ]
skip [Extend Format ZWJ]
WB5: Letter >< Letter
WB6: Letter >< Middle Letter
WB7: Letter Middle >< Letter
WB7a: Hebrew_Letter >< Single_Quote
WB7b: Hebrew_Letter >< Double_Quote Hebrew_Letter
WB7c: Hebrew_Letter Double_Quote >< Hebrew_Letter
WB8: Numeric >< Numeric
WB9: Letter >< Numeric
WB10: Numeric >< Letter
WB11: Numeric Decimal >< Numeric
WB12: Numeric >< Decimal Numeric
WB13: Katakana >< Katakana
WB13a: [Letter Numeric Katakana ExtendNumLet] >< ExtendNumLet
WB13b: ExtendNumLet >< [Letter Numeric Katakana]
WB15: ^ [Extend Format ZWJ]* (RI RI)* RI >< RI
WB16: [^ Regional_Indicator Extend Format ZWJ] (RI RI)* RI >< RI
else <>
`

	clustersText = `# UAX #29, extended grapheme clusters (without GB9c and GB11)
let RI = Regional_Indicator
GB3: CR >< LF
GB4: [Control CR LF] <>
GB5: <> [Control CR LF]
GB6: L >< [L V LV LVT]
GB7: [LV V] >< [V T]
GB8: [LVT T] >< T
GB9: >< [Extend ZWJ]
GB9a: >< SpacingMark
GB9b: Prepend ><
GB12: ^ (RI RI)* RI >< RI
GB13: [^ RI] (RI RI)* RI >< RI
else <>
`

	propertyText = `# Sentence_Break, a part of it
000D;CR
000A;LF
0085;Sep
2028..2029;Sep
0300..036F;Extend
0483..0489;Extend
0591..05BD;Extend
064B..065F;Extend
200C..200D;Extend
FE00..FE0F;Extend
00AD;Format
200E..200F;Format
202A..202E;Format
FEFF;Format
0009;Sp
000B..000C;Sp
0020;Sp
00A0;Sp
1680;Sp
2000..200A;Sp
202F;Sp
205F;Sp
3000;Sp
0061..007A;Lower
00AA;Lower
00B5;Lower
00BA;Lower
00DF..00F6;Lower
00F8..00FF;Lower
03AC..03CE;Lower
0430..045F;Lower
0041..005A;Upper
00C0..00D6;Upper
00D8..00DE;Upper
0391..03A1;Upper
03A3..03AB;Upper
0400..042F;Upper
05D0..05EA;OLetter
0621..064A;OLetter
3041..3096;OLetter
30A1..30FA;OLetter
4E00..9FFF;OLetter
AC00..D7A3;OLetter
0030..0039;Numeric
0660..0669;Numeric
066B..066C;Numeric
002E;ATerm
2024;ATerm
FE52;ATerm
FF0E;ATerm
0021;STerm
003F;STerm
0589;STerm
061F;STerm
3002;STerm
FF01;STerm
FF1F;STerm
FF61;STerm
002C..002D;SContinue
003A;SContinue
055D;SContinue
060C;SContinue
2013..2014;SContinue
3001;SContinue
FF0C..FF0D;SContinue
FF1A;SContinue
0022;Close
0027..0029;Close
005B;Close
005D;Close
007B;Close
007D;Close
00AB;Close
00BB;Close
2018..201F;Close
2039..203A;Close
3008..3011;Close
FF08..FF09;Close
`

	bundleText = `# after which abbreviations a sentence goes on
[root]
[en]
+ Mr.
+ Mrs.
+ Ms.
+ Dr.
+ Prof.
+ St.
+ Jr.
+ Sr.
+ vs.
+ e.g.
+ i.e.
+ U.S.
+ U.K.
+ No.
+ Fig.
+ a.m.
+ p.m.
[en_GB]
- St.
+ Rev.
[en_AU]
parent en_GB
+ Hon.
[de]
+ Hr.
+ Fr.
+ Dr.
+ Prof.
+ Nr.
+ Str.
+ bzw.
+ usw.
+ z. B.
+ z.B.
+ d. h.
+ u. a.
[de_CH]
- Str.
[fr]
+ M.
+ MM.
+ Mme.
+ p. ex.
+ etc.
`
)
