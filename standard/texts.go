package standard

const sentences = `# UAX #29, sentences
let ParaSep = [Sep CR LF]
let SATerm = [STerm ATerm]
SB3: CR >< LF
SB4: ParaSep <>
SB5: >< [Extend Format]
skip [Extend Format]
SB6: ATerm >< Numeric
SB7: [Upper Lower] ATerm >< Upper
SB8: ATerm Close* Sp* >< [^ OLetter Upper Lower Sep CR LF STerm ATerm]* Lower
SB8a: SATerm Close* Sp* >< [SContinue STerm ATerm]
SB9: SATerm Close* >< [Close Sp Sep CR LF]
SB10: SATerm Close* Sp* >< [Sp Sep CR LF]
suppress Sp
SB11: SATerm Close* Sp* <>
else ><
`

const words = `# UAX #29, words (without WB3c)
let Letter = [ALetter Hebrew_Letter]
let Middle = [MidLetter MidNumLet Single_Quote]
let Decimal = [MidNum MidNumLet Single_Quote]
let RI = Regional_Indicator
WB3: CR >< LF
WB3a: [Newline CR LF] <>
WB3b: <> [Newline CR LF]
WB3d: WSegSpace >< WSegSpace
WB4: >< [Extend Format ZWJ]
skip [Extend Format ZWJ]
WB5: Letter >< Letter
WB6: Letter >< Middle Letter
WB7: Letter Middle >< Letter
WB7a: Hebrew_Letter >< Single_Quote
WB7b: Hebrew_Letter >< Double_Quote Hebrew_Letter
WB7c: Hebrew_Letter Double_Quote >< Hebrew_Letter
WB8: Numeric >< Numeric
WB9: Letter >< Numeric
WB10: Numeric >< Letter
WB11: Numeric Decimal >< Numeric
WB12: Numeric >< Decimal Numeric
WB13: Katakana >< Katakana
WB13a: [Letter Numeric Katakana ExtendNumLet] >< ExtendNumLet
WB13b: ExtendNumLet >< [Letter Numeric Katakana]
WB15: ^ [Extend Format ZWJ]* (RI RI)* RI >< RI
WB16: [^ Regional_Indicator Extend Format ZWJ] (RI RI)* RI >< RI
else <>
`

const clusters = `# UAX #29, extended grapheme clusters (without GB9c and GB11)
let RI = Regional_Indicator
GB3: CR >< LF
GB4: [Control CR LF] <>
GB5: <> [Control CR LF]
GB6: L >< [L V LV LVT]
GB7: [LV V] >< [V T]
GB8: [LVT T] >< T
GB9: >< [Extend ZWJ]
GB9a: >< SpacingMark
GB9b: Prepend ><
GB12: ^ (RI RI)* RI >< RI
GB13: [^ RI] (RI RI)* RI >< RI
else <>
`

const bundle = `# after which abbreviations a sentence goes on
[root]
[en]
+ Mr.
+ Mrs.
+ Ms.
+ Dr.
+ Prof.
+ St.
+ Jr.
+ Sr.
+ vs.
+ e.g.
+ i.e.
+ U.S.
+ U.K.
+ No.
+ Fig.
+ a.m.
+ p.m.
[en_GB]
- St.
+ Rev.
[en_AU]
parent en_GB
+ Hon.
[de]
+ Hr.
+ Fr.
+ Dr.
+ Prof.
+ Nr.
+ Str.
+ bzw.
+ usw.
+ z. B.
+ z.B.
+ d. h.
+ u. a.
[de_CH]
- Str.
[fr]
+ M.
+ MM.
+ Mme.
+ p. ex.
+ etc.
`
