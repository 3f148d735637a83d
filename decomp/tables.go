package decomp

import "strings"

// No letter of the pairs is below the first or above the last one: most characters are seen to be none by that.
const (
	firstMade = 0xc0
	lastMade  = 0x3094
)

// row is a mark, and letters: each one ahead of the letter that is made of it and the mark.
type row struct {
	mark    rune
	letters string
}

// romans are the letters of the numbers from 1 to 12.
var romans = [12]string{"I", "II", "III", "IV", "V", "VI", "VII", "VIII", "IX", "X", "XI", "XII"}

// ligatures are the letters of those from fb00 on.
var ligatures = [6]string{"ff", "fi", "fl", "ffi", "ffl", "\u017ft"}

// pairs are the rows of the pairs.
func pairs() [15]row {
	return [15]row{
		{0x300, "AÀEÈIÌOÒUÙaàeèiìoòuù"},
		{0x301, "AÁEÉIÍOÓUÚYÝaáeéiíoóuúyýCĆcćLĹlĺNŃnńRŔrŕSŚsśZŹzźΑΆΕΈΗΉΙΊΟΌΥΎΩΏαάεέηήιίοόυύωώϊΐϋΰ"},
		{0x302, "AÂEÊIÎOÔUÛaâeêiîoôuûCĈcĉGĜgĝHĤhĥJĴjĵSŜsŝWŴwŵYŶyŷ"},
		{0x303, "AÃNÑOÕaãnñoõIĨiĩUŨuũ"},
		{0x304, "AĀaāEĒeēIĪiīOŌoōUŪuū"},
		{0x306, "AĂaăEĔeĕGĞgğIĬiĭOŎoŏUŬuŭИЙий"},
		{0x307, "CĊcċEĖeėGĠgġIİZŻzż"},
		{0x308, "AÄEËIÏOÖUÜaäeëiïoöuüyÿYŸΙΪΥΫιϊυϋЕЁеё"},
		{0x30a, "AÅaåUŮuů"},
		{0x30b, "OŐoőUŰuű"},
		{0x30c, "CČcčDĎdďEĚeěLĽlľNŇnňRŘrřSŠsšTŤtťZŽzž"},
		{0x327, "CÇcçGĢgģKĶkķLĻlļNŅnņRŖrŗSŞsşTŢtţ"},
		{0x328, "AĄaąEĘeęIĮiįUŲuų"},
		{0x3099, "かがきぎくぐけげこごさざしじすずせぜそぞただちぢつづてでとどはばひびふぶへべほぼうゔ"},
		{0x309a, "はぱひぴふぷへぺほぽ"},
	}
}

// looseText is what a loose one is, as a text; of others it is empty.
func looseText(r rune) string {
	switch {
	case r < 0xa0:
		return ""
	case r <= 0x17f:
		return looseLatin(r)
	case 0x2002 <= r && r <= 0x200a, r == 0x202f, r == 0x205f, r == 0x3000:
		return " "
	case r == 0x2011:
		return "\u2010"
	case r == 0x2070, 0x2074 <= r && r <= 0x2079:
		return string('0' + r - 0x2070)
	case 0x2080 <= r && r <= 0x2089:
		return string('0' + r - 0x2080)
	case 0x2160 <= r && r <= 0x216b:
		return romans[r-0x2160]
	case 0x2170 <= r && r <= 0x217b:
		return strings.ToLower(romans[r-0x2170])
	case 0xfb00 <= r && r <= 0xfb05:
		return ligatures[r-0xfb00]
	case 0xff01 <= r && r <= 0xff5e:
		return string('!' + r - 0xff01)
	}
	return ""
}

// looseLatin is looseText of the code points from a0 to 17f.
func looseLatin(r rune) string {
	switch r {
	case 0xa0:
		return " "
	case 0xa8:
		return " \u0308"
	case 0xaa:
		return "a"
	case 0xaf:
		return " \u0304"
	case 0xb2:
		return "2"
	case 0xb3:
		return "3"
	case 0xb4:
		return " \u0301"
	case 0xb5:
		return "\u03bc"
	case 0xb8:
		return " \u0327"
	case 0xb9:
		return "1"
	case 0xba:
		return "o"
	case 0xbc:
		return "1\u20444"
	case 0xbd:
		return "1\u20442"
	case 0xbe:
		return "3\u20444"
	case 0x132:
		return "IJ"
	case 0x133:
		return "ij"
	case 0x13f:
		return "L\u00b7"
	case 0x140:
		return "l\u00b7"
	case 0x149:
		return "\u02bcn"
	case 0x17f:
		return "s"
	}
	return ""
}
