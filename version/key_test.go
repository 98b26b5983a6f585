package version_test

import "testing"

// P20.3, P20.4: the chapter's examples.
func TestKeyExamples(t *testing.T) {
	keys(t, "1.2a", nil, row("", "1", ".", "2", "a", "0"), nil, "1.2a0")
	keys(t, "0:0-00", nil, nil, nil, "0")
	keys(t, "12:0.10-1~", row("", "12"), row("", "0", ".", "10"), row("", "1", "~", "0"), "12:0.10-1~0")
	keys(t, "0:007-0", nil, row("", "7"), nil, "7")
	keys(t, "1-2-00", nil, row("", "1", "-", "2"), nil, "1-2-0")
	keys(t, "0:1:2", nil, row("", "1", ":", "2"), nil, "0:1:2")
	keys(t, "00", nil, nil, nil, "0")
	keys(t, "03:1-~", row("", "3"), row("", "1"), row("~", "0"), "3:1-~0")
	keys(t, "1.", nil, row("", "1", ".", "0"), nil, "1.0")
}

// P20.3: blocks of no text and the number 0 are left out at a list's end, and nowhere else.
func TestNoughts(t *testing.T) {
	keys(t, "0", nil, nil, nil, "0")
	keys(t, "0-0", nil, nil, nil, "0")
	keys(t, "0.0", nil, row("", "0", ".", "0"), nil, "0.0")
	keys(t, "0a", nil, row("", "0", "a", "0"), nil, "0a0")
	keys(t, "00~00", nil, row("", "0", "~", "0"), nil, "0~0")
	keys(t, "1.00.0", nil, row("", "1", ".", "0", ".", "0"), nil, "1.0.0")
	keys(t, "1-00a00", nil, row("", "1"), row("", "0", "a", "0"), "1-0a0")
	keys(t, "1-a00", nil, row("", "1"), row("a", "0"), "1-a0")
	keys(t, "0-a", nil, nil, row("a", "0"), "0-a0")
	keys(t, "5:0", row("", "5"), nil, nil, "5:0")
	keys(t, "5:00-00.00", row("", "5"), nil, row("", "0", ".", "0"), "5:0-0.0")
}

// P20.3: each number is in tens without noughts ahead, however long it is.
func TestKeyNumbers(t *testing.T) {
	keys(t, "0012:0034.0056-0078", row("", "12"), row("", "34", ".", "56"), row("", "78"), "12:34.56-78")
	keys(t, "100:100-100", row("", "100"), row("", "100"), row("", "100"), "100:100-100")
	keys(t, "018446744073709551616a099999999999999999999999", nil, row("", "18446744073709551616", "a", "99999999999999999999999"), nil, "18446744073709551616a99999999999999999999999")
}

// P20.3: a revision's first block may have a text, and each text is all that stands ahead of a digit.
func TestKeyTexts(t *testing.T) {
	keys(t, "1.a~+Z2-rc+~.3Q", nil, row("", "1", ".a~+Z", "2"), row("rc+~.", "3", "Q", "0"), "1.a~+Z2-rc+~.3Q0")
	keys(t, "1:2:-:3--4", row("", "1"), row("", "2", ":-:", "3", "-", "0"), row("", "4"), "1:2:-:3-0-4")
}

// P20.4: a colon in the upstream list needs an epoch, a minus there needs a revision, and they are 0 where there is none.
func TestCanonNeeds(t *testing.T) {
	keys(t, "00:1:2-00", nil, row("", "1", ":", "2"), nil, "0:1:2")
	keys(t, "0:1:2-3", nil, row("", "1", ":", "2"), row("", "3"), "0:1:2-3")
	keys(t, "0:1:", nil, row("", "1", ":", "0"), nil, "0:1:0")
	keys(t, "07:1:2", row("", "7"), row("", "1", ":", "2"), nil, "7:1:2")
	keys(t, "1-2-0", nil, row("", "1", "-", "2"), nil, "1-2-0")
	keys(t, "1--0", nil, row("", "1", "-", "0"), nil, "1-0-0")
	keys(t, "1-2-03", nil, row("", "1", "-", "2"), row("", "3"), "1-2-3")
	keys(t, "0:1-2-0", nil, row("", "1", "-", "2"), nil, "1-2-0")
	keys(t, "0:0-:0-00", nil, row("", "0", "-:", "0"), nil, "0:0-:0-0")
	keys(t, "9:1-2-0", row("", "9"), row("", "1", "-", "2"), nil, "9:1-2-0")
}

// P20.3, P20.4: an epoch of 0 is none.
func TestEpochOfNought(t *testing.T) {
	for _, epoch := range []string{"", "0:", "00:", "0000000000000000000000:"} {
		keys(t, epoch+"1", nil, row("", "1"), nil, "1")
		keys(t, epoch+"1a-1", nil, row("", "1", "a", "0"), row("", "1"), "1a0-1")
	}
	keys(t, "0000000000000000000001:1", row("", "1"), row("", "1"), nil, "1:1")
}

// P20.3, P20.4: ErrVersion, if it isn't legal.
func TestKeyOfIllegal(t *testing.T) {
	for _, s := range []string{"", "x", "1-", ":1", "1:", "1_2", "1:2-3:4", "1\xff"} {
		illegal(t, s)
	}
}
