package trie_test

import (
	"testing"

	"portcullis/api"
	"portcullis/trie"
)

// 11.1: a form that is there is there no more, whichever key of it is named, and the others are; its region is read until Grace.
func TestDelete(t *testing.T) {
	x, m := with(t, 3, none, eight, twelve)
	wantDelete(t, x, key(8, "\x0a\xff"), api.OK)
	wantForms(t, x, none, twelve)
	wantAt(t, x, eight, region)
	wantAt(t, x, twelve, 3*region)
	wantAt(t, x, key(12, "\x0a\x30"), region)
	wantRegions(t, m, firsts(3)...)
	wantDelete(t, x, key(8, "\x0a\xff"), api.ErrNone)
	wantDelete(t, x, eight, api.ErrNone)
	wantErr(t, "Write", m.Write(2*region+2, 1, 'z'), api.OK)
	wantBytes(t, m, 2*region, "00z")
	m.Grace()
	wantFault(t, m, 2*region, api.FaultFreed)
	wantRegions(t, m, held(1, "001"), held(3, "003"))
	wantDelete(t, x, eight, api.ErrNone)

	wantDelete(t, x, none, api.OK)
	wantAt(t, x, eight, 0)
	wantDelete(t, x, twelve, api.OK)
	wantForms(t, x)
	wantAt(t, x, twelve, 0)
	m.Grace()
	wantRegions(t, m)
}

// 11.1: ErrNone of a form that isn't there: one that an entry's prefix begins with, one that begins with an entry's, one at which two part; nothing is changed.
func TestDeleteOfNone(t *testing.T) {
	x, m := with(t, 3, eight, twelve, beside)
	for _, k := range []string{
		none, key(1, "\x00\x00"), key(7, "\x0a\x00"), key(9, "\x0a\x00"), key(10, "\x0a\x00"), key(11, "\x0a\x10"), key(11, "\x0a\x20"),
		key(13, "\x0a\x10"), key(16, "\x0a\x10"), key(12, "\x0a\x30"), key(12, "\x0a\x00"), key(8, "\x0b\x00"), key(8, "\x8a\x00"), key(16, "\xff\xff"),
	} {
		wantDelete(t, x, k, api.ErrNone)
		wantForms(t, x, eight, twelve, beside)
	}
	for _, k := range notKeys {
		wantDelete(t, x, k, api.ErrArg)
	}
	wantForms(t, x, eight, twelve, beside)
	m.Grace()
	wantRegions(t, m, firsts(3)...)
	wantAt(t, x, eight, region)
	wantAt(t, x, twelve, 2*region)
	wantAt(t, x, beside, 3*region)

	x, _ = with(t, 3)
	for _, k := range []string{none, eight, key(16, "\xff\xff")} {
		wantDelete(t, x, k, api.ErrNone)
	}
	for _, k := range notKeys {
		wantDelete(t, x, k, api.ErrArg)
	}
}

// 11.1: whichever entry of several goes, one that has others beneath it or none, the others are found as before.
func TestDeleteEach(t *testing.T) {
	forms := []string{none, eight, key(10, "\x0a\x00"), twelve, beside, key(16, "\x0a\x11"), key(16, "\x0a\x1f"), key(1, "\x80\x00")}
	for gone, k := range forms {
		x, m := with(t, len(forms), forms...)
		wantDelete(t, x, k, api.OK)
		var rest []string
		for i, other := range forms {
			if i != gone {
				rest = append(rest, other)
				wantAt(t, x, other, uint64(i+1)*region)
			}
		}
		wantForms(t, x, rest...)
		m.Grace()
		if n := len(m.Regions()); n != len(rest) {
			t.Errorf("without %x: %d regions", k, n)
		}
		wantFault(t, m, uint64(gone+1)*region, api.FaultFreed)
	}
}

// 11.1: a form that comes again has a new region, beside the one that it had, until Grace.
func TestDeleteAndMake(t *testing.T) {
	x, m := with(t, 1, eight)
	wantDelete(t, x, eight, api.OK)
	wantUpdate(t, x, eight, "two", api.UpdateExist, api.ErrNone)
	wantUpdate(t, x, eight, "two", api.UpdateNoExist, api.OK)
	wantAt(t, x, eight, 2*region)
	wantRegions(t, m, held(1, "001"), held(2, "two"))
	wantDelete(t, x, eight, api.OK)
	wantUpdate(t, x, eight, "tri", api.UpdateAny, api.OK)
	wantRegions(t, m, held(1, "001"), held(2, "two"), held(3, "tri"))
	m.Grace()
	wantRegions(t, m, held(3, "tri"))
	wantForms(t, x, eight)
}

// 11.1: behind Delete an address is good until Grace, for reads and writes, whatever else is done, and tells FaultFreed then.
func TestAddressUntilGrace(t *testing.T) {
	for what, then := range map[string]func(x *trie.Map){
		"nothing": func(x *trie.Map) {},
		"Update":  func(x *trie.Map) { x.Update(eight, "new", api.UpdateAny) },
		"Delete":  func(x *trie.Map) { x.Delete(eight) },
		"Free":    func(x *trie.Map) { x.Free() },
	} {
		x, m := with(t, 2, eight, twelve)
		at := x.Lookup(eight)
		wantDelete(t, x, eight, api.OK)
		then(x)
		if x.Lookup(eight) == at {
			t.Errorf("%s: it is there still", what)
		}
		wantBytes(t, m, at, "001")
		wantErr(t, what+", Write", m.Write(at, 2, 0x6261), api.OK)
		wantBytes(t, m, at, "ab1")
		m.Grace()
		wantFault(t, m, at, api.FaultFreed)
		wantErr(t, what+", Write", m.Write(at, 1, 0), api.FaultFreed)
	}
}
