/-
  The forms of a line: its words and its slot. A line's words are those that package asm prints of its slot. Bytes and texts, of no function of the program.
-/
import Derived.Test.YtemiklbkfogjeaaGreatDoorQ23
import Derived.Test.YtemiklbkfogjeaaGreatDoorQ00
import Derived.Test.YtemiklbkfogjeaaGreatDoorRows
import Derived.WalkKit
import Derived.Lib.Hide
import Derived.IntWalk
import Derived.Laws.Rows
import Derived.WalkSpells
import Derived.Lib.BufferRead
import Derived.Lib.SlBytesRow
import Derived.Shelf.Bytes.SlSmallAll
namespace Go.Proofs.YtemiklbkfogjeaaGreatDoor
open Go Go.RowKit Go.Maps
set_option linter.unusedVariables false
set_option linter.unusedSimpArgs false
set_option maxRecDepth 100000
/-- A register, or a number. -/
def SecOk (reg : Bool) (s m : Int) : Prop := (reg = true ∧ m = 0 ∧ 0 ≤ s ∧ s ≤ 10) ∨ (reg = false ∧ s = 0 ∧ -2147483648 ≤ m ∧ m ≤ 2147483647)
def opOf (reg : Bool) (p : Int) : Int := if reg = true then bits .or .i64 p 8 else p
inductive Form : List ByteArray → Slot → Prop
 | exit : Form [exitT] ⟨149, 0, 0, 0, 0⟩
 | call (m : Int) (hm : -2147483648 ≤ m ∧ m ≤ 2147483647) : Form [callT, dec m] ⟨133, 0, 0, 0, m⟩
 | goto (f : Int) (hf : -32768 ≤ f ∧ f ≤ 32767) : Form [gotoT, farT f] ⟨5, 0, 0, f, 0⟩
 | minus (q d : Int) (hq : q = 4 ∨ q = 7) (hd : 0 ≤ d ∧ d ≤ 10) : Form [regT (letterS q) d, eqT, minusW ++ regT (letterS q) d] ⟨bits .or .i64 q 128, d, 0, 0, 0⟩
 | ext (q d r n : Int) (hq : q = 4 ∨ q = 7) (hd : 0 ≤ d ∧ d ≤ 10) (hr : 0 ≤ r ∧ r ≤ 10) (hn : n = 8 ∨ n = 16 ∨ n = 32) (hx : extendsS q n = true) : Form [regT (letterS q) d, eqT, signT n ++ regT (letterS q) r] ⟨bits .or .i64 q 184, d, r, n, 0⟩
 | oper (q d : Int) (nm : ByteArray) (k x : Int) (reg : Bool) (s m : Int) (hq : q = 4 ∨ q = 7) (hd : 0 ≤ d ∧ d ≤ 10) (hn : (nm, k, x) ∈ operL) (hs : SecOk reg s m) : Form [regT (letterS q) d, nm, secT s m reg (letterS q)] ⟨opOf reg (bits .or .i64 q k), d, s, x, m⟩
 | turn (d : Int) (nm : ByteArray) (op n : Int) (hd : 0 ≤ d ∧ d ≤ 10) (hm : (nm, op) ∈ turnL) (hn : n = 16 ∨ n = 32 ∨ n = 64) : Form [regT wholeT d, eqT, nm ++ dec n, regT wholeT d] ⟨op, d, 0, 0, n⟩
 | jump (q d : Int) (nm : ByteArray) (k : Int) (reg : Bool) (s m f : Int) (hq : q = 5 ∨ q = 6) (hd : 0 ≤ d ∧ d ≤ 10) (hn : (nm, k) ∈ testL) (hs : SecOk reg s m) (hf : -32768 ≤ f ∧ f ≤ 32767) : Form [ifT, regT (letterS q) d, nm, secT s m reg (letterS q), gotoT, farT f] ⟨opOf reg (bits .or .i64 q k), d, s, f, m⟩
 | load (d : Int) (nm : ByteArray) (md sz f b : Int) (hd : 0 ≤ d ∧ d ≤ 10) (hn : (nm, md, sz) ∈ moveL) (hb : 0 ≤ b ∧ b ≤ 10) (hf : -32768 ≤ f ∧ f ≤ 32767) : Form (regT wholeT d :: eqT :: plcW nm f b) ⟨bits .or .i64 (bits .or .i64 md sz) 1, d, b, f, 0⟩
 | store (nm : ByteArray) (sz f b : Int) (reg : Bool) (s m : Int) (hn : (nm, 96, sz) ∈ moveL) (hb : 0 ≤ b ∧ b ≤ 10) (hf : -32768 ≤ f ∧ f ≤ 32767) (hs : SecOk reg s m) : Form (plcW nm f b ++ [eqT, secT s m reg wholeT]) ⟨if reg = true then bits .or .i64 (bits .or .i64 96 sz) 3 else bits .or .i64 (bits .or .i64 96 sz) 2, b, s, f, m⟩
 | lock (nm : ByteArray) (sz f b : Int) (k : ByteArray) (i : Int) (fo : Bool) (s : Int) (hn : (nm, 96, sz) ∈ moveL) (hl : lockedS sz = true) (hb : 0 ≤ b ∧ b ≤ 10) (hf : -32768 ≤ f ∧ f ≤ 32767) (hk : (k, i, fo) ∈ lockL) (hs : 0 ≤ s ∧ s ≤ 10) : Form (lockW :: (plcW nm f b ++ [k, regT wholeT s])) ⟨bits .or .i64 (bits .or .i64 192 sz) 3, b, s, f, i⟩
 | fetch (nm : ByteArray) (sz f b : Int) (k : ByteArray) (i : Int) (s : Int) (hn : (nm, 96, sz) ∈ moveL) (hl : lockedS sz = true) (hb : 0 ≤ b ∧ b ≤ 10) (hf : -32768 ≤ f ∧ f ≤ 32767) (hk : (k, i, true) ∈ lockL) (hs : 0 ≤ s ∧ s ≤ 10) : Form (lockW :: (plcW nm f b ++ [k, regT wholeT s, fetchT])) ⟨bits .or .i64 (bits .or .i64 192 sz) 3, b, s, f, i + 1⟩
theorem nat10 {d : Nat} (h : d ≤ 10) : 0 ≤ (d : Int) ∧ (d : Int) ≤ 10 := by omega
theorem secR_form {q p d x : Int} {c : ByteArray} {y : Slot} (h : secR q p d x c = some y) : ∃ reg s m, SecOk reg s m ∧ c = secT s m reg (letterS q) ∧ y = ⟨opOf reg p, d, s, x, m⟩ := by
 unfold secR at h
 by_cases hok : (secS c (letterS q) 0 0).ok = true
 ·rw [if_pos hok] at h
  cases h
  exact ⟨_, _, _, secS_le rfl hok, secS_canon hok, rfl⟩
 ·rw [if_neg hok] at h; cases h
theorem testR_form {q d f : Int} {m c : ByteArray} {y : Slot} : ∀ {l : List (ByteArray × Int)}, testR q d f m c l = some y → ∃ k, (m, k) ∈ l ∧ secR q (bits .or .i64 q k) d f c = some y
 | [], h => by cases h
 | (nm, k) :: l, h => by
  unfold testR at h
  split at h
  ·rename_i hs
   rw [← sameT_eq hs]
   exact ⟨k, by simp, h⟩
  ·obtain ⟨k', hm, hc⟩ := testR_form h
   exact ⟨k', List.mem_cons_of_mem _ hm, hc⟩
theorem operR_form {q d : Int} {m c : ByteArray} {y : Slot} : ∀ {l : List (ByteArray × Int × Int)}, operR q d m c l = some y → ∃ k x, (m, k, x) ∈ l ∧ secR q (bits .or .i64 q k) d x c = some y
 | [], h => by cases h
 | (nm, k, x) :: l, h => by
  unfold operR at h
  split at h
  ·rename_i hs
   rw [← sameT_eq hs]
   exact ⟨k, x, by simp, h⟩
  ·obtain ⟨k', x', hm, hc⟩ := operR_form h
   exact ⟨k', x', List.mem_cons_of_mem _ hm, hc⟩
theorem extG_form {q p d : Int} {s : ByteArray} {y : Slot} : ∀ {l : List Int}, extG q p d s l = some y → ∃ n r : Int, n ∈ l ∧ extendsS q n = true ∧ (0 ≤ r ∧ r ≤ 10) ∧ s = signT n ++ regT (letterS q) r ∧ y = ⟨p, d, r, n, 0⟩
 | [], h => by cases h
 | n :: l, h => by
  unfold extG at h
  split at h
  ·rename_i hc
   obtain ⟨r, hr, rfl⟩ := Option.map_eq_some_iff.1 h
   obtain ⟨e, h10⟩ := regS_canon hr
   refine ⟨n, r, by simp, hc.2, nat10 h10, ?_, rfl⟩
   rw [← e]
   exact begins_split hc.1
  ·obtain ⟨n', r, hm, h1, h2, h3, h4⟩ := extG_form h
   exact ⟨n', r, List.mem_cons_of_mem _ hm, h1, h2, h3, h4⟩
theorem alu_form {a m c : ByteArray} {x : Slot} (h : aluR a m c = some x) : Form [a, m, c] x := by
 unfold aluR at h
 obtain ⟨d, hd, h⟩ := Option.bind_eq_some_iff.1 h
 obtain ⟨ea, hdl⟩ := regS_canon hd
 have hq2 : aluQ a = 4 ∨ aluQ a = 7 := by unfold aluQ; split <;> simp
 clear hd
 generalize aluQ a = q at *
 split at h
 ·rename_i hc
  cases h
  rw [sameT_eq hc.1, sameT_eq hc.2, ea]
  exact .minus q d hq2 (nat10 hdl)
 split at h
 ·rename_i hc
  obtain ⟨n, r, hn, hx, hr, e, rfl⟩ := extG_form h
  rw [sameT_eq hc.1, e, ea]
  exact .ext q d r n hq2 (nat10 hdl) hr (by simpa using hn) hx
 ·obtain ⟨k, z, hm, h⟩ := operR_form h
  obtain ⟨reg, s, i, hs, e, rfl⟩ := secR_form h
  rw [e, ea]
  exact .oper q d m k z reg s i hq2 (nat10 hdl) hm hs
theorem jump_form {a m c t e : ByteArray} {x : Slot} (h : jumpR a m c t e = some x) : Form [ifT, a, m, c, t, e] x := by
 unfold jumpR jmpOf at h
 split at h
 case isFalse => cases h
 rename_i ht
 obtain ⟨d, hd, h⟩ := Option.bind_eq_some_iff.1 h
 obtain ⟨f, hf, h⟩ := Option.bind_eq_some_iff.1 h
 obtain ⟨ea, hdl⟩ := regS_canon hd
 have hfl := furtherS_le hf
 have hq2 : jumpQ a = 5 ∨ jumpQ a = 6 := by unfold jumpQ; split <;> simp
 clear hd
 generalize jumpQ a = q at *
 obtain ⟨k, hm, h⟩ := testR_form h
 obtain ⟨reg, s, i, hs, e2, rfl⟩ := secR_form h
 rw [sameT_eq ht, furtherS_canon hf, e2, ea]
 exact .jump q d m k reg s i f hq2 (nat10 hdl) hm hs hfl
theorem turnC_form {c nm : ByteArray} {op d : Int} {y : Slot} : ∀ {l : List Int}, turnC c nm op d l = some y → ∃ n, n ∈ l ∧ c = nm ++ dec n ∧ y = ⟨op, d, 0, 0, n⟩
 | [], h => by cases h
 | n :: l, h => by
  unfold turnC at h
  split at h
  ·rename_i hs
   cases h
   exact ⟨n, by simp, sameT_eq hs, rfl⟩
  ·obtain ⟨n', hm, h1, h2⟩ := turnC_form h
   exact ⟨n', List.mem_cons_of_mem _ hm, h1, h2⟩
theorem turnF_form {c : ByteArray} {d : Int} {y : Slot} : ∀ {l : List (ByteArray × Int)}, turnF c d l = some y → ∃ nm op n, (nm, op) ∈ l ∧ n ∈ [(16 : Int), 32, 64] ∧ c = nm ++ dec n ∧ y = ⟨op, d, 0, 0, n⟩
 | [], h => by cases h
 | (nm, op) :: l, h => by
  unfold turnF at h
  rcases hc : turnC c nm op d [16, 32, 64] with _ | z
  ·rw [hc, Option.none_or] at h
   obtain ⟨nm', op', n, hm, h1, h2, h3⟩ := turnF_form h
   exact ⟨nm', op', n, List.mem_cons_of_mem _ hm, h1, h2, h3⟩
  ·rw [hc, Option.some_or] at h
   cases h
   obtain ⟨n, h1, h2, h3⟩ := turnC_form hc
   exact ⟨nm, op, n, by simp, h1, h2, h3⟩
theorem turn_form {a m c t : ByteArray} {x : Slot} (h : turnR a m c t = some x) : Form [a, m, c, t] x := by
 unfold turnR twoOf at h
 split at h
 case isFalse => cases h
 rename_i hok
 obtain ⟨h1, h2⟩ := Bool.and_eq_true_iff.1 hok
 obtain ⟨d, hd, h⟩ := Option.bind_eq_some_iff.1 h
 obtain ⟨ea, hdl⟩ := regS_canon hd
 obtain ⟨nm, op, n, hm, hn, e, rfl⟩ := turnF_form h
 rw [sameT_eq h1, sameT_eq h2, e, ea]
 exact .turn d nm op n (nat10 hdl) hm (by simpa using hn)
theorem placeR_form {p0 p1 p2 p3 : ByteArray} {x : Plc} (h : placeR p0 p1 p2 p3 = some x) : (∃ nm, (nm, x.md, x.sz) ∈ moveL ∧ [p0, p1, p2, p3] = plcW nm x.off x.base) ∧ (0 ≤ x.base ∧ x.base ≤ 10) ∧ -32768 ≤ x.off ∧ x.off ≤ 32767 :=
 ⟨placeR_canon h, (placeR_le h).2⟩
theorem load_form {a p0 p1 p2 p3 : ByteArray} {x : Slot} (h : loadR a p0 p1 p2 p3 = some x) : Form [a, eqT, p0, p1, p2, p3] x := by
 unfold loadR at h
 obtain ⟨p, hp, h⟩ := Option.bind_eq_some_iff.1 h
 obtain ⟨d, hd, rfl⟩ := Option.map_eq_some_iff.1 h
 obtain ⟨ea, hdl⟩ := regS_canon hd
 obtain ⟨⟨nm, hm, e⟩, hb, hof⟩ := placeR_form hp
 rw [ea, e]
 exact .load d nm _ _ _ _ (nat10 hdl) hm hb hof
theorem store_form {p0 p1 p2 p3 q c : ByteArray} {x : Slot} (h : storeR p0 p1 p2 p3 q c = some x) : Form ([p0, p1, p2, p3] ++ [q, c]) x := by
 unfold storeR at h
 obtain ⟨p, hp, h⟩ := Option.bind_eq_some_iff.1 h
 obtain ⟨⟨nm, hm, e⟩, hb, hof⟩ := placeR_form hp
 split at h
 case isFalse => cases h
 rename_i hc
 have h96 : p.md = 96 := of_decide_eq_true (Bool.and_eq_true_iff.1 hc).1
 have hq := sameT_eq (Bool.and_eq_true_iff.1 hc).2
 have hm : (nm, 96, p.sz) ∈ moveL := by rw [← h96]; exact hm
 have e7 : wholeT = letterS 7 := rfl
 rw [e7] at h
 split at h
 case isFalse => cases h
 rename_i hok
 have hsc := secS_canon (c := c) (q := 7) hok
 have hle := secS_le (c := c) (p := letterS 7) rfl hok
 generalize secS c (letterS 7) 0 0 = S at *
 have hsc2 : c = secT S.src S.imm S.reg wholeT := hsc
 cases h
 rw [e, hq, hsc2, h96]
 exact .store nm p.sz p.off p.base S.reg S.src S.imm hm hb hof hle
theorem lock_mem2 {k : ByteArray} {fe : Bool} {v : Int} : ∀ {l : List (ByteArray × Int × Bool)}, lockF k fe l = some v → ∃ i fo, (k, i, fo) ∈ l ∧ (fe = true → fo = true) ∧ v = if fe = true then i + 1 else i
 | [], h => by cases h
 | (nm, i, fo) :: l, h => by
  unfold lockF at h
  split at h
  ·rename_i hc
   cases h
   rw [← sameT_eq hc.1]
   exact ⟨i, fo, by simp, hc.2, rfl⟩
  ·obtain ⟨i', fo', hm, h1, h2⟩ := lock_mem2 h
   exact ⟨i', fo', List.mem_cons_of_mem _ hm, h1, h2⟩
def lockTl (k s : ByteArray) : Option ByteArray → List ByteArray
 | none => [k, s]
 | some f => [k, s, f]
theorem lock_form {p0 p1 p2 p3 k s : ByteArray} {f : Option ByteArray} {x : Slot} (h : lockR p0 p1 p2 p3 k s f = some x) : Form (lockW :: ([p0, p1, p2, p3] ++ lockTl k s f)) x := by
 unfold lockR at h
 obtain ⟨p, hp, h⟩ := Option.bind_eq_some_iff.1 h
 obtain ⟨⟨nm, hm, e⟩, hb, hof⟩ := placeR_form hp
 unfold lockX at h
 split at h
 case isFalse => cases h
 rename_i hc
 obtain ⟨hc1, hl⟩ := Bool.and_eq_true_iff.1 hc
 have h96 : p.md = 96 := of_decide_eq_true hc1
 obtain ⟨r, hr, h⟩ := Option.bind_eq_some_iff.1 h
 obtain ⟨er, hrl⟩ := regS_canon hr
 split at h
 case isFalse => cases h
 rename_i hok
 obtain ⟨v, hv, rfl⟩ := Option.map_eq_some_iff.1 h
 obtain ⟨i, fo, hml, hfe, hve⟩ := lock_mem2 hv
 rw [h96] at hm
 rw [e, er]
 cases f with
 | none =>
  have : v = i := by simpa using hve
  subst this
  exact .lock nm _ _ _ k v fo r hm hl hb hof hml (nat10 hrl)
 | some f =>
  have hfo : fo = true := hfe rfl
  have : v = i + 1 := by simpa using hve
  subst this hfo
  have hft : f = fetchT := sameT_eq hok
  subst hft
  exact .fetch nm _ _ _ k i r hm hl hb hof hml (nat10 hrl)
theorem one_form {ws : List ByteArray} {x : Slot} (h : oneR ws = some x) : Form ws x := by
 unfold oneR at h
 split at h
 ·split at h
  ·rename_i hs
   cases h
   rw [sameT_eq hs]
   exact .exit
  ·cases h
 ·split at h
  ·rename_i hs
   obtain ⟨m, hm, rfl⟩ := Option.map_eq_some_iff.1 h
   rw [sameT_eq hs, immS_canon hm]
   exact .call m (immS_le hm)
  split at h
  ·rename_i hs
   obtain ⟨f, hf, rfl⟩ := Option.map_eq_some_iff.1 h
   rw [sameT_eq hs, furtherS_canon hf]
   exact .goto f (furtherS_le hf)
  ·cases h
 ·exact alu_form h
 ·exact turn_form h
 ·split at h
  ·rename_i hs
   rw [sameT_eq hs]
   exact jump_form h
  split at h
  ·rename_i hs
   rw [sameT_eq hs]
   exact load_form h
  ·exact store_form h
 ·split at h
  ·rename_i hs
   rw [sameT_eq hs]
   exact lock_form h
  ·cases h
 ·split at h
  ·rename_i hs
   rw [sameT_eq hs]
   exact lock_form h
  ·cases h
 ·cases h
/-! ### Two slots -/
inductive FormW : List ByteArray → Slot → Slot → Prop
 | num (d : Int) (n : Nat) (hd : 0 ≤ d ∧ d ≤ 10) (hn : n ≤ 18446744073709551615) : FormW [regT wholeT d, eqT, bstr (Lib.decDigits n), llT] ⟨24, d, 0, 0, wrap32 (n : Int)⟩ ⟨0, 0, 0, 0, wrap32 ((n : Int) / 4294967296)⟩
 | map (d m : Int) (hd : 0 ≤ d ∧ d ≤ 10) (hm : -2147483648 ≤ m ∧ m ≤ 2147483647) : FormW [regT wholeT d, eqT, mapT, dec m, llT] ⟨24, d, 1, 0, m⟩ ⟨0, 0, 0, 0, 0⟩
theorem wide_form {ws : List ByteArray} {x y : Slot} (hl : lastLl ws = true) (h : wideR ws = some (x, y)) : FormW ws x y := by
 unfold wideR at h
 split at h
 ·rename_i l
  have hs := sameT_eq (show sameT l llT = true from hl)
  rw [hs]
  unfold wide4 at h
  split at h
  case isFalse => cases h
  rename_i hm
  obtain ⟨d, hd, h⟩ := Option.bind_eq_some_iff.1 h
  obtain ⟨n, hn, h⟩ := Option.map_eq_some_iff.1 h
  cases h
  obtain ⟨ea, hdl⟩ := regS_canon hd
  rw [ea, sameT_eq hm, digN_canon hn]
  exact .num d n (nat10 hdl) (digN_le (by decide) hn)
 ·rename_i l
  have hs := sameT_eq (show sameT l llT = true from hl)
  rw [hs]
  unfold wide5 at h
  split at h
  case isFalse => cases h
  rename_i hm
  obtain ⟨d, hd, h⟩ := Option.bind_eq_some_iff.1 h
  split at h
  case isFalse => cases h
  rename_i hp
  obtain ⟨n, hn, h⟩ := Option.map_eq_some_iff.1 h
  cases h
  obtain ⟨ea, hdl⟩ := regS_canon hd
  rw [ea, sameT_eq hm, sameT_eq hp, immS_canon hn]
  exact .map d n (nat10 hdl) (immS_le hn)
 ·cases h
theorem SecOk.isW {reg : Bool} {s m : Int} (h : SecOk reg s m) (q : Int) : isW (secT s m reg (letterS q)) :=
 isW_sec (secT_ne (h.elim (fun h => .inl ⟨h.1, h.2.1⟩) fun h => .inr ⟨h.1, h.2.1⟩))
theorem all_words {P : ByteArray → Prop} {a : ByteArray} {l : List ByteArray} (h : P a) (hl : ∀ w ∈ l, P w) : ∀ w ∈ a :: l, P w := fun w hw => by
 rcases List.mem_cons.1 hw with rfl | h2
 ·exact h
 ·exact hl w h2
theorem no_words {P : ByteArray → Prop} : ∀ w ∈ ([] : List ByteArray), P w := fun w hw => by cases hw
theorem app_words {P : ByteArray → Prop} {a l : List ByteArray} (h : ∀ w ∈ a, P w) (hl : ∀ w ∈ l, P w) : ∀ w ∈ a ++ l, P w := fun w hw => by
 rcases List.mem_append.1 hw with h2 | h2
 ·exact h w h2
 ·exact hl w h2
theorem form_words {ws : List ByteArray} {x : Slot} (h : Form ws x) : (∀ w ∈ ws, isW w) ∧ ws ≠ [] ∧ ws.length ≤ 8 := by
 have hR : ∀ d, isW (regT wholeT d) := fun d => isW_reg (by decide) d
 have hL : ∀ q d, isW (regT (letterS q) d) := fun q d => isW_reg (isW_letter q) d
 cases h with
 | exit => exact ⟨all_words (by decide) no_words, by simp, by simp⟩
 | call m hm => exact ⟨all_words (by decide) (all_words (isW_dec m) no_words), by simp, by simp⟩
 | goto f hf => exact ⟨all_words (by decide) (all_words (isW_far f) no_words), by simp, by simp⟩
 | minus q d hq hd => exact ⟨all_words (hL q d) (all_words (by decide) (all_words (isW_app (by decide) (hL q d).2) no_words)), by simp, by simp⟩
 | ext q d r n hq hd hr hn hx => exact ⟨all_words (hL q d) (all_words (by decide) (all_words (isW_app (isW_sign n) (hL q r).2) no_words)), by simp, by simp⟩
 | oper q d nm k x reg s m hq hd hn hs => exact ⟨all_words (hL q d) (all_words ((oper_ok 0 0 ⟨#[]⟩ _ hn).1) (all_words (hs.isW q) no_words)), by simp, by simp⟩
 | turn d nm op n hd hm hn => exact ⟨all_words (hR d) (all_words (by decide) (all_words (isW_app ((turn_ok 0 _ hm 16 (by simp)).1) (isW_dec n).2) (all_words (hR d) no_words))), by simp, by simp⟩
 | jump q d nm k reg s m f hq hd hn hs hf => exact ⟨all_words (by decide) (all_words (hL q d) (all_words ((test_ok 0 0 0 ⟨#[]⟩ _ hn).1) (all_words (hs.isW q) (all_words (by decide) (all_words (isW_far f) no_words))))), by simp, by simp⟩
 | load d nm md sz f b hd hn hb hf => exact ⟨all_words (hR d) (all_words (by decide) (plcW_words hn f b)), by simp, by simp [plcW]⟩
 | store nm sz f b reg s m hn hb hf hs => exact ⟨app_words (plcW_words hn f b) (all_words (by decide) (all_words (hs.isW 7) no_words)), by simp, by simp [plcW]⟩
 | lock nm sz f b k i fo s hn hl hb hf hk hs => exact ⟨all_words (by decide) (app_words (plcW_words hn f b) (all_words (lock_ok _ hk).1 (all_words (hR s) no_words))), by simp, by simp [plcW]⟩
 | fetch nm sz f b k i s hn hl hb hf hk hs => exact ⟨all_words (by decide) (app_words (plcW_words hn f b) (all_words (lock_ok _ hk).1 (all_words (hR s) (all_words (by decide) no_words)))), by simp, by simp [plcW]⟩
theorem oper_facts : ∀ x ∈ operL, ∀ q ∈ [(4 : Int), 7], ∀ reg : Bool, opOf reg (bits .or .i64 q x.2.1) ≠ bits .or .i64 128 q ∧ extendsS q x.2.2 = false ∧ opOf reg (bits .or .i64 q x.2.1) % 8 = q ∧ bits .and .i64 (opOf reg (bits .or .i64 q x.2.1)) 240 = x.2.1 ∧ (bits .and .i64 (opOf reg (bits .or .i64 q x.2.1)) 8 != 0) = reg := by decide +kernel
theorem test_facts : ∀ x ∈ testL, ∀ q ∈ [(5 : Int), 6], ∀ reg : Bool, (opOf reg (bits .or .i64 q x.2) ≠ 5 ∧ opOf reg (bits .or .i64 q x.2) ≠ 133 ∧ opOf reg (bits .or .i64 q x.2) ≠ 149) ∧ opOf reg (bits .or .i64 q x.2) % 8 = q ∧ bits .and .i64 (opOf reg (bits .or .i64 q x.2)) 240 = x.2 ∧ (bits .and .i64 (opOf reg (bits .or .i64 q x.2)) 8 != 0) = reg := by decide +kernel
theorem oper_name (g : ByteArray → ByteArray) (e : ByteArray) : ∀ x ∈ operL, operG x.2.1 x.2.2 g e operL = g x.1 := by
 intro x hx
 simp only [operL, List.mem_cons, List.not_mem_nil, or_false] at hx
 rcases hx with rfl | rfl | rfl | rfl | rfl | rfl | rfl | rfl | rfl | rfl | rfl | rfl | rfl | rfl <;> simp [operL, operG]
theorem test_name (g : ByteArray → ByteArray) : ∀ x ∈ testL, testG x.2 g testL = g x.1 := by
 intro x hx
 simp only [testL, List.mem_cons, List.not_mem_nil, or_false] at hx
 rcases hx with rfl | rfl | rfl | rfl | rfl | rfl | rfl | rfl | rfl | rfl | rfl <;> simp [testL, testG]
theorem turn_name (rd : ByteArray) : ∀ x ∈ turnL, ∀ n ∈ [(16 : Int), 32, 64], turnG rd x.2 0 0 n turnL = saidT [rd, eqT, x.1 ++ dec n, rd] := by
 intro x hx n hn
 simp only [turnL, List.mem_cons, List.not_mem_nil, or_false] at hx hn
 rcases hx with rfl | rfl | rfl <;> rcases hn with rfl | rfl | rfl <;>
  (simp only [turnL, turnG, turnB, Int.reduceEq, true_and, and_true, and_false, false_and, if_true, if_false, Option.getD_some, Option.getD_none])
theorem lock_name (r : ByteArray) : ∀ x ∈ lockL, lockG r x.2.1 lockL = saidT [x.1, r] ∧ (x.2.2 = true → lockG r (x.2.1 + 1) lockL = saidT [x.1, r, fetchT]) := by
 intro x hx
 simp only [lockL, List.mem_cons, List.not_mem_nil, or_false] at hx
 rcases hx with rfl | rfl | rfl | rfl | rfl | rfl <;> simp [lockL, lockG]
theorem move_name : ∀ x ∈ moveL, moveOf moveL x.2.1 x.2.2 = some x.1 := by
 intro x hx
 simp only [moveL, List.mem_cons, List.not_mem_nil, or_false] at hx
 rcases hx with rfl | rfl | rfl | rfl | rfl | rfl | rfl <;> simp [moveL, moveOf]
theorem place_name {nm : ByteArray} {md sz o : Int} (h : (nm, md, sz) ∈ moveL) (ho : bits .and .i64 o 24 = sz) (f b : Int) : placeT md o f b = joinT (plcW nm f b) := by
 unfold placeT
 rw [ho, move_name _ h, Option.map_some, Option.getD_some]
 exact saidT_join (plcW_words h f b)
theorem plcW_ne (nm : ByteArray) (f b : Int) : plcW nm f b ≠ [] := by unfold plcW; simp
theorem join_said3 {a b c : ByteArray} (h : isW a ∧ isW b) (hc : c.size ≠ 0) : saidT [a, b, c] = joinT [a, b, c] := by
 have := (saidT_sizes (all3 h.1.1 h.2.1 hc)).2
 exact this
theorem exit_print : bodyT (⟨149, 0, 0, 0, 0⟩ : Slot) emptyT = joinT [exitT] := by kernel_rfl
theorem form_print {ws : List ByteArray} {x : Slot} (h : Form ws x) : bodyT x emptyT = joinT ws := by
 have hW := (form_words h).1
 cases h with
 | exit => exact exit_print
 | call m hm =>
  rw [body_jump (.inl (by simp only; omega))]
  unfold jumpT
  rw [if_neg (by simp [same5]), if_pos (by simp [same5])]
  exact saidT_join hW
 | goto f hf =>
  rw [body_jump (.inl (by simp only; omega))]
  unfold jumpT
  rw [if_pos (by simp [same5])]
  exact saidT_join hW
 | minus q d hq hd =>
  obtain ⟨t1, t2, t3⟩ := op_minus q (by simpa using hq)
  rw [body_alu (by simp only; omega)]
  unfold aluT
  dsimp only
  rw [t2, ← t3, if_pos (show same5 _ _ _ _ _ _ _ _ _ _ = true from decide_eq_true ⟨rfl, rfl, rfl, rfl, rfl⟩)]
  exact saidT_join hW
 | ext q d r n hq hd hr hn hx =>
  obtain ⟨t1, t2, t3⟩ := op_ext q (by simpa using hq)
  rw [body_alu (by simp only; omega)]
  unfold aluT
  dsimp only
  rw [t2, if_neg (by unfold same5; rw [decide_eq_true_eq]; intro h; omega), ← t3, if_pos ⟨rfl, rfl, hx⟩]
  exact saidT_join hW
 | oper q d nm k x reg s m hq hd hn hs =>
  obtain ⟨t1, t2, t3, t4, t5⟩ := oper_facts _ hn q (by simpa using hq) reg
  simp only at t1 t2 t3 t4 t5
  rw [body_alu (by simp only; omega)]
  unfold aluT
  dsimp only
  rw [t3, if_neg (by unfold same5; rw [decide_eq_true_eq]; intro h; exact t1 h.1), if_neg (by rw [t2]; intro h; exact absurd h.2.2 (by decide)), t4]
  refine (oper_name _ _ _ hn).trans ?_
  unfold operLine
  rw [t3, t5]
  exact saidT_join hW
 | turn d nm op n hd hm hn =>
  obtain ⟨t1, t2, t3, t4⟩ := op_turns _ hm
  simp only at t1 t2 t3 t4
  have ho : op = 212 ∨ op = 220 ∨ op = 215 := by
   simp only [turnL, List.mem_cons, List.not_mem_nil, or_false, Prod.mk.injEq] at hm
   omega
  have e1 : bits .or .i64 128 (op % 8) ≠ op ∧ bits .or .i64 184 (op % 8) ≠ op := by rcases ho with rfl | rfl | rfl <;> decide
  rw [body_alu t2]
  unfold aluT
  dsimp only
  rw [if_neg (by unfold same5; rw [decide_eq_true_eq]; intro h; exact e1.1 h.1.symm), if_neg (by intro h; exact e1.2 h.1.symm), t4, show operG 208 0 (operLine op d 0 n) (turnT op d 0 0 n) operL = turnT op d 0 0 n from by simp only [operL, operG, Int.reduceEq, false_and, if_false]]
  refine (turn_name _ _ hm n (by simpa using hn)).trans ?_
  exact saidT_join hW
 | jump q d nm k reg s m f hq hd hn hs hf =>
  obtain ⟨⟨t1, t1b, t1c⟩, t3, t4, t5⟩ := test_facts _ hn q (by simpa using hq) reg
  simp only at t1 t1b t1c t3 t4 t5
  rw [body_jump (by simp only; omega)]
  unfold jumpT
  dsimp only
  rw [if_neg (by unfold same5; rw [decide_eq_true_eq]; intro h; exact t1 h.1), if_neg (by unfold same5; rw [decide_eq_true_eq]; intro h; exact t1b h.1), if_neg (by unfold same5; rw [decide_eq_true_eq]; intro h; exact t1c h.1), t4]
  refine (test_name _ _ hn).trans ?_
  unfold testLine
  rw [t3, t5]
  exact saidT_join hW
 | load d nm md sz f b hd hn hb hf =>
  obtain ⟨h1, t1, t2, t3, t4⟩ := op_moves _ hn
  simp only at h1 t1 t2 t3 t4
  rw [body_load t2]
  unfold loadT
  rw [if_pos rfl]
  dsimp only
  rw [t3, place_name hn t4, join_said3 ⟨isW_reg (by decide) d, by decide⟩ (joinT_size (plcW_ne nm f b) (plcW_words hn f b))]
  exact joinT_app [regT wholeT d, eqT] (plcW nm f b) (by simp) (plcW_ne nm f b)
 | store nm sz f b reg s m hn hb hf hs =>
  obtain ⟨a1, a2, a3, a4, b1, b2, b3, b4, _⟩ := op_stores _ hn rfl
  simp only at a1 a2 a3 a4 b1 b2 b3 b4
  have hz : ∀ r : Bool, r = reg → saidT [joinT (plcW nm f b), eqT, secT s m r wholeT] = joinT (plcW nm f b ++ [eqT, secT s m reg wholeT]) := fun r e => by
   subst e
   have h7 : (secT s m r wholeT).size ≠ 0 := (hs.isW 7).1
   rw [(saidT_sizes (all3 (joinT_size (plcW_ne nm f b) (plcW_words hn f b)) (by decide) h7)).2]
   exact joinT_two _ _ _ (plcW_ne nm f b)
  cases reg
  ·rw [if_neg (by decide)]
   rw [body_store (.inl a2)]
   unfold storeT
   simp only
   rw [if_neg (by rw [a3]; exact fun h => absurd h.1 (by decide)), if_pos a3, place_name hn a4]
   exact hz _ (by rw [a2]; rfl)
  ·rw [if_pos rfl]
   rw [body_store (.inr b2)]
   unfold storeT
   simp only
   rw [if_neg (by rw [b3]; exact fun h => absurd h.1 (by decide)), if_pos b3, place_name hn b4]
   exact hz _ (by rw [b2]; rfl)
 | lock nm sz f b k i fo s hn hl hb hf hk hs =>
  obtain ⟨_, _, _, _, _, _, _, _, c1, c2, c3, c4⟩ := op_stores _ hn rfl
  simp only at c1 c2 c3 c4
  have hw2 : ∀ w ∈ [k, regT wholeT s], isW w := all_words (lock_ok _ hk).1 (all_words (isW_reg (by decide) s) no_words)
  have e1 : lockT s i = joinT [k, regT wholeT s] := ((lock_name (regT ⟨#[114]⟩ s) _ hk).1).trans (saidT_join hw2)
  rw [body_store (.inr c2)]
  unfold storeT
  simp only
  rw [if_pos ⟨c3, c2, by rw [c4]; exact hl⟩, place_name hn c4, e1, (saidT_sizes (all3 (by decide) (joinT_size (plcW_ne nm f b) (plcW_words hn f b)) (joinT_size (by simp) hw2))).2]
  exact joinT_mid lockW _ _ (plcW_ne nm f b) (by simp)
 | fetch nm sz f b k i s hn hl hb hf hk hs =>
  obtain ⟨_, _, _, _, _, _, _, _, c1, c2, c3, c4⟩ := op_stores _ hn rfl
  simp only at c1 c2 c3 c4
  have hw2 : ∀ w ∈ [k, regT wholeT s, fetchT], isW w := all_words (lock_ok _ hk).1 (all_words (isW_reg (by decide) s) (all_words (by decide) no_words))
  have e1 : lockT s (i + 1) = joinT [k, regT wholeT s, fetchT] := ((lock_name (regT ⟨#[114]⟩ s) _ hk).2 rfl).trans (saidT_join hw2)
  rw [body_store (.inr c2)]
  unfold storeT
  simp only
  rw [if_pos ⟨c3, c2, by rw [c4]; exact hl⟩, place_name hn c4, e1, (saidT_sizes (all3 (by decide) (joinT_size (plcW_ne nm f b) (plcW_words hn f b)) (joinT_size (by simp) hw2))).2]
  exact joinT_mid lockW _ _ (plcW_ne nm f b) (by simp)
end Go.Proofs.YtemiklbkfogjeaaGreatDoor
namespace Go.Proofs.YtemiklbkfogjeaaGreatDoor
open Go Go.RowKit
set_option linter.unusedVariables false
/-- A text of these bytes. -/
def tx (l : List UInt8) : ByteArray := ⟨l.toArray⟩
theorem tx_size (l : List UInt8) : (tx l).size = l.length := by simp [tx, ByteArray.size]
theorem tx_app (a b : List UInt8) : tx a ++ tx b = tx (a ++ b) := by
 apply ByteArray.ext
 simp [tx, ByteArray.data_append]
theorem tx_beq (a b : ByteArray) : (a.toList == b.toList) = decide (a = b) := by
 rw [Bool.eq_iff_iff, beq_iff_eq, decide_eq_true_iff, ByteArray.toList_eq, ByteArray.toList_eq]
 exact ⟨fun h => by obtain ⟨⟨a⟩⟩ := a; obtain ⟨⟨b⟩⟩ := b; simp only at h; rw [h], fun h => by rw [h]⟩
/-- One byte of the call's own, as a text. -/
theorem conv1 (W : World) (x : Int) (h0 : 0 ≤ x) (h1 : x ≤ 255) : (convert 53 9 (.slice (some ⟨W.heap.size, 0, none⟩) 1 1)).run Tryz.prog (W.alloc (.cells #[.int .u8 x] 5)) = .ok (.string (tx [UInt8.ofNat x.toNat])) (W.alloc (.cells #[.int .u8 x] 5)) := by
 have hb := (Blk.new W 5 #[.int .u8 x]).cell 0
 have := Lib.run_convert_whole (P := Tryz.prog) (W.alloc (.cells #[.int .u8 x] 5)) 53 5 9 Tryz.underlying53 Tryz.underlying5 Tryz.underlying9 W.heap.size 0 (tx [UInt8.ofNat x.toNat]) (fun i hi => by
  have hi0 : i = 0 := by rw [tx_size] at hi; simp at hi; omega
  subst hi0
  rw [Nat.zero_add, hb]
  have e : ((UInt8.ofNat x.toNat).toNat : Int) = x := by rw [UInt8.toNat_ofNat']; omega
  show some (Value.int .u8 x) = some (Value.int .u8 (((tx [UInt8.ofNat x.toNat]).data[0]).toNat : Int))
  rw [show ((tx [UInt8.ofNat x.toNat]).data[0]) = UInt8.ofNat x.toNat from rfl, e]) 1
 rw [tx_size] at this
 exact this
/-- A digit's byte. -/
def dig (d : Nat) : UInt8 := UInt8.ofNat (48 + d)
theorem convd (W : World) (n : Nat) : (convert 53 9 (.slice (some ⟨W.heap.size, 0, none⟩) 1 1)).run Tryz.prog (W.alloc (.cells #[.int .u8 (48 + (n : Int) % 10)] 5)) = .ok (.string (tx [dig (n % 10)])) (W.alloc (.cells #[.int .u8 (48 + (n : Int) % 10)] 5)) := by
 have h := conv1 W (48 + (n : Int) % 10) (by omega) (by omega)
 rw [show (48 + (n : Int) % 10).toNat = 48 + n % 10 by omega] at h
 exact h
/-- The digits of a number. -/
def decL (n : Nat) : List UInt8 := if h : n < 10 then [dig n] else decL (n / 10) ++ [dig (n % 10)]
termination_by n
theorem decL_lt {n : Nat} (h : n < 10) : decL n = [dig n] := by rw [decL, dif_pos h]
theorem decL_ge {n : Nat} (h : ¬ n < 10) : decL n = decL (n / 10) ++ [dig (n % 10)] := by rw [decL, dif_neg h]
theorem decL_pos (n : Nat) : 0 < (decL n).length := by
 by_cases h : n < 10
 ·rw [decL_lt h]; simp
 ·rw [decL_ge h]; simp
theorem decL_len : ∀ (k n : Nat), n < 10 ^ (k + 1) → (decL n).length ≤ k + 1
 | 0, n, h => by rw [decL_lt (by simpa using h)]; simp
 | k + 1, n, h => by
  by_cases h10 : n < 10
  ·rw [decL_lt h10]; simp
  ·rw [decL_ge h10, List.length_append]
   have := decL_len k (n / 10) (by rw [Nat.pow_succ] at h; omega)
   simp; omega
/-- What is left of the digits, ahead of those that are told. -/
def decUr (n : Nat) : List UInt8 := if n = 0 then [] else decL n
theorem decUr_step (n : Nat) (h : 0 < n) : decUr n = decUr (n / 10) ++ [dig (n % 10)] := by
 unfold decUr
 rw [if_neg (by omega)]
 by_cases h10 : n < 10
 ·rw [decL_lt h10, if_pos (by omega), List.nil_append, Nat.mod_eq_of_lt h10]
 ·rw [decL_ge h10, if_neg (by omega)]
theorem decL_first (n : Nat) : decL n = decUr (n / 10) ++ [dig (n % 10)] := by
 unfold decUr
 by_cases h10 : n < 10
 ·rw [decL_lt h10, if_pos (by omega), List.nil_append, Nat.mod_eq_of_lt h10]
 ·rw [decL_ge h10, if_neg (by omega)]
end Go.Proofs.YtemiklbkfogjeaaGreatDoor
