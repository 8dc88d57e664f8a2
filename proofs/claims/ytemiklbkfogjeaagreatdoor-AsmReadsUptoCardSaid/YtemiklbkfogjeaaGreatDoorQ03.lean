/-
  Package asm: what the reader makes of one word. strings.HasPrefix, strings.CutPrefix; the reader's words that have a sign or a letter ahead. The reader's words that have a sign or a letter ahead: imm, further, register. The reader's register and further. The reader's second; letters, sizes of numbers and of bytes. Small functions of package asm: letterOf, extends, locked. Package asm, writing: words with a blank between each two.
-/
import Derived.Test.YtemiklbkfogjeaaGreatDoorQ02
import Derived.Test.YtemiklbkfogjeaaGreatDoorQ01
namespace Go.Proofs.YtemiklbkfogjeaaGreatDoor
open Go Go.RowKit Go.Maps
set_option linter.unusedVariables false
set_option linter.unusedSimpArgs false
set_option maxRecDepth 100000
abbrev rp (r : Nat) : Value := .pointer (some ⟨r, 0, none⟩)
abbrev rdT : TypeId := 47
def isY (y : Nat) (b : Nat) : Prop := b = y
/-- The reader's mark is b; all else is as it was. -/
structure RD (w0 w : World) (y : Nat) (b : Bool) : Prop where
 blk : Blk w y rdT #[.bool b]
 keeps : Keeps (isY y) w0 w
theorem Keeps.iter {S : Nat → Prop} (w : World) (s : ByteArray) (pos : Nat) : Keeps S w (w.iter s pos) := (Keeps.refl S w).alloc _
theorem want_any {w : World} {y : Nat} {b : Bool} (h : Blk w y rdT #[.bool b]) (ok : Bool) :
  Calls Tryz.prog 52 #[rp y, .bool ok] w fun e w' => e = .returned (.tuple #[]) ∧ RD w w' y (b || !ok) := by
 have hc : w.cell? ⟨y, 0, none⟩ = some (.bool b) := h.cell 0
 have hz : w.frozen? ⟨y, 0, none⟩ = false := h.frozen 0
 have H := Lib.hid h
 clear h
 cases ok
 ·have HP : Hid (RD w (w.setCell ⟨y, 0, none⟩ (.bool true)) y (b || !false)) := ⟨by have := H.out.set_ 0 (.bool true); simpa using this, Keeps.setCell (S := isY y) (p := ⟨y, 0, none⟩) (Keeps.refl (isY y) w) (.inl rfl) (.bool true)⟩
  go_enter Tryz.func52, Tryz.ntmps52
  go_wp2
  first
   | (go_end0; exact ⟨rfl, HP.out⟩)
   | exact bodyPost_ret (results_none rfl _ _ _) rfl ⟨rfl, HP.out⟩
 ·have HP : Hid (RD w w y (b || !true)) := ⟨by have := H.out; simpa using this, Keeps.refl _ w⟩
  go_enter Tryz.func52, Tryz.ntmps52
  go_wp2
  first
   | (go_end0; exact ⟨rfl, HP.out⟩)
   | exact bodyPost_ret (results_none rfl _ _ _) rfl ⟨rfl, HP.out⟩
theorem RD.after {w w1 w2 : World} {y : Nat} {b : Bool} (h1 : Keeps (isY y) w w1) (hy : y < w.heap.size) (h : RD w1 w2 y b) : RD w w2 y b :=
 ⟨h.blk, h1.trans (h.keeps.mono fun _ hb => .inl hb)⟩
theorem number_any {w : World} {y : Nat} {b : Bool} (h : Blk w y rdT #[.bool b]) (below : Bool) (s : ByteArray) (bits : Nat) (hb : bits = 16 ∨ bits = 32) :
  Calls Tryz.prog 79 #[rp y, .bool below, .string s, .int .i64 bits] w fun e w' => e = .returned (.int .i64 ((signS below s bits).getD 0)) ∧ RD w w' y (b || !(signS below s bits).isSome) := by
 have C1 := Lib.hid (signed_any below s bits hb w)
 have HL : Hid (y < w.heap.size) := h.lt
 have C2 : Hid (∀ pos ok, Calls Tryz.prog 52 #[rp y, .bool ok] (w.iter s pos) fun e w' => e = .returned (.tuple #[]) ∧ RD (w.iter s pos) w' y (b || !ok)) := fun pos ok => want_any (h.alloc _) ok
 clear h hb
 generalize signS below s bits = o at *
 go_enter Tryz.func79, Tryz.ntmps79
 go_wp2_with (first
  | (go_at_call 110; refine C1.out.mono ?_; rintro e w1 ⟨he, pos, rfl⟩; simp only [signA] at he; subst he)
  | (go_at_call 52; refine (C2.out _ _).mono ?_; rintro e w2 ⟨rfl, hr⟩; have HR := Lib.hid hr; clear hr))
 go_ret
 exact ⟨rfl, HR.out.after (Keeps.iter w s _) HL.out⟩
theorem toList_data (s : ByteArray) : s.toList = s.data.toList := Lib.toList_data s
theorem size_list (s : ByteArray) : s.data.toList.length = s.size := (Lib.size_eq s).symm
theorem list_beq (a b : ByteArray) : (a.toList == b.toList) = decide (a.data.toList = b.data.toList) := by
 rw [toList_data, toList_data, Bool.eq_iff_iff]; simp
/-- Whether l begins with p. -/
def beginsB (l p : List UInt8) : Bool := decide (p.length ≤ l.length) && decide (l.take p.length = p)
set_option maxHeartbeats 1000000 in
theorem hasPrefixL_any (s p : ByteArray) (hs : s.size ≤ 4611686018427387904) (hp : p.size ≤ 4611686018427387904) (w : World) :
  Calls Tryz.prog 111 #[.string s, .string p] w fun e w' => e = .returned (.bool (beginsB s.data.toList p.data.toList)) ∧ w = w' := by
 by_cases h : p.size ≤ s.size
 ·have g1 : decide (p.size ≤ s.size) = true := by simpa using h
  have hh : (p.size : Int) ≤ (s.size : Int) := by omega
  have e : ((s.extract 0 p.size).toList == p.toList) = beginsB s.data.toList p.data.toList := by
   rw [list_beq]
   unfold beginsB
   rw [size_list, size_list, g1]
   simp [ByteArray.data_extract, Array.toList_extract, List.extract, size_list]
  cases hB : beginsB s.data.toList p.data.toList
  all_goals
   rw [hB] at e
   go_enter Tryz.func111, Tryz.ntmps111
   go_wp2_with fail
   go_ret
   exact ⟨rfl, rfl⟩
 ·have g1 : decide (p.size ≤ s.size) = false := by simpa using h
  have e : beginsB s.data.toList p.data.toList = false := by unfold beginsB; rw [size_list, size_list, g1]; rfl
  rw [e]
  clear e
  go_enter Tryz.func111, Tryz.ntmps111
  go_wp2_with fail
  go_ret
  exact ⟨rfl, rfl⟩
set_option maxHeartbeats 1000000 in
theorem hasPrefix_any (s p : ByteArray) (hs : s.size ≤ 4611686018427387904) (hp : p.size ≤ 4611686018427387904) (w : World) :
  Calls Tryz.prog 80 #[.string s, .string p] w fun e w' => e = .returned (.bool (beginsB s.data.toList p.data.toList)) ∧ w = w' := by
 have C0 := Lib.hid (fun w => hasPrefixL_any s p hs hp w)
 go_enter Tryz.func80, Tryz.ntmps80
 go_wp2_with (go_at_call 111; refine (C0.out _).mono ?_; rintro e w1 ⟨rfl, rfl⟩)
 go_ret
 exact ⟨rfl, rfl⟩
/-- A text behind its prefix. -/
def begins (s p : ByteArray) : Bool := beginsB s.data.toList p.data.toList
def behind (s p : ByteArray) : ByteArray := if begins s p = true then s.extract p.size s.size else s
theorem begins_le {s p : ByteArray} (h : begins s p = true) : p.size ≤ s.size := by
 unfold begins beginsB at h
 rw [Bool.and_eq_true, decide_eq_true_eq, size_list, size_list] at h
 exact h.1
set_option maxHeartbeats 1000000 in
theorem cutPrefixL_any (s p : ByteArray) (hs : s.size ≤ 4611686018427387904) (hp : p.size ≤ 4611686018427387904) (w : World) :
  Calls Tryz.prog 109 #[.string s, .string p] w fun e w' => e = .returned (.tuple #[.string (behind s p), .bool (begins s p)]) ∧ w = w' := by
 have C0 := Lib.hid (fun w => hasPrefixL_any s p hs hp w)
 have HB : Hid (behind s p = if begins s p = true then s.extract p.size s.size else s) := rfl
 have hle : begins s p = true → p.size ≤ s.size := begins_le
 change Hid (∀ w, Calls Tryz.prog 111 #[.string s, .string p] w fun e w' => e = .returned (.bool (begins s p)) ∧ w = w') at C0
 generalize begins s p = b at *
 cases b
 ·rw [if_neg (by decide)] at HB
  clear hle hs hp
  go_enter Tryz.func109, Tryz.ntmps109
  go_wp2_with (go_at_call 111; refine (C0.out _).mono ?_; rintro e w1 ⟨rfl, rfl⟩)
  go_ret2
  exact ⟨by rw [HB.out]; rfl, rfl⟩
 ·rw [if_pos rfl] at HB
  have hle' : p.size ≤ s.size := hle rfl
  clear hle hs hp
  go_enter Tryz.func109, Tryz.ntmps109
  go_wp2_with (go_at_call 111; refine (C0.out _).mono ?_; rintro e w1 ⟨rfl, rfl⟩)
  go_ret2
  exact ⟨by rw [HB.out]; rfl, rfl⟩
theorem cutPrefix_any (s p : ByteArray) (hs : s.size ≤ 4611686018427387904) (hp : p.size ≤ 4611686018427387904) (w : World) :
  Calls Tryz.prog 78 #[.string s, .string p] w fun e w' => e = .returned (.tuple #[.string (behind s p), .bool (begins s p)]) ∧ w = w' := by
 have C0 := Lib.hid (fun w => cutPrefixL_any s p hs hp w)
 go_enter Tryz.func78, Tryz.ntmps78
 go_wp2_with (go_at_call 109; refine (C0.out _).mono ?_; rintro e w1 ⟨rfl, rfl⟩)
 go_ret2
 exact ⟨rfl, rfl⟩
abbrev minusT : ByteArray := ⟨#[45]⟩
abbrev plusT : ByteArray := ⟨#[43]⟩
/-- The number with its sign that a word is; none: it is none of so many bits. -/
def immS (s : ByteArray) : Option Int := signS (begins s minusT) (behind s minusT) 32
theorem behind_le (s p : ByteArray) : (behind s p).size ≤ s.size := by
 unfold behind
 split
 ·rw [ByteArray.size_extract]; omega
 ·exact Nat.le_refl _
section
variable {w : World} {y : Nat} {b : Bool}
theorem immR_any (h : Blk w y rdT #[.bool b]) (s : ByteArray) (hs : s.size ≤ 4611686018427387904) :
  Calls Tryz.prog 54 #[rp y, .string s] w fun e w' => e = .returned (.int .i64 ((immS s).getD 0)) ∧ RD w w' y (b || !(immS s).isSome) := by
 have C0 := Lib.hid (cutPrefix_any s minusT hs (by decide) w)
 have C1 := Lib.hid (number_any h (begins s minusT) (behind s minusT) 32 (.inr rfl))
 change Hid (Calls Tryz.prog 79 _ _ fun e w' => e = .returned (.int .i64 ((immS s).getD 0)) ∧ RD w w' y (b || !(immS s).isSome)) at C1
 clear h hs
 generalize immS s = o at *
 generalize begins s minusT = bl at *
 generalize behind s minusT = u at *
 go_enter Tryz.func54, Tryz.ntmps54
 go_wp2_with (first
  | (go_at_call 78; refine C0.out.mono ?_; rintro e w1 ⟨rfl, rfl⟩)
  | (go_at_call 79; refine C1.out.mono ?_; rintro e w2 ⟨rfl, hr⟩; have HR := Lib.hid hr; clear hr))
 go_ret
 exact ⟨rfl, HR.out⟩
/-- How far a jump goes, with its sign. -/
def furtherS (s : ByteArray) : Option Int := if begins s minusT = true then signS true (behind s minusT) 16 else if begins s plusT = true then signS false (behind s plusT) 16 else none
/-- The register that a word with this letter ahead is. -/
def regS (s p : ByteArray) : Option Nat := if begins s p = true then digN 10 (behind s p) else none
end
theorem RD.then {w w1 w2 : World} {y : Nat} {b b' : Bool} (h1 : RD w w1 y b) (h : RD w1 w2 y b') : RD w w2 y b' :=
 ⟨h.blk, h1.keeps.trans (h.keeps.mono fun _ hb => .inl hb)⟩
theorem digS_le {most m : Nat} {s : ByteArray} (h9 : 9 ≤ most) : (digS most s).getD 0 ≤ most := by
 rcases h : digS most s with _ | n
 ·exact Nat.zero_le _
 ·exact digL_le h9 (Nat.zero_le _) h
/-- What register answers, whether or not it marks. -/
def regV (s p : ByteArray) : Nat := (digS 10 (behind s p)).getD 0
section
variable {w : World} {y : Nat} {b : Bool}
theorem register_any (h : Blk w y rdT #[.bool b]) (s p : ByteArray) (hs : s.size ≤ 4611686018427387904) (hp : p.size ≤ 4611686018427387904) :
  Calls Tryz.prog 50 #[rp y, .string p, .string s] w fun e w' => e = .returned (.int .i64 (regV s p)) ∧ RD w w' y (b || !(regS s p).isSome) := by
 have C0 := Lib.hid (cutPrefix_any s p hs hp w)
 have D := digits_any (behind s p) 10 (by decide) (by decide) w
 have hD : digA (behind s p) (digS 10 (behind s p)) = .returned (.tuple #[.int .u64 (regV s p : Int), .bool (digN 10 (behind s p)).isSome]) := by
  obtain ⟨n, h1, h2⟩ := digA_eq 10 (behind s p)
  unfold digA digN regV
  rw [isEmpty_size]
  by_cases h : (behind s p).size = 0
  ·rw [if_pos h, decide_eq_true h]; simp
  ·rw [if_neg h, decide_eq_false h]; simp
 rw [hD] at D
 have C1 := Lib.hid D
 have HL : Hid (y < w.heap.size) := h.lt
 have C2 : Hid (∀ pos ok, Calls Tryz.prog 52 #[rp y, .bool ok] (w.iter (behind s p) pos) fun e w' => e = .returned (.tuple #[]) ∧ RD (w.iter (behind s p) pos) w' y (b || !ok)) := fun pos ok => want_any (h.alloc _) ok
 have hv : regV s p ≤ 10 := digS_le (m := 0) (by decide)
 have e1 : IntKind.i64.wrap (regV s p : Int) = (regV s p : Int) := IntWalk.i64_in _ (by omega)
 have HR0 : Hid ((regS s p).isSome = (begins s p && (digN 10 (behind s p)).isSome)) := by
  unfold Hid regS
  cases begins s p <;> simp
 clear h hs hp D hD hv
 generalize (digN 10 (behind s p)).isSome = k at *
 generalize regV s p = v at *
 generalize behind s p = u at *
 generalize begins s p = bl at *
 generalize (regS s p).isSome = rs at *
 have hrs : rs = (bl && k) := HR0
 subst hrs
 clear HR0
 cases bl
 all_goals
  go_enter Tryz.func50, Tryz.ntmps50
  go_wp2_with (first
   | (go_at_call 78; refine C0.out.mono ?_; rintro e w1 ⟨rfl, rfl⟩)
   | (go_at_call 51; refine C1.out.mono ?_; rintro e w1 ⟨rfl, pos, rfl⟩)
   | (go_at_call 52; refine (C2.out _ _).mono ?_; rintro e w2 ⟨rfl, hr⟩; have HR := Lib.hid hr; clear hr))
  go_ret
  exact ⟨rfl, HR.out.after (Keeps.iter w u _) HL.out⟩
/-- What further answers, whether or not it marks. -/
def furtherV (s : ByteArray) : Int := if begins s minusT = true then (signS true (behind s minusT) 16).getD 0 else (signS false (behind s plusT) 16).getD 0
theorem further_any (h : Blk w y rdT #[.bool b]) (s : ByteArray) (hs : s.size ≤ 4611686018427387904) :
  Calls Tryz.prog 55 #[rp y, .string s] w fun e w' => e = .returned (.int .i64 (furtherV s)) ∧ RD w w' y (b || !(furtherS s).isSome) := by
 have C0 := Lib.hid (cutPrefix_any s minusT hs (by decide) w)
 have C1 := Lib.hid (cutPrefix_any s plusT hs (by decide) w)
 by_cases hm : begins s minusT = true
 ·have C2 := Lib.hid (number_any h true (behind s minusT) 16 (.inl rfl))
  have e1 : furtherV s = (signS true (behind s minusT) 16).getD 0 := by unfold furtherV; rw [if_pos hm]
  have e2 : furtherS s = signS true (behind s minusT) 16 := by unfold furtherS; rw [if_pos hm]
  rw [e1, e2]
  rw [hm] at C0
  clear e1 e2 h hs hm C1
  generalize signS true (behind s minusT) 16 = o at *
  generalize behind s minusT = u at *
  go_enter Tryz.func55, Tryz.ntmps55
  go_wp2_with (first
   | (go_at_call 78; refine C0.out.mono ?_; rintro e w1 ⟨rfl, rfl⟩)
   | (go_at_call 79; refine C2.out.mono ?_; rintro e w2 ⟨rfl, hr⟩; have HR := Lib.hid hr; clear hr))
  go_ret
  exact ⟨rfl, HR.out⟩
 ·have hm' : begins s minusT = false := by simpa using hm
  have C2 := Lib.hid (fun b w (h : Blk w y rdT #[.bool b]) => number_any h false (behind s plusT) 16 (.inl rfl))
  have C3 := Lib.hid (want_any h (begins s plusT))
  have e1 : furtherV s = (signS false (behind s plusT) 16).getD 0 := by unfold furtherV; rw [if_neg hm]
  have e2 : (furtherS s).isSome = (begins s plusT && (signS false (behind s plusT) 16).isSome) := by unfold furtherS; rw [if_neg hm]; cases begins s plusT <;> simp
  rw [e1, e2]
  rw [hm'] at C0
  clear e1 e2 h hs hm hm'
  generalize signS false (behind s plusT) 16 = o at *
  generalize behind s plusT = u at *
  generalize begins s plusT = bl at *
  generalize behind s minusT = u2 at *
  go_enter Tryz.func55, Tryz.ntmps55
  go_wp2_with (first
   | (go_at_call 78; first
    | (refine C0.out.mono ?_; clear C0; rintro e w1 ⟨rfl, rfl⟩)
    | (refine C1.out.mono ?_; rintro e w1 ⟨rfl, rfl⟩))
   | (go_at_call 52; refine C3.out.mono ?_; rintro e w1 ⟨rfl, hr⟩; have HR1 := Lib.hid hr; clear hr)
   | (go_at_call 79; refine (C2.out _ _ HR1.out.blk).mono ?_; rintro e w2 ⟨rfl, hr⟩; have HR := Lib.hid hr; clear hr))
  go_ret
  refine ⟨rfl, ?_⟩
  have := HR1.out.then HR.out
  cases b <;> cases bl <;> simpa using this
end
abbrev inT : TypeId := 38
abbrev inC (op dst src off imm : Int) : Array Value := #[.int .i64 op, .int .i64 dst, .int .i64 src, .int .i64 off, .int .i64 imm]
/-- What one of the words says of a slot: a register of this letter, or a number. -/
structure Sec where
 reg : Bool
 src : Int
 imm : Int
 ok : Bool
def secS (s p : ByteArray) (src imm : Int) : Sec :=
 if begins s p = true then ⟨true, regV s p, imm, (regS s p).isSome⟩ else ⟨false, src, (immS s).getD 0, (immS s).isSome⟩
/-- The reader's mark, a slot of its own; all else is as it was. -/
structure RI (w0 w : World) (y z : Nat) (b : Bool) (op dst src off imm : Int) : Prop where
 blk : Blk w y rdT #[.bool b]
 slot : Blk w z inT (inC op dst src off imm)
 keeps : Keeps (fun k => k = y ∨ k = z) w0 w
theorem second_any {w : World} {y z : Nat} {b : Bool} {op dst src off imm : Int} (h : Blk w y rdT #[.bool b]) (hi : Blk w z inT (inC op dst src off imm)) (s p : ByteArray) (hs : s.size ≤ 4611686018427387904) (hp : p.size ≤ 4611686018427387904) :
  Calls Tryz.prog 82 #[rp y, rp z, .string p, .string s] w fun e w' => e = .returned (.bool (secS s p src imm).reg) ∧ RI w w' y z (b || !(secS s p src imm).ok) op dst (secS s p src imm).src off (secS s p src imm).imm := by
 have hne : y ≠ z := h.ne_ hi (by decide)
 have C0 : Hid (Calls Tryz.prog 80 #[.string s, .string p] w fun e w' => e = .returned (.bool (begins s p)) ∧ w = w') := hasPrefix_any s p hs hp w
 have HZ := Lib.hid hi
 have hc2 : w.cell? ⟨z, 2, none⟩ = some (.int .i64 src) := hi.cell 2
 have hc4 : w.cell? ⟨z, 4, none⟩ = some (.int .i64 imm) := hi.cell 4
 by_cases hb : begins s p = true
 ·have C1 := Lib.hid (register_any h s p hs hp)
  have e1 : secS s p src imm = ⟨true, regV s p, imm, (regS s p).isSome⟩ := by unfold secS; rw [if_pos hb]
  rw [e1]
  rw [hb] at C0
  simp only
  clear e1 h hi hs hp hb
  generalize (regS s p).isSome = k at *
  generalize regV s p = v at *
  have HN := Lib.hid hne
  clear hne hc2 hc4
  have step : ∀ w2, RD w w2 y (b || !k) → RI w (w2.setCell ⟨z, 2, none⟩ (.int .i64 v)) y z (b || !k) op dst v off imm ∧ w2.cell? ⟨z, 2, none⟩ = some (.int .i64 src) ∧ w2.frozen? ⟨z, 2, none⟩ = false := by
   intro w2 h2
   have hz : Blk w2 z inT (inC op dst src off imm) := HZ.out.keeps h2.keeps (fun e => HN.out e.symm)
   refine ⟨⟨h2.blk.far (p := ⟨z, 2, none⟩) HN.out _, ?_, ?_⟩, hz.cell 2, hz.frozen 2⟩
   ·have := hz.set_ 2 (.int .i64 v)
    simpa [inC] using this
   ·exact (h2.keeps.mono fun _ hb => .inl hb).setCell (p := ⟨z, 2, none⟩) (.inl (.inr rfl)) _
  have HS := Lib.hid step
  clear step
  go_enter Tryz.func82, Tryz.ntmps82
  go_wp2_with (first
   | (go_at_call 80; refine C0.out.mono ?_; rintro e w1 ⟨rfl, rfl⟩)
   | (go_at_call 50; refine C1.out.mono ?_; rintro e w2 ⟨rfl, hr⟩; obtain ⟨h1, h2, h3⟩ := HS.out _ hr; have HR := Lib.hid h1; clear hr h1))
  go_ret
  exact ⟨rfl, HR.out⟩
 ·have hb' : begins s p = false := by simpa using hb
  have C1 := Lib.hid (immR_any h s hs)
  have e1 : secS s p src imm = ⟨false, src, (immS s).getD 0, (immS s).isSome⟩ := by unfold secS; rw [if_neg hb]
  rw [e1]
  rw [hb'] at C0
  simp only
  clear e1 h hi hs hp hb hb'
  generalize (immS s).isSome = k at *
  generalize (immS s).getD 0 = v at *
  have HN := Lib.hid hne
  clear hne hc2 hc4
  have step : ∀ w2, RD w w2 y (b || !k) → RI w (w2.setCell ⟨z, 4, none⟩ (.int .i64 v)) y z (b || !k) op dst src off v ∧ w2.cell? ⟨z, 4, none⟩ = some (.int .i64 imm) ∧ w2.frozen? ⟨z, 4, none⟩ = false := by
   intro w2 h2
   have hz : Blk w2 z inT (inC op dst src off imm) := HZ.out.keeps h2.keeps (fun e => HN.out e.symm)
   refine ⟨⟨h2.blk.far (p := ⟨z, 4, none⟩) HN.out _, ?_, ?_⟩, hz.cell 4, hz.frozen 4⟩
   ·have := hz.set_ 4 (.int .i64 v)
    simpa [inC] using this
   ·exact (h2.keeps.mono fun _ hb => .inl hb).setCell (p := ⟨z, 4, none⟩) (.inl (.inr rfl)) _
  have HS := Lib.hid step
  clear step
  go_enter Tryz.func82, Tryz.ntmps82
  go_wp2_with (first
   | (go_at_call 80; refine C0.out.mono ?_; rintro e w1 ⟨rfl, rfl⟩)
   | (go_at_call 54; refine C1.out.mono ?_; rintro e w2 ⟨rfl, hr⟩; obtain ⟨h1, h2, h3⟩ := HS.out _ hr; have HR := Lib.hid h1; clear hr h1))
  go_ret
  exact ⟨rfl, HR.out⟩
abbrev wholeT : ByteArray := ⟨#[114]⟩
abbrev lowerT : ByteArray := ⟨#[119]⟩
def letterS (class_ : Int) : ByteArray := if class_ = 4 ∨ class_ = 6 then lowerT else wholeT
def extendsS (class_ off : Int) : Bool := decide (off = 8 ∨ off = 16 ∨ (off = 32 ∧ class_ = 7))
def lockedS (size : Int) : Bool := decide (size = 0 ∨ size = 24)
theorem letterOf_any (class_ : Int) (w : World) : Calls Tryz.prog 81 #[.int .i64 class_] w fun e w' => e = .returned (.string (letterS class_)) ∧ w = w' := by
 by_cases h4 : class_ = 4
 ·subst h4
  go_enter Tryz.func81, Tryz.ntmps81
  go_wp2_with fail
  go_ret
  exact ⟨rfl, rfl⟩
 by_cases h6 : class_ = 6
 ·subst h6
  go_enter Tryz.func81, Tryz.ntmps81
  go_wp2_with fail
  go_ret
  exact ⟨rfl, rfl⟩
 have e : letterS class_ = wholeT := by unfold letterS; rw [if_neg]; rintro (h | h) <;> contradiction
 have b4 : (class_ == 4) = false := by simpa using h4
 have b6 : (class_ == 6) = false := by simpa using h6
 rw [e]
 clear e h4 h6
 go_enter Tryz.func81, Tryz.ntmps81
 go_wp2_with fail
 go_ret
 exact ⟨rfl, rfl⟩
theorem locked_any (size : Int) (w : World) : Calls Tryz.prog 84 #[.int .i64 size] w fun e w' => e = .returned (.bool (lockedS size)) ∧ w = w' := by
 by_cases h4 : size = 0
 ·subst h4
  go_enter Tryz.func84, Tryz.ntmps84
  go_wp2_with fail
  go_ret
  exact ⟨rfl, rfl⟩
 by_cases h6 : size = 24
 ·subst h6
  go_enter Tryz.func84, Tryz.ntmps84
  go_wp2_with fail
  go_ret
  exact ⟨rfl, rfl⟩
 have e : lockedS size = false := by unfold lockedS; rw [decide_eq_false]; rintro (h | h) <;> contradiction
 have b4 : (size == 0) = false := by simpa using h4
 have b6 : (size == 24) = false := by simpa using h6
 rw [e]
 clear e h4 h6
 go_enter Tryz.func84, Tryz.ntmps84
 go_wp2_with fail
 go_ret
 exact ⟨rfl, rfl⟩
theorem extends_any (class_ off : Int) (w : World) : Calls Tryz.prog 103 #[.int .i64 class_, .int .i64 off] w fun e w' => e = .returned (.bool (extendsS class_ off)) ∧ w = w' := by
 by_cases h8 : off = 8
 ·subst h8
  have e : extendsS class_ 8 = true := by unfold extendsS; simp
  rw [e]
  clear e
  go_enter Tryz.func103, Tryz.ntmps103
  go_wp2_with fail
  go_ret
  exact ⟨rfl, rfl⟩
 by_cases h16 : off = 16
 ·subst h16
  have e : extendsS class_ 16 = true := by unfold extendsS; simp
  rw [e]
  clear e
  go_enter Tryz.func103, Tryz.ntmps103
  go_wp2_with fail
  go_ret
  exact ⟨rfl, rfl⟩
 have b8 : (off == 8) = false := by simpa using h8
 have b16 : (off == 16) = false := by simpa using h16
 by_cases h32 : off = 32
 ·subst h32
  have e : extendsS class_ 32 = (class_ == 7) := by unfold extendsS; simp; rfl
  rw [e]
  clear e b8 b16 h8 h16
  generalize hc : (class_ == 7) = k at *
  cases k
  all_goals
   go_enter Tryz.func103, Tryz.ntmps103
   go_wp2_with fail
   go_ret
   exact ⟨rfl, rfl⟩
 have b32 : (off == 32) = false := by simpa using h32
 have e : extendsS class_ off = false := by unfold extendsS; rw [decide_eq_false]; rintro (h | h | h) <;> simp_all
 rw [e]
 clear e h8 h16 h32
 go_enter Tryz.func103, Tryz.ntmps103
 go_wp2_with fail
 go_ret
 exact ⟨rfl, rfl⟩
def emptyT : ByteArray := ⟨#[]⟩
/-- The words with a blank between each two; none, if one of the words is none. -/
def lacks (l : List ByteArray) : Bool := l.any fun x => decide (x.size = 0)
theorem size_zero {x : ByteArray} (h : x.size = 0) : x = emptyT := by
 obtain ⟨⟨l⟩⟩ := x
 have : l = [] := List.length_eq_zero_iff.1 h
 subst this
 rfl
theorem lacks_iff (l : List ByteArray) : lacks l = true ↔ emptyT ∈ l := by
 unfold lacks
 rw [List.any_eq_true]
 constructor
 ·rintro ⟨x, hx, h⟩
  rw [← size_zero (of_decide_eq_true h)]
  exact hx
 ·intro h
  exact ⟨_, h, rfl⟩
def saidT (l : List ByteArray) : ByteArray := if lacks l = true then emptyT else bstr (Lib.join (l.map (·.data.toList)) [32])
theorem join_size : ∀ (l : List (List UInt8)) (k : Nat), (∀ x ∈ l, x.length ≤ k) → (Lib.join l [32]).length ≤ l.length * (k + 1)
 | [], k, _ => by simp [Lib.join_nil]
 | [x], k, h => by rw [Lib.join_one]; have := h x (by simp); simp; omega
 | x :: y :: r, k, h => by
  have e : Lib.join (x :: y :: r) [32] = x ++ [32] ++ Lib.join (y :: r) [32] := by simp [Lib.join, List.intercalate]
  have h1 := join_size (y :: r) k (fun z hz => h z (by simp only [List.mem_cons] at hz ⊢; exact .inr hz))
  have h2 := h x (by simp)
  rw [e, List.length_append, List.length_append]
  simp only [List.length_cons, List.length_nil] at *
  rw [Nat.add_mul (r.length + 1) 1]
  omega
theorem saidT_size (l : List ByteArray) (k : Nat) (h : ∀ x ∈ l, x.size ≤ k) : (saidT l).size ≤ l.length * (k + 1) := by
 unfold saidT
 split
 ·exact Nat.zero_le _
 ·rw [bstr_size]
  have := join_size (l.map (·.data.toList)) k (fun x hx => by
   obtain ⟨s, hs, rfl⟩ := List.mem_map.1 hx
   have := h s hs
   rwa [Array.length_toList])
  rwa [List.length_map] at this
theorem row_at {w : World} {g : Nat} {l : List ByteArray} {t : TypeId} (h : Blk w g t (l.map Value.string).toArray) {j : Nat} {x : ByteArray} (hx : l[j]? = some x) : w.cell? ⟨g, 0 + j, none⟩ = some (.string x) := by
 rw [Nat.zero_add, h.cell j, List.getElem?_toArray, List.getElem?_map, hx]
 rfl
theorem said_any (w : World) (g : Nat) (t : TypeId) (l : List ByteArray) (h : Blk w g t (l.map Value.string).toArray) (hl : l.length ≤ 8) (k : Nat) (hk : k ≤ 100000) (hs : ∀ x ∈ l, x.size ≤ k) :
  Calls Tryz.prog 97 #[.slice (some ⟨g, 0, none⟩) l.length l.length] w (SaysT w (saidT l)) := by
 have C0 := Tryz.slices_Contains_string g 0 l.length l.length l emptyT w (Nat.le_refl _) (by omega) (fun j hj => by
  rw [row_at h (List.getElem?_eq_getElem hj)]
  rw [List.getD_eq_getElem?_getD, List.getElem?_eq_getElem hj]
  rfl)
 rw [List.take_length] at C0
 have hj : (Lib.join (l.map (·.data.toList)) (⟨#[32]⟩ : ByteArray).data.toList).length ≤ 140737488355328 := by
  have := join_size (l.map (·.data.toList)) k (fun x hx => by
   obtain ⟨s, hs', rfl⟩ := List.mem_map.1 hx
   have := hs s hs'
   rwa [Array.length_toList])
  rw [List.length_map] at this
  have h8 : l.length * (k + 1) ≤ 8 * 100001 := Nat.mul_le_mul hl (by omega)
  show (Lib.join _ [32]).length ≤ _
  omega
 have C1 := Tryz.strings_Join g 0 l.length l ⟨#[32]⟩ w (fun j x hx => row_at h hx) h.lt (by omega) (Nat.le_refl _) hj
 have e : Lib.containsS l emptyT = lacks l := by
  cases hc : lacks l
  ·cases hd : Lib.containsS l emptyT
   ·rfl
   ·rw [(lacks_iff l).2 ((Lib.containsS_iff _ _).1 hd)] at hc; cases hc
  ·exact (Lib.containsS_iff _ _).2 ((lacks_iff l).1 hc)
 rw [e] at C0
 unfold saidT
 have H0 : Hid (Calls Tryz.prog 116 #[.slice (some ⟨g, 0, none⟩) l.length l.length, .string ⟨#[]⟩] w fun e w' => e = .returned (.bool (lacks l)) ∧ w' = w) := C0
 have H1 : Hid (Calls Tryz.prog 117 #[.slice (some ⟨g, 0, none⟩) l.length l.length, .string ⟨#[32]⟩] w fun e w' => e = .returned (.string (bstr (Lib.join (l.map (·.data.toList)) [32]))) ∧ Below w.heap.size w w') := C1
 clear C0 C1 h hl hk hs hj e
 generalize bstr (Lib.join (l.map (·.data.toList)) [32]) = jn at *
 generalize lacks l = b at *
 cases b
 all_goals
  first | rw [if_pos rfl] | rw [if_neg (by decide)]
  generalize l.length = n at *
  go_enter Tryz.func97, Tryz.ntmps97
  go_wp2_with (first
   | (go_at_call 116; refine H0.out.mono ?_; rintro e w1 ⟨rfl, rfl⟩)
   | (go_at_call 117; refine H1.out.mono ?_; rintro e w1 ⟨rfl, hb⟩; have HB := Lib.hid hb; clear hb))
  go_ret
  first | exact ⟨rfl, Below.refl _ _⟩ | exact ⟨rfl, HB.out⟩
end Go.Proofs.YtemiklbkfogjeaaGreatDoor
