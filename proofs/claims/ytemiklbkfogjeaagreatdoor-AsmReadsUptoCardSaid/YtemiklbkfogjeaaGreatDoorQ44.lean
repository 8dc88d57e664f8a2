/-
  What the reference prints of an operation, package asm prints: plainly. What the reference prints of a slot, package asm prints: plainly, whole.
-/
import Derived.Test.YtemiklbkfogjeaaGreatDoorQ43
import Derived.Test.YtemiklbkfogjeaaGreatDoorQ42
namespace Go.Proofs.YtemiklbkfogjeaaGreatDoor
open Go Go.RowKit Go.Maps
set_option linter.unusedVariables false
set_option linter.unusedSimpArgs false
set_option maxRecDepth 100000
/-- An operation's name, with its sign. -/
def operW (a : Nat) (f : Int) : Option (List UInt8) :=
 if f = 0 then (if (Ln.nameA a).isEmpty = true then none else some (Ln.nameA a)) else if f = 1 ∧ (a = 3 ∨ a = 9) then some (115 :: Ln.nameA a) else none
theorem oper_of (a : Nat) (ha : a < 16) (f : Int) (g : ByteArray → ByteArray) (e : ByteArray) : operG ((a * 16 : Nat) : Int) f g e operL = (operW a f).elim e fun l => g ⟨l.toArray⟩ := by
 have ha' : a = 0 ∨ a = 1 ∨ a = 2 ∨ a = 3 ∨ a = 4 ∨ a = 5 ∨ a = 6 ∨ a = 7 ∨ a = 8 ∨ a = 9 ∨ a = 10 ∨ a = 11 ∨ a = 12 ∨ a = 13 ∨ a = 14 ∨ a = 15 := by omega
 unfold operW
 by_cases h0 : f = 0
 ·subst h0
  rw [if_pos rfl]
  rcases ha' with rfl | rfl | rfl | rfl | rfl | rfl | rfl | rfl | rfl | rfl | rfl | rfl | rfl | rfl | rfl | rfl <;> rfl
 ·rw [if_neg h0]
  by_cases h1 : f = 1
  ·subst h1
   rcases ha' with rfl | rfl | rfl | rfl | rfl | rfl | rfl | rfl | rfl | rfl | rfl | rfl | rfl | rfl | rfl | rfl <;> rfl
  ·rw [if_neg (fun h => h1 h.1)]
   unfold operL
   have h0' : ¬ (0 : Int) = f := fun h => h0 h.symm
   have h1' : ¬ (1 : Int) = f := fun h => h1 h.symm
   simp only [operG, h0', h1', and_false, if_false, Option.elim_none]
theorem turn_no {o d s f m : Int} (h : o ≠ 212 ∧ o ≠ 220 ∧ o ≠ 215) : turnT o d s f m = emptyT := by
 unfold turnT turnL
 simp [turnG, turnB, h.1, h.2.1, h.2.2]
theorem ne_cons (b : UInt8) (l : List UInt8) : (⟨(b :: l).toArray⟩ : ByteArray).size ≠ 0 := by
 rw [bl_size, lit_bl]; simp
theorem operW_ne {a : Nat} {f : Int} {l : List UInt8} (h : operW a f = some l) : (⟨l.toArray⟩ : ByteArray).size ≠ 0 := by
 unfold operW at h
 split at h
 ·split at h
  ·cases h
  ·rename_i h1
   cases h
   rw [bl_size, lit_bl]
   intro h2
   rw [List.length_eq_zero_iff] at h2
   rw [h2] at h1; exact h1 rfl
 ·split at h
  ·cases h
   exact ne_cons _ _
  ·cases h
/-- The end of an operation's line. -/
theorem fin_of {o d : Int} {a : Nat} (ha : a < 16) (h8 : a ≠ 8) (h13 : a ≠ 13) (t3 : bits .and .i64 o 240 = ((a * 16 : Nat) : Int)) (sg rt : List UInt8) : Ln.aluFin o d sg rt = if (Ln.nameA a).isEmpty = true then [] else Ln.regL (Ln.lead7 o) d ++ [32] ++ sg ++ Ln.nameA a ++ [32] ++ rt := by
 unfold Ln.aluFin
 rw [t3, show (((a * 16 : Nat) : Int) / 16) = (a : Int) by omega, Int.toNat_natCast]
 have ha' : a ≤ 12 ∨ a = 14 ∨ a = 15 := by omega
 rcases ha' with h | rfl | rfl
 ·have e1 : decide ((12 : Int) < (a : Int)) = false := decide_eq_false (by omega)
  have e2 : (Ln.nameA a).isEmpty = false := by
   have ha' : a = 0 ∨ a = 1 ∨ a = 2 ∨ a = 3 ∨ a = 4 ∨ a = 5 ∨ a = 6 ∨ a = 7 ∨ a = 9 ∨ a = 10 ∨ a = 11 ∨ a = 12 := by omega
   rcases ha' with rfl | rfl | rfl | rfl | rfl | rfl | rfl | rfl | rfl | rfl | rfl | rfl <;> rfl
  simp [e1, e2]
 ·rfl
 ·rfl
/-- What the reference's operation is, by its name. -/
theorem alu_mid {o d : Int} {a : Nat} (ha : a < 16) (h8 : a ≠ 8) (h13 : a ≠ 13) (t3 : bits .and .i64 o 240 = ((a * 16 : Nat) : Int)) (f : Int) (rt X : List UInt8) :
  (if (f == 0) = true then Ln.aluFin o d [] rt else if ((f == 1) && ((bits .and .i64 o 240 == 48) || (bits .and .i64 o 240 == 144))) = true then Ln.aluFin o d [115] rt else X) = (operW a f).elim (if f = 0 ∨ (f = 1 ∧ (a = 3 ∨ a = 9)) then [] else X) fun l => Ln.regL (Ln.lead7 o) d ++ [32] ++ l ++ [32] ++ rt := by
 rw [fin_of ha h8 h13 t3, fin_of ha h8 h13 t3, t3]
 unfold operW
 by_cases h0 : f = 0
 ·subst h0
  rw [if_pos (show ((0 : Int) == 0) = true from rfl), if_pos (show (0 : Int) = 0 from rfl)]
  split
  ·rw [Option.elim_none, if_pos (.inl rfl)]
  ·rw [Option.elim_some]; simp
 ·have e0 : (f == 0) = false := beq_false_of_ne h0
  rw [e0, if_neg (by decide), if_neg h0]
  by_cases h1 : f = 1 ∧ (a = 3 ∨ a = 9)
  ·rw [if_pos h1]
   obtain ⟨rfl, h1⟩ := h1
   have e1 : (((1 : Int) == 1) && (((a * 16 : Nat) : Int) == 48 || ((a * 16 : Nat) : Int) == 144)) = true := by
    simp
    omega
   rw [e1, if_pos rfl, Option.elim_some]
   rcases h1 with rfl | rfl <;> simp [Ln.nameA]
  ·have e1 : ((f == 1) && (((a * 16 : Nat) : Int) == 48 || ((a * 16 : Nat) : Int) == 144)) = false := by
    simp
    intro h
    refine ⟨fun h2 => h1 ⟨h, .inl (by omega)⟩, fun h2 => h1 ⟨h, .inr (by omega)⟩⟩
   rw [e1, if_neg (by decide), if_neg h1, Option.elim_none, if_neg (by rintro (h | h); exact h0 h; exact h1 h)]
theorem turnB_no {rd nm : ByteArray} {op o s f m : Int} : ∀ {l : List Int}, (∀ b ∈ l, ¬ (s = 0 ∧ f = 0 ∧ m = b)) → turnB rd nm op o s f m l = none
 | [], _ => rfl
 | b :: l, h => by
  rw [turnB, if_neg (fun hh => h b (by simp) hh.2), turnB_no (fun b' hb' => h b' (List.mem_cons_of_mem _ hb'))]
theorem turn_none {o d s f m : Int} (h : ¬ (s = 0 ∧ f = 0 ∧ (m = 16 ∨ m = 32 ∨ m = 64))) : turnT o d s f m = emptyT := by
 have hb : ∀ b ∈ [(16 : Int), 32, 64], ¬ (s = 0 ∧ f = 0 ∧ m = b) := by
  intro b hb hh
  simp only [List.mem_cons, List.not_mem_nil, or_false] at hb
  exact h ⟨hh.1, hh.2.1, by rcases hb with rfl | rfl | rfl; exact .inl hh.2.2; exact .inr (.inl hh.2.2); exact .inr (.inr hh.2.2)⟩
 unfold turnT turnL
 simp only [turnG, turnB_no hb, Option.getD_none]
theorem eq_turn {o d s f m : Int} (hd : 0 ≤ d ∧ d ≤ 10) : BL (turnT o d s f m) = Ln.endsL o d s f m := by
 unfold Ln.endsL
 by_cases hz : s = 0 ∧ f = 0 ∧ (m = 16 ∨ m = 32 ∨ m = 64)
 ·obtain ⟨rfl, rfl, hz⟩ := hz
  have hr : (regT wholeT d).size ≠ 0 := ne_reg d
  have hb : BL (regT wholeT d) = Ln.regL [114] d := bl_reg _ hd
  by_cases ho : o = 212 ∨ o = 220 ∨ o = 215
  ·have four : ∀ (nm : ByteArray) (b : Int), nm.size ≠ 0 → BL (saidT [regT wholeT d, eqT, nm ++ dec b, regT wholeT d]) = Ln.regL [114] d ++ [32] ++ [61] ++ [32] ++ (BL nm ++ Ln.digL b) ++ [32] ++ Ln.regL [114] d := fun nm b h => by
    rw [(said4 hr (by decide) (ne_app h) hr).1, hb, bl_app, bl_dec]
   rcases ho with rfl | rfl | rfl
   ·rcases hz with rfl | rfl | rfl
    ·rw [show turnT 212 d 0 0 16 = saidT [regT wholeT d, eqT, ⟨#[108, 101]⟩ ++ dec 16, regT wholeT d] from rfl, four _ _ (by decide)]; simp [Ln.turnB, Ln.endName, BL]
    ·rw [show turnT 212 d 0 0 32 = saidT [regT wholeT d, eqT, ⟨#[108, 101]⟩ ++ dec 32, regT wholeT d] from rfl, four _ _ (by decide)]; simp [Ln.turnB, Ln.endName, BL]
    ·rw [show turnT 212 d 0 0 64 = saidT [regT wholeT d, eqT, ⟨#[108, 101]⟩ ++ dec 64, regT wholeT d] from rfl, four _ _ (by decide)]; simp [Ln.turnB, Ln.endName, BL]
   ·rcases hz with rfl | rfl | rfl
    ·rw [show turnT 220 d 0 0 16 = saidT [regT wholeT d, eqT, ⟨#[98, 101]⟩ ++ dec 16, regT wholeT d] from rfl, four _ _ (by decide)]; simp [Ln.turnB, Ln.endName, BL]
    ·rw [show turnT 220 d 0 0 32 = saidT [regT wholeT d, eqT, ⟨#[98, 101]⟩ ++ dec 32, regT wholeT d] from rfl, four _ _ (by decide)]; simp [Ln.turnB, Ln.endName, BL]
    ·rw [show turnT 220 d 0 0 64 = saidT [regT wholeT d, eqT, ⟨#[98, 101]⟩ ++ dec 64, regT wholeT d] from rfl, four _ _ (by decide)]; simp [Ln.turnB, Ln.endName, BL]
   ·rcases hz with rfl | rfl | rfl
    ·rw [show turnT 215 d 0 0 16 = saidT [regT wholeT d, eqT, ⟨#[98, 115, 119, 97, 112]⟩ ++ dec 16, regT wholeT d] from rfl, four _ _ (by decide)]; simp [Ln.turnB, Ln.endName, BL]
    ·rw [show turnT 215 d 0 0 32 = saidT [regT wholeT d, eqT, ⟨#[98, 115, 119, 97, 112]⟩ ++ dec 32, regT wholeT d] from rfl, four _ _ (by decide)]; simp [Ln.turnB, Ln.endName, BL]
    ·rw [show turnT 215 d 0 0 64 = saidT [regT wholeT d, eqT, ⟨#[98, 115, 119, 97, 112]⟩ ++ dec 64, regT wholeT d] from rfl, four _ _ (by decide)]; simp [Ln.turnB, Ln.endName, BL]
  ·have hno : o ≠ 212 ∧ o ≠ 220 ∧ o ≠ 215 := by omega
   rw [turn_no hno]
   have : Ln.turnB o 0 0 m = false := by
    unfold Ln.turnB
    simp [hno.1, hno.2.1, hno.2.2]
   rw [this]; rfl
 ·rw [turn_none hz]
  have : Ln.turnB o s f m = false := by
   unfold Ln.turnB
   simp
   intro _ h1 h2
   refine ⟨fun h3 => hz ⟨h1, h2, .inl h3⟩, fun h3 => hz ⟨h1, h2, .inr (.inl h3)⟩, fun h3 => hz ⟨h1, h2, .inr (.inr h3)⟩⟩
  rw [this]; rfl
set_option maxHeartbeats 1000000 in
theorem eq_alu (a q : Nat) (ha : a < 16) (x : Nat) (hx : x < 2) (hq : q = 4 ∨ q = 7) {o d s f m : Int} (ho : o = ((16 * a + 8 * x + q : Nat) : Int)) (hd : 0 ≤ d ∧ d ≤ 10) (hs : 0 ≤ s ∧ s ≤ 10) (hf : -32768 ≤ f ∧ f ≤ 32767) (hm : -2147483648 ≤ m ∧ m ≤ 2147483647) : BL (aluT o d s f m) = Ln.aluT o d s f m := by
 have t := bits_tab (16 * a + 8 * x + q) (by omega)
 rw [← ho] at t
 obtain ⟨_, _, t3, t4⟩ := t
 have e16 : (16 * a + 8 * x + q) / 16 = a := by omega
 rw [e16] at t3
 have e8 : (16 * a + 8 * x + q) / 8 % 2 = x := by omega
 rw [e8] at t4
 have oq : o % 8 = (q : Int) := by omega
 have hle : BL (letterS (o % 8)) = Ln.lead7 o := by
  unfold letterS Ln.lead7
  rw [oq]
  rcases hq with rfl | rfl <;> rfl
 have hrg : BL (regT (letterS (o % 8)) d) = Ln.regL (Ln.lead7 o) d := by rw [bl_reg _ hd, hle]
 have hrs : BL (regT (letterS (o % 8)) s) = Ln.regL (Ln.lead7 o) s := by rw [bl_reg _ hs, hle]
 obtain ⟨k1, k2, k3⟩ := bl_sec (s := s) (m := m) (bits .and .i64 o 8 != 0) (o % 8) hs
 rw [hle] at k1
 have hor128 : bits .or .i64 128 (o % 8) = 128 + (q : Int) := by
  rw [oq]
  rcases hq with rfl | rfl <;> decide
 have hor184 : bits .or .i64 184 (o % 8) = 184 + (q : Int) := by
  rw [oq]
  rcases hq with rfl | rfl <;> decide
 have mid := fun rt X => alu_mid (o := o) (d := d) (a := a) ha (f := f) (rt := rt) (X := X)
 unfold aluT Ln.aluT same5
 rw [hor128, hor184]
 simp only [immIn_of hm, regIn_of hd, regIn_of hs, Bool.and_self, Bool.and_true, Bool.not_true, Bool.false_eq_true, if_false]
 by_cases h13 : a = 13
 ·subst h13
  have n1 : ¬ (o = 128 + (q : Int)) := by omega
  have n2 : ¬ (o = 184 + (q : Int)) := by omega
  rw [if_neg (by simp [n1]), if_neg (fun h => n2 h.1), t3]
  have hop : operG (((13 * 16 : Nat) : Int)) f (operLine o d s m) (turnT o d s f m) operL = turnT o d s f m := by
   rw [oper_of 13 (by decide)]
   unfold operW
   split
   ·rfl
   ·rw [if_neg (by rintro ⟨_, h | h⟩ <;> cases h)]; rfl
  rw [hop, if_pos (show ((((13 * 16 : Nat) : Int)) == 208) = true by decide)]
  exact eq_turn hd
 have z208 : (((a * 16 : Nat) : Int) == 208) = false := by simp; omega
 by_cases h8 : a = 8
 ·subst h8
  have n2 : ¬ (o = 184 + (q : Int)) := by omega
  have hop : operG (bits .and .i64 o 240) f (operLine o d s m) (turnT o d s f m) operL = emptyT := by
   rw [t3, oper_of 8 (by decide), turn_no (by omega)]
   unfold operW
   split
   ·rfl
   ·rw [if_neg (by rintro ⟨_, h | h⟩ <;> cases h)]; rfl
  rw [if_neg (show ¬ ((bits .and .i64 o 240 == 208) = true) by rw [t3, z208]; decide), if_pos (show (bits .and .i64 o 240 == 128) = true by rw [t3]; decide), t4]
  have hx' : x = 0 ∨ x = 1 := by omega
  rcases hx' with rfl | rfl
  ·have o1 : o = 128 + (q : Int) := by omega
   by_cases hz : s = 0 ∧ f = 0 ∧ m = 0
   ·obtain ⟨rfl, rfl, rfl⟩ := hz
    rw [if_pos (by simp [o1]), (said3 (ne_reg d) (by decide) (ne_app (by decide))).1, bl_app, hrg]
    simp [BL]
   ·have hz' : ((s == 0) && ((f == 0) && (m == 0))) = false := by
     simp
     intro h1 h2 h3
     exact hz ⟨h1, h2, h3⟩
    rw [if_neg (by simp only [decide_eq_true_eq]; rintro ⟨_, _, h1, h2, h3⟩; exact hz ⟨h1, h2, h3⟩), if_neg (fun h => n2 h.1), hop, hz', Bool.and_false]
    rfl
  ·have o1 : ¬ (o = 128 + (q : Int)) := by omega
   rw [if_neg (by simp [o1]), if_neg (fun h => n2 h.1), hop, show ((((1 * 8 : Nat) : Int)) == 0) = false by decide, Bool.false_and]
   rfl
 have z128 : (((a * 16 : Nat) : Int) == 128) = false := by simp; omega
 have n1 : ¬ (o = 128 + (q : Int)) := by omega
 have mid' := fun rt X => mid rt X h8 h13 t3
 rw [if_neg (by simp [n1]), if_neg (show ¬ ((bits .and .i64 o 240 == 208) = true) by rw [t3, z208]; decide), if_neg (show ¬ ((bits .and .i64 o 240 == 128) = true) by rw [t3, z128]; decide)]
 have hop : operG (bits .and .i64 o 240) f (operLine o d s m) (turnT o d s f m) operL = (operW a f).elim emptyT fun l => operLine o d s m ⟨l.toArray⟩ := by
  rw [t3, oper_of a ha, turn_no (by omega)]
 rw [hop]
 have hx' : x = 0 ∨ x = 1 := by omega
 rcases hx' with rfl | rfl
 ·have n2 : ¬ (o = 184 + (q : Int)) := by omega
  rw [if_neg (fun h => n2 h.1), if_pos (show (bits .and .i64 o 8 == 0) = true by rw [t4]; decide), mid']
  have x0 : (bits .and .i64 o 8 != 0) = false := by rw [t4]; decide
  rw [x0] at k1 k2 k3
  unfold operLine
  rw [x0]
  by_cases h0 : s = 0
  ·obtain ⟨k4, k5⟩ := k2 rfl h0
   rw [if_pos (show (s == 0) = true by simp [h0])]
   cases hw : operW a f with
   | none => simp only [Option.elim_none]; split <;> rfl
   | some l =>
    simp only [Option.elim_some]
    rw [(said3 (ne_reg d) (operW_ne hw) k5).1, hrg, k4, lit_bl]
  ·rw [if_neg (show ¬ ((s == 0) = true) by simp [h0])]
   cases hw : operW a f with
   | none => rfl
   | some l =>
    simp only [Option.elim_some]
    exact said_no ⟨_, by simp, k3 (.inr ⟨rfl, h0⟩)⟩
 ·rw [if_neg (show ¬ ((bits .and .i64 o 8 == 0) = true) by rw [t4]; decide), mid']
  have x0 : (bits .and .i64 o 8 != 0) = true := by rw [t4]; decide
  rw [x0] at k1 k2 k3
  unfold operLine
  rw [x0]
  by_cases h0 : m = 0
  ·obtain ⟨k4, k5⟩ := k1 rfl h0
   rw [if_pos (show (m == 0) = true by simp [h0])]
   by_cases hE : a = 11 ∧ (f = 8 ∨ f = 16 ∨ (f = 32 ∧ q = 7))
   ·obtain ⟨rfl, hE⟩ := hE
    have hc : o = 184 + (q : Int) ∧ m = 0 ∧ extendsS (o % 8) f = true := by
     refine ⟨by omega, h0, ?_⟩
     unfold extendsS
     rw [oq]
     exact decide_eq_true (by omega)
    rw [if_pos hc]
    have hw : operW 11 f = none := by
     unfold operW
     rw [if_neg (by omega), if_neg (by omega)]
    have hX : ((bits .and .i64 o 240 == 176) && ((f == 8) || ((f == 16) || ((f == 32) && (o % 8 == 7))))) = true := by
     rw [t3, oq]
     simp
     omega
    rw [hw, Option.elim_none, if_neg (by omega), if_pos hX, fin_of ha h8 h13 t3, (said3 (ne_reg d) (show eqT.size ≠ 0 by decide) (ne_app2 (ne_reg s))).1, hrg, bl_app, hrs]
    unfold signT
    rw [bl_app, bl_app, bl_dec]
    simp [BL, Ln.nameA]
   ·have hc : ¬ (o = 184 + (q : Int) ∧ m = 0 ∧ extendsS (o % 8) f = true) := by
     rintro ⟨h1, _, h2⟩
     unfold extendsS at h2
     rw [oq] at h2
     have h2 := of_decide_eq_true h2
     exact hE ⟨by omega, by omega⟩
    have hX : ((bits .and .i64 o 240 == 176) && ((f == 8) || ((f == 16) || ((f == 32) && (o % 8 == 7))))) = false := by
     rw [t3, oq]
     simp
     intro h1
     refine ⟨fun h => hE ⟨by omega, .inl h⟩, fun h => hE ⟨by omega, .inr (.inl h)⟩, fun h h' => hE ⟨by omega, .inr (.inr ⟨h, by omega⟩)⟩⟩
    rw [if_neg hc, hX, if_neg (by decide : ¬ (false = true))]
    cases hw : operW a f with
    | none => simp only [Option.elim_none]; split <;> rfl
    | some l =>
     simp only [Option.elim_some]
     rw [(said3 (ne_reg d) (operW_ne hw) k5).1, hrg, k4, lit_bl]
  ·rw [if_neg (show ¬ ((m == 0) = true) by simp [h0]), if_neg (fun h => h0 h.2.1)]
   cases hw : operW a f with
   | none => rfl
   | some l =>
    simp only [Option.elim_some]
    exact said_no ⟨_, by simp, k3 (.inl ⟨rfl, h0⟩)⟩
theorem eq_body {x : Slot} (ho : 0 ≤ x.o ∧ x.o ≤ 255) (hd : 0 ≤ x.d ∧ x.d ≤ 10) (hs : 0 ≤ x.s ∧ x.s ≤ 10) (hf : -32768 ≤ x.f ∧ x.f ≤ 32767) (hm : -2147483648 ≤ x.m ∧ x.m ≤ 2147483647) : BL (bodyT x emptyT) = Ln.lineL x.o x.d x.s x.f x.m := by
 obtain ⟨o, d, s, f, m⟩ := x
 obtain ⟨n, hn⟩ : ∃ n : Nat, o = (n : Int) := ⟨o.toNat, by have := ho.1; simp only at this; omega⟩
 simp only at ho hd hs hf hm ⊢
 have hlt : n < 256 := by omega
 have o0 : decide (o < 0) = false := decide_eq_false (by omega)
 have o1 : decide (255 < o) = false := decide_eq_false (by omega)
 unfold bodyT Ln.lineL
 simp only [o0, o1, Bool.false_eq_true, if_false]
 have hq : n % 8 = 0 ∨ n % 8 = 1 ∨ n % 8 = 2 ∨ n % 8 = 3 ∨ n % 8 = 4 ∨ n % 8 = 5 ∨ n % 8 = 6 ∨ n % 8 = 7 := by omega
 rcases hq with h | h | h | h | h | h | h | h
 ·have e : o % 8 = 0 := by omega
  rw [e]; rfl
 ·have e : o % 8 = 1 := by omega
  rw [e]
  show BL (loadT o d s f m) = Ln.movesL o d s f m
  exact eq_load (n / 32) (n / 8 % 4) (by omega) (by omega) (by omega) hd hs hf hm
 ·have e : o % 8 = 2 := by omega
  rw [e]
  show BL (storeT o d s f m) = Ln.movesL o d s f m
  exact eq_store (n / 32) (n / 8 % 4) 2 (by omega) (by omega) (.inl rfl) (by omega) hd hs hf hm
 ·have e : o % 8 = 3 := by omega
  rw [e]
  show BL (storeT o d s f m) = Ln.movesL o d s f m
  exact eq_store (n / 32) (n / 8 % 4) 3 (by omega) (by omega) (.inr rfl) (by omega) hd hs hf hm
 ·have e : o % 8 = 4 := by omega
  rw [e]
  show BL (aluT o d s f m) = Ln.aluT o d s f m
  exact eq_alu (n / 16) 4 (by omega) (n / 8 % 2) (by omega) (.inl rfl) (by omega) hd hs hf hm
 ·have e : o % 8 = 5 := by omega
  rw [e]
  show BL (jumpT o d s f m) = Ln.jumpsL o d s f m
  exact eq_jump (n / 16) 5 (by omega) (n / 8 % 2) (by omega) (.inl rfl) (by omega) hd hs hf hm
 ·have e : o % 8 = 6 := by omega
  rw [e]
  show BL (jumpT o d s f m) = Ln.jumpsL o d s f m
  exact eq_jump (n / 16) 6 (by omega) (n / 8 % 2) (by omega) (.inr rfl) (by omega) hd hs hf hm
 ·have e : o % 8 = 7 := by omega
  rw [e]
  show BL (aluT o d s f m) = Ln.aluT o d s f m
  exact eq_alu (n / 16) 7 (by omega) (n / 8 % 2) (by omega) (.inr rfl) (by omega) hd hs hf hm
theorem regIn_iff {n : Int} (h : Ln.regIn n = true) : 0 ≤ n ∧ n ≤ 10 := by
 unfold Ln.regIn at h
 simp only [Bool.and_eq_true, decide_eq_true_eq] at h
 exact h
theorem immIn_iff {n : Int} (h : Ln.immIn n = true) : -2147483648 ≤ n ∧ n ≤ 2147483647 := by
 unfold Ln.immIn at h
 simp only [Bool.and_eq_true, decide_eq_true_eq] at h
 exact h
theorem offIn_iff {n : Int} (h : Ln.offIn n = true) : -32768 ≤ n ∧ n ≤ 32767 := by
 unfold Ln.offIn at h
 simp only [Bool.and_eq_true, decide_eq_true_eq] at h
 exact h
theorem moves_in {o d s f m : Int} (h : Ln.movesL o d s f m ≠ []) : (0 ≤ d ∧ d ≤ 10) ∧ (0 ≤ s ∧ s ≤ 10) ∧ (-32768 ≤ f ∧ f ≤ 32767) ∧ (-2147483648 ≤ m ∧ m ≤ 2147483647) := by
 unfold Ln.movesL at h
 by_cases hk : Ln.moveOk d s f m = true
 ·unfold Ln.moveOk at hk
  simp only [Bool.and_eq_true] at hk
  exact ⟨regIn_iff hk.1, regIn_iff hk.2.1, offIn_iff hk.2.2.1, immIn_iff hk.2.2.2⟩
 ·rw [Bool.eq_false_iff.2 hk] at h
  exact absurd rfl h
theorem jumps_in {o d s f m : Int} (h : Ln.jumpsL o d s f m ≠ []) : (0 ≤ d ∧ d ≤ 10) ∧ (0 ≤ s ∧ s ≤ 10) ∧ (-32768 ≤ f ∧ f ≤ 32767) ∧ (-2147483648 ≤ m ∧ m ≤ 2147483647) := by
 unfold Ln.jumpsL at h
 by_cases hk : (Ln.offIn f && Ln.immIn m) = true
 ·have hk' := hk
  rw [Bool.and_eq_true] at hk'
  rw [hk, if_neg (by decide)] at h
  refine ⟨?_, ?_, offIn_iff hk'.1, immIn_iff hk'.2⟩
  all_goals
   split at h
   ·split at h
    ·rename_i h2
     simp only [Bool.and_eq_true, beq_iff_eq] at h2
     omega
    ·exact absurd rfl h
   ·split at h
    ·split at h
     ·rename_i h2
      simp only [Bool.and_eq_true, beq_iff_eq] at h2
      omega
     ·exact absurd rfl h
    ·split at h
     ·split at h
      ·rename_i h2
       simp only [Bool.and_eq_true, beq_iff_eq] at h2
       omega
      ·exact absurd rfl h
     ·split at h
      ·exact absurd rfl h
      ·by_cases hr : (Ln.regIn d && Ln.regIn s) = true
       ·rw [Bool.and_eq_true] at hr
        first | exact regIn_iff hr.1 | exact regIn_iff hr.2
       ·rw [Bool.eq_false_iff.2 hr] at h
        exact absurd rfl h
 ·rw [Bool.eq_false_iff.2 hk] at h
  exact absurd rfl h
theorem ends_in {o d s f m : Int} (h : Ln.endsL o d s f m ≠ []) : s = 0 ∧ f = 0 ∧ (m = 16 ∨ m = 32 ∨ m = 64) := by
 unfold Ln.endsL at h
 split at h
 ·rename_i h2
  unfold Ln.turnB at h2
  simp only [Bool.and_eq_true, Bool.or_eq_true, beq_iff_eq] at h2
  exact ⟨h2.2.1, h2.2.2.1, h2.2.2.2⟩
 ·exact absurd rfl h
theorem alu_in {o d s f m : Int} (h : Ln.aluT o d s f m ≠ []) : (0 ≤ d ∧ d ≤ 10) ∧ (0 ≤ s ∧ s ≤ 10) ∧ (-32768 ≤ f ∧ f ≤ 32767) ∧ (-2147483648 ≤ m ∧ m ≤ 2147483647) := by
 unfold Ln.aluT at h
 by_cases hr : (Ln.regIn d && Ln.regIn s) = true
 ·have hr' := hr
  rw [Bool.and_eq_true] at hr'
  rw [hr, if_neg (by decide)] at h
  refine ⟨regIn_iff hr'.1, regIn_iff hr'.2, ?_⟩
  split at h
  ·obtain ⟨_, h1, h2⟩ := ends_in h
   omega
  ·split at h
   ·split at h
    ·rename_i h2
     simp only [Bool.and_eq_true, beq_iff_eq] at h2
     omega
    ·exact absurd rfl h
   ·split at h
    ·split at h
     ·rename_i h2
      rw [Bool.and_eq_true] at h2
      refine ⟨?_, immIn_iff h2.2⟩
      split at h
      ·rename_i h3
       simp only [beq_iff_eq] at h3
       omega
      ·split at h
       ·rename_i h3
        simp only [Bool.and_eq_true, beq_iff_eq] at h3
        omega
       ·exact absurd rfl h
     ·exact absurd rfl h
    ·split at h
     ·rename_i h2
      rw [Bool.and_eq_true] at h2
      refine ⟨?_, immIn_iff h2.2⟩
      split at h
      ·rename_i h3
       simp only [beq_iff_eq] at h3
       omega
      ·split at h
       ·rename_i h3
        simp only [Bool.and_eq_true, beq_iff_eq] at h3
        omega
       ·split at h
        ·rename_i h3
         simp only [Bool.and_eq_true, Bool.or_eq_true, beq_iff_eq] at h3
         omega
        ·exact absurd rfl h
     ·exact absurd rfl h
 ·rw [Bool.eq_false_iff.2 hr] at h
  exact absurd rfl h
/-- A slot that has a line is one that may be. -/
theorem line_in {x : Slot} (h : Ln.lineL x.o x.d x.s x.f x.m ≠ []) : (0 ≤ x.o ∧ x.o ≤ 255) ∧ (0 ≤ x.d ∧ x.d ≤ 10) ∧ (0 ≤ x.s ∧ x.s ≤ 10) ∧ (-32768 ≤ x.f ∧ x.f ≤ 32767) ∧ (-2147483648 ≤ x.m ∧ x.m ≤ 2147483647) := by
 unfold Ln.lineL at h
 split at h
 ·exact absurd rfl h
 ·rename_i h0
  split at h
  ·exact absurd rfl h
  ·rename_i h1
   simp only [decide_eq_true_eq] at h0 h1
   refine ⟨⟨by omega, by omega⟩, ?_⟩
   split at h
   ·exact alu_in h
   ·split at h
    ·exact moves_in h
    ·split at h
     ·exact jumps_in h
     ·exact absurd rfl h
end Go.Proofs.YtemiklbkfogjeaaGreatDoor
