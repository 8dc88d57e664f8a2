/-
  Package objs: openFd, isPath, pathLeadsTo.
-/
import Derived.Test.YtmohbdbofehamaaOTable
namespace Go.Proofs.Ytmohbdbofehamaa
open Go Go.RowKit Go.Maps OSt
set_option linter.unusedVariables false
set_option linter.unusedSimpArgs false
set_option maxRecDepth 100000
section
variable {x : Nat} {w0 w w' : World} {P0 P U : Nat → Prop} {s s' : OSt} {ld ld' : Nat → Nat} {mo mp mo' mp' : Option Nat} {D E D' E' : DataW Value} {bl bl' : Nat → Nat} {id n f k : Nat} {fd : Int} {p : ByteArray}
theorem PG.fd_facts (h : PG x w0 P0 s ld w) (hl : s.fds.length = 64) (hf : f < 64) : (∃ v, w.cell? ⟨x, 2 + f, none⟩ = some v) ∧ w.frozen? ⟨x, 2 + f, none⟩ = false := by
  obtain ⟨mo, mp, D, E, bl, h⟩ := h
  exact ⟨⟨_, (h.tab.cell _).trans (tabC_fd (List.getElem?_eq_getElem (show f < s.fds.length by omega)))⟩, h.tab.frozen _⟩
theorem PG.setFd (h : PG x w0 P0 s ld w) (hf : f < s.fds.length) (v : Nat) : PG x w0 P0 (s.putFd f v) ld (w.setCell ⟨x, 2 + f, none⟩ (.int .i64 (v : Int))) := by
  obtain ⟨mo, mp, D, E, bl, h⟩ := h
  exact ⟨_, _, _, _, _, h.setFd hf v⟩
theorem openFd_any (h : TG x w0 P0 s w) (ho : OOk n s) (hn : n ≤ 100000) (hid : s.isThere id) :
    Calls Try.prog 35 #[tp x, .int .i64 (id : Int)] w fun e w' => e = .returned (.tuple #[.int .i64 (addN s), .int .i64 (openE s)]) ∧ TG x w0 P0 (openS s id) w' := by
  have cf := freeFd_any h ho.len
  have H := Lib.hid h
  have hpos := isThere_pos hid
  unfold addN openE openS at *
  cases hf : s.free with
  | none =>
    rw [hf] at cf
    have CF : Hid (Calls Try.prog 32 #[tp x] w fun e w' => e = .returned (.tuple #[.int .i64 0, .int .i64 8]) ∧ w = w') := cf
    clear h cf ho hid hf
    go_enter Try.func35, Try.ntmps35
    go_wp2_with (go_at_call 32; refine CF.out.mono ?_; rintro e w1 ⟨rfl, hw⟩; have HW := Lib.hid hw; clear hw)
    go_ret2
    exact ⟨rfl, HW.out ▸ H.out⟩
  | some f =>
    rw [hf] at cf
    have CF : Hid (Calls Try.prog 32 #[tp x] w fun e w' => e = .returned (.tuple #[.int .i64 (f : Int), .int .i64 0]) ∧ w = w') := cf
    obtain ⟨hf1, hf2⟩ := free_lt ho hf
    obtain ⟨⟨v0, c0⟩, f0⟩ := h.fd_facts ho.len hf1
    have hlr := leads_le ho (id := id)
    have CR := Lib.hid (raise_any (h.setFd (by rw [ho.len]; exact hf1) id) (Nat.le_trans ho.os (by omega)) hid (by omega))
    have HE : Hid (∀ w2, PG x w0 P0 (s.putFd f id) (bump s.leads id (s.leads id + 1)) w2 → TG x w0 P0 (s.putFd f id) w2) := fun w2 h2 => h2.congr fun k hk => by
      have hk0 : k ≠ 0 := by have := isThere_pos hk; omega
      have := leads_put ho hf2 id hk0
      rw [if_neg (fun e => hk0 e.symm)] at this
      by_cases hki : k = id
      · subst hki
        rw [bump_same]
        rw [if_pos rfl] at this; omega
      · rw [bump_other _ _ hki]
        rw [if_neg (fun e => hki e.symm)] at this; omega
    have g2 : decide (64 ≤ f) = false := decide_eq_false (by omega)
    have i1 : (f : Int) < 64 := by omega
    clear h cf ho hid hf hf2 hlr hpos
    go_enter Try.func35, Try.ntmps35
    go_wp2_with (first
      | (go_at_call 32; refine CF.out.mono ?_; rintro e w1 ⟨rfl, rfl⟩)
      | (go_at_call 38; refine CR.out.mono ?_; rintro e w2 ⟨rfl, h2⟩; have H2 := Lib.hid (HE.out _ h2); clear h2))
    go_ret2
    exact ⟨rfl, H2.out⟩
theorem indexByte_neg : ∀ (l : List UInt8) (c : UInt8), decide (Lib.indexByte l c < 0) = decide (c ∉ l)
  | [], c => by simp [Lib.indexByte]
  | b :: l, c => by
    have ih := indexByte_neg l c
    have hg := Lib.indexByte_ge l c
    rw [decide_eq_decide] at ih ⊢
    unfold Lib.indexByte
    by_cases hb : b = c
    · subst hb; simp
    · rw [if_neg (by simpa using hb), List.mem_cons, not_or]
      by_cases h1 : Lib.indexByte l c = -1
      · rw [if_pos (by simpa using h1)]
        exact ⟨fun _ => ⟨fun e => hb e.symm, ih.1 (by omega)⟩, fun _ => by omega⟩
      · rw [if_neg (by simpa using h1)]
        exact ⟨fun h2 => by omega, fun h2 => by have := ih.2 h2.2; omega⟩
theorem isPath_any (p : ByteArray) (hp : p.size ≤ maxLen) (w : World) : Calls Try.prog 36 #[.string p] w fun e w' => e = .returned (.bool (pathB p)) ∧ w = w' := by
  have hm : p.size ≤ 9223372036854775807 := by unfold maxLen at hp; omega
  by_cases h1 : 2 ≤ p.size
  · have g1 : decide (2 ≤ p.size) = true := decide_eq_true h1
    have q1 : decide ((2 : Int) ≤ (p.size : Int)) = true := decide_eq_true (by omega)
    by_cases h2 : p.size ≤ 256
    · have g2 : decide (p.size ≤ 256) = true := decide_eq_true h2
      have q2 : decide ((p.size : Int) ≤ 256) = true := decide_eq_true (by omega)
      have h0 : 0 < p.size := by omega
      have e0 : p.data[0]? = some (p[0]'h0) := by
        have h0' : 0 < p.data.size := h0
        rw [Array.getElem?_eq_getElem h0']; rfl
      by_cases h3 : (p[0]'h0) = 47
      · have g3 : (((p[0]'h0).toNat : Int) == 47) = true := by rw [h3]; rfl
        have CI := Lib.hid (Try.strings_IndexByte p 0 w)
        have e4 : (fun e (w' : World) => e = Ending.returned (.int .i64 (Lib.indexByte p.data.toList (0 : Int).toNat.toUInt8)) ∧ w' = w) = fun e w' => e = Ending.returned (.int .i64 (Lib.indexByte p.data.toList 0)) ∧ w' = w := rfl
        rw [e4] at CI
        have hA : pathB p = decide (Lib.indexByte p.data.toList 0 < 0) := by
          unfold pathB
          rw [g1, g2, e0, h3, indexByte_neg]; simp
        rw [hA]
        clear hp h3 e0 hA e4 h1 h2
        generalize Lib.indexByte p.data.toList 0 = q at *
        go_enter Try.func36, Try.ntmps36
        go_wp2_with (go_at_call 53; refine CI.out.mono ?_; rintro e w1 ⟨rfl, hw⟩; obtain rfl := hw.symm; clear hw)
        go_ret
        exact ⟨rfl, rfl⟩
      · have g3 : (((p[0]'h0).toNat : Int) == 47) = false := by
          rw [beq_eq_false_iff_ne]
          intro e
          exact h3 (UInt8.toNat_inj.1 (by show (p[0]'h0).toNat = 47; omega))
        have hA : pathB p = false := by
          unfold pathB
          rw [e0]
          simp [h3]
        rw [hA]
        clear hp h3 e0 hA h1 h2
        go_enter Try.func36, Try.ntmps36
        go_wp2_with fail
        go_ret
        exact ⟨rfl, rfl⟩
    · have g2 : decide (p.size ≤ 256) = false := decide_eq_false h2
      have q2 : decide ((p.size : Int) ≤ 256) = false := decide_eq_false (by omega)
      have hA : pathB p = false := by unfold pathB; rw [g2]; simp
      rw [hA]
      clear hp hA h1 h2
      go_enter Try.func36, Try.ntmps36
      go_wp2_with fail
      go_ret
      exact ⟨rfl, rfl⟩
  · have g1 : decide (2 ≤ p.size) = false := decide_eq_false h1
    have q1 : decide ((2 : Int) ≤ (p.size : Int)) = false := decide_eq_false (by omega)
    have hA : pathB p = false := by unfold pathB; rw [g1]; simp
    rw [hA]
    clear hp hA h1
    go_enter Try.func36, Try.ntmps36
    go_wp2_with fail
    go_ret
    exact ⟨rfl, rfl⟩
theorem pinId_of (ho : OOk n s) {q : ByteArray × Nat} (hq : q ∈ s.pins) : s.pinId q.1 = q.2 := by
  cases hf : findP s.pins q.1 with
  | none => exact absurd rfl (findP_none hf q hq)
  | some i =>
    obtain ⟨e, he, hk⟩ := findP_some hf
    obtain ⟨j, hj, rfl⟩ := List.getElem_of_mem hq
    have : i = j := Classical.byContradiction fun hij => ho.nd i j e _ he (List.getElem?_eq_getElem hj) hij hk
    subst this
    unfold pinId
    rw [hf]
    simp only [Option.elim_some, he]
    rw [List.getElem?_eq_getElem hj] at he
    cases he; rfl
theorem PGat.lookP (h : PGat x w0 P0 s ld mo mp D E bl w) (ho : OOk n s) (hp : p.size ≤ maxLen) : (Instr.lookup mapPT (.map mp) (.string p) false).run Try.prog w = .ok (.int .i64 (s.pinId p : Int)) w := by
  by_cases h0 : s.pinId p = 0
  · rw [h0]
    refine h.pth.look_no lawS Try.underlying58 (zeroI w) (keyS hp) (h.pat.no p fun q hq e => ?_)
    subst e
    rw [pinId_of ho hq] at h0
    have := (isThere_pos (ho.pin q hq)).1
    omega
  · obtain ⟨i, _, hi⟩ := pinId_at ho h0
    exact h.pth.look_yes lawS Try.underlying58 (zeroI w) (keyS hp) (h.pat.yes _ (List.mem_of_getElem? hi))
def ledN (s : OSt) (p : ByteArray) : Nat := if pathE s p = 0 then s.pinId p else 0
theorem pathLeadsTo_any (h : PG x w0 P0 s ld w) (ho : OOk n s) (hp : p.size ≤ maxLen) : Calls Try.prog 41 #[tp x, .string p] w fun e w' => e = .returned (.tuple #[.int .i64 (ledN s p : Int), .int .i64 (pathE s p)]) ∧ w = w' := by
  obtain ⟨mo, mp, D, E, bl, h⟩ := h
  have lk := h.lookP ho hp
  have c0 : w.cell? ⟨x, 66, none⟩ = some (.map mp) := (h.tab.cell _).trans (tabC_paths ho.len)
  have CP := Lib.hid (isPath_any p hp)
  cases hb : pathB p
  · have e1 : pathE s p = 1 := by unfold pathE; rw [hb]; rfl
    have e2 : ledN s p = 0 := by unfold ledN; rw [e1]; rfl
    rw [e1, e2]
    rw [hb] at CP
    clear h ho hp hb e1 e2
    go_enter Try.func41, Try.ntmps41
    go_wp2_with (go_at_call 36; refine (CP.out _).mono ?_; rintro e w1 ⟨rfl, rfl⟩)
    go_ret2
    exact ⟨rfl, rfl⟩
  · rw [hb] at CP
    by_cases h0 : s.pinId p = 0
    · have e1 : pathE s p = 4 := by unfold pathE; rw [hb, h0]; rfl
      have e2 : ledN s p = 0 := by unfold ledN; rw [e1]; rfl
      rw [e1, e2]
      rw [h0] at lk
      clear h ho hp hb e1 e2
      go_enter Try.func41, Try.ntmps41
      go_wp2_with (go_at_call 36; refine (CP.out _).mono ?_; rintro e w1 ⟨rfl, rfl⟩)
      go_ret2
      exact ⟨rfl, rfl⟩
    · have e1 : pathE s p = 0 := by unfold pathE; rw [hb, if_neg h0]; rfl
      have e2 : ledN s p = s.pinId p := by unfold ledN; rw [e1]; rfl
      rw [e1, e2]
      have g1 : ((s.pinId p : Int) == 0) = false := by simp; omega
      clear h ho hp hb h0 e1 e2
      generalize s.pinId p = a at *
      go_enter Try.func41, Try.ntmps41
      go_wp2_with (go_at_call 36; refine (CP.out _).mono ?_; rintro e w1 ⟨rfl, rfl⟩)
      go_ret2
      exact ⟨rfl, rfl⟩
end
end Go.Proofs.Ytmohbdbofehamaa
