/-
  Package objs: Add.
-/
import Derived.Test.YtmohbdbofehamaaOTable2
namespace Go.Proofs.Ytmohbdbofehamaa
open Go Go.RowKit Go.Maps OSt
set_option linter.unusedVariables false
set_option linter.unusedSimpArgs false
set_option maxRecDepth 100000
section
variable {x : Nat} {w0 w w' : World} {P0 P U : Nat → Prop} {s s' : OSt} {ld ld' : Nat → Nat} {mo mp mo' mp' : Option Nat} {D E D' E' : DataW Value} {bl bl' : Nat → Nat} {id n f k : Nat} {fd : Int} {p : ByteArray}
theorem TG.added (ho : OOk n s) (hf : s.free = some f) (kd : Int) {w1 : World} (h : PG x w0 P0 { s with os := s.os ++ [⟨kd, 0, true⟩] } (bump s.leads (s.os.length + 1) 1) w1) :
    TG x w0 P0 (addS s kd) (w1.setCell ⟨x, 2 + f, none⟩ (.int .i64 ((s.os.length + 1 : Nat) : Int))) := by
  obtain ⟨h1, h2⟩ := free_lt ho hf
  have e : addS s kd = ({ s with os := s.os ++ [⟨kd, 0, true⟩] } : OSt).putFd f (s.os.length + 1) := by unfold addS; rw [hf]; rfl
  rw [e]
  refine (h.setFd (by show f < s.fds.length; rw [ho.len]; exact h1) (s.os.length + 1)).congr fun k hk => ?_
  have hk' := (isThere_add kd s.fds (s := s)).1 hk
  have hk0 : k ≠ 0 := by have := isThere_pos hk; omega
  have e2 : ∀ (q : OSt), ({ q with os := s.os ++ [⟨kd, 0, true⟩] } : OSt).leads k = q.leads k := fun q => rfl
  have e3 : (({ s with os := s.os ++ [⟨kd, 0, true⟩] } : OSt).putFd f (s.os.length + 1)).leads k = (s.putFd f (s.os.length + 1)).leads k := rfl
  rw [e3]
  have hp := leads_put ho h2 (s.os.length + 1) hk0
  rw [if_neg (fun e => hk0 e.symm)] at hp
  by_cases hkn : k = s.os.length + 1
  · have hz := leads_none ho (k := k) (fun ht => by have := isThere_pos ht; omega) hk0
    rw [if_pos hkn.symm] at hp
    have hb : bump s.leads (s.os.length + 1) 1 k = 1 := by rw [hkn]; exact bump_same _ _ _
    rw [hb]; omega
  · rw [if_neg (fun e => hkn e.symm)] at hp
    rw [bump_other _ _ hkn]; omega
set_option maxHeartbeats 1000000 in
theorem add_any (h : TG x w0 P0 s w) (ho : OOk n s) (hn : n ≤ 100000) (kd : Int) :
    Calls Try.prog 13 #[tp x, .int .i64 kd] w fun e w' => e = .returned (.tuple #[.int .i64 (addN s), .int .i64 (addP s), .int .i64 (openE s)]) ∧ TG x w0 P0 (addS s kd) w' := by
  have cf := freeFd_any h ho.len
  have H := Lib.hid h
  cases hf : s.free with
  | none =>
    have e1 : addN s = 0 := by unfold addN; rw [hf]; rfl
    have e2 : addP s = 0 := by unfold addP; rw [hf]; rfl
    have e3 : openE s = 8 := by unfold openE; rw [hf]; rfl
    have e4 : addS s kd = s := by unfold addS; rw [hf]; rfl
    rw [e1, e3] at cf
    rw [e1, e2, e3, e4]
    have CF := Lib.hid cf
    clear h cf ho hf e1 e2 e3 e4
    go_enter Try.func13, Try.ntmps13
    go_wp2_with (go_at_call 32; refine CF.out.mono ?_; rintro e w1 ⟨rfl, rfl⟩)
    go_ret3
    exact ⟨rfl, H.out⟩
  | some f =>
    have e1 : addN s = (f : Int) := by unfold addN; rw [hf]; rfl
    have e2 : addP s = ((s.os.length + 1 : Nat) : Int) := by unfold addP; rw [hf]; rfl
    have e3 : openE s = 0 := by unfold openE; rw [hf]; rfl
    rw [e1, e3] at cf
    rw [e1, e2, e3]
    have CF := Lib.hid cf
    obtain ⟨hf1, hf2⟩ := free_lt ho hf
    have CB := Lib.hid (begin_any h.drew (Nat.le_trans ho.os (by omega)) kd)
    have FR := Lib.hid (h.fd_facts ho.len hf1).2
    have HA := Lib.hid (fun w1 h1 => TG.added ho hf kd (x := x) (w0 := w0) (P0 := P0) (w1 := w1) h1)
    have HL := Lib.hid ho.len
    have g2 : decide (64 ≤ f) = false := decide_eq_false (by omega)
    have i1 : (f : Int) < 64 := by omega
    have HF1 := Lib.hid hf1
    clear h cf ho hf hf2 e1 e2 e3 hf1
    obtain ⟨n1, hn1⟩ : ∃ n1, s.os.length + 1 = n1 := ⟨_, rfl⟩
    rw [hn1] at CB HA ⊢
    clear hn1
    go_enter Try.func13, Try.ntmps13
    go_upto_region 6 with (go_at_call 32; refine CF.out.mono ?_; rintro e w1 ⟨rfl, rfl⟩)
    go_region_held3 (fun W => W.frozen? ⟨x, 2 + f, none⟩ = false)
      (first | exact FR.out | exact F1.out | exact F2.out)
      (first
        | (go_at_call 33; refine CB.out.mono ?_; rintro e w1 ⟨rfl, h1⟩; have ff := h1.fd_facts HL.out HF1.out; have F1 := Lib.hid ff.2; obtain ⟨v1, d1⟩ := ff.1; have HT := Lib.hid (HA.out _ h1); have F2 : Hid ((w1.setCell ⟨x, 2 + f, none⟩ (.int .i64 (n1 : Int))).frozen? ⟨x, 2 + f, none⟩ = false) := (h1.fd_facts HL.out HF1.out |> fun _ => (by obtain ⟨_, _, _, _, _, h2⟩ := h1; exact (h2.tab.set_ _ _).frozen _)); clear ff h1))
    generalize hW : w1.setCell ⟨x, 2 + f, none⟩ (.int .i64 (n1 : Int)) = w2 at HT ⊢
    have d2 : w2.cell? ⟨x, 2 + f, none⟩ = some (.int .i64 (n1 : Int)) := by rw [← hW]; exact World.cell?_setCell_same _ _ _ d1
    clear hW F2 F1 d1
    go_upto_region 7 with fail
    go_quiet (fail)
    go_wp2_with fail
    go_ret3
    exact ⟨rfl, HT.out.drewN _⟩
end
end Go.Proofs.Ytmohbdbofehamaa
