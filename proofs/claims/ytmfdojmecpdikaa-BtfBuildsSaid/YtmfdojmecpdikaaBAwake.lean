/-
  Layer 6: the example of the chapter.
-/
import Derived.Test.YtmfdojmecpdikaaBParse2
import Derived.Test.YtmfdojmecpdikaaBSame
namespace Go.Proofs.Ytmfdojmecpdikaa
open Go Go.RowKit Go.Maps
set_option linter.unusedVariables false
set_option linter.unusedSimpArgs false
set_option maxRecDepth 100000
def oneT : Ty := ⟨1, ⟨#[117, 51, 50]⟩, 4, 0, 0, []⟩
def badT : Ty := ⟨1, ⟨#[97]⟩, 3, 0, 0, []⟩
theorem mems_none (w : World) : MemsAt w none [] := fun i m h => by cases h
theorem tys_new (w : World) (t : Ty) (ht : t.mems = []) (hs : t.name.size ≤ 9223372036854775807) (cs : Array Value) (hc : cs = #[.int .i64 t.kind, .string t.name, .int .i64 t.size, .int .i64 t.ty, .int .i64 t.count, .slice none 0 0]) : TysAt (w.alloc (.cells cs 36)) (some ⟨w.heap.size, 0, none⟩) [t] := by
  subst hc
  intro i x hx
  match i, hx with
  | 0, hx =>
    simp at hx
    subst hx
    have hb := Blk.new w 36 #[.int .i64 t.kind, .string t.name, .int .i64 t.size, .int .i64 t.ty, .int .i64 t.count, .slice none 0 0]
    refine ⟨w.heap.size, 0, none, 0, rfl, by simp, hb.cell 0, hb.cell 1, hb.cell 2, hb.cell 3, hb.cell 4, ?_, ?_, hs, by rw [ht]; simp⟩
    · rw [ht]; exact hb.cell 5
    · rw [ht]; exact mems_none _
  | i + 1, hx => simp at hx
theorem one_any (w : World) : Calls Try.prog 20 #[] w fun e w' => ∃ A, e = .returned (.slice A [oneT].length 1) ∧ TysAt w' A [oneT] ∧ Below w.heap.size w w' := by
  go_enter Try.func20, Try.ntmps20
  go_wp2_with fail
  go_ret
  exact ⟨_, rfl, tys_new w oneT rfl (by decide) _ rfl, (Below.refl _ w).alloc (Nat.le_refl _) _⟩
theorem one_ok : okB [oneT] = true := by kernel_rfl
theorem bad_no : okB [badT] = false := by kernel_rfl
theorem empty_no : parseF [] = none := by kernel_rfl
theorem one_back : parseF (buildF [oneT]) = some [oneT] := by
  have h := parse_build [oneT] [] (by kernel_rfl) (by decide)
  rwa [List.append_nil] at h
theorem one_bytes : bstr (buildF [oneT]) = ⟨#[159, 235, 1, 0, 24, 0, 0, 0, 0, 0, 0, 0, 16, 0, 0, 0, 16, 0, 0, 0, 5, 0, 0, 0, 1, 0, 0, 0, 0, 0, 0, 1, 4, 0, 0, 0, 32, 0, 0, 0, 0, 117, 51, 50, 0]⟩ := by kernel_rfl
theorem one_facts : (bstr (buildF [oneT])).size = 45 ∧ (bstr (buildF [oneT])).extract 0 8 = ⟨#[159, 235, 1, 0, 24, 0, 0, 0]⟩ ∧ (bstr (buildF [oneT])).extract 40 (bstr (buildF [oneT])).size = ⟨#[0, 117, 51, 50, 0]⟩ := by
  rw [one_bytes]
  exact ⟨by kernel_rfl, by kernel_rfl, by kernel_rfl⟩
set_option maxHeartbeats 4000000 in
theorem awake_any (w : World) : Calls Try.prog 8 #[] w fun e w' => e = .returned (.bool true) ∧ Below w.heap.size w w' := by
  obtain ⟨f1, f2, f3⟩ := one_facts
  have CB := Lib.hid (fun A w h => build_any A 1 [oneT] (by decide) w h)
  rw [buildAns_ok one_ok] at CB
  have CB2 := Lib.hid (fun A w h => build_any A 1 [badT] (by decide) w h)
  rw [buildAns_bad bad_no] at CB2
  have hlen : (buildF [oneT]).length = 45 := by rw [← bstr_size]; exact f1
  have CP : Hid (∀ w, Calls Try.prog 9 #[.string (bstr (buildF [oneT]))] w fun e w' => Below w.heap.size w w' ∧ ∃ A c, e = .returned (.tuple #[.slice A [oneT].length c, .int .i64 0]) ∧ TysAt w' A [oneT]) := fun w => (parse_any (buildF [oneT]) (by omega) w).mono fun e w' h => by
    obtain ⟨hb, h⟩ := h
    refine ⟨hb, ?_⟩
    rcases h with ⟨l, A, c, hl, he, ht⟩ | ⟨hl, _⟩
    · rw [one_back] at hl
      cases hl
      exact ⟨A, c, he, ht⟩
    · rw [one_back] at hl; cases hl
  have CP2 : Hid (∀ w, Calls Try.prog 9 #[.string ⟨#[]⟩] w fun e w' => Below w.heap.size w w' ∧ e = .returned (.tuple #[.slice none 0 0, .int .i64 40])) := fun w => (parse_any [] (by decide) w).mono fun e w' h => by
    obtain ⟨hb, h⟩ := h
    refine ⟨hb, ?_⟩
    rcases h with ⟨l, A, c, hl, he, ht⟩ | ⟨_, he⟩
    · rw [empty_no] at hl; cases hl
    · exact he
  have N1 := Lib.hid (fun w => nameFn_any ⟨#[95, 97, 57]⟩ (by decide) w)
  rw [show nameB ⟨#[95, 97, 57]⟩ = true by kernel_rfl] at N1
  have N2 := Lib.hid (fun w => nameFn_any ⟨#[57, 97]⟩ (by decide) w)
  rw [show nameB ⟨#[57, 97]⟩ = false by kernel_rfl] at N2
  obtain ⟨S, hS⟩ : ∃ S, bstr (buildF [oneT]) = S := ⟨_, rfl⟩
  rw [hS] at CB CP f1 f2 f3
  have g1 : ((S.size : Int) == 45) = true := by rw [f1]; rfl
  have i1 : (S.size : Int) ≤ 45 := by omega
  have i2 : (45 : Int) ≤ (S.size : Int) := by omega
  clear hS f1 hlen
  simp only [List.length_cons, List.length_nil, Nat.zero_add] at CB CB2 CP
  go_enter Try.func8, Try.ntmps8
  go_wp2_with (first
    | (go_at_call 20; first
      | (have tk := tok3; refine (one_any _).mono ?_; rintro e w6 ⟨A6, rfl, ht, hb⟩; have HT6 := Lib.hid ht; have HB6 := Lib.hid (HB5.out.trans (hb.mono HB5.out.size)); have HT3' := Lib.hid (HT5.out.below hb); clear ht hb)
      | (refine (one_any _).mono ?_; rintro e w1 ⟨A1, rfl, ht, hb⟩; have HT1 := Lib.hid ht; have HB1 := Lib.hid hb; clear ht hb))
    | (go_at_call 6; first
      | (have tk := tok2; refine (CB2.out _ _ (tys_new w3 badT rfl (by decide) _ rfl)).mono ?_; rintro e w4 ⟨rfl, hb⟩; have hb' : Below w3.heap.size w3 w4 := ((Below.refl _ w3).alloc (Nat.le_refl _) _).trans (hb.mono (by simp)); have HB4 := Lib.hid (HB3.out.trans (hb'.mono HB3.out.size)); have HT4 := Lib.hid (HT3.out.below hb'); have tok3 := True.intro; clear hb hb' tok2)
      | (refine (CB.out _ _ HT1.out).mono ?_; rintro e w2 ⟨rfl, hb⟩; have HB2 := Lib.hid (HB1.out.trans (hb.mono HB1.out.size)); clear hb))
    | (go_at_call 9; first
      | (have tk := tok3; refine (CP2.out _).mono ?_; rintro e w5 ⟨hb, rfl⟩; have HB5 := Lib.hid (HB4.out.trans (hb.mono HB4.out.size)); have HT5 := Lib.hid (HT4.out.below hb); clear hb)
      | (refine (CP.out _).mono ?_; rintro e w3 ⟨hb, A3, c3, rfl, ht⟩; have HB3 := Lib.hid (HB2.out.trans (hb.mono HB2.out.size)); have HT3 := Lib.hid ht; have tok2 := True.intro; clear hb ht))
    | (go_at_call 10; refine (same_any A3 A6 c3 1 [oneT] (by decide) _ HT3'.out HT6.out).mono ?_; rintro e w7 ⟨rfl, hb⟩; have HB7 := Lib.hid (HB6.out.trans (hb.mono HB6.out.size)); clear hb)
    | (go_at_call 21; first
      | (have tk := tok4; refine (N2.out _).mono ?_; rintro e w9 ⟨rfl, hb⟩; have HB9 := Lib.hid (HB8.out.trans (hb.mono HB8.out.size)); clear hb)
      | (refine (N1.out _).mono ?_; rintro e w8 ⟨rfl, hb⟩; have HB8 := Lib.hid (HB7.out.trans (hb.mono HB7.out.size)); have tok4 := True.intro; clear hb)))
  go_ret
  exact ⟨rfl, HB9.out⟩
end Go.Proofs.Ytmfdojmecpdikaa
