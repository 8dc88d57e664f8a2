/-
  slices.Sort of nothing; slices.Sorted and Regions where no region is live.
-/
import Derived.Test.YtmbkagjdhpfngaaKeys
import Derived.Test.YtmbkagjdhpfngaaBits
namespace Go.Proofs.Ytmbkagjdhpfngaa
open Go Go.RowKit Go.Maps
set_option linter.unusedVariables false

theorem less_any (x y : Nat) (w : World) :
    Calls Try.prog 58 #[.int .u32 (x : Int), .int .u32 (y : Int)] w fun e w' => e = .returned (.bool (decide (x < y))) ∧ w = w' := by
  have c : ∀ (z : Nat) (w : World), Calls Try.prog 68 #[.int .u32 (z : Int)] w fun e w' => e = .returned (.bool false) ∧ w = w' := by
    intro z w
    go_enter Try.func68, Try.ntmps68
    go_wp2
    go_ret
    exact ⟨by simp, rfl⟩
  go_enter Try.func58, Try.ntmps58
  go_wp2_with (go_at_call 68; refine (c _ _).mono ?_; rintro e w' ⟨rfl, rfl⟩)
  all_goals go_ret
  all_goals exact ⟨rfl, rfl⟩
theorem ins_nil (p : Option Addr) (c : Nat) (w : World) :
    Calls Try.prog 52 #[.slice p 0 c, .int .i64 0, .int .i64 0] w fun e w' => e = .returned (.tuple #[]) ∧ w = w' := by
  go_enter Try.func52, Try.ntmps52
  go_wp2
  refine wp_loop_rounds 1 ?_
  rw [rounds_succ]
  go_wp2
  go_end0
  exact ⟨rfl, rfl⟩
set_option maxRecDepth 100000 in
theorem pdq_nil (p : Option Addr) (c : Nat) (l : Int) (w : World) :
    Calls Try.prog 49 #[.slice p 0 c, .int .i64 0, .int .i64 0, .int .i64 l] w fun e w' => e = .returned (.tuple #[]) ∧ w = w' := by
  go_enter Try.func49, Try.ntmps49
  go_wp2
  refine wp_loop_rounds 1 ?_
  rw [rounds_succ]
  go_wp2_with (go_at_call 52; refine (ins_nil _ _ _).mono ?_; rintro e w' ⟨rfl, rfl⟩)
  exact bodyPost_ret (results_none rfl _ _ _) rfl ⟨rfl, rfl⟩
theorem sort_nil (p : Option Addr) (c : Nat) (w : World) :
    Calls Try.prog 40 #[.slice p 0 c] w fun e w' => e = .returned (.tuple #[]) ∧ w = w' := by
  have cl := fun w => len_any 0 (by omega) w
  generalize Lib.bitLen 0 = k at cl
  go_enter Try.func40, Try.ntmps40
  go_wp2_with (first
    | (go_at_call 50; refine (cl _).mono ?_; rintro e w' ⟨rfl, rfl⟩)
    | (go_at_call 49; refine (pdq_nil _ _ _ _).mono ?_; rintro e w' ⟨rfl, rfl⟩))
  go_end0
  exact ⟨rfl, rfl⟩
section
variable {w : World} {S : Nat → Prop} {bm made fail : Nat} {st : Nat → Option RG} {rl : List Nat} {mv rv : Value}
/-- What maps.Keys and slices.Collect give over the memory's map: the live regions' numbers, in some order. -/
def LiveIn (st : Nat → Option RG) (ss : List Nat) : Prop := ss.Nodup ∧ ∀ n : Nat, n ∈ ss ↔ (st n).isSome = true
theorem keys_collect (h : KM w S bm made fail st rl mv rv) (m : Option Nat) (hmv : mv = .map m) :
    Calls Try.prog 46 #[.func (.func 47) #[] #[.pointer (some ⟨w.heap.size, 0, none⟩)]] (w.alloc (.cells #[.map m] 38))
      (NewRow (w.alloc (.cells #[.map m] 38)) (LiveIn st)) := by
  subst hmv
  have hb := Boxed.new w 38 (.map m)
  have hle := h.made_le
  rcases m with _ | b
  · refine (collect_any _ _ (enters_of Try.func47 (by kernel_rfl) rfl) (fun ss => ss = []) 4096 (by omega) _ (keys_stops_nil w.heap.size 4096 _ (by simp) hb.cell)).mono ?_
    rintro e w' ⟨v, ss, rfl, rfl, h3, h4, h5⟩
    rcases h.map with ⟨_, h0⟩ | ⟨_, _, e, _⟩
    · exact ⟨v, [], rfl, ⟨List.nodup_nil, fun n => by simp [h0 n]⟩, h3, h4, h5⟩
    · cases e
  · obtain ⟨hS, D, ho, hm⟩ := h.own rfl
    refine (collect_any _ _ (enters_of Try.func47 (by kernel_rfl) rfl) (KeysOf D) 4096 (by omega) _ (keys_stops w.heap.size b made 4096 D _ (by simp) hb.cell (ho.alloc _) hle)).mono ?_
    rintro e w' ⟨v, ss, rfl, hK, h3, h4, h5⟩
    exact ⟨v, ss, rfl, ⟨hK.1, fun n => by rw [hK.2 n, hm.has_ n]⟩, h3, h4, h5⟩
theorem sorted_none (w : World) (g : Nat) (a : Addr) (st : Nat → Option RG) (h0 : ∀ n, st n = none) (w : World)
    (c : Calls Try.prog 46 #[.func (.func g) #[] #[.pointer (some a)]] w (NewRow w (LiveIn st))) :
    Calls Try.prog 30 #[.func (.func g) #[] #[.pointer (some a)]] w fun e w' => e = .returned (.slice none 0 0) ∧ Below w.heap.size w w' := by
  have c' : Calls Try.prog 46 #[.func (.func g) #[] #[.pointer (some a)]] w fun e w' => e = .returned (.slice none 0 0) ∧ Below w.heap.size w w' := by
    refine c.mono ?_
    rintro e w' ⟨v, ss, rfl, h2, h3, h4, h5⟩
    have : ss = [] := by
      rcases ss with _ | ⟨x, r⟩
      · rfl
      · have := (h2.2 x).1 (by simp); rw [h0 x] at this; cases this
    exact ⟨by rw [h4.2 this], h5⟩
  clear c
  go_enter Try.func30, Try.ntmps30
  go_wp2_with (first
    | (go_at_call 46; refine c'.mono ?_; rintro e w' ⟨rfl, hb⟩; have HB := Lib.hid hb; clear hb)
    | (go_at_call 40; refine (sort_nil _ _ _).mono ?_; rintro e w' ⟨rfl, rfl⟩))
  go_ret
  exact ⟨rfl, HB.out⟩
theorem regions_none (h : KM w S bm made fail st rl mv rv) (h0 : ∀ n, st n = none) :
    Calls Try.prog 7 #[.pointer (some ⟨bm, 0, none⟩)] w fun e w' => e = .returned (.slice none 0 0) ∧ Below w.heap.size w w' := by
  obtain ⟨m, hmv⟩ : ∃ m, mv = .map m := by
    rcases h.map with ⟨e, _⟩ | ⟨b, _, e, _⟩
    · exact ⟨_, e⟩
    · exact ⟨_, e⟩
  have ck := keys_any m w
  have cs := sorted_none w _ _ st h0 _ (keys_collect h m hmv)
  have c0 : w.cell? ⟨bm, 0, none⟩ = some mv := h.mem.cell 0
  subst hmv
  clear h h0
  go_enter Try.func7, Try.ntmps7
  go_wp2_with (first
    | (go_at_call 31; refine ck.mono ?_; rintro e w' ⟨rfl, rfl⟩)
    | (go_at_call 30; refine cs.mono ?_; rintro e w' ⟨rfl, hb⟩; have HB := Lib.hid hb; clear hb))
  refine wp_loop_rounds 1 ?_
  rw [rounds_succ]
  go_wp2
  go_ret
  exact ⟨rfl, ((Below.refl _ w).alloc (Nat.le_refl _) _).trans (HB.out.mono (by simp))⟩
end
end Go.Proofs.Ytmbkagjdhpfngaa
