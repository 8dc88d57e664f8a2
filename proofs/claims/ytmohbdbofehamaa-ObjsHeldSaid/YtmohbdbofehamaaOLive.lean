/-
  Package objs: live: the numbers of all objects that are there, rising.
-/
import Derived.Test.YtmohbdbofehamaaOBegin
import Derived.Test.YtmohbdbofehamaaShelf
namespace Go.Proofs.Ytmohbdbofehamaa
open Go Go.RowKit Go.Maps Go.Sort Go.Shelf OSt
set_option linter.unusedVariables false
set_option linter.unusedSimpArgs false
set_option maxRecDepth 100000
theorem sortsA (m : Nat) : AnyZI.SortsIn Try.prog Try.sortedA_ren Fence.wide m :=
  ⟨fun blk off cap ss W hH hblk hsz => callsIn_wide.2 (AnyM.slices_Sort_int Try.sortA blk off cap ss W hH hblk hsz),
   fun p cap W => callsIn_wide.2 (AnyM.slices_Sort_int_none Try.sortA p cap W)⟩
/-- The numbers, as ints. -/
def intsOf (L : List Nat) : List Int := L.map fun n : Nat => (n : Int)
theorem intsOf_sorted {L : List Nat} (h : L.Pairwise (· < ·)) : (intsOf L).mergeSort (fun x y => decide (x ≤ y)) = intsOf L := by
  refine List.mergeSort_of_pairwise ?_
  unfold intsOf
  rw [List.pairwise_map]
  refine h.imp fun {a b} hab => ?_
  simp only [decide_eq_true_eq]
  omega
theorem intsOf_nodup {L : List Nat} (h : L.Pairwise (· < ·)) : (intsOf L).Nodup := by
  unfold intsOf
  rw [List.Nodup, List.pairwise_map]
  exact h.imp fun {a b} hab => by omega
theorem mem_intsOf {s : OSt} {n : Int} : n ∈ intsOf (liveS s) ↔ thereI s n = true := by
  unfold intsOf
  rw [List.mem_map, thereI_iff]
  constructor
  · rintro ⟨k, hk, rfl⟩
    have := mem_live.1 hk
    exact ⟨by have := (isThere_pos this).1; omega, by rw [Int.toNat_natCast]; exact this⟩
  · rintro ⟨h1, h2⟩
    exact ⟨n.toNat, mem_live.2 h2, by omega⟩
/-- What the look at all objects answers. -/
def LivePost (w : World) (L : List Nat) (e : Ending) (w' : World) : Prop := ∃ A c, e = .returned (.slice A L.length c) ∧ RowI w.heap.size w' A L ∧ Below w.heap.size w w'
theorem rowI_own {w : World} {base : Nat} {v : Value} {L : List Nat} {n : Nat} (h : w.ownsRow base intT 1 v n ((intsOf L).map encZ)) : ∃ A c, v = .slice A L.length c ∧ RowI base w A L := by
  have hl : n = L.length := by have := h.1; simpa [intsOf] using this.symm
  subst hl
  rcases h.2 with ⟨rfl, h2⟩ | ⟨g, cap, cur, rfl, hb, hg, h1, h2, h3, h4⟩
  · refine ⟨none, 0, by rw [h2], fun i u hi => ?_⟩
    have := (List.getElem?_eq_some_iff.1 hi).1
    omega
  · refine ⟨_, cap, rfl, fun i u hi => ⟨g, 0, rfl, hb, ?_, ?_, cur, hg⟩⟩
    · rcases Nat.lt_or_ge g w.heap.size with hlt | hge
      · exact hlt
      · rw [Array.getElem?_eq_none hge] at hg; cases hg
    · have := h.cells (g := g) rfl i (.int .i64 (u : Int)) (by unfold intsOf; rw [List.map_map, List.getElem?_map, hi]; rfl)
      rwa [show (⟨g, 0, none⟩ : Addr).add i = ⟨g, 0 + i, none⟩ by unfold Addr.add; split <;> simp_all] at this
section
variable {x : Nat} {w0 w w' : World} {P0 P U : Nat → Prop} {s s' : OSt} {ld ld' : Nat → Nat} {mo mp mo' mp' : Option Nat} {D E D' E' : DataW Value} {bl bl' : Nat → Nat} {id : Nat}
set_option maxHeartbeats 1000000 in
theorem clive_any (h : PG x w0 P0 s ld w) (hn : s.os.length ≤ 1000000) : Calls Try.prog 31 #[tp x] w (LivePost w (liveS s)) := by
  obtain ⟨mo, mp, D, E, bl, h⟩ := h
  have c0 : w.cell? ⟨x, 0, none⟩ = some (.map mo) := h.tab.cell 0
  have cK : ∀ mb W, CallsIn Fence.wide 5 Try.prog 51 #[.map mb] W fun e w' => e = .returned (.func (.func 59) #[] #[.pointer (some ⟨W.heap.size, 0, none⟩)]) ∧ w' = W.alloc (.cells #[.map mb] mapOT) := fun mb W => AnyZI.keys_in Try.keysA Fence.wide 5 trivial rfl mb W
  refine (callsIn_wide (n := 6)).1 ?_
  have hfK : Fence.wide.fn 51 := trivial
  have hfS : Fence.wide.fn 50 := trivial
  rcases h.obs with ⟨rfl, rfl⟩ | ⟨b, rfl, hown⟩
  · have hL : liveS s = [] := by
      refine List.eq_nil_iff_forall_not_mem.2 fun k hk => ?_
      have := h.dat.yes k (mem_live.1 hk) (.map [])
      simp [DataW.atKey] at this
    have hseq : SeqGives Fence.wide 2 Try.prog 59 #[.pointer (some ⟨w.heap.size, 0, none⟩)] encZ (fun ss : List Int => ss = []) 0 (w.alloc (.cells #[.map none] mapOT)) :=
      AnyZI.keys_gives_nil (ρ := Try.keysA_ren) { Try.keysA with } Fence.wide _ trivial rfl w.heap.size _ (by simp) (by simp)
    have cS := AnyZI.sorted_in Try.sortedA Fence.wide 5 trivial trivial trivial trivial rfl (by omega) (sortsA _) (enters_of Try.func58 (by kernel_rfl) rfl) 59 #[.pointer (some ⟨w.heap.size, 0, none⟩)] trivial (enters_of Try.func59 (by kernel_rfl) rfl) _ 0 (Nat.zero_le _) (by omega) _ hseq
    change CallsIn _ _ Try.prog 50 _ _ _ at cS
    rw [hL]
    clear h hn hseq
    refine callsIn_of_wp Try.func31 rfl trivial ?_ rfl
    simp only [Try.ntmps31, List.size_toArray, List.length_cons, List.length_nil, Nat.reduceAdd, Nat.reduceSub, Array.replicate_succ, Array.replicate_zero, List.push_toArray, List.append_toArray, List.nil_append, List.cons_append]
    gi_wp2_with (first
      | (gi_at_call 51; refine (cK _ _).mono ?_; rintro e w' ⟨rfl, rfl⟩)
      | (gi_at_call 50; refine cS.mono ?_; rintro e w' ⟨v, ss, rfl, rfl, hrow, hnil, hb⟩; obtain rfl : v = .slice none 0 0 := hnil.2 rfl))
    go_ret
    exact ⟨none, 0, rfl, RowI.nil _ _ _, ((Below.refl _ w).alloc (Nat.le_refl _) _).trans (hb.mono (by simp))⟩
  · have hperm : (intsOf (liveS s)).Perm (intKeys D) := CollectedI.perm (left := fun _ => false) ⟨intsOf_nodup (liveTo_asc _ _), fun n => by
      rw [mem_intsOf]
      constructor
      · intro hn
        refine ⟨?_, rfl⟩
        obtain ⟨h1, h2⟩ := thereI_iff.1 hn
        have := has_true_of_atKey fun z => h.dat.yes _ h2 z
        rwa [show ((n.toNat : Nat) : Int) = n by omega] at this
      · rintro ⟨h1, _⟩
        cases ht : thereI s n
        · rw [h.dat.no n ht] at h1; cases h1
        · rfl⟩ hown lawI Try.underlying3 (fun _ => rfl)
    have hsz := hown.size_le
    have hseq : SeqGives Fence.wide 2 Try.prog 59 #[.pointer (some ⟨w.heap.size, 0, none⟩)] encZ (fun ss => ss.Perm (intKeys D)) (Maps.size D) (w.alloc (.cells #[.map (some b)] mapOT)) :=
      AnyZI.keys_gives (ρ := Try.keysA_ren) { Try.keysA with } Fence.wide _ trivial rfl (by omega) w.heap.size b s.os.length D _ (by simp) (by simp) (ownsMap_block hown (Below.heap_alloc _ _ b hown.lt))
    have cS := AnyZI.sorted_in Try.sortedA Fence.wide 5 trivial trivial trivial trivial rfl (by omega) (sortsA _) (enters_of Try.func58 (by kernel_rfl) rfl) 59 #[.pointer (some ⟨w.heap.size, 0, none⟩)] trivial (enters_of Try.func59 (by kernel_rfl) rfl) _ (Maps.size D) (by unfold maxLen; omega) (by omega) _ hseq
    change CallsIn _ _ Try.prog 50 _ _ _ at cS
    have HR : Hid (∀ (W : World) (v : Value) (ss : List Int), ss.Perm (intKeys D) → W.ownsRow (w.alloc (.cells #[.map (some b)] mapOT)).heap.size intT 1 v ss.length ((ss.mergeSort (fun x y => decide (x ≤ y))).map encZ) → ∃ A c, v = .slice A (liveS s).length c ∧ RowI w.heap.size W A (liveS s)) := fun W v ss hp hrow => by
      have e1 : ss.mergeSort (fun x y => decide (x ≤ y)) = intsOf (liveS s) := (mergeSort_of_perm_i (hp.trans hperm.symm)).trans (intsOf_sorted (liveTo_asc _ _))
      rw [e1] at hrow
      obtain ⟨A, c, h1, h2⟩ := rowI_own hrow
      exact ⟨A, c, h1, h2.mono (by simp)⟩
    clear h hn hseq hperm hown hsz
    refine callsIn_of_wp Try.func31 rfl trivial ?_ rfl
    simp only [Try.ntmps31, List.size_toArray, List.length_cons, List.length_nil, Nat.reduceAdd, Nat.reduceSub, Array.replicate_succ, Array.replicate_zero, List.push_toArray, List.append_toArray, List.nil_append, List.cons_append]
    gi_wp2_with (first
      | (gi_at_call 51; refine (cK _ _).mono ?_; rintro e w' ⟨rfl, rfl⟩)
      | (gi_at_call 50; refine cS.mono ?_; rintro e w' ⟨v, ss, rfl, hS, hrow, hnil, hb⟩; obtain ⟨A, c, rfl, hr⟩ := HR.out _ _ _ hS hrow; have HR2 := Lib.hid hr; clear hrow hnil hr))
    go_ret
    exact ⟨A, c, rfl, HR2.out, ((Below.refl _ w).alloc (Nat.le_refl _) _).trans (hb.mono (by simp))⟩
end
end Go.Proofs.Ytmohbdbofehamaa
