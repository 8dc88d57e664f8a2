/-
  A line that was written is read as the slot of which it was written: stores, what is read and written in one go, jumps. Package asm: Read, exact: the walk.
-/
import Derived.Test.YtemiklbkfogjeaaGreatDoorQ20
namespace Go.Proofs.YtemiklbkfogjeaaGreatDoor
open Go Go.RowKit Go.Maps
set_option linter.unusedVariables false
set_option linter.unusedSimpArgs false
set_option maxRecDepth 100000
theorem op_store : ∀ o : Nat, o < 256 → bits .and .i64 (o : Int) 224 = 96 → (o % 8 = 3 → bits .or .i64 (bits .or .i64 96 (bits .and .i64 (o : Int) 24)) 3 = (o : Int)) ∧ (o % 8 = 2 → bits .or .i64 (bits .or .i64 96 (bits .and .i64 (o : Int) 24)) 2 = (o : Int)) := by decide +kernel
theorem op_lock : ∀ o : Nat, o < 256 → bits .and .i64 (o : Int) 224 = 192 → o % 8 = 3 → bits .or .i64 (bits .or .i64 192 (bits .and .i64 (o : Int) 24)) 3 = (o : Int) := by decide +kernel
theorem lock_ok : ∀ x ∈ lockL, isW x.1 ∧ lockF x.1 false lockL = some x.2.1 ∧ (x.2.2 = true → lockF x.1 true lockL = some (x.2.1 + 1)) := by
 intro x hx
 simp only [lockL, List.mem_cons, List.not_mem_nil, or_false] at hx
 rcases hx with rfl | rfl | rfl | rfl | rfl | rfl
 ·exact ⟨by decide, by kernel_rfl, fun _ => by kernel_rfl⟩
 ·exact ⟨by decide, by kernel_rfl, fun _ => by kernel_rfl⟩
 ·exact ⟨by decide, by kernel_rfl, fun _ => by kernel_rfl⟩
 ·exact ⟨by decide, by kernel_rfl, fun _ => by kernel_rfl⟩
 ·exact ⟨by decide, by kernel_rfl, fun h => by cases h⟩
 ·exact ⟨by decide, by kernel_rfl, fun h => by cases h⟩
theorem lockG_cases (r : ByteArray) (m : Int) : ∀ l : List (ByteArray × Int × Bool), (lockG r m l).size ≠ 0 → ∃ nm i fe, (nm, i, fe) ∈ l ∧ ((m = i ∧ lockG r m l = saidT [nm, r]) ∨ (m = i + 1 ∧ fe = true ∧ lockG r m l = saidT [nm, r, fetchT]))
 | [], h => absurd rfl h
 | (nm, i, fe) :: l, h => by
  unfold lockG at h ⊢
  by_cases h1 : m = i
  ·rw [if_pos h1]
   exact ⟨nm, i, fe, by simp, .inl ⟨h1, rfl⟩⟩
  ·rw [if_neg h1] at h ⊢
   by_cases h2 : m = i + 1 ∧ fe = true
   ·rw [if_pos h2]
    exact ⟨nm, i, fe, by simp, .inr ⟨h2.1, h2.2, rfl⟩⟩
   ·rw [if_neg h2] at h ⊢
    obtain ⟨nm', i', fe', hm, hc⟩ := lockG_cases r m l h
    exact ⟨nm', i', fe', List.mem_cons_of_mem _ hm, hc⟩
theorem lock_back {o d s f m : Int} (h : Fits o d s f m) (hd : d ≤ 10) (hs : s ≤ 10) (ho2 : bits .and .i64 o 224 = 192) (hq : o % 8 = 3) (hk : lockedS (bits .and .i64 o 24) = true)
  (hne : (saidT [lockW, placeT 96 o f d, lockT s m]).size ≠ 0) : Says (saidT [lockW, placeT 96 o f d, lockT s m]) [⟨o, d, s, f, m⟩] := by
 obtain ⟨ho, hd0, hs0, hf, hm⟩ := h
 obtain ⟨h1, h2⟩ := saidT_sizes hne
 obtain ⟨nm, hnm, hp⟩ := placeT_cases (h1 (placeT 96 o f d) (by simp))
 have hw := plcW_words hnm f d
 have hw' : ∀ w ∈ plcW nm f d, isW w := hw
 have hr := regS_regT ⟨#[114]⟩ s hs0.1 hs
 have hpb := place_back hnm f d ⟨hd0.1, hd⟩ hf
 have hop : bits .or .i64 (bits .or .i64 192 (bits .and .i64 o 24)) 3 = o := by
  obtain ⟨k, rfl⟩ := Int.eq_ofNat_of_zero_le ho.1
  exact op_lock k (by omega) ho2 (by omega)
 obtain ⟨kn, ki, kf, hkm, hc⟩ := lockG_cases (regT ⟨#[114]⟩ s) m lockL (h1 (lockT s m) (by simp))
 obtain ⟨hk1, hk2, hk3⟩ := lock_ok _ hkm
 have hlx : ∀ fe okf v, okf = true → lockF kn fe lockL = some v → lockX ⟨96, bits .and .i64 o 24, d, f⟩ kn fe okf (some s.toNat) = some ⟨o, d, s, f, v⟩ := by
  intro fe okf v hok hv
  unfold lockX
  simp only [hk, hv, hok, hop]
  have e : ((s.toNat : Nat) : Int) = s := by omega
  simp [e]
 rw [h2, hp]
 rcases hc with ⟨rfl, hc⟩ | ⟨rfl, hfe, hc⟩
 ·have hkw : ∀ w ∈ [kn, regT ⟨#[114]⟩ s], isW w := fun w hw => by
   simp only [List.mem_cons, List.not_mem_nil, or_false] at hw
   rcases hw with rfl | rfl
   ·exact hk1
   ·exact isW_reg (by decide) s
  rw [show lockT s m = joinT [kn, regT ⟨#[114]⟩ s] from hc.trans (saidT_join hkw), joinT_mid lockW (plcW nm f d) [kn, regT ⟨#[114]⟩ s] (by simp [plcW]) (by simp)]
  refine ⟨_, rfl, by simp, by simp [plcW], fun w hw' => ?_, ?_⟩
  ·rcases List.mem_append.1 hw' with hw' | hw'
   ·rcases List.mem_cons.1 hw' with rfl | hw'
    ·decide
    ·exact hw w hw'
   ·exact hkw w hw'
  ·refine slots_one (w := regT ⟨#[114]⟩ s) rfl (by rw [hd_reg]; decide) ?_
   show oneR [lockW, _, _, _, _, kn, regT ⟨#[114]⟩ s] = _
   rw [oneR, if_pos (by decide)]
   unfold lockR
   rw [hpb, Option.bind_some]
   rw [show regS (regT ⟨#[114]⟩ s) wholeT = some s.toNat from hr]
   exact hlx false true _ rfl hk2
 ·have hkw : ∀ w ∈ [kn, regT ⟨#[114]⟩ s, fetchT], isW w := fun w hw => by
   simp only [List.mem_cons, List.not_mem_nil, or_false] at hw
   rcases hw with rfl | rfl | rfl
   ·exact hk1
   ·exact isW_reg (by decide) s
   ·decide
  rw [show lockT s (ki + 1) = joinT [kn, regT ⟨#[114]⟩ s, fetchT] from hc.trans (saidT_join hkw), joinT_mid lockW (plcW nm f d) [kn, regT ⟨#[114]⟩ s, fetchT] (by simp [plcW]) (by simp)]
  refine ⟨_, rfl, by simp, by simp [plcW], fun w hw' => ?_, ?_⟩
  ·rcases List.mem_append.1 hw' with hw' | hw'
   ·rcases List.mem_cons.1 hw' with rfl | hw'
    ·decide
    ·exact hw w hw'
   ·exact hkw w hw'
  ·refine slots_one (w := fetchT) rfl (by decide) ?_
   show oneR [lockW, _, _, _, _, kn, regT ⟨#[114]⟩ s, fetchT] = _
   rw [oneR, if_pos (by decide)]
   unfold lockR
   rw [hpb, Option.bind_some]
   rw [show regS (regT ⟨#[114]⟩ s) wholeT = some s.toNat from hr]
   exact hlx true _ _ (by decide) (hk3 hfe)
theorem store_back {o d s f m : Int} (h : Fits o d s f m) (hd : d ≤ 10) (hs : s ≤ 10) (hq : o % 8 = 2 ∨ o % 8 = 3) (hne : (storeT o d s f m).size ≠ 0) : Says (storeT o d s f m) [⟨o, d, s, f, m⟩] := by
 unfold storeT at *
 by_cases hl : bits .and .i64 o 224 = 192 ∧ o % 8 = 3 ∧ lockedS (bits .and .i64 o 24) = true
 ·rw [if_pos hl] at *
  exact lock_back h hd hs hl.1 hl.2.1 hl.2.2 hne
 ·rw [if_neg hl] at *
  by_cases h96 : bits .and .i64 o 224 = 96
  ·rw [if_pos h96] at *
   obtain ⟨ho, hd0, hs0, hf, hm⟩ := h
   obtain ⟨h1, h2⟩ := saidT_sizes hne
   obtain ⟨nm, hnm, hp⟩ := placeT_cases (h1 (placeT 96 o f d) (by simp))
   have hsz : (secT s m (o % 8 == 3) (letterS 7)).size ≠ 0 := h1 (secT s m (o % 8 == 3) wholeT) (by simp)
   obtain ⟨c, hc, hc1, hc2, _⟩ := hd_sec s m (o % 8 == 3) 7 hsz
   have hsb := sec_back (q := 7) ⟨hs0.1, hs⟩ hm hsz
   have hw := plcW_words hnm f d
   rw [h2, hp, joinT_two (plcW nm f d) eqT (secT s m (o % 8 == 3) wholeT) (List.cons_ne_nil _ _)]
   refine ⟨_, rfl, by simp [plcW], by simp [plcW], fun w hw' => ?_, ?_⟩
   ·rcases List.mem_append.1 hw' with hw' | hw'
    ·exact hw w hw'
    ·simp only [List.mem_cons, List.not_mem_nil, or_false] at hw'
     rcases hw' with rfl | rfl
     ·decide
     ·exact isW_sec hsz
   ·refine slots_one (w := secT s m (o % 8 == 3) wholeT) rfl (by rw [show hdW (secT s m (o % 8 == 3) wholeT) = some c from hc]; exact fun e => hc2 (by cases e; rfl)) ?_
    show oneR [⟨#[42, 40]⟩ ++ nm, ⟨#[42, 41, 40]⟩ ++ regT ⟨#[114]⟩ d, (partsT f).1, (partsT f).2 ++ ⟨#[41]⟩, eqT, secT s m (o % 8 == 3) wholeT] = _
    have a1 : hdW ((⟨#[42, 40]⟩ : ByteArray) ++ nm) = some 42 := hd_app rfl
    have a2 : hdW ((⟨#[42, 41, 40]⟩ : ByteArray) ++ regT ⟨#[114]⟩ d) = some 42 := hd_app rfl
    rw [oneR, if_neg (by rw [same_hd (by rw [a1]; decide)]; decide), if_neg (by rw [same_hd (by rw [a2]; decide)]; decide)]
    unfold storeR
    rw [place_back hnm f d ⟨hd0.1, hd⟩ hf, Option.bind_some]
    rw [show secS (secT s m (o % 8 == 3) wholeT) wholeT 0 0 = ⟨o % 8 == 3, s, m, true⟩ from hsb]
    obtain ⟨k, rfl⟩ := Int.eq_ofNat_of_zero_le ho.1
    obtain ⟨o3, o2⟩ := op_store k (by omega) h96
    have e1 : sameT eqT eqT = true := by decide
    simp only [e1, Bool.and_true, beq_self_eq_true, if_true]
    rcases hq with hq | hq
    ·have e2 : ((k : Int) % 8 == 3) = false := by rw [hq]; rfl
     rw [e2, if_neg (by decide), o2 (by omega)]
    ·have e2 : ((k : Int) % 8 == 3) = true := by rw [hq]; rfl
     rw [e2, if_pos rfl, o3 (by omega)]
  ·rw [if_neg h96] at hne
   exact absurd rfl hne
/-! ### Jumps -/
theorem test_ok (q d f : Int) (c : ByteArray) : ∀ x ∈ testL, isW x.1 ∧ testR q d f x.1 c testL = secR q (bits .or .i64 q x.2) d f c := by
 intro x hx
 simp only [testL, List.mem_cons, List.not_mem_nil, or_false] at hx
 rcases hx with rfl | rfl | rfl | rfl | rfl | rfl | rfl | rfl | rfl | rfl | rfl <;> exact ⟨by decide, by kernel_rfl⟩
theorem testG_cases (z : Int) (g : ByteArray → ByteArray) : ∀ l : List (ByteArray × Int), (testG z g l).size ≠ 0 → ∃ nm, (nm, z) ∈ l ∧ testG z g l = g nm
 | [], h => absurd rfl h
 | (nm, k) :: l, h => by
  unfold testG at h ⊢
  by_cases h1 : k = z
  ·rw [if_pos h1]
   exact ⟨nm, by rw [h1]; simp, rfl⟩
  ·rw [if_neg h1] at h ⊢
   obtain ⟨nm', hm, hc⟩ := testG_cases z g l h
   exact ⟨nm', List.mem_cons_of_mem _ hm, hc⟩
theorem secR_of {q p d x : Int} {c : ByteArray} {src : Bool} {s m : Int} (h : secS c (letterS q) 0 0 = ⟨src, s, m, true⟩) : secR q p d x c = some ⟨if src = true then bits .or .i64 p 8 else p, d, s, x, m⟩ := by
 unfold secR
 rw [h]
 rfl
theorem op_jump : ∀ o : Nat, o < 256 → (o % 8 = 4 ∨ o % 8 = 5 ∨ o % 8 = 6 ∨ o % 8 = 7) → (if (bits .and .i64 (o : Int) 8 != 0) = true then bits .or .i64 (bits .or .i64 ((o : Int) % 8) (bits .and .i64 (o : Int) 240)) 8 else bits .or .i64 ((o : Int) % 8) (bits .and .i64 (o : Int) 240)) = (o : Int) := by decide +kernel
theorem lower_letter (q d : Int) (h : q = 4 ∨ q = 5 ∨ q = 6 ∨ q = 7) : begins (regT (letterS q) d) lowerT = decide (q = 4 ∨ q = 6) := by
 rcases letter_ways q with ⟨e, hq⟩ | ⟨e, hq⟩
 ·rw [e, begins_one, show (regT ⟨#[119]⟩ d).data.toList.head? = some 119 from hd_reg 119 d, decide_eq_true hq]
  decide
 ·rw [e, begins_one, show (regT ⟨#[114]⟩ d).data.toList.head? = some 114 from hd_reg 114 d, decide_eq_false hq]
  decide
theorem jump_back {o d s f m : Int} (h : Fits o d s f m) (hd : d ≤ 10) (hs : s ≤ 10) (hq : o % 8 = 5 ∨ o % 8 = 6) (hne : (jumpT o d s f m).size ≠ 0) : Says (jumpT o d s f m) [⟨o, d, s, f, m⟩] := by
 obtain ⟨ho, hd0, hs0, hf, hm⟩ := h
 unfold jumpT at *
 by_cases h1 : same5 o d s f m 5 0 0 f 0 = true
 ·rw [if_pos h1] at *
  obtain ⟨rfl, rfl, rfl, _, rfl⟩ := of_decide_eq_true h1
  have hw : ∀ w ∈ [gotoT, farT f], isW w := fun w hw => by
   simp only [List.mem_cons, List.not_mem_nil, or_false] at hw
   rcases hw with rfl | rfl
   ·decide
   ·exact isW_far f
  refine ⟨[gotoT, farT f], saidT_join hw, by simp, by simp, hw, slots_one (w := farT f) rfl (by rcases hd_far f with e | e <;> rw [e] <;> decide) ?_⟩
  rw [oneR, if_neg (by decide), if_pos (by decide), furtherS_far f hf.1 hf.2]
  rfl
 ·rw [if_neg h1] at *
  by_cases h2 : same5 o d s f m 133 0 0 0 m = true
  ·rw [if_pos h2] at *
   obtain ⟨rfl, rfl, rfl, rfl, _⟩ := of_decide_eq_true h2
   have hw : ∀ w ∈ [callT, dec m], isW w := fun w hw => by
    simp only [List.mem_cons, List.not_mem_nil, or_false] at hw
    rcases hw with rfl | rfl
    ·decide
    ·exact isW_dec m
   refine ⟨[callT, dec m], saidT_join hw, by simp, by simp, hw, slots_one (w := dec m) rfl (by
    obtain ⟨c, e, h3⟩ := hd_dec m
    rw [e]
    intro e2
    cases e2
    revert h3; decide) ?_⟩
   rw [oneR, if_pos (by decide), immS_dec m hm.1 hm.2]
   rfl
  ·rw [if_neg h2] at *
   by_cases h3 : same5 o d s f m 149 0 0 0 0 = true
   ·rw [if_pos h3] at *
    obtain ⟨rfl, rfl, rfl, rfl, rfl⟩ := of_decide_eq_true h3
    refine ⟨[exitT], ?_, by simp, by simp, fun w hw => by
     simp only [List.mem_cons, List.not_mem_nil, or_false] at hw
     subst hw
     decide, slots_one (w := exitT) rfl (by decide) ?_⟩
    ·apply ba_ext
     rw [joinT_list, List.map_cons, List.map_nil, Lib.join_one]
    ·rw [oneR, if_pos (by decide)]
   ·rw [if_neg h3] at *
    obtain ⟨nm, hnm, hg⟩ := testG_cases _ _ testL hne
    rw [hg] at hne ⊢
    unfold testLine at hne ⊢
    obtain ⟨z1, z2⟩ := saidT_sizes hne
    have hsz : (secT s m (bits .and .i64 o 8 != 0) (letterS (o % 8))).size ≠ 0 := z1 _ (by simp)
    have hsb := sec_back (q := o % 8) ⟨hs0.1, hs⟩ hm hsz
    obtain ⟨t1, t2⟩ := test_ok (o % 8) (d.toNat : Int) f (secT s m (bits .and .i64 o 8 != 0) (letterS (o % 8))) _ hnm
    have hw : ∀ w ∈ [ifT, regT (letterS (o % 8)) d, nm, secT s m (bits .and .i64 o 8 != 0) (letterS (o % 8)), gotoT, farT f], isW w := fun w hw => by
     simp only [List.mem_cons, List.not_mem_nil, or_false] at hw
     rcases hw with rfl | rfl | rfl | rfl | rfl | rfl
     ·decide
     ·exact isW_reg (isW_letter _) d
     ·exact t1
     ·exact isW_sec hsz
     ·decide
     ·exact isW_far f
    refine ⟨_, z2, by simp, by simp, hw, slots_one (w := farT f) rfl (by rcases hd_far f with e | e <;> rw [e] <;> decide) ?_⟩
    rw [oneR, if_pos (by decide)]
    unfold jumpR
    have hjq : jumpQ (regT (letterS (o % 8)) d) = o % 8 := by
     unfold jumpQ
     rw [lower_letter (o % 8) d (by omega)]
     rcases hq with hq | hq <;> rw [hq] <;> decide
    rw [hjq, show sameT gotoT gotoT = true by decide, regS_regT (letterS (o % 8)) d hd0.1 hd, furtherS_far f hf.1 hf.2]
    show testR (o % 8) (d.toNat : Int) f nm _ testL = _
    rw [t2, secR_of hsb]
    obtain ⟨k, rfl⟩ := Int.eq_ofNat_of_zero_le ho.1
    rw [op_jump k (by omega) (by omega)]
    congr 1
    simp only [Slot.mk.injEq, true_and, and_true]
    omega
end Go.Proofs.YtemiklbkfogjeaaGreatDoor
namespace Go.Proofs.YtemiklbkfogjeaaGreatDoor
open Go Go.RowKit Go.Maps Go.Shelf
set_option linter.unusedVariables false
set_option linter.unusedSimpArgs false
attribute [local go_sem] Oper.semAt_some
theorem foldl_size : ∀ (os : List Obj) (w : World), (os.foldl World.alloc w).heap.size = w.heap.size + os.length
 | [], w => rfl
 | o :: os, w => by rw [List.foldl_cons, foldl_size os, World.size_alloc, List.length_cons]; omega
theorem foldl_old : ∀ (os : List Obj) (w : World) (k : Nat), k < w.heap.size → (os.foldl World.alloc w).heap[k]? = w.heap[k]?
 | [], w, k, h => rfl
 | o :: os, w, k, h => by
  rw [List.foldl_cons, foldl_old os _ k (by rw [World.size_alloc]; omega)]
  exact Below.heap_alloc w o k h
theorem foldl_at : ∀ (os : List Obj) (w : World) (i : Nat), i < os.length → (os.foldl World.alloc w).heap[w.heap.size + i]? = os[i]?
 | o :: os, w, 0, h => by
  rw [List.foldl_cons, foldl_old os _ _ (by rw [World.size_alloc]; omega)]
  exact World.alloc_heap_new w o
 | o :: os, w, i + 1, h => by
  have := foldl_at os (w.alloc o) i (by simpa using h)
  rw [World.size_alloc] at this
  rw [List.foldl_cons, show w.heap.size + (i + 1) = w.heap.size + 1 + i by omega, this]
  rfl
theorem foldl_below : ∀ (os : List Obj) (w : World), Below w.heap.size w (os.foldl World.alloc w)
 | [], w => Below.refl _ w
 | o :: os, w => (below_alloc w o).on (foldl_below os (w.alloc o))
theorem wpListIn_append_run {F : Fence} {n : Nat} {P : Program} {w : World} {ops : Array Oper} {rest : List Oper} {o : Oper} {a : Act} {Q : Exit → Act → World → Prop}
  (hg : o.guard = none) (s x : Operand) (t : TypeId) (hop : o.op = Op.call { callee := Callee.builtin Builtin.append, args := #[s, x], argTypes := #[t, t] }) (hty : o.type = t)
  (v xv v' : Value) (w' : World) (hs : a.eval s = v) (hx : a.eval x = xv) (hrun : (Builtin.append_ #[t, t] t #[v, xv]).run P w = .ok v' w')
  (hK : wpListIn F n P ops Q rest (a.put o.dst v') w') : wpListIn F n P ops Q (o :: rest) a w := by
 refine wpListIn_plain hg fun K hK' => ?_
 rw [← hty] at hrun
 unfold Oper.wpIn
 refine ⟨?_, ?_⟩
 ·simp [Oper.about, hop, resolve, Target.leads, Sem.run_pure]
 ·rw [Oper.semAt_plain F _ _ (by rw [hop]; intro c hc'; cases hc')]
  subst hty
  simp [execOp, hop, resolve, invoke, builtin, hs, hx, hrun, Result.andThen]
  exact hK' _ _ hK
/-- What Read answers, and the row that it makes. -/
def ReadG (w : World) (s : ByteArray) (e : Ending) (w' : World) : Prop := Below w.heap.size w w' ∧ match readAll (linesOf s) with
 | some X => ∃ v, e = .returned (.tuple #[v, .int .i64 0, .int .i64 0]) ∧ rowAt w' w.heap.size v X
 | none => e = .returned (.tuple #[.slice none 0 0, .int .i64 (badAt (linesOf s) : Int), .int .i64 31])
abbrev nilV : Value := .slice none 0 0
/-- Between two rounds: all lines that came were read. -/
def RdJ (w : World) (s : ByteArray) (rec : LoopState → Option Code → Loop) (pre : List ByteArray) (r : ByteArray) (W : World) : Prop :=
 ∃ v X, readAll pre = some X ∧ RJ w (RC nilV (.int .i64 0) (.int .i64 0) v (.int .i64 (pre.length : Int)) r (rec .ready none)) W ∧ rowAt W (w.heap.size + 10) v X ∧ r.size ≤ s.size
/-- A line came that is none. -/
def RdX (w : World) (rec : LoopState → Option Code → Loop) (pre : List ByteArray) (W : World) : Prop :=
 ∃ good bad v X r k, pre = good ++ [bad] ∧ readAll good = some X ∧ lineR bad = none ∧ RJ w (RC nilV (.int .i64 ((good.length : Int) + 1)) (.int .i64 31) v k r (rec .done (some .ret))) W
set_option maxRecDepth 100000 in
set_option maxHeartbeats 8000000 in
theorem Read_any (s : ByteArray) (hs : s.size ≤ 274877906944) (w : World) (hT : Tabs w) : Calls Tryz.prog 4 #[.string s] w (ReadG w s) := by
 refine (callsIn_wide (n := 2)).1 ?_
 have hro : Fence.wide.round = none := rfl
 refine callsIn_of_wp_marks Tryz.func4 rfl trivial ?_ hro
 simp only [Tryz.ntmps4, List.size_toArray, List.length_cons, List.length_nil, Nat.reduceAdd, Nat.reduceSub, Array.replicate_succ, Array.replicate_zero, List.push_toArray, List.append_toArray, List.nil_append, List.cons_append]
 gi_wp2_with (refine ⟨trivial, ?_⟩; gi_at_call 8; refine (callsIn_wide.2 (splitSeq_any s ⟨#[10]⟩ _)).mono ?_; rintro e w1 ⟨rfl, hw⟩; have HW1 := Lib.hid hw; clear hw)
 have hw1 := HW1.out
 have e8 : ([.cells #[nilV] slT, .cells #[.int .i64 0] intT, .cells #[.int .i64 0] errT, .cells #[nilV] slT, .cells #[.int .i64 0] intT, .cells #[.string s] strT, .cells #[.string ⟨#[10]⟩] strT, .cells #[.int .i64 0] intT] : List Obj).foldl World.alloc w = w1 := hw1.symm
 have hsz : w1.heap.size = w.heap.size + 8 := by rw [← e8, foldl_size]; rfl
 have e0 : ∀ L, ([.cells #[nilV] slT, .cells #[.int .i64 0] intT, .cells #[.int .i64 0] errT, .cells #[nilV] slT, .cells #[.int .i64 0] intT, .cells #[.string s] strT, .cells #[.string ⟨#[10]⟩] strT, .cells #[.int .i64 0] intT] ++ [.deferred (some []), .loop L] : List Obj).foldl World.alloc w = (w1.alloc (.deferred (some []))).alloc (.loop L) := fun L => by rw [List.foldl_append, e8]; rfl
 clear hw1 e8
 obtain ⟨B, hB⟩ : ∃ B, w.heap.size + 1 + 1 + 1 + 1 + 1 = B := ⟨_, rfl⟩
 try simp only [World.size_alloc] at *
 rw [hB]
 have hB5 : B = w.heap.size + 5 := hB.symm
 clear hB
 refine rangeFunc_law hro (by omega) (gf := 21) rfl trivial (enters_of Tryz.func21 (by kernel_rfl) rfl) ?_
 intro fn hfn rec hrec W1 hW1
 have e1 := e0 (rec .ready none)
 rw [hW1] at e1
 have HREC := Lib.hid hrec
 have HST : Hid (∀ st pe, (rec st pe).state = st ∧ (rec st pe).pending = pe ∧ { rec .ready none with state := st } = rec st none ∧ (∀ st', { rec st none with state := st', pending := pe } = rec st' pe) ∧ ∀ st', { rec st pe with state := st' } = rec st' pe) := fun st pe => by rw [hrec]; exact ⟨rfl, rfl, rfl, fun _ => rfl, fun _ => rfl⟩
 clear hW1 e0
 obtain ⟨l, hl⟩ : ∃ l, w1.heap.size + 1 = l := ⟨_, rfl⟩
 rw [hl]
 have hl9 : l = w.heap.size + 9 := by omega
 clear hl
 refine CallsIn.mono (split_in l B (RdJ w s rec) (RdX w rec) ?hc ?hset s ?hY W1 ?h0) ?fin
 case hc =>
  rintro pre r W ⟨v, X, hX, hR, hrow, hr⟩
  subst hB5
  exact ⟨(hR.blk 5 (by decide) rfl).cell 0, (hR.blk 5 (by decide) rfl).frozen 0, (hR.blk 6 (by decide) rfl).cell 0, (hR.blk 7 (by decide) rfl).cell 0, by omega⟩
 case hset =>
  rintro pre r W r' ⟨v, X, hX, hR, hrow, hr⟩ hr'
  subst hB5
  have h1 := hR.setc 5 (by decide) rfl (.string r')
  rw [upd5] at h1
  exact ⟨v, X, hX, h1, hrow.set (by show w.heap.size + 5 < _; omega), by omega⟩
 case h0 =>
  refine ⟨nilV, [], rfl, ⟨by rw [← e1]; exact foldl_below _ w, fun i hi => ?_⟩, World.ownsRow_nil _ _ _ _, Nat.le_refl _⟩
  rw [← e1, foldl_at _ w i (by simpa using hi)]
  rcases i with _ | _ | _ | _ | _ | _ | _ | _ | _ | _ | i
  all_goals first | rfl | (exfalso; omega)
 case hY =>
  rintro pre r x W ⟨v, X, hX, hR, hrow, hr⟩ hxr ⟨rest, hrest⟩
  subst hl9 hB5
  have hl := hR.at_ 9 (by decide)
  have hy := run_yield (P := Tryz.prog) (args := #[.string x]) hl (by rw [hrec]; rfl)
  rw [hrec] at hy
  refine ⟨fn, _, _, _, hy, roundIn_of_wpIn hfn ?_⟩
  clear hy hrec e1
  gi_wp2
  refine ⟨_, run_beginRound hl (HST.out .ready none).1, ?_⟩
  have hR2 := hR.puto 9 (by decide) (.loop { rec .ready none with state := .busy })
  rw [upd9, (HST.out .busy none).2.2.1] at hR2
  have hrow2 : rowAt (W.putObj (w.heap.size + 9) (.loop { rec .ready none with state := .busy })) (w.heap.size + 10) v X := hrow.puto (by omega)
  rw [(HST.out .busy none).2.2.1] at hrow2 ⊢
  obtain ⟨W2, hW2⟩ : ∃ W2, W.putObj (w.heap.size + 9) (.loop (rec .busy none)) = W2 := ⟨_, rfl⟩
  rw [hW2] at hR2 hrow2 ⊢
  clear hW2 hR hrow hl
  have hpl : pre.length < s.size + 1 := by
   have h1 := linesOf_len s
   rw [← hrest] at h1
   simp at h1
   omega
  have hXl := readAll_len hX
  obtain ⟨A0, q0, rfl, _⟩ := own_form_any hrow2
  have HR2 := Lib.hid hR2
  have HROW := Lib.hid hrow2
  have HX := Lib.hid hX
  have HPL := Lib.hid hpl
  have HXL := Lib.hid hXl
  have HRR := Lib.hid hr
  have HT := Lib.hid hT
  have HSS := Lib.hid hs
  have c4 : W2.cell? ⟨w.heap.size + 1 + 1 + 1 + 1, 0, none⟩ = some (.int .i64 (pre.length : Int)) := (hR2.blk 4 (by decide) rfl).cell 0
  have f4 : W2.frozen? ⟨w.heap.size + 1 + 1 + 1 + 1, 0, none⟩ = false := (hR2.blk 4 (by decide) rfl).frozen 0
  have k1 : IntKind.i64.wrap ((pre.length : Int) + 1) = (pre.length : Int) + 1 := IntWalk.i64_in _ (by omega)
  have hR3 : RJ w _ (W2.setCell ⟨w.heap.size + 1 + 1 + 1 + 1, 0, none⟩ (.int .i64 ((pre.length : Int) + 1))) := hR2.setc 4 (by decide) rfl (.int .i64 ((pre.length : Int) + 1))
  rw [upd4] at hR3
  have hrow3 : rowAt (W2.setCell ⟨w.heap.size + 1 + 1 + 1 + 1, 0, none⟩ (.int .i64 ((pre.length : Int) + 1))) (w.heap.size + 10) (.slice A0 X.length q0) X := hrow2.set (by show w.heap.size + 1 + 1 + 1 + 1 < _; omega)
  have HR3 := Lib.hid hR3
  have HROW3 := Lib.hid hrow3
  have CL := Lib.hid (readLine_any x (by omega) (W2.setCell ⟨w.heap.size + 1 + 1 + 1 + 1, 0, none⟩ (.int .i64 ((pre.length : Int) + 1))) (hT.below hR3.below))
  clear hR2 hrow2 hX hpl hXl hr hT hs hR3 hrow3 hrest hxr
  rcases hlx : lineR x with _ | a
  ·rw [hlx] at CL
   have HLX := Lib.hid hlx
   clear hlx
   gi_wp2_with (refine ⟨trivial, rfl, ?_⟩; gi_at_call 9; refine (CallsIn.inRound _ (callsIn_wide.2 CL.out)).mono ?_; rintro e W4 ⟨hb4, A', c', Y, rfl, hY2, hA, hsp, hsl, hxx⟩; have HR4 := Lib.hid (HR3.out.on hb4); clear hb4 hY2 hA hsp hsl hxx; have d4 : W4.cell? ⟨w.heap.size + 1 + 1 + 1 + 1, 0, none⟩ = some (.int .i64 ((pre.length : Int) + 1)) := (HR4.out.blk 4 (by decide) rfl).cell 0; have d0 : W4.cell? ⟨w.heap.size, 0, none⟩ = some nilV := (HR4.out.blk 0 (by decide) rfl).cell 0; have g0 : W4.frozen? ⟨w.heap.size, 0, none⟩ = false := (HR4.out.blk 0 (by decide) rfl).frozen 0; have d1 : W4.cell? ⟨w.heap.size + 1, 0, none⟩ = some (.int .i64 0) := (HR4.out.blk 1 (by decide) rfl).cell 0; have g1 : W4.frozen? ⟨w.heap.size + 1, 0, none⟩ = false := (HR4.out.blk 1 (by decide) rfl).frozen 0; have d2 : W4.cell? ⟨w.heap.size + 1 + 1, 0, none⟩ = some (.int .i64 0) := (HR4.out.blk 2 (by decide) rfl).cell 0; have g2 : W4.frozen? ⟨w.heap.size + 1 + 1, 0, none⟩ = false := (HR4.out.blk 2 (by decide) rfl).frozen 0)
   have hmix : Tryz.prog.follows .mixedOrders = true := by kernel_rfl
   gi_region_with_o (fail)
   all_goals gi_wp2
   all_goals
    have h0 : RJ w _ (W4.setCell ⟨w.heap.size, 0, none⟩ nilV) := HR4.out.setc 0 (by decide) rfl nilV
    rw [upd0] at h0
    have h1 : RJ w _ ((W4.setCell ⟨w.heap.size, 0, none⟩ nilV).setCell ⟨w.heap.size + 1, 0, none⟩ (.int .i64 ((pre.length : Int) + 1))) := h0.setc 1 (by decide) rfl _
    rw [upd1] at h1
    have h2 : RJ w _ (((W4.setCell ⟨w.heap.size, 0, none⟩ nilV).setCell ⟨w.heap.size + 1, 0, none⟩ (.int .i64 ((pre.length : Int) + 1))).setCell ⟨w.heap.size + 1 + 1, 0, none⟩ (.int .i64 31)) := h1.setc 2 (by decide) rfl _
    rw [upd2] at h2
    have h3 := h2.on (below_drew _)
    have hrun := run_endRound (P := Tryz.prog) (some .ret) (h3.at_ 9 (by decide))
    have h4 := h3.puto 9 (by decide) (.loop { rec .busy none with state := .done, pending := some .ret })
    rw [upd9, (HST.out .busy (some .ret)).2.2.2.1 .done] at h4
    simp only [Option.isNone_some, Bool.false_eq_true, if_false] at hrun
    rw [(HST.out .busy (some .ret)).2.2.2.1 .done] at hrun
    exact ⟨_, _, hrun, .inr ⟨rfl, pre, x, _, X, r, _, rfl, HX.out, HLX.out, h4⟩⟩
  ·rw [hlx] at CL
   have HLX := Lib.hid hlx
   clear hlx
   obtain ⟨i0, hi, hz0, hz1, hz2⟩ := info_parts info37
   gi_wp2_with (first
    | (refine ⟨trivial, rfl, ?_⟩; gi_at_call 9; refine (CallsIn.inRound _ (callsIn_wide.2 CL.out)).mono ?_; rintro e W4 ⟨hb4, A', c', Y, rfl, hY2, hA, hsp, hsl, hxx⟩; have hR4 := HR3.out.on hb4; have hYa := hxx a rfl; subst hYa; obtain ⟨v', W5, hrun, hrow5, row, hg, hgr⟩ := append_slots (base := w.heap.size + 10) (by have := hR4.lt 9 (by decide); omega) (ownsRow_below HROW3.out hb4) hsl (fun h => by obtain ⟨h1, h2⟩ := hA h; rw [h1]; exact ⟨rfl, h2⟩) (by have := HXL.out; have := HPL.out; have := HSS.out; omega); have c3 : W4.cell? ⟨w.heap.size + 1 + 1 + 1, 0, none⟩ = some (.slice A0 X.length q0) := (hR4.blk 3 (by decide) rfl).cell 0; have HR5 := Lib.hid (hR4.grown hg hgr); have HRUN := Lib.hid hrun; obtain ⟨A1, q1, rfl, _⟩ := own_form_any hrow5; have HROW5 := Lib.hid hrow5; have c5 : W5.cell? ⟨w.heap.size + 1 + 1 + 1, 0, none⟩ = some (.slice A0 X.length q0) := (HR5.out.blk 3 (by decide) rfl).cell 0; have f5 : W5.frozen? ⟨w.heap.size + 1 + 1 + 1, 0, none⟩ = false := (HR5.out.blk 3 (by decide) rfl).frozen 0; clear hb4 hY2 hA hsp hsl hxx hR4 hrun hrow5 hg hgr)
    | (gi_at_builtin; refine wpListIn_append_run rfl (.tmp 23) (.tmp 24) 22 rfl rfl _ _ _ _ rfl rfl HRUN.out ?_))
   have h1 : RJ w _ (W5.setCell ⟨w.heap.size + 1 + 1 + 1, 0, none⟩ (.slice A1 (X.length + Y.length) q1)) := HR5.out.setc 3 (by decide) rfl _
   rw [upd3] at h1
   have hrow6 : (W5.setCell ⟨w.heap.size + 1 + 1 + 1, 0, none⟩ (.slice A1 (X.length + Y.length) q1)).ownsRow (w.heap.size + 10) inT 5 (.slice A1 (X.length + Y.length) q1) (X.length + Y.length) (rowC X ++ rowC Y) := ownsRow_keeps HROW5.out ((Keeps.refl (fun k => k = w.heap.size + 1 + 1 + 1) W5).setCell (p := ⟨w.heap.size + 1 + 1 + 1, 0, none⟩) (.inl rfl) _) (fun b e => by subst e; omega)
   rw [← rowC_app, ← List.length_append] at hrow6
   have hrun := run_endRound (P := Tryz.prog) none (h1.at_ 9 (by decide))
   have h4 := h1.puto 9 (by decide) (.loop { rec .busy none with state := .ready, pending := none })
   rw [upd9, (HST.out .busy none).2.2.2.1 .ready] at h4
   simp only [Option.isNone_none, if_true] at hrun
   rw [(HST.out .busy none).2.2.2.1 .ready] at hrun
   have hl1 : (((pre ++ [x]).length : Nat) : Int) = (pre.length : Int) + 1 := by rw [List.length_append]; rfl
   exact ⟨_, _, hrun, .inl ⟨rfl, .slice A1 (X.length + Y.length) q1, X ++ Y, readAll_snoc HX.out HLX.out, by rw [hl1]; exact h4, rowAt.puto (by rw [← List.length_append]; exact hrow6) (by omega), HRR.out⟩⟩
 case fin =>
  subst hl9 hB5
  have HS1 := Lib.hid hsz
  clear hsz e1
  rintro e W2 ⟨⟨u, rfl⟩, (⟨r, v, X, hX, hR, hrow, hr⟩ | ⟨pre, ⟨post, hpre⟩, good, bad, v, X, r, k, rfl, hg, hb, hR⟩)⟩
  ·have hrun := run_endLoop (P := Tryz.prog) (hR.at_ 9 (by decide)) (by rw [(HST.out .ready none).1]; decide)
   rw [(HST.out .ready none).2.2.2.2 .exhausted, (HST.out .ready none).2.1] at hrun
   refine ⟨none, _, hrun, ?_⟩
   have hR4 := hR.puto 9 (by decide) (.loop (rec .exhausted none))
   have hrow4 : rowAt (W2.putObj (w.heap.size + 9) (.loop (rec .exhausted none))) (w.heap.size + 10) v X := hrow.puto (by omega)
   rw [upd9] at hR4
   clear hrun hR hrow
   dsimp only
   generalize W2.putObj (w.heap.size + 9) (.loop (rec .exhausted none)) = W4 at *
   obtain ⟨A0, q0, rfl, _⟩ := own_form_any hrow4
   have HR4 := Lib.hid hR4
   have HROW := Lib.hid hrow4
   have HX := Lib.hid hX
   have c3 : W4.cell? ⟨w.heap.size + 1 + 1 + 1, 0, none⟩ = some (.slice A0 X.length q0) := (hR4.blk 3 (by decide) rfl).cell 0
   have d0 : W4.cell? ⟨w.heap.size, 0, none⟩ = some nilV := (hR4.blk 0 (by decide) rfl).cell 0
   have g0 : W4.frozen? ⟨w.heap.size, 0, none⟩ = false := (hR4.blk 0 (by decide) rfl).frozen 0
   have d1 : W4.cell? ⟨w.heap.size + 1, 0, none⟩ = some (.int .i64 0) := (hR4.blk 1 (by decide) rfl).cell 0
   have g1 : W4.frozen? ⟨w.heap.size + 1, 0, none⟩ = false := (hR4.blk 1 (by decide) rfl).frozen 0
   have d2 : W4.cell? ⟨w.heap.size + 1 + 1, 0, none⟩ = some (.int .i64 0) := (hR4.blk 2 (by decide) rfl).cell 0
   have g2 : W4.frozen? ⟨w.heap.size + 1 + 1, 0, none⟩ = false := (hR4.blk 2 (by decide) rfl).frozen 0
   clear hR4 hrow4 hX hr hT hs hrec
   gi_wp2
   have h0 : RJ w _ (W4.setCell ⟨w.heap.size, 0, none⟩ (.slice A0 X.length q0)) := HR4.out.setc 0 (by decide) rfl _
   rw [upd0] at h0
   have h1 : RJ w _ ((W4.setCell ⟨w.heap.size, 0, none⟩ (.slice A0 X.length q0)).setCell ⟨w.heap.size + 1, 0, none⟩ (.int .i64 0)) := h0.setc 1 (by decide) rfl _
   rw [upd1] at h1
   have hR5 : RJ w _ (((W4.setCell ⟨w.heap.size, 0, none⟩ (.slice A0 X.length q0)).setCell ⟨w.heap.size + 1, 0, none⟩ (.int .i64 0)).setCell ⟨w.heap.size + 1 + 1, 0, none⟩ (.int .i64 0)) := h1.setc 2 (by decide) rfl _
   rw [upd2] at hR5
   have hrow5 : rowAt (((W4.setCell ⟨w.heap.size, 0, none⟩ (.slice A0 X.length q0)).setCell ⟨w.heap.size + 1, 0, none⟩ (.int .i64 0)).setCell ⟨w.heap.size + 1 + 1, 0, none⟩ (.int .i64 0)) (w.heap.size + 10) (.slice A0 X.length q0) X := rowAt.set (rowAt.set (rowAt.set HROW.out (by show w.heap.size < _; omega)) (by show w.heap.size + 1 < _; omega)) (by show w.heap.size + 1 + 1 < _; omega)
   generalize ((W4.setCell ⟨w.heap.size, 0, none⟩ (.slice A0 X.length q0)).setCell ⟨w.heap.size + 1, 0, none⟩ (.int .i64 0)).setCell ⟨w.heap.size + 1 + 1, 0, none⟩ (.int .i64 0) = W5 at *
   have hK := hR5.at_ 8 (by decide)
   have hR6 := hR5.puto 8 (by decide) (.deferred none)
   have b0 : (W5.putObj (w.heap.size + 8) (.deferred none)).cell? ⟨w.heap.size, 0, none⟩ = some (.slice A0 X.length q0) := (hR6.blk 0 (by decide) (show upd _ 8 _ 0 = .cells #[(.slice A0 X.length q0)] slT from rfl)).cell 0
   have b1 : (W5.putObj (w.heap.size + 8) (.deferred none)).cell? ⟨w.heap.size + 1, 0, none⟩ = some (.int .i64 0) := (hR6.blk 1 (by decide) (show upd _ 8 _ 1 = .cells #[(.int .i64 0)] intT from rfl)).cell 0
   have b2 : (W5.putObj (w.heap.size + 8) (.deferred none)).cell? ⟨w.heap.size + 1 + 1, 0, none⟩ = some (.int .i64 0) := (hR6.blk 2 (by decide) (show upd _ 8 _ 2 = .cells #[(.int .i64 0)] errT from rfl)).cell 0
   rw [HS1.out]
   refine ⟨by simp, .inl ⟨_, _, rfl, run_takeDeferred hK, ?_⟩⟩
   refine ⟨.tuple #[(.slice A0 X.length q0), (.int .i64 0), (.int .i64 0)], ?_, hR6.below, ?_⟩
   ·simp [results, Tryz.f4, go_sem, b0, b1, b2]
   ·rw [HX.out]
    exact ⟨_, rfl, ownsRow_base (rowAt.puto hrow5 (by omega)) (by omega)⟩
  ·have hrun := run_endLoop (P := Tryz.prog) (hR.at_ 9 (by decide)) (by rw [(HST.out .done (some .ret)).1]; decide)
   rw [(HST.out .done (some .ret)).2.2.2.2 .exhausted, (HST.out .done (some .ret)).2.1] at hrun
   refine ⟨some .ret, _, hrun, ?_⟩
   have hR4 := hR.puto 9 (by decide) (.loop (rec .exhausted (some .ret)))
   rw [upd9] at hR4
   clear hrun hR
   dsimp only
   generalize W2.putObj (w.heap.size + 9) (.loop (rec .exhausted (some .ret))) = W4 at *
   have HR4 := Lib.hid hR4
   clear hR4 hT hs hrec
   gi_wp2
   obtain ⟨hn, hbd⟩ := readAll_stop (r := post) hg hb
   rw [show good ++ bad :: post = linesOf s by rw [← hpre, List.append_assoc]; rfl] at hn hbd
   have hR5 := HR4.out
   generalize W4 = W5 at *
   have hK := hR5.at_ 8 (by decide)
   have hR6 := hR5.puto 8 (by decide) (.deferred none)
   have b0 : (W5.putObj (w.heap.size + 8) (.deferred none)).cell? ⟨w.heap.size, 0, none⟩ = some nilV := (hR6.blk 0 (by decide) (show upd _ 8 _ 0 = .cells #[nilV] slT from rfl)).cell 0
   have b1 : (W5.putObj (w.heap.size + 8) (.deferred none)).cell? ⟨w.heap.size + 1, 0, none⟩ = some (.int .i64 ((good.length : Int) + 1)) := (hR6.blk 1 (by decide) (show upd _ 8 _ 1 = .cells #[(.int .i64 ((good.length : Int) + 1))] intT from rfl)).cell 0
   have b2 : (W5.putObj (w.heap.size + 8) (.deferred none)).cell? ⟨w.heap.size + 1 + 1, 0, none⟩ = some (.int .i64 31) := (hR6.blk 2 (by decide) (show upd _ 8 _ 2 = .cells #[(.int .i64 31)] errT from rfl)).cell 0
   rw [HS1.out]
   refine ⟨by simp, .inl ⟨_, _, rfl, run_takeDeferred hK, ?_⟩⟩
   refine ⟨.tuple #[nilV, (.int .i64 ((good.length : Int) + 1)), (.int .i64 31)], ?_, hR6.below, ?_⟩
   ·simp [results, Tryz.f4, go_sem, b0, b1, b2]
   ·rw [hn, hbd]
    exact rfl
end Go.Proofs.YtemiklbkfogjeaaGreatDoor
