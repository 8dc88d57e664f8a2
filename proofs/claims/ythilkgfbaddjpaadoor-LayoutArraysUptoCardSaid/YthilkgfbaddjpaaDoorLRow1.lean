/-
  Layer 7: the law LayoutArrays, walked.
-/
import Derived.Test.YthilkgfbaddjpaaDoorLRow0
import Derived.Test.YthilkgfbaddjpaaDoorLApp
import Derived.Test.YthilkgfbaddjpaaDoorLStrip3
namespace Go.Proofs.YthilkgfbaddjpaaDoor
open Go Go.RowKit
set_option linter.unusedVariables false
set_option linter.unusedSimpArgs false
set_option maxRecDepth 100000
section
variable {w : World} {a : Nat → Addr} {A : Option Addr} {cl : Nat} {l : List Ty}
theorem wpList_append_runA {P : Program} {ops : Array Oper} {rest : List Oper} {o : Oper} {a : Act} {w : World} {Q : Exit → Act → World → Prop} (hgd : o.guard = none) (s x : Operand) (t : TypeId)
    (ho : o.op = .call { callee := .builtin .append, args := #[s, x], argTypes := #[t, t] }) (v xv v' : Value) (w' : World) (hs : a.eval s = v) (hx : a.eval x = xv) (ty : TypeId) (hty : o.type = ty) (hrun : (Builtin.append_ #[t, t] ty #[v, xv]).run P w = .ok v' w')
    (h : wpList P ops Q rest (a.put o.dst v') w') : wpList P ops Q (o :: rest) a w := by
  refine wpList_plain hgd fun K hK => ?_
  subst hty
  unfold Oper.wp execOp
  simp only [ho, resolve, invoke, builtin, Sem.run_bind, Sem.run_pure, Result.andThen_ok, List.map_toArray, List.map_cons, List.map_nil, hs, hx, hrun]
  exact hK _ _ h
/-- What Size answers, and what StripT answers, as the law asks them. -/
def SizeC (w : World) (A : Option Addr) (n cl : Nat) (id z c : Int) : Prop :=
  ∀ w', Below w.heap.size w w' → Calls Tryd.prog 7 #[.slice A n cl, .int .i64 id] w' fun e w'' => e = .returned (.tuple #[.int .i64 z, .int .i64 c]) ∧ Below w.heap.size w w''
set_option maxHeartbeats 2000000 in
theorem arrays_early (hE : Env w a) (n : Nat) (id count z c : Int) (hS : SizeC w A n cl id z c) (hp : IntKind.i64.wrap (z * count) = z * count ∨ c ≠ 0 ∨ count < 0 ∨ 65536 < count)
    (hb : c ≠ 0 ∨ count < 0 ∨ 65536 < count ∨ 1048576 < z * count ∨ 1000 < n) :
    Calls Tryd.prog 4 #[.slice A n cl, .int .i64 id, .int .i64 count] w fun e w' => e = .returned (.bool true) ∧ Below w.heap.size w w' := by
  have AW := Lib.hid (awake_later hE)
  have HS := Lib.hid hS
  clear hE hS
  have hways : ((c != 0) = true) ∨ ((c != 0) = false ∧ decide (count < 0) = true) ∨ ((c != 0) = false ∧ decide (count < 0) = false ∧ decide (65536 < count) = true) ∨
      ((c != 0) = false ∧ decide (count < 0) = false ∧ decide (65536 < count) = false ∧ IntKind.i64.wrap (z * count) = z * count ∧ decide (1048576 < z * count) = true) ∨
      ((c != 0) = false ∧ decide (count < 0) = false ∧ decide (65536 < count) = false ∧ IntKind.i64.wrap (z * count) = z * count ∧ decide (1048576 < z * count) = false ∧ decide (1000 < n) = true ∧ decide ((1000 : Int) < (n : Int)) = true) := by
    by_cases h1 : c = 0
    · by_cases h2 : count < 0
      · exact .inr (.inl ⟨by simp [h1], by simp [h2]⟩)
      · by_cases h3 : 65536 < count
        · exact .inr (.inr (.inl ⟨by simp [h1], by simp; omega, by simp [h3]⟩))
        · have hw : IntKind.i64.wrap (z * count) = z * count := by
            rcases hp with h | h | h | h
            · exact h
            · exact absurd h1 h
            · exact absurd h h2
            · exact absurd h h3
          by_cases h4 : 1048576 < z * count
          · exact .inr (.inr (.inr (.inl ⟨by simp [h1], by simp; omega, by simp; omega, hw, by simp [h4]⟩)))
          · refine .inr (.inr (.inr (.inr ⟨by simp [h1], by simp; omega, by simp; omega, hw, by simp; omega, ?_, ?_⟩)))
            · rcases hb with h | h | h | h | h
              · exact absurd h1 h
              · exact absurd h h2
              · exact absurd h h3
              · exact absurd h h4
              · simp [h]
            · rcases hb with h | h | h | h | h
              · exact absurd h1 h
              · exact absurd h h2
              · exact absurd h h3
              · exact absurd h h4
              · simp; omega
    · exact .inl (by simp [h1])
  clear hp hb
  rcases hways with h1 | ⟨h1, h2⟩ | ⟨h1, h2, h3⟩ | ⟨h1, h2, h3, hw, h4⟩ | ⟨h1, h2, h3, hw, h4, h5, h6⟩
  all_goals (
    go_enter Tryd.func4, Tryd.ntmps4
    go_wp2_with (first
      | (go_at_call 7; refine (HS.out _ (Below.refl _ _)).mono ?_; rintro e w1 ⟨rfl, hb⟩; have B1 := Lib.hid hb; clear hb)
      | (go_at_call 6; refine (AW.out _ B1.out).mono ?_; rintro e w2 ⟨rfl, hb⟩; have B2 := Lib.hid hb; clear hb))
    go_ret
    exact ⟨rfl, B2.out⟩)
theorem newT_lit (id count : Int) (n : Nat) : (newT id count n).toArray = #[.int .i64 3, .string ⟨#[]⟩, .int .i64 0, .int .i64 id, .int .i64 count, .slice none 0 0, .int .i64 8, .string ⟨#[116]⟩, .int .i64 0, .int .i64 ((n : Int) + 1), .int .i64 0, .slice none 0 0, .int .i64 2, .string ⟨#[]⟩, .int .i64 0, .int .i64 ((n : Int) + 2), .int .i64 0, .slice none 0 0] := rfl
set_option maxHeartbeats 1000000 in
theorem arrays_main (hE : Env w a) (hT : TysAt w A l) (hl : l.length ≤ 1000) (hnil : A = none → l.length = 0 ∧ cl = 0) (id count z : Int) (h0 : 0 ≤ count) (h1 : count ≤ 65536) (hz : 0 ≤ z * count) (hz1 : z * count ≤ 1048576) (hS : SizeC w A l.length cl id z 0)
    (hX : ∀ (W : World) (A2 : Option Addr) (c2 : Nat), Env W a → TysAt W A2 (extL l id count) →
      SizeC W A2 (extL l id count).length c2 ((l.length : Int) + 1) (z * count) 0 ∧ SizeC W A2 (extL l id count).length c2 ((l.length : Int) + 2) (z * count) 0 ∧ SizeC W A2 (extL l id count).length c2 ((l.length : Int) + 3) 8 0 ∧
      (∀ w', Below W.heap.size W w' → Calls Tryd.prog 8 #[.slice A2 (extL l id count).length c2, .int .i64 ((l.length : Int) + 2)] w' fun e w'' => e = .returned (.tuple #[.int .i64 ((l.length : Int) + 1), .int .i64 0]) ∧ Below W.heap.size W w'')) :
    Calls Tryd.prog 4 #[.slice A l.length cl, .int .i64 id, .int .i64 count] w fun e w' => e = .returned (.bool true) ∧ Below w.heap.size w w' := by
  have AW := Lib.hid (awake_later hE)
  have HS := Lib.hid hS
  have HE := Lib.hid hE
  have HT := Lib.hid hT
  have HL := Lib.hid hl
  have HX := Lib.hid hX
  have HNIL := Lib.hid hnil
  have g1 : decide (count < 0) = false := by simp; omega
  have g2 : decide (65536 < count) = false := by simp; omega
  have g3 : decide (1048576 < z * count) = false := by simp; omega
  have g4 : decide (1000 < l.length) = false := by simp; omega
  have g5 : decide ((1000 : Int) < (l.length : Int)) = false := by simp; omega
  have hw : IntKind.i64.wrap (z * count) = z * count := IntWalk.i64_in _ (by omega)
  have e1 : IntKind.i64.wrap ((l.length : Int) + 1) = (l.length : Int) + 1 := IntWalk.i64_in _ (by omega)
  have e2 : IntKind.i64.wrap ((l.length : Int) + 2) = (l.length : Int) + 2 := IntWalk.i64_in _ (by omega)
  have e3 : IntKind.i64.wrap ((l.length : Int) + 3) = (l.length : Int) + 3 := IntWalk.i64_in _ (by omega)
  clear hE hS hT hl hX hnil h0 h1 hz hz1
  go_enter Tryd.func4, Tryd.ntmps4
  go_upto_region 4 with (go_at_call 7; refine (HS.out _ (Below.refl _ _)).mono ?_; rintro e w1 ⟨rfl, hb⟩; have B1 := Lib.hid hb; clear hb)
  obtain ⟨Y, v1, w2, y6, y1, yt, hr, ho, hb⟩ := copied (HT.out.below B1.out) HNIL.out HL.out
  obtain ⟨A2, c2, w3, hr2, hT3, hb3⟩ := extended id count y6 yt ho hb HL.out
  rw [newT_lit] at hr2
  have HR := Lib.hid hr
  have HR2 := Lib.hid hr2
  have B3 := Lib.hid (B1.out.trans (hb3.mono B1.out.size))
  obtain ⟨s1, s2, s3, s4⟩ := HX.out w3 A2 c2 (HE.out.below B3.out) hT3
  have S1 := Lib.hid s1
  have S2 := Lib.hid s2
  have S3 := Lib.hid s3
  have S4 := Lib.hid s4
  clear y6 y1 yt hr ho hb hr2 hT3 hb3 s1 s2 s3 s4
  go_upto_region 5 with (first
    | (at_builtin; refine wpList_append_runA rfl (.const (.slice none 0 0)) (.tmp 46) 22 rfl (.slice none 0 0) (.slice A l.length cl) v1 w2 rfl rfl 22 rfl HR.out ?_)
    | (at_builtin; refine wpList_append_runA rfl (.tmp 47) (.tmp 59) 22 rfl v1 (.slice (some ⟨w2.heap.size, 0, none⟩) 3 3) (.slice A2 (extL l id count).length c2) w3 rfl rfl 22 rfl HR2.out ?_))
  clear HR HR2 HX HT HS HNIL B1
  go_upto_region 6 with (go_at_call 7; refine (S1.out _ (Below.refl _ _)).mono ?_; rintro e w4 ⟨rfl, hb⟩; have B4 := Lib.hid hb; clear hb)
  go_upto_region 7 with (go_at_call 7; refine (S2.out _ B4.out).mono ?_; rintro e w5 ⟨rfl, hb⟩; have B5 := Lib.hid hb; clear hb)
  go_upto_region 8 with (go_at_call 7; refine (S3.out _ B5.out).mono ?_; rintro e w6 ⟨rfl, hb⟩; have B6 := Lib.hid hb; clear hb)
  go_upto_region 9 with (go_at_call 8; refine (S4.out _ B6.out).mono ?_; rintro e w7 ⟨rfl, hb⟩; have B7 := Lib.hid (B3.out.trans (hb.mono B3.out.size)); clear hb)
  clear S1 S2 S3 S4 B4 B5 B6
  go_wp2_with (go_at_call 6; refine (AW.out _ B7.out).mono ?_; rintro e w8 ⟨rfl, hb⟩; have B8 := Lib.hid hb; clear hb)
  go_ret
  exact ⟨rfl, B8.out⟩
theorem arrays_walk (hE : Env w a) (hT : TysAt w A l) (hn : l.length ≤ 9223372036854775807) (hoff : ∀ t ∈ l, ∀ m ∈ t.mems, m.off ≤ 9223372036854775807) (hb : bulkT l ≤ 1048576) (hnil : A = none → l.length = 0 ∧ cl = 0) (hlc : l.length ≤ cl) (hcl : cl ≤ 9223372036854775807) (id count : Int)
    (hi : -9223372036854775808 ≤ id ∧ id ≤ 9223372036854775807) (hcnt : -9223372036854775808 ≤ count ∧ count ≤ 9223372036854775807) :
    Calls Tryd.prog 4 #[.slice A l.length cl, .int .i64 id, .int .i64 count] w fun e w' => e = .returned (.bool true) ∧ Below w.heap.size w w' := by
  have hH : l.length ≤ 1024 → Held l := fun _ => held_of_bulk hoff hb
  by_cases hG : Good l
  · have hS : SizeC w A l.length cl id (sizeR l id).1 (sizeR l id).2 := fun w' hb => (Size_good (hE.below hb) (hT.below hb) hn hH hG id).mono fun e w'' h => ⟨h.1, hb.trans (h.2.mono hb.size)⟩
    by_cases hc : (sizeR l id).2 = 0
    · have hid : 1 ≤ id ∧ id ≤ l.length ∧ sizeR l id = (((szL l).getD id.toNat (0, 0)).1, 0) := by
        unfold sizeR at hc ⊢
        cases hq : hasB id l.length
        · rw [hq, if_neg (by simp)] at hc; simp at hc
        · rw [hq, if_pos rfl] at hc
          rw [if_pos rfl]
          obtain ⟨p0, p1⟩ := has_nat hq (by omega)
          have h1 : 1 ≤ id := by
            rcases Int.lt_or_le 0 id with h | h
            · omega
            · obtain rfl : id = 0 := by omega
              rw [show (szL l).getD (0 : Int).toNat (0, 0) = (0, 5) by rw [Int.toNat_zero, List.getD_eq_getElem?_getD, hG.zero]; rfl] at hc
              simp at hc
          refine ⟨h1, p1, ?_⟩
          rw [if_pos (hG.code0 (by omega))]
      obtain ⟨i1, i2, hz⟩ := hid
      obtain ⟨z, hzz⟩ : ∃ z, ((szL l).getD id.toNat (0, 0)).1 = z := ⟨_, rfl⟩
      have hf := sz_fair hG id.toNat
      rw [hzz] at hz hf
      rw [hz] at hS
      by_cases c0 : count < 0
      · exact arrays_early hE _ id count z 0 hS (.inr (.inr (.inl c0))) (.inr (.inl c0))
      · by_cases c1 : 65536 < count
        · exact arrays_early hE _ id count z 0 hS (.inr (.inr (.inr c1))) (.inr (.inr (.inl c1)))
        · have hz0 : 0 ≤ z * count := Int.mul_nonneg hf.1 (by omega)
          have hz2 : z * count ≤ 1048576 * 65536 := Int.mul_le_mul hf.2 (by omega) (by omega) (by omega)
          have hw : IntKind.i64.wrap (z * count) = z * count := IntWalk.i64_in _ (by omega)
          by_cases c2 : 1048576 < z * count
          · exact arrays_early hE _ id count z 0 hS (.inl hw) (.inr (.inr (.inr (.inl c2))))
          · by_cases c3 : 1000 < l.length
            · exact arrays_early hE _ id count z 0 hS (.inl hw) (.inr (.inr (.inr (.inr c3))))
            · have hp : ((szL l).getD id.toNat (0, 0)).1 * count ≤ 1048576 := by rw [hzz]; omega
              have hF := ext_fine hG (by omega) i1 i2 (by omega : 0 ≤ count) (by omega)
              have hM := ext_good hG (by omega) i1 i2 (by omega : 0 ≤ count) (by omega) hp
              have hHM := ext_held (id := id) (count := count) hoff hb
              have hlen : (extL l id count).length = l.length + 3 := ext_len
              have has : ∀ k : Nat, k ≤ l.length + 3 → hasB (k : Int) (extL l id count).length = true := fun k hk => by rw [hlen]; unfold hasB leadsB; simp; omega
              have size : ∀ (W : World) (A2 : Option Addr) (c2 : Nat), Env W a → TysAt W A2 (extL l id count) → ∀ k : Nat, 1 ≤ k → k ≤ l.length + 3 → ∀ y, ((szL (extL l id count)).getD k (0, 0)).1 = y → SizeC W A2 (extL l id count).length c2 (k : Int) y 0 := fun W A2 c2 hE hT k k1 k2 y hy w' hb => by
                refine (Size_good (cl := c2) (hE.below hb) (hT.below hb) (by omega) (fun _ => hHM) hM (k : Int)).mono fun e w'' h => ⟨?_, hb.trans (h.2.mono hb.size)⟩
                rw [h.1]
                unfold sizeR
                rw [if_pos (has k k2), Int.toNat_natCast, if_pos (hM.code0 k1), hy]
              refine arrays_main hE hT (by omega) hnil id count z (by omega) (by omega) hz0 (by omega) hS fun W A2 c2 hE hT => ?_
              have s1 : ((szL (extL l id count)).getD (l.length + 1) (0, 0)).1 = z * count := by rw [ext_size1 hG hF i1 i2 (by omega) hp, hzz]
              refine ⟨size W A2 c2 hE hT (l.length + 1) (by omega) (by omega) _ s1, size W A2 c2 hE hT (l.length + 2) (by omega) (by omega) _ (by rw [ext_size2 hF]; exact s1), size W A2 c2 hE hT (l.length + 3) (by omega) (by omega) _ (by rw [ext_size3 hF]), fun w' hb => ?_⟩
              refine (Strip_good (cl := c2) (hE.below hb) (hT.below hb) (by omega) (fun _ => hHM) hM ((l.length + 2 : Nat) : Int)).mono fun e w'' h => ⟨?_, hb.trans (h.2.mono hb.size)⟩
              rw [h.1]
              unfold stripR
              rw [if_pos (has (l.length + 2) (by omega)), Int.toNat_natCast, ext_strip]
              rfl
    · exact arrays_early hE _ id count _ _ hS (.inr (.inl hc)) (.inl hc)
  · exact arrays_early hE _ id count 0 41 (fun w' hb => (Size_bad (hE.below hb) (hT.below hb) hn hH hG id).mono fun e w'' h => ⟨h.1, hb.trans (h.2.mono hb.size)⟩) (.inr (.inl (by decide))) (.inl (by decide))
end
end Go.Proofs.YthilkgfbaddjpaaDoor
