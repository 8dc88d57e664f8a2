/-
  Layer 6, the reference's Parse, walked.
-/
import Derived.Test.YtmfdojmecpdikaaCParse0
import Derived.Test.YtmfdojmecpdikaaCOneAll
import Derived.Test.YtmfdojmecpdikaaCWApp
import Derived.Test.YtmfdojmecpdikaaBParse2
import Derived.Outline
namespace Go.Proofs.Ytmfdojmecpdikaa
open Go Go.RowKit Go.Maps
set_option linter.unusedVariables false
set_option linter.unusedSimpArgs false
set_option maxRecDepth 100000
def headNums (s : List UInt8) : List Int := [num4 (s.drop 8), num4 (s.drop 12), num4 (s.drop 16), num4 (s.drop 20)]
def intC (l : List Int) : List Value := l.map fun n => .int .i64 n
theorem intC_snoc (l : List Int) (n : Int) : intC (l ++ [n]) = intC l ++ [.int .i64 n] := by simp [intC]
theorem headNums_get (s : List UInt8) (k : Nat) (hk : k < 4) : (headNums s)[k]? = some (num4 (s.drop (8 + 4 * k))) := by
  unfold headNums
  match k, hk with
  | 0, _ => rfl
  | 1, _ => rfl
  | 2, _ => rfl
  | 3, _ => rfl
theorem headNums_take (s : List UInt8) (k : Nat) (hk : k < 4) : (headNums s).take (k + 1) = (headNums s).take k ++ [num4 (s.drop (8 + 4 * k))] := by
  rw [List.take_add_one, headNums_get s k hk]; rfl
theorem cut_head (s : List UInt8) (k : Nat) : (bstr s).extract (8 + 4 * k) (12 + 4 * k) = (bstr (s.drop (8 + 4 * k))).extract 0 4 := by
  rw [bstr_cut, bstr_cut, List.drop_zero]
  congr 2
  omega
def PostQP (w : World) (s : List UInt8) (e : Ending) (w' : World) : Prop :=
  Below w.heap.size w w' ∧ ((∃ l A c, qparseF s = some l ∧ e = .returned (.tuple #[.slice A l.length c, .int .i64 0]) ∧ TysAt w' A l) ∨ (qparseF s = none ∧ e = .returned (.tuple #[.slice none 0 0, .int .i64 40])))
theorem take8_eq (s : List UInt8) : (((bstr s).extract 0 8).toList == [159, 235, 1, 0, 24, 0, 0, 0]) = (s.take 8 == opening) := by
  rw [bstr_cut, ByteArray.toList_eq, bstr_data]; rfl
theorem openB_24 (s : List UInt8) (h : ¬ 24 ≤ s.length) : openB s = false := by unfold openB; rw [decide_eq_false h]; rfl
theorem openB_eq (s : List UInt8) (h : 24 ≤ s.length) : openB s = ((s.take 8 == opening) && (liesIn (s.drop 24) (num4 (s.drop 8)) (num4 (s.drop 12)) && (liesIn (s.drop 24) (num4 (s.drop 16)) (num4 (s.drop 20)) && headZero (partOf (s.drop 24) (num4 (s.drop 16)) (num4 (s.drop 20)))))) := by
  unfold openB; rw [decide_eq_true h, Bool.true_and, Bool.and_assoc, Bool.and_assoc]
def RndQ (w wr : World) (s : List UInt8) (g : Nat) (v : Value) : Prop := ∃ (rk : RS) (ps : List (Ty × Value)), PM wr g rk ∧ Row6 wr w.heap.size v ps ∧ PGQ s rk (ps.map Prod.fst) ∧ Below w.heap.size w wr
def sliceLen (v : Value) : Nat := match v with | .slice _ n _ => n | _ => 0
theorem below_drewN (B : Nat) (w : World) (n : Nat) : Below B w (w.drewN n) := ⟨rfl, rfl, rfl, Nat.le_refl _, fun _ _ => rfl⟩
theorem qparse_no (s : List UInt8) (h : openB s = false) : qparseF s = none := by unfold qparseF; rw [h]; rfl
set_option maxHeartbeats 4000000 in
theorem qparse_any (s : List UInt8) (hs : s.length ≤ 4611686018427387904) (w : World) :
    Calls Try.prog 19 #[.string (bstr s)] w (PostQP w s) := by
  have hsz := bstr_size s
  by_cases h24 : 24 ≤ s.length
  · have hob := openB_eq s h24
    have ht8 := take8_eq s
    have hcut : ∀ k : Nat, (bstr s).extract (8 + 4 * k) (12 + 4 * k) = (bstr (s.drop (8 + 4 * k))).extract 0 4 := cut_head s
    have hin : (bstr s).extract 24 (bstr s).size = bstr (s.drop 24) := by rw [hsz]; exact bstr_drop s 24 h24
    have S1 : (24 : Int) ≤ ((bstr s).size : Int) := by rw [hsz]; omega
    have S2 : ((bstr s).size : Int) ≤ 4611686018427387904 := by rw [hsz]; omega
    generalize bstr s = S at *
    obtain ⟨m8, hm8⟩ : ∃ m8, (s.take 8 == opening) = m8 := ⟨_, rfl⟩
    rw [hm8] at hob ht8
    have HCUT := Lib.hid hcut
    have HSZ := Lib.hid hsz
    have HLEN := Lib.hid h24
    clear hcut hsz hm8 hs h24
    cases m8
    · have HN := Lib.hid (qparse_no s (by rw [hob]; rfl))
      clear hob hin
      go_enter Try.func19, Try.ntmps19
      go_wp2_with fail
      go_ret2
      exact ⟨Below.refl _ _, .inr ⟨HN.out, rfl⟩⟩
    · rw [Bool.true_and] at hob
      have HOB := Lib.hid hob
      have HIN := Lib.hid hin
      have O0 : Hid (w.ownsRow w.heap.size 3 1 (.slice none 0 0) 0 (intC ((headNums s).take 0))) := World.ownsRow_nil _ _ _ _
      obtain ⟨i0, hi, hz0, hz1, hz2⟩ := info_parts infoI
      have HI := Lib.hid (And.intro hi (And.intro hz0 (And.intro hz1 hz2)))
      clear hi hz0 hz1 hz2 hob hin
      go_enter Try.func19, Try.ntmps19
      go_upto_region 5 with fail
      clear ht8
      go_loopw [4, 5] (fun v i wr => ∃ (k : Nat), k ≤ 4 ∧ i = .int .i64 k ∧ wr.ownsRow w.heap.size 3 1 v k (intC ((headNums s).take k)) ∧ Below w.heap.size w wr) (fun v i wr => 4 - (intOf i).toNat)
      case atStart => exact ⟨0, by omega, rfl, O0.out, Below.refl _ _⟩
      case round =>
        clear O0
        obtain ⟨k, hk, rfl, hown, hb⟩ := hrel
        obtain ⟨A, c, hv, hcell⟩ := own_form_any hown
        subst hv
        have OWN := Lib.hid hown
        have HB := Lib.hid hb
        have HC := Lib.hid hcell
        clear hown hb hcell
        by_cases hk4 : k < 4
        · have g1 : decide ((k : Int) < 4) = true := by simp; omega
          have hn := num4_lo (s.drop (8 + 4 * k))
          have hx := HCUT.out k
          have CF := Lib.hid (fun w => fromle_any (s.drop (8 + 4 * k)) (by have := HLEN.out; rw [List.length_drop]; omega) w)
          have HT := Lib.hid (headNums_take s k hk4)
          obtain ⟨x, hxx⟩ : ∃ x, num4 (s.drop (8 + 4 * k)) = x := ⟨_, rfl⟩
          obtain ⟨T, hT⟩ : ∃ T, s.drop (8 + 4 * k) = T := ⟨_, rfl⟩
          rw [hT] at hx CF hn HT hxx
          rw [hxx] at CF hn HT
          have j1 : IntKind.i64.wrap x = x := IntWalk.i64_in _ (by omega)
          have j2 : (8 + 4 * (k : Int)).toNat = 8 + 4 * k := by omega
          have j3 : (12 + 4 * (k : Int)).toNat = 12 + 4 * k := by omega
          have j4 : 12 + 4 * (k : Int) ≤ (S.size : Int) := by omega
          have j5 : (0 : Int) ≤ (k : Int) := by omega
          have j6 : (k : Int) ≤ 3 := by omega
          clear hxx hT
          go_wp2_with (first
            | (go_at_call 30; refine (CF.out _).mono ?_; rintro e w1 ⟨rfl, rfl⟩)
            | (at_builtin; refine wpList_append_own_at _ rfl (.tmp 21) (.tmp 32) 44 rfl w.heap.size 3 i0 _ 1 8 Try.underlying44 HI.out.1 HI.out.2.1 HI.out.2.2.1 HI.out.2.2.2 rfl (by decide) (.slice A k c) k (intC ((headNums s).take k)) rfl (OWN.out.alloc _) ⟨wr.heap.size, 0, none⟩ 1 1 [.int .i64 x] rfl rfl (new_cells wr #[.int .i64 x] 3) (fun u hu => by simp only [List.mem_singleton] at hu; subst hu; rfl) (by unfold maxLen; omega) (by omega) (by have := HB.out.size; simp; omega) ?_; intro v' w5 hown5 hgrow5 _ hat5; have B5 := Lib.hid ((HB.out.alloc HB.out.size (.cells #[.int .i64 x] 3)).grown hgrow5 (by have := HB.out.size; simp; omega) (fun b hb => (row_tag OWN.out b hb).1)); have O5 := Lib.hid hown5; clear hown5 hgrow5 hat5))
          have O6 : Hid (w5.ownsRow w.heap.size 3 1 v' (k + 1) (intC ((headNums s).take (k + 1)))) := by rw [HT.out, intC_snoc]; exact O5.out
          clear hx j1 j2 j3 j4 j5 j6
          go_roundw
          case rel => exact ⟨k + 1, by omega, by go_num, O6.out, B5.out⟩
          case measure => simp [intOf]; omega
        · have : k = 4 := by omega
          subst this
          obtain ⟨g, hA, hlt, hcc⟩ := HC.out (by omega)
          subst hA
          have hD := HIN.out
          obtain ⟨n0, e0⟩ : ∃ n0, num4 (s.drop 8) = n0 := ⟨_, rfl⟩
          obtain ⟨n1, e1⟩ : ∃ n1, num4 (s.drop 12) = n1 := ⟨_, rfl⟩
          obtain ⟨n2, e2⟩ : ∃ n2, num4 (s.drop 16) = n2 := ⟨_, rfl⟩
          obtain ⟨n3, e3⟩ : ∃ n3, num4 (s.drop 20) = n3 := ⟨_, rfl⟩
          have l0 := num4_lo (s.drop 8)
          have l1 := num4_lo (s.drop 12)
          have l2 := num4_lo (s.drop 16)
          have l3 := num4_lo (s.drop 20)
          have hnums : intC ((headNums s).take 4) = [.int .i64 n0, .int .i64 n1, .int .i64 n2, .int .i64 n3] := by rw [← e0, ← e1, ← e2, ← e3]; rfl
          rw [hnums] at hcc
          have c0 : wr.cell? ⟨g, 0, none⟩ = some (.int .i64 n0) := hcc 0 _ rfl
          have c1 : wr.cell? ⟨g, 1, none⟩ = some (.int .i64 n1) := hcc 1 _ rfl
          have c2 : wr.cell? ⟨g, 2, none⟩ = some (.int .i64 n2) := hcc 2 _ rfl
          have c3 : wr.cell? ⟨g, 3, none⟩ = some (.int .i64 n3) := hcc 3 _ rfl
          have hob := HOB.out
          rw [e0, e1, e2, e3] at hob
          rw [e0] at l0
          rw [e1] at l1
          rw [e2] at l2
          rw [e3] at l3
          have HV : Hid (openV s = ⟨partOf (s.drop 24) n0 n1, partOf (s.drop 24) n2 n3, false⟩) := by show openV s = _; unfold openV; rw [e0, e1, e2, e3]
          have hdl : (s.drop 24).length ≤ 4611686018427387904 := by rw [List.length_drop, ← HSZ.out]; omega
          obtain ⟨D, hDD⟩ : ∃ D, s.drop 24 = D := ⟨_, rfl⟩
          rw [hDD] at hob hD HV hdl
          have hds := bstr_size D
          have K1 : Hid (liesIn D n0 n1 = decide (n0 + n1 ≤ D.length)) := rfl
          have K2 : Hid (liesIn D n2 n3 = decide (n2 + n3 ≤ D.length)) := rfl
          obtain ⟨q1, hq1⟩ : ∃ q1, liesIn D n0 n1 = q1 := ⟨_, rfl⟩
          obtain ⟨q2, hq2⟩ : ∃ q2, liesIn D n2 n3 = q2 := ⟨_, rfl⟩
          obtain ⟨q3, hq3⟩ : ∃ q3, headZero (partOf D n2 n3) = q3 := ⟨_, rfl⟩
          rw [hq1, hq2, hq3] at hob
          have z1 : decide (((bstr D).size : Int) < n0 + n1) = !q1 := by rw [← hq1, K1.out, hds, Bool.eq_iff_iff]; simp
          have z2 : decide (((bstr D).size : Int) < n2 + n3) = !q2 := by rw [← hq2, K2.out, hds, Bool.eq_iff_iff]; simp
          have y1 : IntKind.i64.wrap (n0 + n1) = n0 + n1 := IntWalk.i64_in _ (by omega)
          have y2 : IntKind.i64.wrap (n2 + n3) = n2 + n3 := IntWalk.i64_in _ (by omega)
          have D2 : ((bstr D).size : Int) ≤ 4611686018427387904 := by rw [hds]; omega
          have P1 : Hid (q1 = true → (n0 + n1 : Int) ≤ ((bstr D).size : Int)) := by intro e; rw [hds]; rw [e, K1.out] at hq1; simpa using hq1
          have P2 : Hid (q2 = true → (n2 + n3 : Int) ≤ ((bstr D).size : Int)) := by intro e; rw [hds]; rw [e, K2.out] at hq2; simpa using hq2
          have X1 : Hid ((bstr D).extract n0.toNat (n0 + n1).toNat = bstr (partOf D n0 n1)) := by
            show (bstr D).extract n0.toNat (n0 + n1).toNat = _
            rw [bstr_cut]; unfold partOf; congr 2; omega
          have X2 : Hid ((bstr D).extract n2.toNat (n2 + n3).toNat = bstr (partOf D n2 n3)) := by
            show (bstr D).extract n2.toNat (n2 + n3).toNat = _
            rw [bstr_cut]; unfold partOf; congr 2; omega
          have L1 : Hid ((partOf D n0 n1).length ≤ 4294967296) := part_small D n0 n1 l1.2
          have L2 : Hid ((partOf D n2 n3).length ≤ 4294967296) := part_small D n2 n3 l3.2
          have HQ3 := Lib.hid hq3
          have HOB2 := Lib.hid hob
          have HDS := Lib.hid hds
          clear e0 e1 e2 e3 hnums hcc HC hlt hDD hq1 hq2 hq3 hds hob HOB HIN HCUT HSZ HLEN HI hdl K1 K2 OWN
          go_upto_region 9 with fail
          cases q1
          · have HN := Lib.hid (qparse_no s (by rw [HOB2.out]; rfl))
            simp only [Bool.not_false] at z1
            clear HOB2 P1 P2 X1 X2 HV HQ3 HDS z2
            go_quiet (fail)
            go_wp2_with fail
            go_ret2
            exact ⟨HB.out.trans (below_drewN _ _ _), .inr ⟨HN.out, rfl⟩⟩
          · cases q2
            · have HN := Lib.hid (qparse_no s (by rw [HOB2.out]; rfl))
              simp only [Bool.not_false, Bool.not_true] at z1 z2
              clear HOB2 P1 P2 X1 X2 HV HQ3 HDS
              go_quiet (fail)
              go_wp2_with fail
              go_ret2
              exact ⟨HB.out.trans (below_drewN _ _ _), .inr ⟨HN.out, rfl⟩⟩
            · simp only [Bool.not_false, Bool.not_true] at z1 z2
              rw [Bool.true_and, Bool.true_and] at HOB2
              have p1 := P1.out rfl
              have p2 := P2.out rfl
              have x1 := X1.out
              have x2 := X2.out
              clear P1 P2 X1 X2 HDS
              have p3 : 0 ≤ n0 + n1 := by omega
              have p4 : n0 ≤ n0 + n1 := by omega
              have p5 : 0 ≤ n2 + n3 := by omega
              have p6 : n2 ≤ n2 + n3 := by omega
              go_quiet (fail)
              go_upto_region 11 with fail
              clear z1 z2
              refine wp_region_noPanic ?_
              refine wp_region_held_drew (S := (fun W => W.cell? ⟨g, 0, none⟩ = some (.int .i64 n0) ∧ W.cell? ⟨g, 1, none⟩ = some (.int .i64 n1) ∧ W.cell? ⟨g, 2, none⟩ = some (.int .i64 n2) ∧ W.cell? ⟨g, 3, none⟩ = some (.int .i64 n3))) (by kernel_rfl) ⟨c0, c1, c2, c3⟩ (fun hHeld => ?_)
              refine wpAnyH_take (i := 0) (oi := _) (v := ?_) rfl (by kernel_rfl) (by kernel_rfl) (by kernel_rfl) (fun _ _ _ h => h) (Or.inl ⟨by kernel_rfl, ?_⟩) (by assumption) ?_
              rotate_left 1
              · intro w hSw; obtain ⟨hs0, hs1, hs2, hs3⟩ := hSw; go_simp; (try with_reducible rfl)
              try simp only [Act.put, List.getElem_toArray, List.getElem_cons_succ, List.getElem_cons_zero, List.setIfInBounds_toArray, List.set_cons_zero, List.set_cons_succ]
              refine wpAnyH_take (i := 1) (oi := _) (v := ?_) rfl (by kernel_rfl) (by kernel_rfl) (by kernel_rfl) (fun _ _ _ h => h) (Or.inl ⟨by kernel_rfl, ?_⟩) (by assumption) ?_
              rotate_left 1
              · intro w hSw; obtain ⟨hs0, hs1, hs2, hs3⟩ := hSw; go_simp; (try with_reducible rfl)
              try simp only [Act.put, List.getElem_toArray, List.getElem_cons_succ, List.getElem_cons_zero, List.setIfInBounds_toArray, List.set_cons_zero, List.set_cons_succ]
              refine wpAnyH_take (i := 2) (oi := _) (v := ?_) rfl (by kernel_rfl) (by kernel_rfl) (by kernel_rfl) (fun _ _ _ h => h) (Or.inl ⟨by kernel_rfl, ?_⟩) (by assumption) ?_
              rotate_left 1
              · intro w hSw; obtain ⟨hs0, hs1, hs2, hs3⟩ := hSw; go_simp; (try with_reducible rfl)
              try simp only [Act.put, List.getElem_toArray, List.getElem_cons_succ, List.getElem_cons_zero, List.setIfInBounds_toArray, List.set_cons_zero, List.set_cons_succ]
              refine wpAnyH_take (i := 3) (oi := _) (v := ?_) rfl (by kernel_rfl) (by kernel_rfl) (by kernel_rfl) (fun _ _ _ h => h) (Or.inl ⟨by kernel_rfl, ?_⟩) (by assumption) ?_
              rotate_left 1
              · intro w hSw; obtain ⟨hs0, hs1, hs2, hs3⟩ := hSw; go_simp; (try with_reducible rfl)
              try simp only [Act.put, List.getElem_toArray, List.getElem_cons_succ, List.getElem_cons_zero, List.setIfInBounds_toArray, List.set_cons_zero, List.set_cons_succ]
              refine wpAnyH_take (i := 4) (oi := _) (v := ?_) rfl (by kernel_rfl) (by kernel_rfl) (by kernel_rfl) (fun _ _ _ h => h) (Or.inl ⟨by kernel_rfl, ?_⟩) (by assumption) ?_
              rotate_left 1
              · intro w hSw; obtain ⟨hs0, hs1, hs2, hs3⟩ := hSw; go_simp; (try with_reducible rfl)
              try simp only [Act.put, List.getElem_toArray, List.getElem_cons_succ, List.getElem_cons_zero, List.setIfInBounds_toArray, List.set_cons_zero, List.set_cons_succ]
              refine wpAnyH_take (i := 5) (oi := _) (v := ?_) rfl (by kernel_rfl) (by kernel_rfl) (by kernel_rfl) (fun _ _ _ h => h) (Or.inl ⟨by kernel_rfl, ?_⟩) (by assumption) ?_
              rotate_left 1
              · intro w hSw; obtain ⟨hs0, hs1, hs2, hs3⟩ := hSw; go_simp; (try with_reducible rfl)
              try simp only [Act.put, List.getElem_toArray, List.getElem_cons_succ, List.getElem_cons_zero, List.setIfInBounds_toArray, List.set_cons_zero, List.set_cons_succ]
              refine wpAnyH_take (i := 6) (oi := _) (v := ?_) rfl (by kernel_rfl) (by kernel_rfl) (by kernel_rfl) (fun _ _ _ h => h) (Or.inl ⟨by kernel_rfl, ?_⟩) (by assumption) ?_
              rotate_left 1
              · intro w hSw; obtain ⟨hs0, hs1, hs2, hs3⟩ := hSw; go_simp; (try with_reducible rfl)
              try simp only [Act.put, List.getElem_toArray, List.getElem_cons_succ, List.getElem_cons_zero, List.setIfInBounds_toArray, List.set_cons_zero, List.set_cons_succ]
              refine wpAnyH_take (i := 7) (oi := _) (v := ?_) rfl (by kernel_rfl) (by kernel_rfl) (by kernel_rfl) (fun _ _ _ h => h) (Or.inl ⟨by kernel_rfl, ?_⟩) (by assumption) ?_
              rotate_left 1
              · intro w hSw; obtain ⟨hs0, hs1, hs2, hs3⟩ := hSw; go_simp; (try with_reducible rfl)
              try simp only [Act.put, List.getElem_toArray, List.getElem_cons_succ, List.getElem_cons_zero, List.setIfInBounds_toArray, List.set_cons_zero, List.set_cons_succ]
              refine wpAnyH_take (i := 8) (oi := _) (v := ?_) rfl (by kernel_rfl) (by kernel_rfl) (by kernel_rfl) (fun _ _ _ h => h) (Or.inl ⟨by kernel_rfl, ?_⟩) (by assumption) ?_
              rotate_left 1
              · intro w hSw; obtain ⟨hs0, hs1, hs2, hs3⟩ := hSw; go_simp; (try with_reducible rfl)
              try simp only [Act.put, List.getElem_toArray, List.getElem_cons_succ, List.getElem_cons_zero, List.setIfInBounds_toArray, List.set_cons_zero, List.set_cons_succ]
              refine wpAnyH_take (i := 9) (oi := _) (v := ?_) rfl (by kernel_rfl) (by kernel_rfl) (by kernel_rfl) (fun _ _ _ h => h) (Or.inl ⟨by kernel_rfl, ?_⟩) (by assumption) ?_
              rotate_left 1
              · intro w hSw; obtain ⟨hs0, hs1, hs2, hs3⟩ := hSw; go_simp; (try with_reducible rfl)
              try simp only [Act.put, List.getElem_toArray, List.getElem_cons_succ, List.getElem_cons_zero, List.setIfInBounds_toArray, List.set_cons_zero, List.set_cons_succ]
              refine wpAnyH_take (i := 10) (oi := _) (v := ?_) rfl (by kernel_rfl) (by kernel_rfl) (by kernel_rfl) (fun _ _ _ h => h) (Or.inl ⟨by kernel_rfl, ?_⟩) (by assumption) ?_
              rotate_left 1
              · intro w hSw; obtain ⟨hs0, hs1, hs2, hs3⟩ := hSw; go_simp; (try with_reducible rfl)
              try simp only [Act.put, List.getElem_toArray, List.getElem_cons_succ, List.getElem_cons_zero, List.setIfInBounds_toArray, List.set_cons_zero, List.set_cons_succ]
              refine wpAnyH_take (i := 11) (oi := _) (v := ?_) rfl (by kernel_rfl) (by kernel_rfl) (by kernel_rfl) (fun _ _ _ h => h) (Or.inl ⟨by kernel_rfl, ?_⟩) (by assumption) ?_
              rotate_left 1
              · intro w hSw; obtain ⟨hs0, hs1, hs2, hs3⟩ := hSw; go_simp; (try with_reducible rfl)
              try simp only [Act.put, List.getElem_toArray, List.getElem_cons_succ, List.getElem_cons_zero, List.setIfInBounds_toArray, List.set_cons_zero, List.set_cons_succ]
              refine wpAnyH_take (i := 12) (oi := _) (v := ?_) rfl (by kernel_rfl) (by kernel_rfl) (by kernel_rfl) (fun _ _ _ h => h) (Or.inl ⟨by kernel_rfl, ?_⟩) (by assumption) ?_
              rotate_left 1
              · intro w hSw; obtain ⟨hs0, hs1, hs2, hs3⟩ := hSw; go_simp; (try with_reducible rfl)
              try simp only [Act.put, List.getElem_toArray, List.getElem_cons_succ, List.getElem_cons_zero, List.setIfInBounds_toArray, List.set_cons_zero, List.set_cons_succ]
              refine wpAnyH_take (i := 13) (oi := _) (v := ?_) rfl (by kernel_rfl) (by kernel_rfl) (by kernel_rfl) (fun _ _ _ h => h) (Or.inl ⟨by kernel_rfl, ?_⟩) (by assumption) ?_
              rotate_left 1
              · intro w hSw; obtain ⟨hs0, hs1, hs2, hs3⟩ := hSw; go_simp; (try with_reducible rfl)
              try simp only [Act.put, List.getElem_toArray, List.getElem_cons_succ, List.getElem_cons_zero, List.setIfInBounds_toArray, List.set_cons_zero, List.set_cons_succ]
              refine wpAnyH_take (i := 14) (oi := _) (v := ?_) rfl (by kernel_rfl) (by kernel_rfl) (by kernel_rfl) (fun _ _ _ h => h) (Or.inl ⟨by kernel_rfl, ?_⟩) (by assumption) ?_
              rotate_left 1
              · intro w hSw; obtain ⟨hs0, hs1, hs2, hs3⟩ := hSw; go_simp; (try with_reducible rfl)
              try simp only [Act.put, List.getElem_toArray, List.getElem_cons_succ, List.getElem_cons_zero, List.setIfInBounds_toArray, List.set_cons_zero, List.set_cons_succ]
              refine wpAnyH_take (i := 15) (oi := _) (v := ?_) rfl (by kernel_rfl) (by kernel_rfl) (by kernel_rfl) (fun _ _ _ h => h) (Or.inl ⟨by kernel_rfl, ?_⟩) (by assumption) ?_
              rotate_left 1
              · intro w hSw; obtain ⟨hs0, hs1, hs2, hs3⟩ := hSw; go_simp; (try with_reducible rfl)
              try simp only [Act.put, List.getElem_toArray, List.getElem_cons_succ, List.getElem_cons_zero, List.setIfInBounds_toArray, List.set_cons_zero, List.set_cons_succ]
              refine wpAnyH_take (i := 16) (oi := _) (v := ?_) rfl (by kernel_rfl) (by kernel_rfl) (by kernel_rfl) (fun _ _ _ h => h) (Or.inl ⟨by kernel_rfl, ?_⟩) (by assumption) ?_
              rotate_left 1
              · intro w hSw; obtain ⟨hs0, hs1, hs2, hs3⟩ := hSw; go_simp; (try with_reducible rfl)
              try simp only [Act.put, List.getElem_toArray, List.getElem_cons_succ, List.getElem_cons_zero, List.setIfInBounds_toArray, List.set_cons_zero, List.set_cons_succ]
              refine wpAnyH_take (i := 17) (oi := _) (v := ?_) rfl (by kernel_rfl) (by kernel_rfl) (by kernel_rfl) (fun _ _ _ h => h) (Or.inl ⟨by kernel_rfl, ?_⟩) (by assumption) ?_
              rotate_left 1
              · intro w hSw; obtain ⟨hs0, hs1, hs2, hs3⟩ := hSw; go_simp; (try with_reducible rfl)
              try simp only [Act.put, List.getElem_toArray, List.getElem_cons_succ, List.getElem_cons_zero, List.setIfInBounds_toArray, List.set_cons_zero, List.set_cons_succ]
              refine wpAnyH_take (i := 18) (oi := _) (v := ?_) rfl (by kernel_rfl) (by kernel_rfl) (by kernel_rfl) (fun _ _ _ h => h) (Or.inl ⟨by kernel_rfl, ?_⟩) (by assumption) ?_
              rotate_left 1
              · intro w hSw; obtain ⟨hs0, hs1, hs2, hs3⟩ := hSw; go_simp; (try with_reducible rfl)
              try simp only [Act.put, List.getElem_toArray, List.getElem_cons_succ, List.getElem_cons_zero, List.setIfInBounds_toArray, List.set_cons_zero, List.set_cons_succ]
              refine wpAnyH_take (i := 19) (oi := _) (v := ?_) rfl (by kernel_rfl) (by kernel_rfl) (by kernel_rfl) (fun _ _ _ h => h) (Or.inl ⟨by kernel_rfl, ?_⟩) (by assumption) ?_
              rotate_left 1
              · intro w hSw; obtain ⟨hs0, hs1, hs2, hs3⟩ := hSw; go_simp; (try with_reducible rfl)
              try simp only [Act.put, List.getElem_toArray, List.getElem_cons_succ, List.getElem_cons_zero, List.setIfInBounds_toArray, List.set_cons_zero, List.set_cons_succ]
              refine wpAnyH_take (i := 20) (oi := _) (v := ?_) rfl (by kernel_rfl) (by kernel_rfl) (by kernel_rfl) (fun _ _ _ h => h) (Or.inl ⟨by kernel_rfl, ?_⟩) (by assumption) ?_
              rotate_left 1
              · intro w hSw; obtain ⟨hs0, hs1, hs2, hs3⟩ := hSw; go_simp; (try with_reducible rfl)
              try simp only [Act.put, List.getElem_toArray, List.getElem_cons_succ, List.getElem_cons_zero, List.setIfInBounds_toArray, List.set_cons_zero, List.set_cons_succ]
              refine wpAnyH_take (i := 21) (oi := _) (v := ?_) rfl (by kernel_rfl) (by kernel_rfl) (by kernel_rfl) (fun _ _ _ h => h) (Or.inl ⟨by kernel_rfl, ?_⟩) (by assumption) ?_
              rotate_left 1
              · intro w hSw; obtain ⟨hs0, hs1, hs2, hs3⟩ := hSw; go_simp; (try with_reducible rfl)
              try simp only [Act.put, List.getElem_toArray, List.getElem_cons_succ, List.getElem_cons_zero, List.setIfInBounds_toArray, List.set_cons_zero, List.set_cons_succ]
              refine wpAnyH_take (i := 22) (oi := _) (v := ?_) rfl (by kernel_rfl) (by kernel_rfl) (by kernel_rfl) (fun _ _ _ h => h) (Or.inl ⟨by kernel_rfl, ?_⟩) (by assumption) ?_
              rotate_left 1
              · intro w hSw; obtain ⟨hs0, hs1, hs2, hs3⟩ := hSw; go_simp; (try with_reducible rfl)
              try simp only [Act.put, List.getElem_toArray, List.getElem_cons_succ, List.getElem_cons_zero, List.setIfInBounds_toArray, List.set_cons_zero, List.set_cons_succ]
              refine wpAnyH_take (i := 23) (oi := _) (v := ?_) rfl (by kernel_rfl) (by kernel_rfl) (by kernel_rfl) (fun _ _ _ h => h) (Or.inl ⟨by kernel_rfl, ?_⟩) (by assumption) ?_
              rotate_left 1
              · intro w hSw; obtain ⟨hs0, hs1, hs2, hs3⟩ := hSw; go_simp; (try with_reducible rfl)
              try simp only [Act.put, List.getElem_toArray, List.getElem_cons_succ, List.getElem_cons_zero, List.setIfInBounds_toArray, List.set_cons_zero, List.set_cons_succ]
              refine wpAnyH_take (i := 24) (oi := _) (v := ?_) rfl (by kernel_rfl) (by kernel_rfl) (by kernel_rfl) (fun _ _ _ h => h) (Or.inl ⟨by kernel_rfl, ?_⟩) (by assumption) ?_
              rotate_left 1
              · intro w hSw; obtain ⟨hs0, hs1, hs2, hs3⟩ := hSw; go_simp; (try with_reducible rfl)
              try simp only [Act.put, List.getElem_toArray, List.getElem_cons_succ, List.getElem_cons_zero, List.setIfInBounds_toArray, List.set_cons_zero, List.set_cons_succ]
              refine wpAnyH_ready (rs := [25]) (by kernel_rfl) (by simp) ?_
              refine AllReadyH.cons (o := _) rfl (fun K hK => ?_) AllReadyH.nil
              go_simp
              refine hK.out _ _ ⟨(World.cell?_alloc_some _ _ _ (by simp [c0])).trans c0, (World.cell?_alloc_some _ _ _ (by simp [c1])).trans c1, (World.cell?_alloc_some _ _ _ (by simp [c2])).trans c2, (World.cell?_alloc_some _ _ _ (by simp [c3])).trans c3⟩ (fun hHeld => ?_)
              clear hK K
              try simp only [Act.put, List.getElem_toArray, List.getElem_cons_succ, List.getElem_cons_zero, List.setIfInBounds_toArray, List.set_cons_zero, List.set_cons_succ]
              refine wpAnyH_take (i := 26) (oi := _) (v := ?_) rfl (by kernel_rfl) (by kernel_rfl) (by kernel_rfl) (fun _ _ _ h => h) (Or.inl ⟨by kernel_rfl, ?_⟩) (by assumption) ?_
              rotate_left 1
              · intro w hSw; obtain ⟨hs0, hs1, hs2, hs3⟩ := hSw; go_simp; (try with_reducible rfl)
              try simp only [Act.put, List.getElem_toArray, List.getElem_cons_succ, List.getElem_cons_zero, List.setIfInBounds_toArray, List.set_cons_zero, List.set_cons_succ]
              refine wpAnyH_done (by kernel_rfl) ?_ _
              refine NoPanic.normal ?_
              clear hHeld p1 p2 p3 p4 p5 p6 x1 x2 y1 y2 l0 l1 l2 l3 S1 S2
              go_upto_region 12 with fail
              have PM6 : Hid (PM (World.alloc (wr.drewN (nq + 1)) (.cells #[.string (bstr (partOf D n0 n1)), .string (bstr (partOf D n2 n3)), .bool false] 76)) wr.heap.size (openV s)) := by
                show PM _ _ _
                rw [HV.out]
                exact ⟨by simpa using Blk.new (wr.drewN (nq + 1)) 76 #[.string (bstr (partOf D n0 n1)), .string (bstr (partOf D n2 n3)), .bool false], L1.out, L2.out⟩
              have B6 : Hid (Below w.heap.size w (World.alloc (wr.drewN (nq + 1)) (.cells #[.string (bstr (partOf D n0 n1)), .string (bstr (partOf D n2 n3)), .bool false] 76))) := Below.alloc (HB.out.trans (below_drewN _ _ (nq + 1))) (by have := HB.out.size; simpa using this) _
              have HP : Hid (w.heap.size ≤ wr.heap.size) := HB.out.size
              have c1 : (World.alloc (wr.drewN (nq + 1)) (.cells #[.string (bstr (partOf D n0 n1)), .string (bstr (partOf D n2 n3)), .bool false] 76)).cell? ⟨wr.heap.size, 1, none⟩ = some (.string (bstr (partOf D n2 n3))) := by have := (PM6.out.blk).cell 1; rw [HV.out] at this; exact this
              generalize World.alloc _ _ = w6 at PM6 B6 c1 ⊢
              generalize wr.heap.size = p at *
              clear c0 c2 c3 HB HV L1 L2
              obtain ⟨N, hN⟩ : ∃ N, partOf D n2 n3 = N := ⟨_, rfl⟩
              rw [hN] at c1 HQ3
              clear hN
              cases N with
              | nil =>
                have HN := Lib.hid (qparse_no s (by rw [HOB2.out, ← HQ3.out]; rfl))
                have e1 : (bstr []).toList.isEmpty = true := by rw [ByteArray.toList_eq, bstr_data]; rfl
                clear HQ3 HOB2
                go_wp2_with fail
                go_ret2
                exact ⟨B6.out, .inr ⟨HN.out, rfl⟩⟩
              | cons x rest =>
                have e1 : (bstr (x :: rest)).toList.isEmpty = false := by rw [ByteArray.toList_eq, bstr_data]; rfl
                have hs1 : (1 : Int) ≤ ((bstr (x :: rest)).size : Int) := by rw [bstr_size]; simp; omega
                have hx0 : 0 < (bstr (x :: rest)).size := by omega
                have hx1 : (bstr (x :: rest))[0] = x := by rw [bstr_getElem]; rfl
                generalize bstr (x :: rest) = M at *
                by_cases hx : x = 0
                · have h0 : M[0].toNat = 0 := by rw [hx1, hx]; rfl
                  have ob : openB s = true := by rw [HOB2.out, ← HQ3.out, hx]; rfl
                  have R0 : Hid (RndQ w w6 s p (.slice none 0 0)) := ⟨openV s, [], PM6.out, ⟨World.ownsRow_nil _ _ _ _, (fun p hp => (by cases hp)), (fun p hp => (by cases hp))⟩, PGQ.start ob, B6.out⟩
                  obtain ⟨i1, hi, hz0, hz1, hz2⟩ := info_parts infoT
                  have HI := Lib.hid (And.intro hi (And.intro hz0 (And.intro hz1 hz2)))
                  clear hi hz0 hz1 hz2 ob hx hx1 HQ3 HOB2 PM6 B6
                  go_upto_region 15 with fail
                  clear c1 h0 hx0 hs1 e1
                  go_loopw [8] (fun v wr => RndQ w wr s p v) (fun v wr => 1026 - sliceLen v)
                  case atStart => exact R0.out
                  case round =>
                    clear R0
                    obtain ⟨rk, ps, hpm, hrow, hpg, hb⟩ := hrel
                    obtain ⟨A, c, hv, _⟩ := own_form_any hrow.own
                    subst hv
                    have HPM := Lib.hid hpm
                    have HROW := Lib.hid hrow
                    have HPG := Lib.hid hpg
                    have HB := Lib.hid hb
                    obtain ⟨bb, hbb⟩ : ∃ bb, rk.bad = bb := ⟨_, rfl⟩
                    have c0 : wr.cell? ⟨p, 0, none⟩ = some (.string (bstr rk.ts)) := hpm.blk.cell 0
                    have c2 : wr.cell? ⟨p, 2, none⟩ = some (.bool bb) := by rw [← hbb]; exact hpm.blk.cell 2
                    have HBB := Lib.hid hbb
                    have hps : ps.length ≤ 1025 := by have := hpg.1; simpa using this
                    have HPS := Lib.hid hps
                    have hem : (bstr rk.ts).toList.isEmpty = decide (rk.ts.length = 0) := by rw [ByteArray.toList_eq, bstr_data, Bool.eq_iff_iff]; simp
                    clear hpm hrow hpg hb hbb hps
                    by_cases h0 : rk.ts.length = 0
                    · have e1 : (bstr rk.ts).toList.isEmpty = true := by rw [hem]; simpa using h0
                      have H0 := Lib.hid h0
                      clear hem h0
                      cases bb
                      · have HD := Lib.hid (HPG.out.done HBB.out H0.out)
                        go_wp2_with fail
                        go_ret2
                        obtain ⟨A2, c3, e, ht⟩ := HROW.out.tys
                        refine ⟨HB.out, .inl ⟨_, A2, c3, HD.out, ?_, ht⟩⟩
                        rw [← e]
                        rfl
                      · have HS := Lib.hid (HPG.out.stop HBB.out)
                        go_wp2_with fail
                        go_ret2
                        exact ⟨HB.out, .inr ⟨HS.out, rfl⟩⟩
                    · have e1 : (bstr rk.ts).toList.isEmpty = false := by rw [hem]; simpa using h0
                      have H0 := Lib.hid (show 0 < rk.ts.length by omega)
                      clear hem h0
                      cases bb
                      · have hlen : ps.length ≤ 1024 := by have := HPG.out.2.1 HBB.out; simpa using this
                        have HGO := Lib.hid (HPG.out.go HBB.out H0.out)
                        have HSM := Lib.hid (qone_small rk HPM.out.ns)
                        have CN := Lib.hid (pone_any HPM.out)
                        have hnn : (tyV (qone rk).1 : Value → Value) = fun mv => .agg #[.int .i64 (qone rk).1.kind, .string (qone rk).1.name, .int .i64 (qone rk).1.size, .int .i64 (qone rk).1.ty, .int .i64 (qone rk).1.count, mv] := rfl
                        have HNN := Lib.hid hnn
                        have CN2 : Hid (Calls Try.prog 31 #[.pointer (some ⟨p, 0, none⟩)] wr fun e w' => ∃ mv, e = .returned (tyV (qone rk).1 mv) ∧ PM w' p (qone rk).2 ∧ Keeps (· = p) wr w' ∧ w'.ownsRow wr.heap.size 53 3 mv (qone rk).1.mems.length (memC (qone rk).1.mems)) := CN.out
                        clear CN hnn HNN
                        unfold tyV at CN2
                        generalize (qone rk).1 = t at *
                        generalize (qone rk).2 = r1 at *
                        obtain ⟨b1, hb1⟩ : ∃ b1, r1.bad = b1 := ⟨_, rfl⟩
                        have HB1 := Lib.hid hb1
                        clear hb1
                        go_upto_region 17 with (first
                          | (go_at_call 31; refine CN2.out.mono ?_; rintro e w1 ⟨mv, rfl, hm, hk, ho⟩; obtain ⟨A', c', hmv, _⟩ := own_form_any ho; subst hmv; have HO := Lib.hid ho; have HM := Lib.hid hm; have HROW1 := Lib.hid (HROW.out.keepsP hk HPM.out.blk); have HBB1 := Lib.hid (below_keeps HB.out hk HP.out); have HWW := Lib.hid hk.size; clear hm hk ho)
                          | (at_builtin; refine wpList_append_own_at _ rfl (.tmp 109) (.tmp 112) 22 rfl w.heap.size 36 i1 _ 6 72 Try.underlying22 HI.out.1 HI.out.2.1 HI.out.2.2.1 HI.out.2.2.2 rfl (by decide) (.slice A ps.length c) ps.length (tyC ps) rfl (HROW1.out.own.alloc _) ⟨w1.heap.size, 0, none⟩ 1 1 (tyCells t (.slice A' t.mems.length c')) rfl rfl (new_cells w1 #[.int .i64 t.kind, .string t.name, .int .i64 t.size, .int .i64 t.ty, .int .i64 t.count, .slice A' t.mems.length c'] 36) (tyCells_one t A' t.mems.length c') (by unfold maxLen; omega) (by omega) (by have := HBB1.out.size; simp; omega) ?_; intro v' w5 hown5 hgrow5 _ hat5; have HO5 := Lib.hid hown5; have HG5 := Lib.hid hgrow5; obtain ⟨A5, c5, hv5, _⟩ := own_form_any hown5; subst hv5; clear hown5 hgrow5 hat5))
                        have PM5 : Hid (PM w5 p r1) := ⟨blk_grown (HM.out.blk.alloc _) HG5.out (fun b hb => (row_tag (HROW1.out.own.alloc _) b hb).2) (by decide), HM.out.ts, HM.out.ns⟩
                        have ROW5 : Hid (Row6 w5 w.heap.size _ (ps ++ [(t, .slice A' t.mems.length c')])) := (own_alloc6 HROW1.out _).snoc (World.ownsRow.alloc (ownsRow_base HO.out HB.out.size) _) HSM.out HO5.out HG5.out
                        have B5 : Hid (Below w.heap.size w w5) := (HBB1.out.alloc HBB1.out.size _).grown HG5.out (by have := HBB1.out.size; simp; omega) (fun b hb => (row_tag HROW1.out.own b hb).1)
                        have k2 : w5.cell? ⟨p, 2, none⟩ = some (.bool b1) := by rw [← HB1.out]; exact PM5.out.blk.cell 2
                        have kf : w5.frozen? ⟨p, 2, none⟩ = false := PM5.out.blk.frozen 2
                        clear HM HROW1 HBB1 HO HO5 HG5 c0 c2 e1
                        by_cases hq : ps.length + 1 ≤ 1024
                        · have g1 : decide (1024 < ps.length + 1) = false := by simp; omega
                          have g2 : decide ((1024 : Int) < (ps.length : Int) + 1) = false := by simp; omega
                          have g3 : decide (1024 ≤ ps.length) = false := by simp; omega
                          have hw1 : ∀ b, r1.bad = b → wantR r1 (decide ((ps.map Prod.fst).length + 1 ≤ 1024)) = ⟨r1.ts, r1.ns, b⟩ := by intro b e; simp [wantR, e, hq]
                          have hgo := HGO.out
                          rw [hw1 _ HB1.out] at hgo
                          have HGO2 := Lib.hid hgo
                          have HL := Lib.hid hlen
                          clear hgo hw1 hlen
                          cases b1
                          all_goals
                            go_wp2_with fail
                            go_roundw
                          all_goals first
                            | exact ⟨⟨r1.ts, r1.ns, false⟩, ps ++ [(t, .slice A' t.mems.length c')], ⟨by simpa using PM5.out.blk.set_ 2 (.bool false), PM5.out.ts, PM5.out.ns⟩, ROW5.out.keepsP (keeps_set w5 p 2 _) PM5.out.blk, by rw [List.map_append]; exact HGO2.out, B5.out.setCell HP.out _⟩
                            | exact ⟨⟨r1.ts, r1.ns, true⟩, ps ++ [(t, .slice A' t.mems.length c')], ⟨by simpa using PM5.out.blk.set_ 2 (.bool true), PM5.out.ts, PM5.out.ns⟩, ROW5.out.keepsP (keeps_set w5 p 2 _) PM5.out.blk, by rw [List.map_append]; exact HGO2.out, B5.out.setCell HP.out _⟩
                            | (have := HL.out; unfold sliceLen; simp only; omega)
                        · have g1 : decide (1024 < ps.length + 1) = true := by simp; omega
                          have g2 : decide ((1024 : Int) < (ps.length : Int) + 1) = true := by simp; omega
                          have g3 : decide (1024 ≤ ps.length) = true := by simp; omega
                          have hw : wantR r1 (decide ((ps.map Prod.fst).length + 1 ≤ 1024)) = ⟨r1.ts, r1.ns, true⟩ := by simp [wantR, hq]
                          have hgo := HGO.out
                          rw [hw] at hgo
                          have HGO2 := Lib.hid hgo
                          clear hgo hw
                          cases b1
                          all_goals
                            go_wp2_with fail
                            go_roundw
                          all_goals first
                            | exact ⟨⟨r1.ts, r1.ns, true⟩, ps ++ [(t, .slice A' t.mems.length c')], ⟨by simpa using PM5.out.blk.set_ 2 (.bool true), PM5.out.ts, PM5.out.ns⟩, ROW5.out.keepsP (keeps_set w5 p 2 _) PM5.out.blk, by rw [List.map_append]; exact HGO2.out, B5.out.setCell HP.out _⟩
                            | (unfold sliceLen; simp only; omega)
                      · have HS := Lib.hid (HPG.out.stop HBB.out)
                        go_wp2_with fail
                        go_ret2
                        exact ⟨HB.out, .inr ⟨HS.out, rfl⟩⟩
                · have hm0 : M[0].toNat ≠ 0 := fun e => hx (by rw [← hx1]; exact UInt8.toNat_inj.1 e)
                  obtain ⟨m, hm⟩ : ∃ m, M[0].toNat = m := ⟨_, rfl⟩
                  have HN := Lib.hid (qparse_no s (by rw [HOB2.out, ← HQ3.out]; simpa [headZero] using hx))
                  rw [hm] at hm0
                  have g2 : ((m : Int) == 0) = false := by simpa using hm0
                  have g3 : ((m : Int) != 0) = true := by simpa using hm0
                  clear hx hm0 HQ3 HOB2 hx1
                  go_wp2_with fail
                  go_ret2
                  exact ⟨B6.out, .inr ⟨HN.out, rfl⟩⟩
  · have g24 : ((bstr s).size : Int) < 24 := by omega
    have HF := Lib.hid (qparse_no s (openB_24 s h24))
    clear h24 hsz
    go_enter Try.func19, Try.ntmps19
    go_wp2_with fail
    go_ret2
    exact ⟨Below.refl _ _, .inr ⟨HF.out, rfl⟩⟩
end Go.Proofs.Ytmfdojmecpdikaa
