/-
  The law HashStays, walked.
-/
import Derived.Test.YtmopflcaeecgcaaP17
namespace Go.Proofs.Ytmopflcaeecgcaa
open Go Go.RowKit Go.Maps
set_option linter.unusedVariables false
set_option linter.unusedSimpArgs false
set_option maxRecDepth 100000
theorem setAt_all (a l : List UInt8) (h : l.length = a.length) : setAt a 0 l = l := by
  unfold setAt
  rw [Nat.zero_add, h]
  simp
section
variable (bm : Nat) (m : PS)
theorem k_bytes (n : Nat) (hn : n ≤ 4294967295) (q : RV) (hs : m.vs n = some q) (k : Nat) (hk : k ≤ 1048576) (hb : k ≤ q.2.1.length) :
    KCall 22 #[.pointer (some ⟨bm, 0, none⟩), .int .u64 (addr n 0), .int .i64 k] bm m m (.returned (.tuple #[.string (bstr (q.2.1.take k)), .int .i64 0])) := by
  rintro w S ⟨st, rl, mv, rv, hk', hv⟩
  obtain ⟨r, hr, rfl⟩ := st_some hv hs
  refine (bytes_ok hk' n 0 hn (by decide) k hk hr (by rw [Nat.zero_add]; exact hb)).mono ?_
  rintro e w' ⟨rfl, g, hk2, kk, _⟩
  refine ⟨by rw [List.drop_zero]; rfl, ⟨_, _, _, _, hk2, ?_⟩, kk⟩
  have := upd_v hv n (some { r with row := some g }) (q := some r.v) rfl
  rwa [updv_id (q := some r.v) hs] at this
theorem k_bytes_freed (n : Nat) (h0 : 0 < n) (hm : n ≤ m.made) (hn : n ≤ 4294967295) (hs : m.vs n = none) (k : Nat) (hk : k ≤ 1048576) :
    KCall 22 #[.pointer (some ⟨bm, 0, none⟩), .int .u64 (addr n 0), .int .i64 k] bm m m (.returned (.tuple #[.string (bstr []), .int .i64 21])) :=
  KCall.same fun w S st rl mv rv hk' hv => bytes_fault _ _ _ 21 (by omega) (by omega) w (find_freed hk' n 0 hn (by decide) k 0 h0 hm (st_none hv hs))
end
structure StaysP (p : HPar) (key value other : ByteArray) (s0 s1 s2 s3 s4 s5 : HSt) : Prop where
  o0 : HOk p s0 ∧ s0.clock < 1000000 ∧ s0.m.made < 4095
  o1 : HOk p s1 ∧ s1.clock < 1000000 ∧ s1.m.made < 4095
  o2 : HOk p s2 ∧ s2.clock < 1000000 ∧ s2.m.made < 4095
  o3 : HOk p s3 ∧ s3.clock < 1000000 ∧ s3.m.made < 4095
  o4 : HOk p s4 ∧ s4.clock < 1000000 ∧ s4.m.made < 4095
  o5 : HOk p s5
  o6 : HOk p { s5 with m := s5.m.graced } ∧ s5.clock < 1000000
  u1 : updS p s0 key value 1 = s1 ∧ updA p s0 key value 1 = 0
  l2 : lookS s1 key = s2 ∧ lookA s1 key = addr 1 0
  b2 : KCall 22 #[.pointer (some ⟨p.bm, 0, none⟩), .int .u64 (addr 1 0), .int .i64 value.size] p.bm s2.m s2.m (.returned (.tuple #[.string value, .int .i64 0]))
  u3 : updS p s2 key other 2 = s3 ∧ updA p s2 key other 2 = 0
  l4 : lookS s3 key = s4 ∧ lookA s3 key = addr 1 0
  d5 : delS p s4 key = s5 ∧ delA p s4 key = 0
  b5 : KCall 22 #[.pointer (some ⟨p.bm, 0, none⟩), .int .u64 (addr 1 0), .int .i64 value.size] p.bm s5.m s5.m (.returned (.tuple #[.string other, .int .i64 0]))
  b6 : KCall 22 #[.pointer (some ⟨p.bm, 0, none⟩), .int .u64 (addr 1 0), .int .i64 (1 : Nat)] p.bm s5.m.graced s5.m.graced (.returned (.tuple #[.string (bstr []), .int .i64 21]))
  l6 : lookS { s5 with m := s5.m.graced } key = { s5 with m := s5.m.graced } ∧ lookA { s5 with m := s5.m.graced } key = 0
theorem stays_plan (bm x : Nat) (key value other : ByteArray) (k1 : 1 ≤ key.size) (k2 : key.size ≤ 64) (v1 : 1 ≤ value.size) (v2 : value.size ≤ 64) (ho : other.size = value.size) :
    ∃ s1 s2 s3 s4 s5, StaysP ⟨bm, 0, x, 0, 1, key.size, value.size, 4⟩ key value other ⟨⟨0, 0, fun _ => none⟩, [], 0, false⟩ s1 s2 s3 s4 s5 := by
  have o0 : HOk ⟨bm, 0, x, 0, 1, key.size, value.size, 4⟩ ⟨⟨0, 0, fun _ => none⟩, [], 0, false⟩ := ⟨⟨.inl rfl, k1, by show key.size ≤ 512; omega, v1, by show value.size ≤ 4096; omega, by show 1 ≤ 4; decide, by show 4 ≤ 4096; decide⟩, Nat.zero_le _, fun i e he => by simp at he, fun i j a b ha => by simp at ha, fun h => by cases h⟩
  generalize hp : (⟨bm, 0, x, 0, 1, key.size, value.size, 4⟩ : HPar) = p at *
  have pk : p.key = key.size := by rw [← hp]
  have pv : p.v = value.size := by rw [← hp]
  have pm : p.mx = 4 := by rw [← hp]
  generalize hs0 : (⟨⟨0, 0, fun _ => none⟩, [], 0, false⟩ : HSt) = s0 at *
  have e0 : s0.es = [] := by rw [← hs0]
  have c0 : s0.clock = 0 := by rw [← hs0]
  have m0 : s0.m.made = 0 := by rw [← hs0]
  have f0 : s0.m.fail = 0 := by rw [← hs0]
  have g0 : s0.gone = false := by rw [← hs0]
  clear hp hs0
  have lv : value.data.toList.length = value.size := by rw [Array.length_toList]; rfl
  have lo : other.data.toList.length = value.size := by rw [Array.length_toList]; exact ho
  have nb : ∀ (s : HSt) (v : ByteArray) (fl : Int), s.gone = false → v.size = value.size → 0 ≤ fl → fl ≤ 2 → ¬ updBad p s key v fl := by
    rintro s v fl h1 h2 h3 h4 (h5 | h5 | h5 | h5 | h5)
    · rw [h1] at h5; cases h5
    · exact h5 pk.symm
    · exact h5 (by rw [pv]; exact h2)
    · omega
    · omega
  have fe : findE s0.es key = none := by rw [e0]; rfl
  have g1 := upd_goes o0 key value 1
  have eS1 : updS p s0 key value 1 = ((s0.alloc p.v).fresh (s0.m.made + 1) key value.data.toList p.v).use s0.es.length := by
    unfold updS
    rw [if_neg (nb s0 value 1 g0 rfl (by decide) (by decide)), fe]
    show (if (1 : Int) = 2 then s0 else if s0.es.length = p.mx ∧ p.k = 1 then s0 else if s0.m.fail = 1 then _ else _) = _
    rw [if_neg (by decide), if_neg (fun hh => by rw [e0, pm] at hh; exact absurd hh.1 (by decide)), if_neg (by rw [f0]; decide)]
    unfold HSt.insert
    rw [if_neg (by rw [e0, pm]; decide)]
  have eA1 : updA p s0 key value 1 = 0 := by
    unfold updA
    rw [if_neg (nb s0 value 1 g0 rfl (by decide) (by decide)), fe]
    show (if (1 : Int) = 2 then (4 : Int) else if s0.es.length = p.mx ∧ p.k = 1 then 3 else if s0.m.fail = 1 then 2 else 0) = 0
    rw [if_neg (by decide), if_neg (fun hh => by rw [e0, pm] at hh; exact absurd hh.1 (by decide)), if_neg (by rw [f0]; decide)]
  generalize h1 : updS p s0 key value 1 = s1 at *
  have e1 : s1.es = [⟨key, 1, 1⟩] := by rw [eS1]; show setUsed (s0.es ++ [⟨key, s0.m.made + 1, 0⟩]) s0.es.length (s0.clock + 1) = _; rw [e0, m0, c0]; rfl
  have c1 : s1.clock = 1 := by rw [eS1]; show s0.clock + 1 = 1; rw [c0]
  have m1 : s1.m.made = 1 := by rw [eS1]; show s0.m.made + 1 = 1; rw [m0]
  have n1 : s1.gone = false := by rw [eS1]; exact g0
  have v1' : s1.m.vs 1 = some (3, value.data.toList, false) := by
    rw [eS1]
    show updv _ (s0.m.made + 1) _ 1 = _
    rw [m0, updv_same, setAt_all _ _ (by rw [List.length_replicate, lv, pv])]
  clear eS1
  have fA : findE s1.es key = some 0 := by rw [e1]; exact find_cons_yes _ _ rfl
  have g2 := look_goes g1.ok key
  obtain ⟨a2, e2, c2, m2, n2⟩ := look_at fA (e := ⟨key, 1, 1⟩) (by rw [e1]; rfl)
  generalize h2 : lookS s1 key = s2 at *
  rw [e1, c1] at e2
  have e2 : s2.es = [⟨key, 1, 2⟩] := e2
  rw [c1] at c2
  rw [n1] at n2
  have v2' : s2.m.vs 1 = some (3, value.data.toList, false) := by rw [m2]; exact v1'
  have fA2 : findE s2.es key = some 0 := by rw [e2]; exact find_cons_yes _ _ rfl
  have g3 := upd_goes g2.ok key other 2
  have eS3 : updS p s2 key other 2 = (s2.put ⟨key, 1, 2⟩ (3, value.data.toList, false) other.data.toList).use 0 := by
    unfold updS
    rw [if_neg (nb s2 other 2 n2 ho (by decide) (by decide)), fA2]
    show (if (2 : Int) = 1 then s2 else (s2.putAt 0 other.data.toList).use 0) = _
    rw [if_neg (by decide), putAt_eq (e := ⟨key, 1, 2⟩) (by rw [e2]; rfl) v2']
  have eA3 : updA p s2 key other 2 = 0 := by
    unfold updA
    rw [if_neg (nb s2 other 2 n2 ho (by decide) (by decide)), fA2]
    show (if (2 : Int) = 1 then (5 : Int) else 0) = 0
    rw [if_neg (by decide)]
  generalize h3 : updS p s2 key other 2 = s3 at *
  have e3 : s3.es = [⟨key, 1, 3⟩] := by rw [eS3]; show setUsed s2.es _ _ = _; rw [e2]; show [_] = _; rw [show (s2.put ⟨key, 1, 2⟩ (3, value.data.toList, false) other.data.toList).clock = 2 from c2]
  have c3 : s3.clock = 3 := by rw [eS3]; show s2.clock + 1 = 3; rw [c2]
  have m3 : s3.m.made = 1 := by rw [eS3]; show s2.m.made = 1; rw [m2]; exact m1
  have n3 : s3.gone = false := by rw [eS3]; exact n2
  have v3' : s3.m.vs 1 = some (3, other.data.toList, false) := by
    rw [eS3]
    show updv s2.m.vs 1 (some (3, setAt value.data.toList 0 other.data.toList, false)) 1 = _
    rw [updv_same, setAt_all _ _ (by rw [lv, lo])]
  clear eS3
  have fA3 : findE s3.es key = some 0 := by rw [e3]; exact find_cons_yes _ _ rfl
  have g4 := look_goes g3.ok key
  obtain ⟨a4, e4, c4, m4, n4⟩ := look_at fA3 (e := ⟨key, 1, 3⟩) (by rw [e3]; rfl)
  generalize h4 : lookS s3 key = s4 at *
  rw [e3, c3] at e4
  have e4 : s4.es = [⟨key, 1, 4⟩] := e4
  rw [c3] at c4
  rw [n3] at n4
  have v4' : s4.m.vs 1 = some (3, other.data.toList, false) := by rw [m4]; exact v3'
  have fA4 : findE s4.es key = some 0 := by rw [e4]; exact find_cons_yes _ _ rfl
  have g5 := del_goes g4.ok key
  have hnd : ¬ delBad p s4 key := by
    rintro (h5 | h5)
    · rw [n4] at h5; cases h5
    · exact h5 pk.symm
  have eS5 : delS p s4 key = s4.cut 0 ⟨key, 1, 4⟩ (3, other.data.toList, false) := by
    unfold delS
    rw [if_neg hnd, fA4]
    exact rem_eq (by rw [e4]; rfl) v4'
  have eA5 : delA p s4 key = 0 := by unfold delA; rw [if_neg hnd, fA4]; rfl
  generalize h5 : delS p s4 key = s5 at *
  have e5 : s5.es = [] := by rw [eS5]; show s4.es.eraseIdx 0 = []; rw [e4]; rfl
  have c5 : s5.clock = 4 := by rw [eS5]; exact c4
  have m5 : s5.m.made = 1 := by rw [eS5]; show s4.m.made = 1; rw [m4]; exact m3
  have v5' : s5.m.vs 1 = some (3, other.data.toList, true) := by rw [eS5]; show updv s4.m.vs 1 (some (3, other.data.toList, true)) 1 = _; exact updv_same _ _ _
  clear eS5
  have fA6 : findE ({ s5 with m := s5.m.graced } : HSt).es key = none := by show findE s5.es key = none; rw [e5]; rfl
  have v6' : s5.m.graced.vs 1 = none := by
    show gracev s5.m.vs s5.m.made 1 = none
    unfold gracev
    rw [m5, if_pos (by decide), v5']
    rfl
  have bv : bstr (value.data.toList.take value.size) = value := by rw [List.take_of_length_le (by rw [lv]; exact Nat.le_refl _)]; exact (bstr_data value).symm
  have bo : bstr (other.data.toList.take value.size) = other := by rw [List.take_of_length_le (by rw [lo]; exact Nat.le_refl _)]; exact (bstr_data other).symm
  refine ⟨s1, s2, s3, s4, s5, ⟨o0, by omega, by omega⟩, ⟨g1.ok, by omega, by omega⟩, ⟨g2.ok, by omega, by rw [m2]; omega⟩, ⟨g3.ok, by omega, by omega⟩, ⟨g4.ok, by omega, by rw [m4]; omega⟩, g5.ok, ⟨g5.ok.grace, by omega⟩, ⟨h1, eA1⟩, ⟨h2, a2⟩, ?_, ⟨h3, eA3⟩, ⟨h4, a4⟩, ⟨h5, eA5⟩, ?_, ?_, ⟨(look_off fA6).2, (look_off fA6).1⟩⟩
  · have := k_bytes p.bm s2.m 1 (by decide) _ v2' value.size (by omega) (by show _ ≤ value.data.toList.length; omega)
    rw [bv] at this
    exact this
  · have := k_bytes p.bm s5.m 1 (by decide) _ v5' value.size (by omega) (by show _ ≤ other.data.toList.length; omega)
    rw [bo] at this
    exact this
  · exact k_bytes_freed p.bm s5.m.graced 1 (by decide) (by show 1 ≤ s5.m.made; omega) (by decide) v6' 1 (by decide)
theorem tb_new' (W : World) (key value : ByteArray) (k1 : 1 ≤ key.size) (k2 : key.size ≤ 64) (v1 : 1 ≤ value.size) (v2 : value.size ≤ 64) :
    Calls Try.prog 9 #[tp W.heap.size, .agg #[.int .i64 1, .int .i64 key.size, .int .i64 value.size, .int .i64 4]] (W.alloc (.cells #[.map none, .int .u32 0, .slice none 0 0, .int .i64 0] 69)) fun e w' => ∃ x, e = .returned (.tuple #[tp x, .int .i64 0]) ∧ TB W.heap.size W ⟨W.heap.size, 0, x, 0, 1, key.size, value.size, 4⟩ ⟨⟨0, 0, fun _ => none⟩, [], 0, false⟩ w' :=
  tb_new W 1 key.size value.size 4 (by simp [fitsH]; omega)
set_option maxHeartbeats 2000000 in
theorem stays_ok (key value other : ByteArray) (k1 : 1 ≤ key.size) (k2 : key.size ≤ 64) (v1 : 1 ≤ value.size) (v2 : value.size ≤ 64) (ho : other.size = value.size) (w : World) :
    Calls Try.prog 5 #[.string key, .string value, .string other] w fun e w' => e = .returned (.bool true) ∧ Below w.heap.size w w' := by
  have C0 := Lib.hid (new_any w)
  have CN := Lib.hid (tb_new' w key value k1 k2 v1 v2)
  have AP := Lib.hid (fun x => stays_plan w.heap.size x key value other k1 k2 v1 v2 ho)
  have HKS : Hid (key.size ≤ maxLen) := by unfold Hid maxLen; omega
  have d1 : decide (value.size < 1) = false := decide_eq_false (by omega)
  have d2 : decide (64 < value.size) = false := decide_eq_false (by omega)
  have d3 : decide (key.size < 1) = false := decide_eq_false (by omega)
  have d4 : decide (64 < key.size) = false := decide_eq_false (by omega)
  have i1 : ¬ (value.size : Int) < 1 := by omega
  have i2 : ¬ (64 : Int) < (value.size : Int) := by omega
  have i3 : ¬ (key.size : Int) < 1 := by omega
  have i4 : ¬ (64 : Int) < (key.size : Int) := by omega
  have d5 : ((other.size : Int) != (value.size : Int)) = false := by rw [ho]; simp
  clear k1 k2 v1 v2 ho
  go_enter Try.func5, Try.ntmps5
  go_upto_region 5 with (first
    | (go_at_call 8; refine C0.out.mono ?_; rintro e w1 ⟨rfl, rfl⟩)
    | (go_at_call 9; refine CN.out.mono ?_; rintro e w2 ⟨x, rfl, hf⟩; have F := Lib.hid hf; clear hf))
  obtain ⟨s1, s2, s3, s4, s5, ap⟩ := AP.out x
  have A := Lib.hid ap
  clear C0 CN ap AP
  have EB : Hid ((⟨w.heap.size, 0, x, 0, 1, key.size, value.size, 4⟩ : HPar).x = x ∧ (⟨w.heap.size, 0, x, 0, 1, key.size, value.size, 4⟩ : HPar).bm = w.heap.size) := ⟨rfl, rfl⟩
  go_upto_region 7 with (go_at_call 19; refine (F.out.upd A.out.o0.1 A.out.o0.2.1 A.out.o0.2.2 key value 1).mono ?_; rintro e w3 ⟨rfl, h⟩; rw [A.out.u1.1] at h; rw [A.out.u1.2]; have F3 := Lib.hid h; clear h)
  go_upto_region 8 with (go_at_call 21; refine (F3.out.look A.out.o1.1 A.out.o1.2.1 key HKS.out).mono ?_; rintro e w4 ⟨rfl, h⟩; rw [A.out.l2.1] at h; rw [A.out.l2.2]; have F4 := Lib.hid h; clear h)
  clear F F3
  generalize hat : addr 1 0 = at_ at *
  have HAT := Lib.hid hat
  clear hat
  have CB2 : Hid (∀ W, TB w.heap.size w ⟨w.heap.size, 0, x, 0, 1, key.size, value.size, 4⟩ s2 W → Calls Try.prog 22 #[tp w.heap.size, .int .u64 at_, .int .i64 value.size] W fun e w' => e = .returned (.tuple #[.string value, .int .i64 0]) ∧ TB w.heap.size w ⟨w.heap.size, 0, x, 0, 1, key.size, value.size, 4⟩ s2 w') := fun W h => by
    have := h.call (PH.mem A.out.b2)
    rw [HAT.out] at this
    exact this
  have CB5 : Hid (∀ W, TB w.heap.size w ⟨w.heap.size, 0, x, 0, 1, key.size, value.size, 4⟩ s5 W → Calls Try.prog 22 #[tp w.heap.size, .int .u64 at_, .int .i64 value.size] W fun e w' => e = .returned (.tuple #[.string other, .int .i64 0]) ∧ TB w.heap.size w ⟨w.heap.size, 0, x, 0, 1, key.size, value.size, 4⟩ s5 w') := fun W h => by
    have := h.call (PH.mem A.out.b5)
    rw [HAT.out] at this
    exact this
  have CB6 : Hid (∀ W, TB w.heap.size w ⟨w.heap.size, 0, x, 0, 1, key.size, value.size, 4⟩ { s5 with m := s5.m.graced } W → Calls Try.prog 22 #[tp w.heap.size, .int .u64 at_, .int .i64 1] W fun e w' => e = .returned (.tuple #[.string (bstr []), .int .i64 21]) ∧ TB w.heap.size w ⟨w.heap.size, 0, x, 0, 1, key.size, value.size, 4⟩ { s5 with m := s5.m.graced } w') := fun W h => by
    have := h.call (PH.mem A.out.b6)
    rw [HAT.out] at this
    exact this
  go_upto_region 9 with (go_at_call 22; refine (CB2.out _ F4.out).mono ?_; rintro e w5 ⟨rfl, h⟩; have F5 := Lib.hid h; clear h)
  clear F4
  go_upto_region 11 with (first
    | (go_at_call 19; refine (F5.out.upd A.out.o2.1 A.out.o2.2.1 A.out.o2.2.2 key other 2).mono ?_; rintro e w6 ⟨rfl, h⟩; rw [A.out.u3.1] at h; rw [A.out.u3.2]; have F6 := Lib.hid h; clear h)
    | (go_at_call 21; refine (F6.out.look A.out.o3.1 A.out.o3.2.1 key HKS.out).mono ?_; rintro e w7 ⟨rfl, h⟩; rw [A.out.l4.1] at h; rw [A.out.l4.2, HAT.out]; have F7 := Lib.hid h; clear h)
    | (go_at_call 23; refine (F7.out.del A.out.o4.1 key).mono ?_; rintro e w8 ⟨rfl, h⟩; rw [A.out.d5.1] at h; rw [A.out.d5.2]; have F8 := Lib.hid h; clear h))
  clear F5 F6 F7
  go_upto_region 12 with (go_at_call 22; refine (CB5.out _ F8.out).mono ?_; rintro e w9 ⟨rfl, h⟩; have F9 := Lib.hid h; clear h)
  go_upto_region 13 with (go_at_call 24; refine (F9.out.call (PH.mem (p := ⟨w.heap.size, 0, x, 0, 1, key.size, value.size, 4⟩) (k_grace w.heap.size s5.m))).mono ?_; rintro e w10 ⟨rfl, h⟩; have F10 := Lib.hid h; clear h)
  go_upto_region 14 with (go_at_call 22; refine (CB6.out _ F10.out).mono ?_; rintro e w11 ⟨rfl, h⟩; have F11 := Lib.hid h; clear h)
  clear F8 F9 F10
  go_wp2_with (first
    | (go_at_call 21; refine (F11.out.look A.out.o6.1 A.out.o6.2 key HKS.out).mono ?_; rintro e w12 ⟨rfl, h⟩; rw [A.out.l6.1] at h; rw [A.out.l6.2]; have F12 := Lib.hid h; clear h)
    | (go_at_call 18; refine (awake_later F12.out.below F12.out.sz).mono ?_; rintro e w13 ⟨rfl, hb⟩; have B13 := Lib.hid hb; clear hb))
  go_ret
  exact ⟨rfl, B13.out⟩
theorem stays_no (key value other : ByteArray) (h : ¬ (1 ≤ key.size ∧ key.size ≤ 64 ∧ 1 ≤ value.size ∧ value.size ≤ 64 ∧ other.size = value.size)) (w : World) :
    Calls Try.prog 5 #[.string key, .string value, .string other] w fun e w' => e = .returned (.bool true) ∧ Below w.heap.size w w' := by
  have CA := Lib.hid (awake_any w)
  by_cases h1 : value.size < 1
  · have d1 : decide (value.size < 1) = true := decide_eq_true h1
    have i1 : (value.size : Int) < 1 := by omega
    clear h h1
    go_enter Try.func5, Try.ntmps5
    go_wp2_with (go_at_call 18; refine CA.out.mono ?_; rintro e w1 ⟨rfl, hb⟩; have HB := Lib.hid hb; clear hb)
    go_ret
    exact ⟨rfl, HB.out⟩
  have d1 : decide (value.size < 1) = false := decide_eq_false h1
  have i1 : ¬ (value.size : Int) < 1 := by omega
  by_cases h2 : 64 < value.size
  · have d2 : decide (64 < value.size) = true := decide_eq_true h2
    have i2 : (64 : Int) < (value.size : Int) := by omega
    clear h h1 h2
    go_enter Try.func5, Try.ntmps5
    go_wp2_with (go_at_call 18; refine CA.out.mono ?_; rintro e w1 ⟨rfl, hb⟩; have HB := Lib.hid hb; clear hb)
    go_ret
    exact ⟨rfl, HB.out⟩
  have d2 : decide (64 < value.size) = false := decide_eq_false h2
  have i2 : ¬ (64 : Int) < (value.size : Int) := by omega
  by_cases h3 : key.size < 1
  · have d3 : decide (key.size < 1) = true := decide_eq_true h3
    have i3 : (key.size : Int) < 1 := by omega
    clear h h1 h2 h3
    go_enter Try.func5, Try.ntmps5
    go_wp2_with (go_at_call 18; refine CA.out.mono ?_; rintro e w1 ⟨rfl, hb⟩; have HB := Lib.hid hb; clear hb)
    go_ret
    exact ⟨rfl, HB.out⟩
  have d3 : decide (key.size < 1) = false := decide_eq_false h3
  have i3 : ¬ (key.size : Int) < 1 := by omega
  by_cases h4 : 64 < key.size
  · have d4 : decide (64 < key.size) = true := decide_eq_true h4
    have i4 : (64 : Int) < (key.size : Int) := by omega
    clear h h1 h2 h3 h4
    go_enter Try.func5, Try.ntmps5
    go_wp2_with (go_at_call 18; refine CA.out.mono ?_; rintro e w1 ⟨rfl, hb⟩; have HB := Lib.hid hb; clear hb)
    go_ret
    exact ⟨rfl, HB.out⟩
  have d4 : decide (64 < key.size) = false := decide_eq_false h4
  have i4 : ¬ (64 : Int) < (key.size : Int) := by omega
  have d5 : ((other.size : Int) != (value.size : Int)) = true := by rw [bne_iff_ne]; intro e; exact h ⟨by omega, by omega, by omega, by omega, by omega⟩
  clear h h1 h2 h3 h4
  go_enter Try.func5, Try.ntmps5
  go_wp2_with (go_at_call 18; refine CA.out.mono ?_; rintro e w1 ⟨rfl, hb⟩; have HB := Lib.hid hb; clear hb)
  go_ret
  exact ⟨rfl, HB.out⟩
theorem stays_walk (key value other : ByteArray) (w : World) :
    Calls Try.prog 5 #[.string key, .string value, .string other] w fun e w' => e = .returned (.bool true) ∧ Below w.heap.size w w' := by
  by_cases h : 1 ≤ key.size ∧ key.size ≤ 64 ∧ 1 ≤ value.size ∧ value.size ≤ 64 ∧ other.size = value.size
  · exact stays_ok key value other h.1 h.2.1 h.2.2.1 h.2.2.2.1 h.2.2.2.2 w
  · exact stays_no key value other h w
end Go.Proofs.Ytmopflcaeecgcaa
