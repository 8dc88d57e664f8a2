/-
  Package flat: Lookup, Next, Update of an array. Package flat: put; Update of an array. Package flat: New of an array for each CPU. Package flat: an array for each CPU: seen, written, all; Lookup, Update.
-/
import Derived.Test.YthilkgfbaddjpaaP9
namespace Go.Proofs.Ythilkgfbaddjpaa
open Go Go.RowKit
set_option linter.unusedVariables false
set_option linter.unusedSimpArgs false
set_option maxRecDepth 100000
theorem mSeenS (v : Value) (w : World) : (Go.method 278 120 v "portcullis/flat.seen").run Try.prog w = .ok (115, v) w := by kernel_rfl
theorem mWrittenS (v : Value) (w : World) : (Go.method 278 120 v "portcullis/flat.written").run Try.prog w = .ok (116, v) w := by kernel_rfl
theorem mAllS (v : Value) (w : World) : (Go.method 278 120 v "portcullis/flat.all").run Try.prog w = .ok (114, v) w := by kernel_rfl
theorem bstr_of (s : ByteArray) : s = bstr s.data.toList := by unfold bstr; simp
theorem number_any (s : ByteArray) (w : World) : Calls Try.prog 42 #[.string s] w fun e w' => ∃ n b, e = .returned (.tuple #[.int .u32 n, .bool b]) ∧ w = w' := by
  by_cases h : s.size = 4
  · have h4 : s.data.toList.length = 4 := by rw [Array.length_toList]; exact h
    rw [bstr_of s]
    exact (number_ok _ h4 w).mono fun e w' h => ⟨_, _, h.1, h.2⟩
  · exact (number_no s h w).mono fun e w' h => ⟨_, _, h.1, h.2⟩
theorem Lookup_nil (s : ByteArray) (c : Int) (w : World) : Calls Try.prog 21 #[.pointer none, .string s, .int .i64 c] w fun e w' => e = .returned (.int .u64 0) ∧ w = w' := by
  have CN := Lib.hid (number_any s)
  go_enter Try.func21, Try.ntmps21
  go_wp2_with (first
    | (go_at_call 42; refine (CN.out _).mono ?_; rintro e w' ⟨n, b, rfl, rfl⟩)
    | (go_at_call 43; refine (gone_nil _).mono ?_; rintro e w' ⟨rfl, rfl⟩))
  go_ret
  exact ⟨rfl, rfl⟩
theorem Update_nil (s t : ByteArray) (f c : Int) (w : World) : Calls Try.prog 19 #[.pointer none, .string s, .string t, .int .i64 f, .int .i64 c] w fun e w' => e = .returned (.int .i64 1) ∧ w = w' := by
  have CN := Lib.hid (number_any s)
  go_enter Try.func19, Try.ntmps19
  go_wp2_with (first
    | (go_at_call 42; refine (CN.out _).mono ?_; rintro e w' ⟨n, b, rfl, rfl⟩)
    | (go_at_call 43; refine (gone_nil _).mono ?_; rintro e w' ⟨rfl, rfl⟩))
  go_ret
  exact ⟨rfl, rfl⟩
theorem Next_nil (s : ByteArray) (w : World) : Calls Try.prog 22 #[.pointer none, .string s] w fun e w' => e = .returned (.tuple #[.string ⟨#[]⟩, .int .i64 1]) ∧ w = w' := by
  go_enter Try.func22, Try.ntmps22
  go_wp2_with (go_at_call 43; refine (gone_nil _).mono ?_; rintro e w' ⟨rfl, rfl⟩)
  go_ret2
  exact ⟨rfl, rfl⟩
theorem Free_nil (w : World) : Calls Try.prog 24 #[.pointer none] w fun e w' => e = .returned (.int .i64 1) ∧ w = w' := by
  go_enter Try.func24, Try.ntmps24
  go_wp2_with (go_at_call 43; refine (gone_nil _).mono ?_; rintro e w' ⟨rfl, rfl⟩)
  go_ret
  exact ⟨rfl, rfl⟩
section
variable {w : World} {x bm : Nat}
theorem Lookup_arr (v mx m : Nat) (c : Int) (hv : v ≤ 4096) (hm : mx ≤ 4096) (h1 : m ≤ 4096) (h : Blk w x 77 (mapC bm 2 v mx (sharedV (addr m 0)))) (xs : List UInt8) (h4 : xs.length = 4) (hn : le xs < mx) :
    Calls Try.prog 21 #[.pointer (some ⟨x, 0, none⟩), .string (bstr xs), .int .i64 c] w fun e w' => e = .returned (.int .u64 (addr m (le xs * wide v))) ∧ Below w.heap.size w w' := by
  have c5 : w.cell? ⟨x, 5, none⟩ = some (sharedV (addr m 0)) := h.cell 5
  have hle : le xs ≤ 4294967295 := by omega
  have CN := Lib.hid (number_ok xs h4)
  have CG := Lib.hid (gone_no _ _ _ _ _ _ _ h)
  have CM := Lib.hid (max_any _ _ _ _ _ mx hm h)
  have CS := Lib.hid (sseen_any (addr m 0) c w)
  have CO := Lib.hid (fun w' (hb : Below w.heap.size w w') => offset_any _ _ _ _ _ v (le xs) hv hle (blk_below h hb))
  have g1 : decide ((mx : Int) ≤ (le xs : Int)) = false := by simp; omega
  have g2 : decide (mx ≤ le xs) = false := by simp; omega
  have hw : wide v ≤ 4103 := by unfold wide; omega
  have hq : le xs * wide v ≤ 4096 * 4103 := Nat.mul_le_mul (by omega) hw
  obtain ⟨q, hqq⟩ : ∃ q, le xs * wide v = q := ⟨_, rfl⟩
  rw [hqq] at CO hq ⊢
  have e1 : IntKind.u64.wrap (addr m 0 + (q : Int)) = addr m q := by rw [wraps_u64 _ (by unfold addr; omega) (by unfold addr; omega)]; unfold addr; omega
  have mS := mSeenS
  clear h hv hm hn hle hw hq hqq h4 h1
  generalize le xs = n at *
  go_enter Try.func21, Try.ntmps21
  go_wp2_with (first
    | (go_at_call 42; refine (CN.out _).mono ?_; rintro e w' ⟨rfl, rfl⟩)
    | (go_at_call 43; refine CG.out.mono ?_; rintro e w' ⟨rfl, rfl⟩)
    | (go_at_call 44; refine CM.out.mono ?_; rintro e w' ⟨rfl, rfl⟩)
    | (go_at_call 115; refine CS.out.mono ?_; rintro e w1 ⟨rfl, hb⟩; have B1 := Lib.hid hb; clear hb)
    | (go_at_call 46; refine (CO.out _ B1.out).mono ?_; rintro e w2 ⟨rfl, hb⟩; have B2 := Lib.hid (below_then B1.out hb); clear hb))
  go_ret
  exact ⟨rfl, B2.out⟩
theorem Lookup_arr_no (v mx : Nat) (t : TypeId) (u : Value) (k c : Int) (hm : mx ≤ 4096) (h : Blk w x 77 (mapC bm k v mx (.iface t u))) (xs : List UInt8) (h4 : xs.length = 4) (hn : mx ≤ le xs) :
    Calls Try.prog 21 #[.pointer (some ⟨x, 0, none⟩), .string (bstr xs), .int .i64 c] w fun e w' => e = .returned (.int .u64 0) ∧ w = w' := by
  have CN := Lib.hid (number_ok xs h4)
  have CG := Lib.hid (gone_no _ _ _ _ _ _ _ h)
  have CM := Lib.hid (max_any _ _ _ _ _ mx hm h)
  have g1 : decide ((mx : Int) ≤ (le xs : Int)) = true := by simp; omega
  have g2 : decide (mx ≤ le xs) = true := by simp; omega
  clear h hm hn h4
  generalize le xs = n at *
  go_enter Try.func21, Try.ntmps21
  go_wp2_with (first
    | (go_at_call 42; refine (CN.out _).mono ?_; rintro e w' ⟨rfl, rfl⟩)
    | (go_at_call 43; refine CG.out.mono ?_; rintro e w' ⟨rfl, rfl⟩)
    | (go_at_call 44; refine CM.out.mono ?_; rintro e w' ⟨rfl, rfl⟩))
  go_ret
  exact ⟨rfl, rfl⟩
theorem Next_start (v mx : Nat) (t : TypeId) (u : Value) (k : Int) (h : Blk w x 77 (mapC bm k v mx (.iface t u))) (s : ByteArray) (hs : s.size ≠ 4) :
    Calls Try.prog 22 #[.pointer (some ⟨x, 0, none⟩), .string s] w fun e w' => e = .returned (.tuple #[.string (bstr (wb 0 4)), .int .i64 0]) ∧ Below w.heap.size w w' := by
  have CN := Lib.hid (number_no s hs)
  have CG := Lib.hid (gone_no _ _ _ _ _ _ _ h)
  have CK := Lib.hid (keyOf_any 0 (by decide))
  clear h hs
  go_enter Try.func22, Try.ntmps22
  go_wp2_with (first
    | (go_at_call 42; refine (CN.out _).mono ?_; rintro e w' ⟨rfl, rfl⟩)
    | (go_at_call 43; refine CG.out.mono ?_; rintro e w' ⟨rfl, rfl⟩)
    | (go_at_call 48; refine (CK.out _).mono ?_; rintro e w1 ⟨rfl, hb⟩; have B1 := Lib.hid hb; clear hb))
  go_ret2
  exact ⟨rfl, B1.out⟩
theorem Next_on (v mx : Nat) (hm : mx ≤ 4096) (t : TypeId) (u : Value) (k : Int) (h : Blk w x 77 (mapC bm k v mx (.iface t u))) (xs : List UInt8) (h4 : xs.length = 4) (hn : le xs + 1 < mx) :
    Calls Try.prog 22 #[.pointer (some ⟨x, 0, none⟩), .string (bstr xs)] w fun e w' => e = .returned (.tuple #[.string (bstr (wb (le xs + 1) 4)), .int .i64 0]) ∧ Below w.heap.size w w' := by
  have CN := Lib.hid (number_ok xs h4)
  have CG := Lib.hid (gone_no _ _ _ _ _ _ _ h)
  have CM := Lib.hid (max_any _ _ _ _ _ mx hm h)
  have CK := Lib.hid (keyOf_any (le xs + 1) (by omega))
  have g1 : decide ((mx : Int) ≤ (le xs : Int)) = false := by simp; omega
  have g2 : decide (mx ≤ le xs) = false := by simp; omega
  have e1 : IntKind.u32.wrap ((mx : Int) - 1) = (mx : Int) - 1 := wraps_u32 _ (by omega) (by omega)
  have e2 : decide ((le xs : Int) = (mx : Int) - 1) = false := by simp; omega
  have e3 : ((le xs : Int) == (mx : Int) - 1) = false := by simp; omega
  have e4 : IntKind.u32.wrap ((le xs : Int) + 1) = ((le xs + 1 : Nat) : Int) := by rw [wraps_u32 _ (by omega) (by omega)]; omega
  clear h hm hn h4
  generalize le xs = n at *
  go_enter Try.func22, Try.ntmps22
  go_wp2_with (first
    | (go_at_call 42; refine (CN.out _).mono ?_; rintro e w' ⟨rfl, rfl⟩)
    | (go_at_call 43; refine CG.out.mono ?_; rintro e w' ⟨rfl, rfl⟩)
    | (go_at_call 44; refine CM.out.mono ?_; rintro e w' ⟨rfl, rfl⟩)
    | (go_at_call 48; refine (CK.out _).mono ?_; rintro e w1 ⟨rfl, hb⟩; have B1 := Lib.hid hb; clear hb))
  go_ret2
  exact ⟨rfl, B1.out⟩
theorem Next_last (v mx : Nat) (hm : mx ≤ 4096) (t : TypeId) (u : Value) (k : Int) (h : Blk w x 77 (mapC bm k v mx (.iface t u))) (xs : List UInt8) (h4 : xs.length = 4) (hn : le xs + 1 = mx) :
    Calls Try.prog 22 #[.pointer (some ⟨x, 0, none⟩), .string (bstr xs)] w fun e w' => e = .returned (.tuple #[.string ⟨#[]⟩, .int .i64 4]) ∧ w = w' := by
  have CN := Lib.hid (number_ok xs h4)
  have CG := Lib.hid (gone_no _ _ _ _ _ _ _ h)
  have CM := Lib.hid (max_any _ _ _ _ _ mx hm h)
  have g1 : decide ((mx : Int) ≤ (le xs : Int)) = false := by simp; omega
  have g2 : decide (mx ≤ le xs) = false := by simp; omega
  have e1 : IntKind.u32.wrap ((mx : Int) - 1) = (le xs : Int) := by rw [wraps_u32 _ (by omega) (by omega)]; omega
  clear h hm hn h4
  generalize le xs = n at *
  go_enter Try.func22, Try.ntmps22
  go_wp2_with (first
    | (go_at_call 42; refine (CN.out _).mono ?_; rintro e w' ⟨rfl, rfl⟩)
    | (go_at_call 43; refine CG.out.mono ?_; rintro e w' ⟨rfl, rfl⟩)
    | (go_at_call 44; refine CM.out.mono ?_; rintro e w' ⟨rfl, rfl⟩))
  go_ret2
  exact ⟨rfl, rfl⟩
theorem Update_full (v mx m : Nat) (f c : Int) (hm : mx ≤ 4096) (hf0 : 0 ≤ f) (hf2 : f ≤ 2) (h : Blk w x 77 (mapC bm 2 v mx (sharedV (addr m 0)))) (xs : List UInt8) (h4 : xs.length = 4) (hn : mx ≤ le xs) (s : ByteArray) (hs : s.size = v) :
    Calls Try.prog 19 #[.pointer (some ⟨x, 0, none⟩), .string (bstr xs), .string s, .int .i64 f, .int .i64 c] w fun e w' => e = .returned (.int .i64 3) ∧ Below w.heap.size w w' := by
  have c3 : w.cell? ⟨x, 3, none⟩ = some (.int .i64 v) := h.cell 3
  have c5 : w.cell? ⟨x, 5, none⟩ = some (sharedV (addr m 0)) := h.cell 5
  have CN := Lib.hid (number_ok xs h4)
  have CG := Lib.hid (gone_no _ _ _ _ _ _ _ h)
  have CM := Lib.hid (fun w' (hb : Below w.heap.size w w') => max_any _ _ _ _ _ mx hm (blk_below h hb))
  have CW := Lib.hid (swritten_any (addr m 0) c w)
  have g1 : decide ((mx : Int) ≤ (le xs : Int)) = true := by simp; omega
  have g2 : decide (mx ≤ le xs) = true := by simp; omega
  have g3 : decide (f < 0) = false := by simp; omega
  have g4 : decide (2 < f) = false := by simp; omega
  have g5 : ((s.size : Int) != (v : Int)) = false := by rw [hs]; simp
  have mW := mWrittenS
  clear h hm hn h4 hs hf0 hf2
  generalize le xs = n at *
  go_enter Try.func19, Try.ntmps19
  go_wp2_with (first
    | (go_at_call 42; refine (CN.out _).mono ?_; rintro e w' ⟨rfl, rfl⟩)
    | (go_at_call 43; refine CG.out.mono ?_; rintro e w' ⟨rfl, rfl⟩)
    | (go_at_call 116; refine CW.out.mono ?_; rintro e w1 ⟨g, rfl, hb, _, _⟩; have B1 := Lib.hid hb; clear hb)
    | (go_at_call 44; refine (CM.out _ B1.out).mono ?_; rintro e w' ⟨rfl, rfl⟩))
  go_ret
  exact ⟨rfl, B1.out⟩
end
end Go.Proofs.Ythilkgfbaddjpaa
namespace Go.Proofs.Ythilkgfbaddjpaa
open Go Go.RowKit
set_option linter.unusedVariables false
set_option linter.unusedSimpArgs false
set_option maxRecDepth 100000
section
variable {w : World} {S : Nat → Prop} {bm made fail : Nat} {st : Nat → Option RG} {rl : List Nat} {mv rv : Value}
structure PA (w : World) (S : Nat → Prop) (bm made fail : Nat) (st : Nat → Option RG) (rl : List Nat) (rv : Value) (ns : Nat → Nat) (q : Nat) (l : List UInt8) (j : Nat) (wr : World) (S' : Nat → Prop) (st' : Nat → Option RG) (mv' : Value) : Prop where
  km : KM wr S' bm made fail st' rl mv' rv
  keeps : Keeps S w wr
  sub : ∀ b, S' b → S b ∨ w.heap.size ≤ b
  old : ∀ m, (∀ i, i < j → ns i ≠ m) → st' m = st m
  new : ∀ i, i < j → ∀ r, st (ns i) = some r → ∃ r', st' (ns i) = some r' ∧ r'.perm = r.perm ∧ r'.bytes = setAt r.bytes q l ∧ r'.ret = r.ret
theorem PA.start (h : KM w S bm made fail st rl mv rv) (ns : Nat → Nat) (q : Nat) (l : List UInt8) : PA w S bm made fail st rl rv ns q l 0 w S st mv :=
  ⟨h, Keeps.refl _ _, fun b hb => .inl hb, fun m _ => rfl, fun i hi => by omega⟩
theorem PA.step {ns : Nat → Nat} {q j n : Nat} {l : List UInt8} {wr w1 : World} {S' : Nat → Prop} {st' : Nat → Option RG} {mv' : Value} (h : PA w S bm made fail st rl rv ns q l j wr S' st' mv') (hj : j < n) (hinj : ∀ i k, i < n → k < n → ns i = ns k → i = k) {r : RG} (hr : st (ns j) = some r)
    (hp : WritePost wr S' bm made fail st' rl mv' rv (ns j) r (setAt r.bytes q l) w1) : ∃ S2 st2 mv2, PA w S bm made fail st rl rv ns q l (j + 1) w1 S2 st2 mv2 := by
  obtain ⟨g, hk, kk⟩ := hp
  refine ⟨more S' wr w1, _, mv', hk, h.keeps.trans (kk.mono fun b hb => ?_), fun b hb => ?_, fun m hm => ?_, fun i hi r2 hr2 => ?_⟩
  · rcases h.sub b hb with hs | hs
    · exact .inl hs
    · exact .inr ⟨hs, h.km.lt b hb⟩
  · rcases hb with hb | ⟨hb, _⟩
    · exact h.sub b hb
    · exact .inr (by have := h.keeps.size; omega)
  · rw [upd_other _ _ (fun e => hm j (by omega) e.symm)]
    exact h.old m fun i hi => hm i (by omega)
  · by_cases hij : i = j
    · subst hij
      rw [hr] at hr2
      cases hr2
      exact ⟨_, upd_same _ _ _, rfl, rfl, rfl⟩
    · obtain ⟨r', q1, q2⟩ := h.new i (by omega) r2 hr2
      exact ⟨r', by rw [upd_other _ _ (fun e => hij (hinj i j (by omega) hj e))]; exact q1, q2⟩
theorem PA.same {ns : Nat → Nat} {q j n : Nat} {l : List UInt8} {wr : World} {S' : Nat → Prop} {st' : Nat → Option RG} {mv' : Value} (h : PA w S bm made fail st rl rv ns q l j wr S' st' mv') (hj : j < n) (hinj : ∀ i k, i < n → k < n → ns i = ns k → i = k) : st' (ns j) = st (ns j) :=
  h.old _ fun i hi e => by have := hinj i j (by omega) hj e; omega
set_option maxHeartbeats 1000000 in
theorem put_all (h : KM w S bm made fail st rl mv rv) (x : Nat) (k v mx : Int) (V : Value) (hx : Blk w x 77 (mapC bm k v mx V)) (nx : ¬ S x) (g c n : Nat) (ns : Nat → Nat) (hg : g < w.heap.size) (ng : ¬ S g) (hc : ∀ i, i < n → w.cell? ⟨g, i, none⟩ = some (.int .u64 (addr (ns i) 0)))
    (hn : n ≤ 8) (hns : ∀ i, i < n → ns i ≤ 4096) (hinj : ∀ i k, i < n → k < n → ns i = ns k → i = k) (q : Nat) (l : List UInt8) (h1 : 1 ≤ l.length) (hl : l.length ≤ 4096) (hq : q ≤ 4294967295) (hr : ∀ i, i < n → ∃ r, st (ns i) = some r ∧ q + l.length ≤ r.bytes.length) :
    Calls Try.prog 45 #[.pointer (some ⟨x, 0, none⟩), .slice (some ⟨g, 0, none⟩) n c, .int .u64 q, .string (bstr l)] w fun e w' => e = .returned (.int .i64 0) ∧ ∃ S' st' mv', PA w S bm made fail st rl rv ns q l n w' S' st' mv' := by
  have H := Lib.hid h
  have HX := Lib.hid hx
  have NX := Lib.hid nx
  have HG := Lib.hid hg
  have NG := Lib.hid ng
  have HC := Lib.hid hc
  have HN := Lib.hid hn
  have HNS := Lib.hid hns
  have HI := Lib.hid hinj
  have H1 := Lib.hid h1
  have HL := Lib.hid hl
  have HQ := Lib.hid hq
  have HR := Lib.hid hr
  clear h hx nx hg ng hc hn hns hinj h1 hl hq hr
  go_enter Try.func45, Try.ntmps45
  go_wp2_with fail
  go_loopw [17] (fun i wr => ∃ j : Nat, j ≤ n ∧ i = .int .i64 j ∧ wr = w) (fun i _ => n - (intOf i).toNat)
  case atStart => exact ⟨0, by omega, rfl, rfl⟩
  case round =>
    obtain ⟨j, hj, rfl, hwr⟩ := hrel
    obtain rfl : w = wr := hwr.symm
    by_cases hlt : j < n
    · have c0 := HC.out j hlt
      have d0 : w.cell? ⟨x, 0, none⟩ = some (.pointer (some ⟨bm, 0, none⟩)) := HX.out.cell 0
      obtain ⟨r, hr1, hr2⟩ := HR.out j hlt
      have e1 : IntKind.u64.wrap (addr (ns j) 0 + (q : Int)) = addr (ns j) q := by
        have := HNS.out j hlt; have := HQ.out
        rw [wraps_u64 _ (by unfold addr; omega) (by unfold addr; omega)]; unfold addr; omega
      have CS := Lib.hid (size_ok H.out (ns j) q (by have := HNS.out j hlt; omega) HQ.out hr1 (by have := H1.out; omega))
      have HW : Hid (wrap64 ((j : Int) + 1) = (j : Int) + 1) := by unfold Hid wrap64; have := HN.out; omega
      clear hr1 hr2
      go_wp2_with (go_at_call 60; refine CS.out.mono ?_; rintro e w1 ⟨rfl, rfl⟩)
      exact ⟨⟨j + 1, by omega, by rw [HW.out]; go_num, trivial⟩, by rw [HW.out]; simp [intOf]; omega⟩
    · have : j = n := by omega
      subst this
      go_wp2_with fail
      go_loopw [38] (fun i w2 => ∃ (k : Nat) (S' : Nat → Prop) (st' : Nat → Option RG) (mv' : Value), k ≤ j ∧ i = .int .i64 k ∧ PA w S bm made fail st rl rv ns q l k w2 S' st' mv') (fun i _ => j - (intOf i).toNat)
      case atStart => exact ⟨0, S, st, mv, by omega, rfl, PA.start H.out ns q l⟩
      case round =>
        obtain ⟨k, S', st', mv', hk, rfl, hp⟩ := hrel
        have HP := Lib.hid hp
        clear hp
        by_cases hlt2 : k < j
        · have c0 : wr.cell? ⟨g, k, none⟩ = some (.int .u64 (addr (ns k) 0)) := (World.cell?_of_block (HP.out.keeps.block g HG.out NG.out)).trans (HC.out k hlt2)
          have d0 : wr.cell? ⟨x, 0, none⟩ = some (.pointer (some ⟨bm, 0, none⟩)) := (HX.out.keeps HP.out.keeps NX.out).cell 0
          obtain ⟨r, hr1, hr2⟩ := HR.out k hlt2
          have e1 : IntKind.u64.wrap (addr (ns k) 0 + (q : Int)) = addr (ns k) q := by
            have := HNS.out k hlt2; have := HQ.out
            rw [wraps_u64 _ (by unfold addr; omega) (by unfold addr; omega)]; unfold addr; omega
          have CP := Lib.hid (put_ok HP.out.km (ns k) q (by have := HNS.out k hlt2; omega) HQ.out l (by have := HL.out; omega) ((HP.out.same hlt2 HI.out).trans hr1) hr2)
          have HW : Hid (wrap64 ((k : Int) + 1) = (k : Int) + 1) := by unfold Hid wrap64; have := HN.out; omega
          have HR1 := Lib.hid hr1
          have HLT := Lib.hid hlt2
          clear hr1 hr2
          go_wp2_with (go_at_call 61; refine CP.out.mono ?_; rintro e w1 ⟨rfl, hp⟩; obtain ⟨S2, st2, mv2, hp2⟩ := HP.out.step HLT.out HI.out HR1.out hp; have HP2 := Lib.hid hp2; clear hp hp2)
          exact ⟨⟨k + 1, S2, st2, mv2, by omega, by rw [HW.out]; go_num, HP2.out⟩, by rw [HW.out]; simp [intOf]; omega⟩
        · have : k = j := by omega
          subst this
          go_wp2_with fail
          go_ret
          exact ⟨rfl, S', st', mv', HP.out⟩
theorem FS.put {B : Nat} {w0 w' : World} {x : Nat} {cs : Array Value} {ns : Nat → Nat} {q n : Nat} {l : List UInt8} {S' : Nat → Prop} {st' : Nat → Option RG} {mv' : Value} (h : FS B w0 w S bm made fail st rl mv rv x cs) (p : PA w S bm made fail st rl rv ns q l n w' S' st' mv') : FS B w0 w' S' bm made fail st' rl mv' rv x cs :=
  ⟨p.km, h.map.keeps p.keeps h.nx, fun hx => by
    rcases p.sub x hx with hx | hx
    · exact h.nx hx
    · have := h.map.lt; omega, h.below.trans (p.keeps.below h.base h.sz), fun b hb => by
    rcases p.sub b hb with hb | hb
    · exact h.base b hb
    · have := h.sz; omega, Nat.le_trans h.sz p.keeps.size⟩
set_option maxHeartbeats 1000000 in
theorem Update_arr {B : Nat} {w0 : World} {x m : Nat} (v mx : Nat) (h : FS B w0 w S bm made fail st rl mv rv x (mapC bm 2 v mx (sharedV (addr m 0)))) (c : Int) (hv : v ≤ 4096) (hm : mx ≤ 4096) (hm2 : m ≤ 4096) (xs : List UInt8) (h4 : xs.length = 4) (hn : le xs < mx) (l : List UInt8) (hl : l.length = v) (h1 : 1 ≤ v) {r : RG} (hr : st m = some r) (hb : le xs * wide v + v ≤ r.bytes.length) :
    Calls Try.prog 19 #[.pointer (some ⟨x, 0, none⟩), .string (bstr xs), .string (bstr l), .int .i64 0, .int .i64 c] w fun e w' => e = .returned (.int .i64 0) ∧ ∃ S' st' mv', FS B w0 w' S' bm made fail st' rl mv' rv x (mapC bm 2 v mx (sharedV (addr m 0))) ∧
      (∀ i, i ≠ m → st' i = st i) ∧ ∃ r', st' m = some r' ∧ r'.perm = r.perm ∧ r'.bytes = setAt r.bytes (le xs * wide v) l ∧ r'.ret = r.ret := by
  have c3 : w.cell? ⟨x, 3, none⟩ = some (.int .i64 v) := h.map.cell 3
  have c5 : w.cell? ⟨x, 5, none⟩ = some (sharedV (addr m 0)) := h.map.cell 5
  have hle : le xs ≤ 4294967295 := by omega
  have CN := Lib.hid (number_ok xs h4)
  have CG := Lib.hid (gone_no _ _ _ _ _ _ _ h.map)
  have CM := Lib.hid (fun w' (hb : Below w.heap.size w w') => max_any _ _ _ _ _ mx hm (blk_below h.map hb))
  have CO := Lib.hid (fun w' (hb : Below w.heap.size w w') => offset_any _ _ _ _ _ v (le xs) hv hle (blk_below h.map hb))
  have CW := Lib.hid (swritten_any (addr m 0) c w)
  have hw : wide v ≤ 4103 := by unfold wide; omega
  have hq : le xs * wide v ≤ 4096 * 4103 := Nat.mul_le_mul (by omega) hw
  obtain ⟨q, hqq⟩ : ∃ q, le xs * wide v = q := ⟨_, rfl⟩
  rw [hqq] at CO hq hb ⊢
  have g1 : decide ((mx : Int) ≤ (le xs : Int)) = false := by simp; omega
  have g2 : decide (mx ≤ le xs) = false := by simp; omega
  have g5 : (((bstr l).size : Int) != (v : Int)) = false := by rw [bstr_size, hl]; simp
  have mW := mWrittenS
  have HF := Lib.hid h
  have HR := Lib.hid hr
  have HB := Lib.hid hb
  have HQ := Lib.hid hq
  have HL := Lib.hid hl
  have H1 := Lib.hid h1
  have HV := Lib.hid hv
  have HM := Lib.hid hm2
  clear h hm hn h4 hv hw hqq hq hb hr hl h1 hle hm2
  generalize le xs = n at *
  go_enter Try.func19, Try.ntmps19
  go_wp2_with (first
    | (go_at_call 42; refine (CN.out _).mono ?_; rintro e w' ⟨rfl, rfl⟩)
    | (go_at_call 43; refine CG.out.mono ?_; rintro e w' ⟨rfl, rfl⟩)
    | (go_at_call 116; refine CW.out.mono ?_; rintro e w1 ⟨g, rfl, hb, hg, hk⟩; have B1 := Lib.hid hb; have HG := Lib.hid hg; have HK := Lib.hid hk; clear hb hg hk)
    | (go_at_call 44; refine (CM.out _ B1.out).mono ?_; rintro e w' ⟨rfl, rfl⟩)
    | (go_at_call 46; refine (CO.out _ B1.out).mono ?_; rintro e w2 ⟨rfl, hb⟩; have F2 := Lib.hid (HF.out.grow (below_then B1.out hb)); have HK2 := Lib.hid (blk_below HK.out hb); clear hb)
    | (go_at_call 45; go_loud (refine (put_all F2.out.km x _ _ _ _ F2.out.map F2.out.nx g 1 1 (fun _ => m) HK2.out.lt (fun hs => by have := HF.out.km.lt g hs; have := HG.out; omega) (fun i hi => by obtain rfl : i = 0 := (by omega); exact HK2.out.cell 0) (by decide) (fun _ _ => HM.out) (fun i k hi hk _ => by omega) q l (by have := HL.out; have := H1.out; omega) (by have := HL.out; have := HV.out; omega) (by have := HQ.out; omega) (fun i hi => ⟨r, HR.out, by have := HB.out; have := HL.out; omega⟩)).mono ?_); rintro e w3 ⟨rfl, S3, st3, mv3, hp⟩; have HP := Lib.hid hp; clear hp))
  go_ret
  refine ⟨rfl, S3, st3, mv3, F2.out.put HP.out, fun i hi => HP.out.old i fun _ _ e => hi e.symm, ?_⟩
  exact HP.out.new 0 (by decide) r HR.out
end
end Go.Proofs.Ythilkgfbaddjpaa
namespace Go.Proofs.Ythilkgfbaddjpaa
open Go Go.RowKit
set_option linter.unusedVariables false
set_option linter.unusedSimpArgs false
set_option maxRecDepth 100000
section
variable {w : World} {S : Nat → Prop} {bm made fail : Nat} {st : Nat → Option RG} {rl : List Nat} {mv rv : Value}
set_option maxHeartbeats 1000000 in
theorem New_cpu (h : KM w S bm made fail st rl mv rv) (n : Nat) (hf : fail = 0 ∨ n < fail) (hmade : made + n ≤ 4095) (v mx : Nat) (h1 : 1 ≤ v) (h2 : v ≤ 4096) (h3 : 1 ≤ mx) (h4 : mx ≤ 4096) (h5 : 1 ≤ n) (h6 : n ≤ 8) (h7 : mx * wide v ≤ 1048576) :
    Calls Try.prog 12 #[.pointer (some ⟨bm, 0, none⟩), specV 6 4 v mx, .int .i64 n] w fun e w' => ∃ x g cc S' st' mv', e = .returned (.tuple #[.pointer (some ⟨x, 0, none⟩), .int .i64 0]) ∧ NewPost w S bm made fail st rl rv (mx * wide v) n (mapC bm 6 v mx) w' x (eachV (some ⟨g, 0, none⟩) n cc) S' st' mv' ∧ ¬ S' g ∧ g < w'.heap.size ∧ ∀ i, i < n → w'.cell? ⟨g, i, none⟩ = some (.int .u64 (addr (made + 1 + i) 0)) := by
  obtain ⟨q, hq⟩ : ∃ q, mx * wide v = q := ⟨_, rfl⟩
  have hw1 : 1 ≤ wide v := by unfold wide; omega
  have hq1 : 1 ≤ q := by rw [← hq]; exact Nat.mul_pos (by omega) (by omega)
  have e0 : (mx : Int) * (wide v : Int) = (q : Int) := by rw [← hq]; simp
  have e3 : IntKind.i64.wrap ((mx : Int) * (wide v : Int)) = (q : Int) := by rw [e0]; exact IntWalk.i64_in _ (by omega)
  have CF := Lib.hid (fits_cpu v mx n h1 h2 h3 h4 (by omega) (by omega) h7)
  have CW := Lib.hid (width_any 6 4 mx v h2)
  have CA := Lib.hid (fun (W : World) (hk : KM W S bm made fail st rl mv rv) => allocs_ok hk n hf hmade q hq1 (by omega))
  have HK := Lib.hid h
  have HN : Hid (¬ S w.heap.size) := fun hs => Nat.lt_irrefl _ (h.lt _ hs)
  rw [hq]
  have H5 := Lib.hid h5
  have HB := Lib.hid (Blk.new w 23 #[.int .i64 6, .int .i64 4, .int .i64 v, .int .i64 mx])
  have B0 := Lib.hid (below_alloc w (.cells #[.int .i64 6, .int .i64 4, .int .i64 v, .int .i64 mx] 23))
  clear h hf hmade h1 h2 h3 h4 h5 h6 h7 hq hw1 hq1 e0
  generalize wide v = d at *
  go_enter Try.func12, Try.ntmps12
  go_upto_region 3 with (go_at_call 25; refine (CF.out _).mono ?_; rintro e w1 ⟨rfl, hb⟩; have B1 := Lib.hid (below_then B0.out hb); have HB1 := Lib.hid (blk_below HB.out hb); clear hb)
  have K1 := Lib.hid (HK.out.keeps (keeps_grow B1.out) (fun b _ hf => hf))
  have S1 : Hid (w1.cell? ⟨w.heap.size, 0, none⟩ = some (.int .i64 6) ∧ w1.cell? ⟨w.heap.size, 1, none⟩ = some (.int .i64 4) ∧ w1.cell? ⟨w.heap.size, 2, none⟩ = some (.int .i64 v) ∧ w1.cell? ⟨w.heap.size, 3, none⟩ = some (.int .i64 mx)) := ⟨HB1.out.cell 0, HB1.out.cell 1, HB1.out.cell 2, HB1.out.cell 3⟩
  clear B0 HB HK CF
  go_region_held3 (fun W => W.cell? ⟨w.heap.size, 0, none⟩ = some (.int .i64 6) ∧ W.cell? ⟨w.heap.size, 1, none⟩ = some (.int .i64 4) ∧ W.cell? ⟨w.heap.size, 2, none⟩ = some (.int .i64 v) ∧ W.cell? ⟨w.heap.size, 3, none⟩ = some (.int .i64 mx))
    (first | exact S1.out | exact S2.out | exact S3'.out)
    (first
      | (go_at_call 27; refine (regions_cpu _ _).mono ?_; rintro e wq ⟨rfl, rfl⟩)
      | (go_at_call 28; refine (CW.out _).mono ?_; rintro e w2 ⟨rfl, hb⟩; have B2 := Lib.hid (below_then (below_drew1 B1.out) hb); have HB2 := Lib.hid (blk_below (blk_drew HB1.out) hb); have K2 := Lib.hid (K1.out.keeps (keeps_grow (below_then (below_drew1 (Below.refl _ w1)) hb)) (fun b _ hf => hf)); have S2 : Hid (w2.cell? ⟨w.heap.size, 0, none⟩ = some (.int .i64 6) ∧ w2.cell? ⟨w.heap.size, 1, none⟩ = some (.int .i64 4) ∧ w2.cell? ⟨w.heap.size, 2, none⟩ = some (.int .i64 v) ∧ w2.cell? ⟨w.heap.size, 3, none⟩ = some (.int .i64 mx)) := ⟨HB2.out.cell 0, HB2.out.cell 1, HB2.out.cell 2, HB2.out.cell 3⟩; clear hb)
      | (go_at_call 26; refine (CA.out _ K2.out).mono ?_; rintro e w3 ⟨vv, S3, st3, mv3, rfl, ha⟩; have HA := Lib.hid ha; have HB3 := Lib.hid (HB2.out.keeps ha.keeps HN.out); have S3' : Hid (w3.cell? ⟨w.heap.size, 0, none⟩ = some (.int .i64 6) ∧ w3.cell? ⟨w.heap.size, 1, none⟩ = some (.int .i64 4) ∧ w3.cell? ⟨w.heap.size, 2, none⟩ = some (.int .i64 v) ∧ w3.cell? ⟨w.heap.size, 3, none⟩ = some (.int .i64 mx)) := ⟨HB3.out.cell 0, HB3.out.cell 1, HB3.out.cell 2, HB3.out.cell 3⟩; clear ha))
  obtain ⟨g, cc, cur, rfl, hg, hgb, hgc⟩ := own_any HA.out.row (by have := H5.out; omega)
  have NG : Hid (¬ S3 g) := HA.out.apart g rfl
  have HG := Lib.hid hgb
  have HGC := Lib.hid hgc
  have S4 : Hid (w3.cell? ⟨w.heap.size, 0, none⟩ = some (.int .i64 6) ∧ w3.cell? ⟨w.heap.size, 1, none⟩ = some (.int .i64 4) ∧ w3.cell? ⟨w.heap.size, 2, none⟩ = some (.int .i64 v) ∧ w3.cell? ⟨w.heap.size, 3, none⟩ = some (.int .i64 mx)) := ⟨HB3.out.cell 0, HB3.out.cell 1, HB3.out.cell 2, HB3.out.cell 3⟩
  have HB4 := Lib.hid (HB3.out.alloc (.cells (mapC bm 6 v mx (eachV (some ⟨g, 0, none⟩) n cc)) 77))
  have S5 : Hid ((w3.alloc (.cells (mapC bm 6 v mx (eachV (some ⟨g, 0, none⟩) n cc)) 77)).cell? ⟨w.heap.size, 0, none⟩ = some (.int .i64 6) ∧ (w3.alloc (.cells (mapC bm 6 v mx (eachV (some ⟨g, 0, none⟩) n cc)) 77)).cell? ⟨w.heap.size, 1, none⟩ = some (.int .i64 4) ∧ (w3.alloc (.cells (mapC bm 6 v mx (eachV (some ⟨g, 0, none⟩) n cc)) 77)).cell? ⟨w.heap.size, 2, none⟩ = some (.int .i64 v) ∧ (w3.alloc (.cells (mapC bm 6 v mx (eachV (some ⟨g, 0, none⟩) n cc)) 77)).cell? ⟨w.heap.size, 3, none⟩ = some (.int .i64 mx)) := ⟨HB4.out.cell 0, HB4.out.cell 1, HB4.out.cell 2, HB4.out.cell 3⟩
  have CL := Lib.hid (lay_cpu (some ⟨g, 0, none⟩) n cc w3.drew)
  clear hgb hgc S1 S2 S3' HB1 HB2 CW CA B1 K1
  go_upto_region 6 with fail
  go_region_held3 (fun W => W.cell? ⟨w.heap.size, 0, none⟩ = some (.int .i64 6) ∧ W.cell? ⟨w.heap.size, 1, none⟩ = some (.int .i64 4) ∧ W.cell? ⟨w.heap.size, 2, none⟩ = some (.int .i64 v) ∧ W.cell? ⟨w.heap.size, 3, none⟩ = some (.int .i64 mx))
    (first | exact S4.out | exact S5.out)
    (first
      | (go_at_call 29; refine CL.out.mono ?_; rintro e w4 ⟨rfl, rfl⟩))
  go_wp2_with fail
  go_ret2
  have kf : Keeps (fun _ => False) w3 (w3.alloc (.cells (mapC bm 6 v mx (eachV (some ⟨g, 0, none⟩) n cc)) 77)).drew := ((Keeps.refl _ _).alloc _).drew
  have kk : Keeps S w w3 := ((keeps_grow B2.out).mono fun _ hf => hf.elim).trans (HA.out.keeps.mono fun b hb => .inl hb)
  have h2 := B2.out.size
  have h3 := HA.out.keeps.size
  refine ⟨w3.heap.size, g, cc, S3, st3, mv3, rfl, ⟨HA.out.km.keeps kf (fun b _ hf => hf), blk_drew (Blk.new w3 _ _), fun hs => Nat.lt_irrefl _ (HA.out.km.lt _ hs), by omega, kk.trans (kf.mono fun _ hf => hf.elim),
    fun b hb => (HA.out.sub b hb).imp id fun h => by omega, HA.out.old, HA.out.new⟩, NG.out, Nat.lt_of_lt_of_le HG.out.lt kf.size, fun i hi => ?_⟩
  refine (World.cell?_of_block (kf.block g HG.out.lt fun hf => hf)).trans (HGC.out i _ ?_)
  unfold firstsC
  rw [List.getElem?_map, List.getElem?_range hi]
  rfl
end
end Go.Proofs.Ythilkgfbaddjpaa
namespace Go.Proofs.Ythilkgfbaddjpaa
open Go Go.RowKit
set_option linter.unusedVariables false
set_option linter.unusedSimpArgs false
set_option maxRecDepth 100000
theorem mSeenE (v : Value) (w : World) : (Go.method 278 118 v "portcullis/flat.seen").run Try.prog w = .ok (112, v) w := by kernel_rfl
theorem mWrittenE (v : Value) (w : World) : (Go.method 278 118 v "portcullis/flat.written").run Try.prog w = .ok (113, v) w := by kernel_rfl
theorem mAllE (v : Value) (w : World) : (Go.method 278 118 v "portcullis/flat.all").run Try.prog w = .ok (111, v) w := by kernel_rfl
theorem eseen_yes (g n c i : Nat) (f : Int) (hi : i < n) (hn : n ≤ 8) (w : World) (hg : g < w.heap.size) (hc : w.cell? ⟨g, i, none⟩ = some (.int .u64 f)) : Calls Try.prog 112 #[.agg #[.slice (some ⟨g, 0, none⟩) n c], .int .i64 i] w fun e w' => e = .returned (.tuple #[.int .u64 f, .bool true]) ∧ Below w.heap.size w w' := by
  have B := Lib.hid (below_alloc w (.cells #[.slice (some ⟨g, 0, none⟩) n c] 118))
  have c1 : (w.alloc (.cells #[.slice (some ⟨g, 0, none⟩) n c] 118)).cell? ⟨g, i, none⟩ = some (.int .u64 f) := (B.out.cell (p := ⟨g, i, none⟩) hg).trans hc
  have g1 : decide ((i : Int) < 0) = false := decide_eq_false (by omega)
  have g2 : decide ((n : Int) ≤ (i : Int)) = false := decide_eq_false (by omega)
  have g3 : decide (n ≤ i) = false := decide_eq_false (by omega)
  go_enter Try.func112, Try.ntmps112
  go_wp2_with fail
  go_ret2
  exact ⟨rfl, B.out⟩
theorem eall_any (A : Option Addr) (n c : Nat) (w : World) : Calls Try.prog 111 #[.agg #[.slice A n c]] w fun e w' => e = .returned (.slice A n c) ∧ Below w.heap.size w w' := by
  have B := Lib.hid (below_alloc w (.cells #[.slice A n c] 118))
  go_enter Try.func111, Try.ntmps111
  go_wp2_with fail
  go_ret
  exact ⟨rfl, B.out⟩
theorem ewritten_all (A : Option Addr) (n c : Nat) (w : World) : Calls Try.prog 113 #[.agg #[.slice A n c], .int .i64 (-1)] w fun e w' => e = .returned (.slice A n c) ∧ Below w.heap.size w w' := by
  have B := Lib.hid (below_alloc w (.cells #[.slice A n c] 118))
  go_enter Try.func113, Try.ntmps113
  go_wp2_with (go_at_call 111; refine (eall_any _ _ _ _).mono ?_; rintro e w1 ⟨rfl, hb⟩; have B1 := Lib.hid (below_then B.out hb); clear hb)
  go_ret
  exact ⟨rfl, B1.out⟩
theorem ewritten_one (g n c i : Nat) (f : Int) (hi : i < n) (hn : n ≤ 8) (w : World) (hg : g < w.heap.size) (hc : w.cell? ⟨g, i, none⟩ = some (.int .u64 f)) : Calls Try.prog 113 #[.agg #[.slice (some ⟨g, 0, none⟩) n c], .int .i64 i] w fun e w' => ∃ g', e = .returned (.slice (some ⟨g', 0, none⟩) 1 1) ∧ Below w.heap.size w w' ∧ w.heap.size ≤ g' ∧ Blk w' g' 43 #[.int .u64 f] := by
  have B := Lib.hid (below_alloc w (.cells #[.slice (some ⟨g, 0, none⟩) n c] 118))
  have CS := Lib.hid (eseen_yes g n c i f hi hn (w.alloc (.cells #[.slice (some ⟨g, 0, none⟩) n c] 118)) (by simp; omega) ((B.out.cell (p := ⟨g, i, none⟩) hg).trans hc))
  have g1 : decide ((i : Int) = -1) = false := decide_eq_false (by omega)
  have g2 : ((i : Int) == -1) = false := by rw [beq_eq_false_iff_ne]; omega
  clear hi hn hg hc
  go_enter Try.func113, Try.ntmps113
  go_wp2_with (go_at_call 112; refine CS.out.mono ?_; rintro e w1 ⟨rfl, hb⟩; have B1 := Lib.hid (below_then B.out hb); clear hb)
  go_ret
  exact ⟨_, rfl, below_then B1.out (below_alloc _ _), B1.out.size, Blk.new w1 _ _⟩
section
variable {w : World} {S : Nat → Prop} {bm made fail : Nat} {st : Nat → Option RG} {rl : List Nat} {mv rv : Value}
/-- An array for each of n CPUs, of the law's own making: region i + 1 is that of CPU i. -/
structure FC (B : Nat) (w0 w : World) (S : Nat → Prop) (bm made fail : Nat) (st : Nat → Option RG) (rl : List Nat) (mv rv : Value) (x v mx g c n : Nat) : Prop where
  fs : FS B w0 w S bm made fail st rl mv rv x (mapC bm 6 v mx (eachV (some ⟨g, 0, none⟩) n c))
  ng : ¬ S g
  gl : g < w.heap.size
  cells : ∀ i, i < n → w.cell? ⟨g, i, none⟩ = some (.int .u64 (addr (i + 1) 0))
variable {B : Nat} {w0 w' : World} {x v mx g c n : Nat}
theorem FC.grow (h : FC B w0 w S bm made fail st rl mv rv x v mx g c n) (hb : Below w.heap.size w w') : FC B w0 w' S bm made fail st rl mv rv x v mx g c n :=
  ⟨h.fs.grow hb, h.ng, Nat.lt_of_lt_of_le h.gl hb.size, fun i hi => (hb.cell (p := ⟨g, i, none⟩) h.gl).trans (h.cells i hi)⟩
theorem FC.turn {made' fail' : Nat} {st' : Nat → Option RG} {rl' : List Nat} {mv' rv' : Value} (h : FC B w0 w S bm made fail st rl mv rv x v mx g c n) (hk : KM w' (more S w w') bm made' fail' st' rl' mv' rv') (kk : Keeps S w w') : FC B w0 w' (more S w w') bm made' fail' st' rl' mv' rv' x v mx g c n :=
  ⟨h.fs.turn hk kk, fun hx => by
    rcases hx with hx | ⟨hx, _⟩
    · exact h.ng hx
    · have := h.gl; omega, Nat.lt_of_lt_of_le h.gl kk.size, fun i hi => (World.cell?_of_block (kk.block g h.gl h.ng)).trans (h.cells i hi)⟩
theorem FC.put {ns : Nat → Nat} {q k : Nat} {l : List UInt8} {S' : Nat → Prop} {st' : Nat → Option RG} {mv' : Value} (h : FC B w0 w S bm made fail st rl mv rv x v mx g c n) (p : PA w S bm made fail st rl rv ns q l k w' S' st' mv') : FC B w0 w' S' bm made fail st' rl mv' rv x v mx g c n :=
  ⟨h.fs.put p, fun hx => by
    rcases p.sub g hx with hx | hx
    · exact h.ng hx
    · have := h.gl; omega, Nat.lt_of_lt_of_le h.gl p.keeps.size, fun i hi => (World.cell?_of_block (p.keeps.block g h.gl h.ng)).trans (h.cells i hi)⟩
set_option maxHeartbeats 1000000 in
theorem Lookup_cpu (h : FC B w0 w S bm made fail st rl mv rv x v mx g c n) (hv : v ≤ 4096) (hm : mx ≤ 4096) (hn8 : n ≤ 8) (i : Nat) (hi : i < n) (xs : List UInt8) (h4 : xs.length = 4) (hn : le xs < mx) :
    Calls Try.prog 21 #[.pointer (some ⟨x, 0, none⟩), .string (bstr xs), .int .i64 i] w fun e w' => e = .returned (.int .u64 (addr (i + 1) (le xs * wide v))) ∧ Below w.heap.size w w' := by
  have c5 : w.cell? ⟨x, 5, none⟩ = some (eachV (some ⟨g, 0, none⟩) n c) := h.fs.map.cell 5
  have hle : le xs ≤ 4294967295 := by omega
  have CN := Lib.hid (number_ok xs h4)
  have CG := Lib.hid (gone_no _ _ _ _ _ _ _ h.fs.map)
  have CM := Lib.hid (max_any _ _ _ _ _ mx hm h.fs.map)
  have CS := Lib.hid (eseen_yes g n c i (addr (i + 1) 0) hi hn8 w h.gl (h.cells i hi))
  have CO := Lib.hid (fun w' (hb : Below w.heap.size w w') => offset_any _ _ _ _ _ v (le xs) hv hle (blk_below h.fs.map hb))
  have g1 : decide ((mx : Int) ≤ (le xs : Int)) = false := decide_eq_false (by omega)
  have g2 : decide (mx ≤ le xs) = false := decide_eq_false (by omega)
  have hw : wide v ≤ 4103 := by unfold wide; omega
  have hq : le xs * wide v ≤ 4096 * 4103 := Nat.mul_le_mul (by omega) hw
  obtain ⟨q, hqq⟩ : ∃ q, le xs * wide v = q := ⟨_, rfl⟩
  rw [hqq] at CO hq ⊢
  have e1 : IntKind.u64.wrap (addr (i + 1) 0 + (q : Int)) = addr (i + 1) q := by rw [wraps_u64 _ (by unfold addr; omega) (by unfold addr; omega)]; unfold addr; omega
  have mS := mSeenE
  clear h hv hm hn hle hw hq hqq h4 hi hn8
  generalize le xs = k at *
  go_enter Try.func21, Try.ntmps21
  go_wp2_with (first
    | (go_at_call 42; refine (CN.out _).mono ?_; rintro e w' ⟨rfl, rfl⟩)
    | (go_at_call 43; refine CG.out.mono ?_; rintro e w' ⟨rfl, rfl⟩)
    | (go_at_call 44; refine CM.out.mono ?_; rintro e w' ⟨rfl, rfl⟩)
    | (go_at_call 112; refine CS.out.mono ?_; rintro e w1 ⟨rfl, hb⟩; have B1 := Lib.hid hb; clear hb)
    | (go_at_call 46; refine (CO.out _ B1.out).mono ?_; rintro e w2 ⟨rfl, hb⟩; have B2 := Lib.hid (below_then B1.out hb); clear hb))
  go_ret
  exact ⟨rfl, B2.out⟩
/-- What an Update of some CPUs leaves. -/
def UpPost (B : Nat) (w0 : World) (bm made fail : Nat) (st : Nat → Option RG) (rl : List Nat) (rv : Value) (x v mx g c n q : Nat) (l : List UInt8) (who : Nat → Bool) (w' : World) : Prop :=
  ∃ S' st' mv', FC B w0 w' S' bm made fail st' rl mv' rv x v mx g c n ∧ ∀ i, i < n → ∀ r, st (i + 1) = some r → ∃ r', st' (i + 1) = some r' ∧ r'.bytes = if who i = true then setAt r.bytes q l else r.bytes
set_option maxHeartbeats 1000000 in
theorem Update_cpu_one (h : FC B w0 w S bm made fail st rl mv rv x v mx g c n) (hv : v ≤ 4096) (hm : mx ≤ 4096) (hn8 : n ≤ 8) (hn1 : 1 ≤ n) (i : Nat) (hi : i < n) (xs : List UInt8) (h4 : xs.length = 4) (hn : le xs < mx) (l : List UInt8) (hl : l.length = v) (h1 : 1 ≤ v) (hr : ∀ i, i < n → ∃ r, st (i + 1) = some r ∧ le xs * wide v + v ≤ r.bytes.length) :
    Calls Try.prog 19 #[.pointer (some ⟨x, 0, none⟩), .string (bstr xs), .string (bstr l), .int .i64 0, .int .i64 i] w fun e w' => e = .returned (.int .i64 0) ∧ UpPost B w0 bm made fail st rl rv x v mx g c n (le xs * wide v) l (fun k => k == i) w' := by
  have c3 : w.cell? ⟨x, 3, none⟩ = some (.int .i64 v) := h.fs.map.cell 3
  have c5 : w.cell? ⟨x, 5, none⟩ = some (eachV (some ⟨g, 0, none⟩) n c) := h.fs.map.cell 5
  have hle : le xs ≤ 4294967295 := by omega
  have CN := Lib.hid (number_ok xs h4)
  have CG := Lib.hid (gone_no _ _ _ _ _ _ _ h.fs.map)
  have CM := Lib.hid (fun w' (hb : Below w.heap.size w w') => max_any _ _ _ _ _ mx hm (blk_below h.fs.map hb))
  have CO := Lib.hid (fun w' (hb : Below w.heap.size w w') => offset_any _ _ _ _ _ v (le xs) hv hle (blk_below h.fs.map hb))
  have CW := Lib.hid (ewritten_one g n c i (addr (i + 1) 0) hi hn8 w h.gl (h.cells i hi))
  have hw : wide v ≤ 4103 := by unfold wide; omega
  have hq : le xs * wide v ≤ 4096 * 4103 := Nat.mul_le_mul (by omega) hw
  obtain ⟨q, hqq⟩ : ∃ q, le xs * wide v = q := ⟨_, rfl⟩
  rw [hqq] at CO hq hr ⊢
  have g1 : decide ((mx : Int) ≤ (le xs : Int)) = false := decide_eq_false (by omega)
  have g2 : decide (mx ≤ le xs) = false := decide_eq_false (by omega)
  have g5 : (((bstr l).size : Int) != (v : Int)) = false := by rw [bstr_size, hl]; simp
  have g6 : decide ((n : Int) = 0) = false := decide_eq_false (by omega)
  have g7 : ((n : Int) == 0) = false := by simp; omega
  have g8 : decide (n = 0) = false := decide_eq_false (by omega)
  have mW := mWrittenE
  have HF := Lib.hid h
  have HR := Lib.hid hr
  have HQ := Lib.hid hq
  have HL := Lib.hid hl
  have H1 := Lib.hid h1
  have HV := Lib.hid hv
  have HN8 := Lib.hid hn8
  have HI := Lib.hid hi
  clear h hm hn h4 hv hw hqq hq hr hl h1 hle hn8 hn1 hi
  generalize le xs = k at *
  go_enter Try.func19, Try.ntmps19
  go_wp2_with (first
    | (go_at_call 42; refine (CN.out _).mono ?_; rintro e w' ⟨rfl, rfl⟩)
    | (go_at_call 43; refine CG.out.mono ?_; rintro e w' ⟨rfl, rfl⟩)
    | (go_at_call 113; refine CW.out.mono ?_; rintro e w1 ⟨g2', rfl, hb, hg, hk⟩; have B1 := Lib.hid hb; have HG := Lib.hid hg; have HK := Lib.hid hk; clear hb hg hk)
    | (go_at_call 44; refine (CM.out _ B1.out).mono ?_; rintro e w' ⟨rfl, rfl⟩)
    | (go_at_call 46; refine (CO.out _ B1.out).mono ?_; rintro e w2 ⟨rfl, hb⟩; have F2 := Lib.hid (HF.out.grow (below_then B1.out hb)); have HK2 := Lib.hid (blk_below HK.out hb); clear hb)
    | (go_at_call 45; refine (put_all F2.out.fs.km x _ _ _ _ F2.out.fs.map F2.out.fs.nx g2' 1 1 (fun _ => i + 1) HK2.out.lt (fun hs => by have := HF.out.fs.km.lt g2' hs; have := HG.out; omega) (fun i hi => by obtain rfl : i = 0 := (by omega); exact HK2.out.cell 0) (by decide) (fun _ _ => by have := HI.out; have := HN8.out; omega) (fun i k hi hk _ => by omega) q l (by have := HL.out; have := H1.out; omega) (by have := HL.out; have := HV.out; omega) (by have := HQ.out; omega) (fun _ _ => by obtain ⟨r, r1, r2⟩ := HR.out i HI.out; exact ⟨r, r1, by have := HL.out; omega⟩)).mono ?_; rintro e w3 ⟨rfl, S3, st3, mv3, hp⟩; have HP := Lib.hid hp; clear hp))
  go_ret
  refine ⟨rfl, S3, st3, mv3, F2.out.put HP.out, fun k hk r hr => ?_⟩
  by_cases hki : k = i
  · subst hki
    obtain ⟨r', q1, _, q2, _⟩ := HP.out.new 0 (by decide) r hr
    exact ⟨r', q1, by rw [q2, if_pos (by simp)]⟩
  · exact ⟨r, (HP.out.old (k + 1) fun _ _ e => hki (by omega)).trans hr, by rw [if_neg (by simp; exact hki)]⟩
set_option maxHeartbeats 1000000 in
theorem Update_cpu_all (h : FC B w0 w S bm made fail st rl mv rv x v mx g c n) (hv : v ≤ 4096) (hm : mx ≤ 4096) (hn8 : n ≤ 8) (hn1 : 1 ≤ n) (xs : List UInt8) (h4 : xs.length = 4) (hn : le xs < mx) (l : List UInt8) (hl : l.length = v) (h1 : 1 ≤ v) (hr : ∀ i, i < n → ∃ r, st (i + 1) = some r ∧ le xs * wide v + v ≤ r.bytes.length) :
    Calls Try.prog 19 #[.pointer (some ⟨x, 0, none⟩), .string (bstr xs), .string (bstr l), .int .i64 0, .int .i64 (-1)] w fun e w' => e = .returned (.int .i64 0) ∧ UpPost B w0 bm made fail st rl rv x v mx g c n (le xs * wide v) l (fun k => true) w' := by
  have c3 : w.cell? ⟨x, 3, none⟩ = some (.int .i64 v) := h.fs.map.cell 3
  have c5 : w.cell? ⟨x, 5, none⟩ = some (eachV (some ⟨g, 0, none⟩) n c) := h.fs.map.cell 5
  have hle : le xs ≤ 4294967295 := by omega
  have CN := Lib.hid (number_ok xs h4)
  have CG := Lib.hid (gone_no _ _ _ _ _ _ _ h.fs.map)
  have CM := Lib.hid (fun w' (hb : Below w.heap.size w w') => max_any _ _ _ _ _ mx hm (blk_below h.fs.map hb))
  have CO := Lib.hid (fun w' (hb : Below w.heap.size w w') => offset_any _ _ _ _ _ v (le xs) hv hle (blk_below h.fs.map hb))
  have CW := Lib.hid (ewritten_all (some ⟨g, 0, none⟩) n c w)
  have hw : wide v ≤ 4103 := by unfold wide; omega
  have hq : le xs * wide v ≤ 4096 * 4103 := Nat.mul_le_mul (by omega) hw
  obtain ⟨q, hqq⟩ : ∃ q, le xs * wide v = q := ⟨_, rfl⟩
  rw [hqq] at CO hq hr ⊢
  have g1 : decide ((mx : Int) ≤ (le xs : Int)) = false := decide_eq_false (by omega)
  have g2 : decide (mx ≤ le xs) = false := decide_eq_false (by omega)
  have g5 : (((bstr l).size : Int) != (v : Int)) = false := by rw [bstr_size, hl]; simp
  have g6 : decide ((n : Int) = 0) = false := decide_eq_false (by omega)
  have g7 : ((n : Int) == 0) = false := by simp; omega
  have g8 : decide (n = 0) = false := decide_eq_false (by omega)
  have mW := mWrittenE
  have HF := Lib.hid h
  have HR := Lib.hid hr
  have HQ := Lib.hid hq
  have HL := Lib.hid hl
  have H1 := Lib.hid h1
  have HV := Lib.hid hv
  have HN8 := Lib.hid hn8
  skip
  clear h hm hn h4 hv hw hqq hq hr hl h1 hle hn8 hn1
  generalize le xs = k at *
  go_enter Try.func19, Try.ntmps19
  go_wp2_with (first
    | (go_at_call 42; refine (CN.out _).mono ?_; rintro e w' ⟨rfl, rfl⟩)
    | (go_at_call 43; refine CG.out.mono ?_; rintro e w' ⟨rfl, rfl⟩)
    | (go_at_call 113; refine CW.out.mono ?_; rintro e w1 ⟨rfl, hb⟩; have B1 := Lib.hid hb; clear hb)
    | (go_at_call 44; refine (CM.out _ B1.out).mono ?_; rintro e w' ⟨rfl, rfl⟩)
    | (go_at_call 46; refine (CO.out _ B1.out).mono ?_; rintro e w2 ⟨rfl, hb⟩; have F2 := Lib.hid (HF.out.grow (below_then B1.out hb)); clear hb)
    | (go_at_call 45; refine (put_all F2.out.fs.km x _ _ _ _ F2.out.fs.map F2.out.fs.nx g c n (fun i => i + 1) F2.out.gl F2.out.ng F2.out.cells HN8.out (fun i hi => by have := HN8.out; omega) (fun i k hi hk _ => by omega) q l (by have := HL.out; have := H1.out; omega) (by have := HL.out; have := HV.out; omega) (by have := HQ.out; omega) (fun i hi => by obtain ⟨r, r1, r2⟩ := HR.out i hi; exact ⟨r, r1, by have := HL.out; omega⟩)).mono ?_; rintro e w3 ⟨rfl, S3, st3, mv3, hp⟩; have HP := Lib.hid hp; clear hp))
  go_ret
  refine ⟨rfl, S3, st3, mv3, F2.out.put HP.out, fun k hk r hr => ?_⟩
  obtain ⟨r', q1, _, q2, _⟩ := HP.out.new k hk r hr
  exact ⟨r', q1, by rw [q2, if_pos rfl]⟩
end
end Go.Proofs.Ythilkgfbaddjpaa
