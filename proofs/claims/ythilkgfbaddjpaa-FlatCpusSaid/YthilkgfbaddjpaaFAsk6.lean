/-
  Package flat: an array for each CPU: seen, written, all; Lookup, Update.
-/
import Derived.Test.YthilkgfbaddjpaaFNew6
namespace Go.Proofs.Ythilkgfbaddjpaa
open Go Go.RowKit
set_option linter.unusedVariables false
set_option linter.unusedSimpArgs false
set_option maxRecDepth 100000
theorem mSeenE (v : Value) (w : World) : (Go.method 278 118 v "portcullis/flat.seen").run Try.prog w = .ok (112, v) w := by kernel_rfl
theorem mWrittenE (v : Value) (w : World) : (Go.method 278 118 v "portcullis/flat.written").run Try.prog w = .ok (113, v) w := by kernel_rfl
theorem mAllE (v : Value) (w : World) : (Go.method 278 118 v "portcullis/flat.all").run Try.prog w = .ok (111, v) w := by kernel_rfl
theorem eseen_yes (g n c i : Nat) (f : Int) (hi : i < n) (hn : n ≤ 8) (w : World) (hg : g < w.heap.size) (hc : w.cell? ⟨g, i, none⟩ = some (.int .u64 f)) : Calls Try.prog 112 #[.agg #[.slice (some ⟨g, 0, none⟩) n c], .int .i64 i] w fun e w' => e = .returned (.tuple #[.int .u64 f, .bool true]) ∧ Below w.heap.size w w' := by
  have B := Lib.hid (below_alloc w (.cells #[.slice (some ⟨g, 0, none⟩) n c] 118))
  have c1 : (w.alloc (.cells #[.slice (some ⟨g, 0, none⟩) n c] 118)).cell? ⟨g, i, none⟩ = some (.int .u64 f) := (B.out.cell (p := ⟨g, i, none⟩) hg).trans hc
  have g1 : decide ((i : Int) < 0) = false := decide_eq_false (by omega)
  have g2 : decide ((n : Int) ≤ (i : Int)) = false := decide_eq_false (by omega)
  have g3 : decide (n ≤ i) = false := decide_eq_false (by omega)
  go_enter Try.func112, Try.ntmps112
  go_wp2_with fail
  go_ret2
  exact ⟨rfl, B.out⟩
theorem eall_any (A : Option Addr) (n c : Nat) (w : World) : Calls Try.prog 111 #[.agg #[.slice A n c]] w fun e w' => e = .returned (.slice A n c) ∧ Below w.heap.size w w' := by
  have B := Lib.hid (below_alloc w (.cells #[.slice A n c] 118))
  go_enter Try.func111, Try.ntmps111
  go_wp2_with fail
  go_ret
  exact ⟨rfl, B.out⟩
theorem ewritten_all (A : Option Addr) (n c : Nat) (w : World) : Calls Try.prog 113 #[.agg #[.slice A n c], .int .i64 (-1)] w fun e w' => e = .returned (.slice A n c) ∧ Below w.heap.size w w' := by
  have B := Lib.hid (below_alloc w (.cells #[.slice A n c] 118))
  go_enter Try.func113, Try.ntmps113
  go_wp2_with (go_at_call 111; refine (eall_any _ _ _ _).mono ?_; rintro e w1 ⟨rfl, hb⟩; have B1 := Lib.hid (below_then B.out hb); clear hb)
  go_ret
  exact ⟨rfl, B1.out⟩
theorem ewritten_one (g n c i : Nat) (f : Int) (hi : i < n) (hn : n ≤ 8) (w : World) (hg : g < w.heap.size) (hc : w.cell? ⟨g, i, none⟩ = some (.int .u64 f)) : Calls Try.prog 113 #[.agg #[.slice (some ⟨g, 0, none⟩) n c], .int .i64 i] w fun e w' => ∃ g', e = .returned (.slice (some ⟨g', 0, none⟩) 1 1) ∧ Below w.heap.size w w' ∧ w.heap.size ≤ g' ∧ Blk w' g' 43 #[.int .u64 f] := by
  have B := Lib.hid (below_alloc w (.cells #[.slice (some ⟨g, 0, none⟩) n c] 118))
  have CS := Lib.hid (eseen_yes g n c i f hi hn (w.alloc (.cells #[.slice (some ⟨g, 0, none⟩) n c] 118)) (by simp; omega) ((B.out.cell (p := ⟨g, i, none⟩) hg).trans hc))
  have g1 : decide ((i : Int) = -1) = false := decide_eq_false (by omega)
  have g2 : ((i : Int) == -1) = false := by rw [beq_eq_false_iff_ne]; omega
  clear hi hn hg hc
  go_enter Try.func113, Try.ntmps113
  go_wp2_with (go_at_call 112; refine CS.out.mono ?_; rintro e w1 ⟨rfl, hb⟩; have B1 := Lib.hid (below_then B.out hb); clear hb)
  go_ret
  exact ⟨_, rfl, below_then B1.out (below_alloc _ _), B1.out.size, Blk.new w1 _ _⟩
section
variable {w : World} {S : Nat → Prop} {bm made fail : Nat} {st : Nat → Option RG} {rl : List Nat} {mv rv : Value}
/-- An array for each of n CPUs, of the law's own making: region i + 1 is that of CPU i. -/
structure FC (B : Nat) (w0 w : World) (S : Nat → Prop) (bm made fail : Nat) (st : Nat → Option RG) (rl : List Nat) (mv rv : Value) (x v mx g c n : Nat) : Prop where
  fs : FS B w0 w S bm made fail st rl mv rv x (mapC bm 6 v mx (eachV (some ⟨g, 0, none⟩) n c))
  ng : ¬ S g
  gl : g < w.heap.size
  cells : ∀ i, i < n → w.cell? ⟨g, i, none⟩ = some (.int .u64 (addr (i + 1) 0))
variable {B : Nat} {w0 w' : World} {x v mx g c n : Nat}
theorem FC.grow (h : FC B w0 w S bm made fail st rl mv rv x v mx g c n) (hb : Below w.heap.size w w') : FC B w0 w' S bm made fail st rl mv rv x v mx g c n :=
  ⟨h.fs.grow hb, h.ng, Nat.lt_of_lt_of_le h.gl hb.size, fun i hi => (hb.cell (p := ⟨g, i, none⟩) h.gl).trans (h.cells i hi)⟩
theorem FC.turn {made' fail' : Nat} {st' : Nat → Option RG} {rl' : List Nat} {mv' rv' : Value} (h : FC B w0 w S bm made fail st rl mv rv x v mx g c n) (hk : KM w' (more S w w') bm made' fail' st' rl' mv' rv') (kk : Keeps S w w') : FC B w0 w' (more S w w') bm made' fail' st' rl' mv' rv' x v mx g c n :=
  ⟨h.fs.turn hk kk, fun hx => by
    rcases hx with hx | ⟨hx, _⟩
    · exact h.ng hx
    · have := h.gl; omega, Nat.lt_of_lt_of_le h.gl kk.size, fun i hi => (World.cell?_of_block (kk.block g h.gl h.ng)).trans (h.cells i hi)⟩
theorem FC.put {ns : Nat → Nat} {q k : Nat} {l : List UInt8} {S' : Nat → Prop} {st' : Nat → Option RG} {mv' : Value} (h : FC B w0 w S bm made fail st rl mv rv x v mx g c n) (p : PA w S bm made fail st rl rv ns q l k w' S' st' mv') : FC B w0 w' S' bm made fail st' rl mv' rv x v mx g c n :=
  ⟨h.fs.put p, fun hx => by
    rcases p.sub g hx with hx | hx
    · exact h.ng hx
    · have := h.gl; omega, Nat.lt_of_lt_of_le h.gl p.keeps.size, fun i hi => (World.cell?_of_block (p.keeps.block g h.gl h.ng)).trans (h.cells i hi)⟩
set_option maxHeartbeats 1000000 in
theorem Lookup_cpu (h : FC B w0 w S bm made fail st rl mv rv x v mx g c n) (hv : v ≤ 4096) (hm : mx ≤ 4096) (hn8 : n ≤ 8) (i : Nat) (hi : i < n) (xs : List UInt8) (h4 : xs.length = 4) (hn : le xs < mx) :
    Calls Try.prog 21 #[.pointer (some ⟨x, 0, none⟩), .string (bstr xs), .int .i64 i] w fun e w' => e = .returned (.int .u64 (addr (i + 1) (le xs * wide v))) ∧ Below w.heap.size w w' := by
  have c5 : w.cell? ⟨x, 5, none⟩ = some (eachV (some ⟨g, 0, none⟩) n c) := h.fs.map.cell 5
  have hle : le xs ≤ 4294967295 := by omega
  have CN := Lib.hid (number_ok xs h4)
  have CG := Lib.hid (gone_no _ _ _ _ _ _ _ h.fs.map)
  have CM := Lib.hid (max_any _ _ _ _ _ mx hm h.fs.map)
  have CS := Lib.hid (eseen_yes g n c i (addr (i + 1) 0) hi hn8 w h.gl (h.cells i hi))
  have CO := Lib.hid (fun w' (hb : Below w.heap.size w w') => offset_any _ _ _ _ _ v (le xs) hv hle (blk_below h.fs.map hb))
  have g1 : decide ((mx : Int) ≤ (le xs : Int)) = false := decide_eq_false (by omega)
  have g2 : decide (mx ≤ le xs) = false := decide_eq_false (by omega)
  have hw : wide v ≤ 4103 := by unfold wide; omega
  have hq : le xs * wide v ≤ 4096 * 4103 := Nat.mul_le_mul (by omega) hw
  obtain ⟨q, hqq⟩ : ∃ q, le xs * wide v = q := ⟨_, rfl⟩
  rw [hqq] at CO hq ⊢
  have e1 : IntKind.u64.wrap (addr (i + 1) 0 + (q : Int)) = addr (i + 1) q := by rw [wraps_u64 _ (by unfold addr; omega) (by unfold addr; omega)]; unfold addr; omega
  have mS := mSeenE
  clear h hv hm hn hle hw hq hqq h4 hi hn8
  generalize le xs = k at *
  go_enter Try.func21, Try.ntmps21
  go_wp2_with (first
    | (go_at_call 42; refine (CN.out _).mono ?_; rintro e w' ⟨rfl, rfl⟩)
    | (go_at_call 43; refine CG.out.mono ?_; rintro e w' ⟨rfl, rfl⟩)
    | (go_at_call 44; refine CM.out.mono ?_; rintro e w' ⟨rfl, rfl⟩)
    | (go_at_call 112; refine CS.out.mono ?_; rintro e w1 ⟨rfl, hb⟩; have B1 := Lib.hid hb; clear hb)
    | (go_at_call 46; refine (CO.out _ B1.out).mono ?_; rintro e w2 ⟨rfl, hb⟩; have B2 := Lib.hid (below_then B1.out hb); clear hb))
  go_ret
  exact ⟨rfl, B2.out⟩
/-- What an Update of some CPUs leaves. -/
def UpPost (B : Nat) (w0 : World) (bm made fail : Nat) (st : Nat → Option RG) (rl : List Nat) (rv : Value) (x v mx g c n q : Nat) (l : List UInt8) (who : Nat → Bool) (w' : World) : Prop :=
  ∃ S' st' mv', FC B w0 w' S' bm made fail st' rl mv' rv x v mx g c n ∧ ∀ i, i < n → ∀ r, st (i + 1) = some r → ∃ r', st' (i + 1) = some r' ∧ r'.bytes = if who i = true then setAt r.bytes q l else r.bytes
set_option maxHeartbeats 1000000 in
theorem Update_cpu_one (h : FC B w0 w S bm made fail st rl mv rv x v mx g c n) (hv : v ≤ 4096) (hm : mx ≤ 4096) (hn8 : n ≤ 8) (hn1 : 1 ≤ n) (i : Nat) (hi : i < n) (xs : List UInt8) (h4 : xs.length = 4) (hn : le xs < mx) (l : List UInt8) (hl : l.length = v) (h1 : 1 ≤ v) (hr : ∀ i, i < n → ∃ r, st (i + 1) = some r ∧ le xs * wide v + v ≤ r.bytes.length) :
    Calls Try.prog 19 #[.pointer (some ⟨x, 0, none⟩), .string (bstr xs), .string (bstr l), .int .i64 0, .int .i64 i] w fun e w' => e = .returned (.int .i64 0) ∧ UpPost B w0 bm made fail st rl rv x v mx g c n (le xs * wide v) l (fun k => k == i) w' := by
  have c3 : w.cell? ⟨x, 3, none⟩ = some (.int .i64 v) := h.fs.map.cell 3
  have c5 : w.cell? ⟨x, 5, none⟩ = some (eachV (some ⟨g, 0, none⟩) n c) := h.fs.map.cell 5
  have hle : le xs ≤ 4294967295 := by omega
  have CN := Lib.hid (number_ok xs h4)
  have CG := Lib.hid (gone_no _ _ _ _ _ _ _ h.fs.map)
  have CM := Lib.hid (fun w' (hb : Below w.heap.size w w') => max_any _ _ _ _ _ mx hm (blk_below h.fs.map hb))
  have CO := Lib.hid (fun w' (hb : Below w.heap.size w w') => offset_any _ _ _ _ _ v (le xs) hv hle (blk_below h.fs.map hb))
  have CW := Lib.hid (ewritten_one g n c i (addr (i + 1) 0) hi hn8 w h.gl (h.cells i hi))
  have hw : wide v ≤ 4103 := by unfold wide; omega
  have hq : le xs * wide v ≤ 4096 * 4103 := Nat.mul_le_mul (by omega) hw
  obtain ⟨q, hqq⟩ : ∃ q, le xs * wide v = q := ⟨_, rfl⟩
  rw [hqq] at CO hq hr ⊢
  have g1 : decide ((mx : Int) ≤ (le xs : Int)) = false := decide_eq_false (by omega)
  have g2 : decide (mx ≤ le xs) = false := decide_eq_false (by omega)
  have g5 : (((bstr l).size : Int) != (v : Int)) = false := by rw [bstr_size, hl]; simp
  have g6 : decide ((n : Int) = 0) = false := decide_eq_false (by omega)
  have g7 : ((n : Int) == 0) = false := by simp; omega
  have g8 : decide (n = 0) = false := decide_eq_false (by omega)
  have mW := mWrittenE
  have HF := Lib.hid h
  have HR := Lib.hid hr
  have HQ := Lib.hid hq
  have HL := Lib.hid hl
  have H1 := Lib.hid h1
  have HV := Lib.hid hv
  have HN8 := Lib.hid hn8
  have HI := Lib.hid hi
  clear h hm hn h4 hv hw hqq hq hr hl h1 hle hn8 hn1 hi
  generalize le xs = k at *
  go_enter Try.func19, Try.ntmps19
  go_wp2_with (first
    | (go_at_call 42; refine (CN.out _).mono ?_; rintro e w' ⟨rfl, rfl⟩)
    | (go_at_call 43; refine CG.out.mono ?_; rintro e w' ⟨rfl, rfl⟩)
    | (go_at_call 113; refine CW.out.mono ?_; rintro e w1 ⟨g2', rfl, hb, hg, hk⟩; have B1 := Lib.hid hb; have HG := Lib.hid hg; have HK := Lib.hid hk; clear hb hg hk)
    | (go_at_call 44; refine (CM.out _ B1.out).mono ?_; rintro e w' ⟨rfl, rfl⟩)
    | (go_at_call 46; refine (CO.out _ B1.out).mono ?_; rintro e w2 ⟨rfl, hb⟩; have F2 := Lib.hid (HF.out.grow (below_then B1.out hb)); have HK2 := Lib.hid (blk_below HK.out hb); clear hb)
    | (go_at_call 45; refine (put_all F2.out.fs.km x _ _ _ _ F2.out.fs.map F2.out.fs.nx g2' 1 1 (fun _ => i + 1) HK2.out.lt (fun hs => by have := HF.out.fs.km.lt g2' hs; have := HG.out; omega) (fun i hi => by obtain rfl : i = 0 := (by omega); exact HK2.out.cell 0) (by decide) (fun _ _ => by have := HI.out; have := HN8.out; omega) (fun i k hi hk _ => by omega) q l (by have := HL.out; have := H1.out; omega) (by have := HL.out; have := HV.out; omega) (by have := HQ.out; omega) (fun _ _ => by obtain ⟨r, r1, r2⟩ := HR.out i HI.out; exact ⟨r, r1, by have := HL.out; omega⟩)).mono ?_; rintro e w3 ⟨rfl, S3, st3, mv3, hp⟩; have HP := Lib.hid hp; clear hp))
  go_ret
  refine ⟨rfl, S3, st3, mv3, F2.out.put HP.out, fun k hk r hr => ?_⟩
  by_cases hki : k = i
  · subst hki
    obtain ⟨r', q1, _, q2, _⟩ := HP.out.new 0 (by decide) r hr
    exact ⟨r', q1, by rw [q2, if_pos (by simp)]⟩
  · exact ⟨r, (HP.out.old (k + 1) fun _ _ e => hki (by omega)).trans hr, by rw [if_neg (by simp; exact hki)]⟩
set_option maxHeartbeats 1000000 in
theorem Update_cpu_all (h : FC B w0 w S bm made fail st rl mv rv x v mx g c n) (hv : v ≤ 4096) (hm : mx ≤ 4096) (hn8 : n ≤ 8) (hn1 : 1 ≤ n) (xs : List UInt8) (h4 : xs.length = 4) (hn : le xs < mx) (l : List UInt8) (hl : l.length = v) (h1 : 1 ≤ v) (hr : ∀ i, i < n → ∃ r, st (i + 1) = some r ∧ le xs * wide v + v ≤ r.bytes.length) :
    Calls Try.prog 19 #[.pointer (some ⟨x, 0, none⟩), .string (bstr xs), .string (bstr l), .int .i64 0, .int .i64 (-1)] w fun e w' => e = .returned (.int .i64 0) ∧ UpPost B w0 bm made fail st rl rv x v mx g c n (le xs * wide v) l (fun k => true) w' := by
  have c3 : w.cell? ⟨x, 3, none⟩ = some (.int .i64 v) := h.fs.map.cell 3
  have c5 : w.cell? ⟨x, 5, none⟩ = some (eachV (some ⟨g, 0, none⟩) n c) := h.fs.map.cell 5
  have hle : le xs ≤ 4294967295 := by omega
  have CN := Lib.hid (number_ok xs h4)
  have CG := Lib.hid (gone_no _ _ _ _ _ _ _ h.fs.map)
  have CM := Lib.hid (fun w' (hb : Below w.heap.size w w') => max_any _ _ _ _ _ mx hm (blk_below h.fs.map hb))
  have CO := Lib.hid (fun w' (hb : Below w.heap.size w w') => offset_any _ _ _ _ _ v (le xs) hv hle (blk_below h.fs.map hb))
  have CW := Lib.hid (ewritten_all (some ⟨g, 0, none⟩) n c w)
  have hw : wide v ≤ 4103 := by unfold wide; omega
  have hq : le xs * wide v ≤ 4096 * 4103 := Nat.mul_le_mul (by omega) hw
  obtain ⟨q, hqq⟩ : ∃ q, le xs * wide v = q := ⟨_, rfl⟩
  rw [hqq] at CO hq hr ⊢
  have g1 : decide ((mx : Int) ≤ (le xs : Int)) = false := decide_eq_false (by omega)
  have g2 : decide (mx ≤ le xs) = false := decide_eq_false (by omega)
  have g5 : (((bstr l).size : Int) != (v : Int)) = false := by rw [bstr_size, hl]; simp
  have g6 : decide ((n : Int) = 0) = false := decide_eq_false (by omega)
  have g7 : ((n : Int) == 0) = false := by simp; omega
  have g8 : decide (n = 0) = false := decide_eq_false (by omega)
  have mW := mWrittenE
  have HF := Lib.hid h
  have HR := Lib.hid hr
  have HQ := Lib.hid hq
  have HL := Lib.hid hl
  have H1 := Lib.hid h1
  have HV := Lib.hid hv
  have HN8 := Lib.hid hn8
  skip
  clear h hm hn h4 hv hw hqq hq hr hl h1 hle hn8 hn1
  generalize le xs = k at *
  go_enter Try.func19, Try.ntmps19
  go_wp2_with (first
    | (go_at_call 42; refine (CN.out _).mono ?_; rintro e w' ⟨rfl, rfl⟩)
    | (go_at_call 43; refine CG.out.mono ?_; rintro e w' ⟨rfl, rfl⟩)
    | (go_at_call 113; refine CW.out.mono ?_; rintro e w1 ⟨rfl, hb⟩; have B1 := Lib.hid hb; clear hb)
    | (go_at_call 44; refine (CM.out _ B1.out).mono ?_; rintro e w' ⟨rfl, rfl⟩)
    | (go_at_call 46; refine (CO.out _ B1.out).mono ?_; rintro e w2 ⟨rfl, hb⟩; have F2 := Lib.hid (HF.out.grow (below_then B1.out hb)); clear hb)
    | (go_at_call 45; refine (put_all F2.out.fs.km x _ _ _ _ F2.out.fs.map F2.out.fs.nx g c n (fun i => i + 1) F2.out.gl F2.out.ng F2.out.cells HN8.out (fun i hi => by have := HN8.out; omega) (fun i k hi hk _ => by omega) q l (by have := HL.out; have := H1.out; omega) (by have := HL.out; have := HV.out; omega) (by have := HQ.out; omega) (fun i hi => by obtain ⟨r, r1, r2⟩ := HR.out i hi; exact ⟨r, r1, by have := HL.out; omega⟩)).mono ?_; rintro e w3 ⟨rfl, S3, st3, mv3, hp⟩; have HP := Lib.hid hp; clear hp))
  go_ret
  refine ⟨rfl, S3, st3, mv3, F2.out.put HP.out, fun k hk r hr => ?_⟩
  obtain ⟨r', q1, _, q2, _⟩ := HP.out.new k hk r hr
  exact ⟨r', q1, by rw [q2, if_pos rfl]⟩
end
end Go.Proofs.Ythilkgfbaddjpaa
