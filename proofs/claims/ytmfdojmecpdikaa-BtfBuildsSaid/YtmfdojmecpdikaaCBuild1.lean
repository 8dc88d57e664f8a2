/-
  Layer 6, the reference's Build, walked.
-/
import Derived.Test.YtmfdojmecpdikaaCBuild0
import Derived.Outline
namespace Go.Proofs.Ytmfdojmecpdikaa
open Go Go.RowKit Go.Maps
set_option linter.unusedVariables false
set_option linter.unusedSimpArgs false
set_option maxRecDepth 100000
def PostQB (w : World) (l : List Ty) (e : Ending) (w' : World) : Prop :=
  Below w.heap.size w w' ∧ ((okB l = true ∧ e = .returned (.tuple #[.string (bstr (qbuildF l)), .int .i64 0])) ∨ (okB l = false ∧ e = .returned (.tuple #[.string ⟨#[]⟩, .int .i64 40])))
def StB (w wr : World) (g : Nat) (l : List Ty) (k : Nat) : Prop := Wr w wr g ((l.take k).foldl qputW newQ) ∧ QB ((l.take k).foldl qputW newQ) (1 + 1026 * k)
theorem wr_start {w : World} : Wr w (((w.alloc (.cells #[.string ⟨#[]⟩] 9)).alloc (.cells #[.int .i64 0] 3)).alloc (.cells #[.string ⟨#[0]⟩, .slice (some ⟨w.heap.size, 0, none⟩) 1 1, .slice (some ⟨w.heap.size + 1, 0, none⟩) 1 1, .slice none 0 0] 47)) (w.heap.size + 1 + 1) newQ := by
  have b1 := ((Blk.new w 9 #[.string ⟨#[]⟩]).alloc (.cells #[.int .i64 0] 3)).alloc (.cells #[.string ⟨#[0]⟩, .slice (some ⟨w.heap.size, 0, none⟩) 1 1, .slice (some ⟨w.heap.size + 1, 0, none⟩) 1 1, .slice none 0 0] 47)
  have b2 := (Blk.new (w.alloc (.cells #[.string ⟨#[]⟩] 9)) 3 #[.int .i64 0]).alloc (.cells #[.string ⟨#[0]⟩, .slice (some ⟨w.heap.size, 0, none⟩) 1 1, .slice (some ⟨w.heap.size + 1, 0, none⟩) 1 1, .slice none 0 0] 47)
  have b3 := Blk.new ((w.alloc (.cells #[.string ⟨#[]⟩] 9)).alloc (.cells #[.int .i64 0] 3)) 47 #[.string ⟨#[0]⟩, .slice (some ⟨w.heap.size, 0, none⟩) 1 1, .slice (some ⟨w.heap.size + 1, 0, none⟩) 1 1, .slice none 0 0]
  rw [show (w.alloc (.cells #[.string ⟨#[]⟩] 9)).heap.size = w.heap.size + 1 by simp] at b2
  rw [show ((w.alloc (.cells #[.string ⟨#[]⟩] 9)).alloc (.cells #[.int .i64 0] 3)).heap.size = w.heap.size + 1 + 1 by simp] at b3
  refine ⟨⟨_, _, _, b3, ⟨rfl, .inr ⟨_, _, _, rfl, Nat.le_refl _, b1, by decide, by decide, rfl, rfl⟩⟩, ⟨rfl, .inr ⟨_, _, _, rfl, by omega, b2, by decide, by decide, rfl, rfl⟩⟩, World.ownsRow_nil _ _ _ _, by omega, by first | (simp; done) | (simp; omega)⟩, ?_⟩
  exact (((Below.refl _ w).alloc (Nat.le_refl _) _).alloc (by simp) _).alloc (by first | (simp; done) | (simp; omega)) _
theorem cat_run (a b : List UInt8) (h : a.length + b.length ≤ 9223372036854775807) (W : World) : (Op.stringOp .add (bstr a) (bstr b)).run Try.prog W = .ok (.string (bstr (a ++ b))) W := by
  have e : bstr a ++ bstr b = bstr (a ++ b) := by
    apply ByteArray.ext
    rw [ByteArray.data_append]
    apply Array.toList_inj.1
    simp [bstr]
  rw [run_string_add_if, if_neg (by rw [bstr_size, bstr_size]; omega), e]
theorem WQ.drew_ {w : World} {g base : Nat} {q : QS} {av tv bv : Value} (h : WQ w g base q av tv bv) : WQ w.drew g base q av tv bv := ⟨h.blk, h.all, h.at_, h.b, h.hg, h.hbase⟩
theorem WQ.below {w w' : World} {g base : Nat} {q : QS} {av tv bv : Value} (h : WQ w g base q av tv bv) (hb : Below w.heap.size w w') : WQ w' g base q av tv bv :=
  ⟨h.blk.below_ hb, ownsRow_below h.all hb, ownsRow_below h.at_ hb, ownsRow_below h.b hb, h.hg, Nat.le_trans h.hbase hb.size⟩
theorem qnums_ts (q : QS) (l : List Int) : (qnums q l).ts.length = q.ts.length + 4 * l.length := (qnums_len q l).2.1
theorem wrap64_mod (x : Int) : wrap64 x % 4294967296 = x % 4294967296 := by unfold wrap64; (try split) <;> omega
theorem wrap64_mod2 (n k : Int) : wrap64 (n + wrap64 (k * 16777216)) % 4294967296 = (k * 16777216 + n) % 4294967296 := by
  rw [wrap64_mod]
  have := wrap64_mod (k * 16777216)
  omega
theorem qnums_8 (q : QS) (a b : Int) : qnums q [a, wrap64 b] = qnums q [a, b] := by
  unfold qnums
  simp only [le4s, List.flatMap_cons, List.flatMap_nil, le4_mod _ _ (wrap64_mod b)]
theorem stB_next {w wr : World} {g : Nat} {l : List Ty} {k : Nat} {t : Ty} (ht : l[k]? = some t) (h : Wr w wr g (qputW ((l.take k).foldl qputW newQ) t)) (hB : QB (qputW ((l.take k).foldl qputW newQ) t) (1 + 1026 * k + 1026)) : StB w wr g l (k + 1) := by
  have e : (l.take (k + 1)).foldl qputW newQ = qputW ((l.take k).foldl qputW newQ) t := by
    rw [List.take_add_one, ht, List.foldl_append]; rfl
  unfold StB
  rw [e]
  exact ⟨h, hB.mono (by omega)⟩
theorem okB_bad {l : List Ty} {k : Nat} {t : Ty} (ht : l[k]? = some t) (h : mayB t = false) : okB l = false := by
  unfold okB
  have : l.all mayB = false := by
    rw [List.all_eq_false]
    exact ⟨t, List.mem_of_getElem? ht, by simp [h]⟩
  rw [this, Bool.and_false]
theorem mayB_name {t : Ty} (h : nameB t.name = false) : mayB t = false := by unfold mayB; simp [h]
theorem mayB_many {t : Ty} (h : 1024 < t.mems.length) : mayB t = false := by
  unfold mayB membersB
  rw [decide_eq_false (show ¬ t.mems.length ≤ 1024 by omega)]
  simp
theorem mayB_mem {t : Ty} {j : Nat} {m : Mem} (hm : t.mems[j]? = some m) (h : nameB m.name = false) : mayB t = false := by
  have : t.mems.all memB = false := by
    rw [List.all_eq_false]
    exact ⟨m, List.mem_of_getElem? hm, by simp [memB, h]⟩
  unfold mayB membersB
  rw [this]
  simp
set_option maxHeartbeats 4000000 in
theorem qbuild_any (A : Option Addr) (c : Nat) (l : List Ty) (hlen : l.length ≤ 9223372036854775807) (w : World) (hT : TysAt w A l) :
    Calls Try.prog 7 #[.slice A l.length c] w (PostQB w l) := by
  have i1 : (l.length : Int) ≤ 9223372036854775807 := by omega
  have HT := Lib.hid hT
  clear hT
  by_cases hl : l.length ≤ 1024
  · have g0 : decide ((1024 : Int) < l.length) = false := by simp; omega
    have g0' : decide (1024 < l.length) = false := by simp; omega
    have HL := Lib.hid hl
    have S0 := Lib.hid (wr_start (w := w))
    go_enter Try.func7, Try.ntmps7
    go_upto_region 5 with fail
    clear g0 g0'
    have ST0 : Hid (StB w _ (w.heap.size + 1 + 1) l 0) := ⟨S0.out, by unfold QB; simp [newQ]⟩
    have HG : Hid (w.heap.size ≤ w.heap.size + 1 + 1) := show w.heap.size ≤ w.heap.size + 1 + 1 by omega
    clear S0
    generalize World.alloc _ _ = w0 at ST0 ⊢
    generalize w.heap.size + 1 + 1 = g at *
    go_loopw [5, 6, 7] (fun i a b wr => ∃ k : Nat, k ≤ l.length ∧ i = .int .i64 k ∧ StB w wr g l k) (fun i _ _ _ => l.length - (intOf i).toNat)
    case atStart => exact ⟨0, by omega, rfl, ST0.out⟩
    case round =>
      clear ST0
      obtain ⟨k, hk, rfl, hst⟩ := hrel
      have HST := Lib.hid hst
      clear hst
      by_cases hkn : k < l.length
      · obtain ⟨t, ht⟩ : ∃ t, l[k]? = some t := ⟨_, List.getElem?_eq_getElem hkn⟩
        obtain ⟨b1, o1, A', c', rfl, hlt1, x0, x1, x2, x3, x4, x5, hm1, hs1, hn1⟩ := HT.out k t ht
        have HTK := Lib.hid ht
        have HM := Lib.hid hm1
        have hcw : ∀ o, wr.cell? ⟨b1, o, none⟩ = w.cell? ⟨b1, o, none⟩ := fun o => HST.out.1.2.cell (p := ⟨b1, o, none⟩) hlt1
        clear ht hm1
        obtain ⟨kd, nm, sz, ty, ct, ms⟩ := t
        simp only at x0 x1 x2 x3 x4 x5 HM hs1 hn1
        have X0 := (hcw _).trans x0
        have X1 := (hcw _).trans x1
        have X2 := (hcw _).trans x2
        have X3 := (hcw _).trans x3
        have X4 := (hcw _).trans x4
        have X5 := (hcw _).trans x5
        clear x0 x1 x2 x3 x4 x5 hcw
        have g1 : decide (k < l.length) = true := by simpa using hkn
        have i2 : (k : Int) < (l.length : Int) := by omega
        have i3 : (0 : Int) ≤ (k : Int) := by omega
        have i4 : (ms.length : Int) ≤ 9223372036854775807 := by omega
        have i5 : nm.size ≤ 9223372036854775807 := hs1
        have CN := Lib.hid (fun W => refName_any nm i5 W)
        have HK : Hid (k < l.length) := hkn
        clear hkn hs1 hn1 i5
        by_cases hmany : ms.length ≤ 1024
        · have g2 : decide ((1024 : Int) < ms.length) = false := by simp; omega
          have g2' : decide (1024 < ms.length) = false := by simp; omega
          have HMANY := Lib.hid hmany
          clear hmany
          obtain ⟨nb, hnb⟩ : ∃ nb, nameB nm = nb := ⟨_, rfl⟩
          rw [hnb] at CN
          have HNB := Lib.hid hnb
          clear hnb
          cases nb
          · have HF := Lib.hid (okB_bad HTK.out (mayB_name HNB.out))
            go_wp2_with (go_at_call 15; refine (CN.out _).mono ?_; rintro e W1 ⟨rfl, rfl⟩)
            go_ret2
            exact ⟨HST.out.1.2.alloc HST.out.1.2.size _, .inr ⟨HF.out, rfl⟩⟩
          · go_upto_region 10 with (go_at_call 15; refine (CN.out _).mono ?_; rintro e W1 ⟨rfl, rfl⟩)
            clear g2 g2' X0 X1 X2 X3 X4 X5 CN
            have W0 := Lib.hid (HST.out.1.alloc (.cells #[.int .i64 kd, .string nm, .int .i64 sz, .int .i64 ty, .int .i64 ct, .slice A' ms.length c'] 36))
            have Z0 : Hid (Blk (wr.alloc (.cells #[.int .i64 kd, .string nm, .int .i64 sz, .int .i64 ty, .int .i64 ct, .slice A' ms.length c'] 36)) wr.heap.size 36 #[.int .i64 kd, .string nm, .int .i64 sz, .int .i64 ty, .int .i64 ct, .slice A' ms.length c']) := Blk.new _ _ _
            have QB0 := Lib.hid HST.out.2
            generalize World.alloc _ _ = W1 at W0 Z0 ⊢
            generalize wr.heap.size = T at *
            obtain ⟨q0, hq0⟩ : ∃ q0, (l.take k).foldl qputW newQ = q0 := ⟨_, rfl⟩
            have NEXT : Hid (∀ W, Wr w W g (qputW q0 ⟨kd, nm, sz, ty, ct, ms⟩) → QB (qputW q0 ⟨kd, nm, sz, ty, ct, ms⟩) (1 + 1026 * k + 1026) → StB w W g l (k + 1)) := by
              intro W h1 h2
              subst hq0
              exact stB_next HTK.out h1 h2
            rw [hq0] at W0 QB0
            have hk2 : k ≤ 1024 := by have := HK.out; have := HL.out; omega
            have HK2 := Lib.hid hk2
            have QBN := Lib.hid (QB0.out.name HNB.out)
            clear HST hq0 hk2
            have p1 : W1.cell? ⟨T, 1, none⟩ = some (.string nm) := Z0.out.cell 1
            go_wp2_with fail
            go_at_call 16
            refine (wname_q W0.out QB0.out (by have := HK2.out; omega) nm HNB.out).mono ?_
            rintro e W2 ⟨rfl, hw, hkt, hbl⟩
            have Y1 := Lib.hid hw
            have Z1 := Lib.hid (hkt.blk Z0.out)
            clear hw hkt hbl p1 W0 Z0
            have p0 : W2.cell? ⟨T, 0, none⟩ = some (.int .i64 kd) := Z1.out.cell 0
            have p5 : W2.cell? ⟨T, 5, none⟩ = some (.slice A' ms.length c') := Z1.out.cell 5
            go_wp2_with fail
            go_at_call 17
            refine (wnum_q Y1.out (c := 40000000) (by have := QBN.out.2.1; have := HK2.out; omega) (by decide) _).mono ?_
            rintro e W3 ⟨rfl, hw, hkt, hbl⟩
            have Y2 := Lib.hid hw
            have Z2 := Lib.hid (hkt.blk Z1.out)
            clear hw hkt hbl
            clear p0 p5
            have p0 : W3.cell? ⟨T, 0, none⟩ = some (.int .i64 kd) := Z2.out.cell 0
            go_upto_region 13 with fail
            clear p0
            have Y3 : Hid (Wr w W3 g (qnums (qname q0 nm) [kd * 16777216 + ms.length])) := by
              have y := Y2.out
              rw [qnums_mod _ _ (kd * 16777216 + ms.length) (wrap64_mod2 _ _)] at y
              exact y
            clear Y1 Y2 Z1
            have QL : Hid ((qnums (qname q0 nm) [kd * 16777216 + ms.length]).ts.length ≤ 20000000) := by
              show (qnums (qname q0 nm) [kd * 16777216 + ms.length]).ts.length ≤ 20000000
              rw [qnums_ts]
              have := QBN.out.2.1
              have := HK2.out
              simp only [List.length_cons, List.length_nil]
              omega
            by_cases k1 : kd = 1
            · subst k1
              obtain ⟨Q1, hQ1⟩ : ∃ Q1, qnums (qname q0 nm) [1 * 16777216 + (ms.length : Int)] = Q1 := ⟨_, rfl⟩
              rw [hQ1] at Y3 QL
              have HQ : Hid (qputW q0 ⟨1, nm, sz, ty, ct, ms⟩ = qnums Q1 [sz, 8 * sz]) := by
                show qputW q0 _ = _
                rw [← hQ1]
                simp [qputW, qheadW, kindNums]
              clear hQ1
              have p2 : W3.cell? ⟨T, 2, none⟩ = some (.int .i64 sz) := Z2.out.cell 2
              go_wp2_with fail
              go_at_call 17
              refine (wnum_q Y3.out (c := 40000000) (by have := QL.out; (try simp only [qnums_ts, List.length_cons, List.length_nil]); omega) (by decide) _).mono ?_
              rintro e W4 ⟨rfl, hw, hkt, hbl⟩
              have Y4 := Lib.hid hw
              have Z4 := Lib.hid (hkt.blk Z2.out)
              clear hw hkt hbl
              clear p2
              have p2 : W4.cell? ⟨T, 2, none⟩ = some (.int .i64 sz) := Z4.out.cell 2
              go_wp2_with fail
              go_at_call 17
              refine (wnum_q Y4.out (c := 40000000) (by have := QL.out; (try simp only [qnums_ts, List.length_cons, List.length_nil]); omega) (by decide) _).mono ?_
              rintro e W5 ⟨rfl, hw, hkt, hbl⟩
              have Y5 := Lib.hid hw
              have Z5 := Lib.hid (hkt.blk Z4.out)
              clear hw hkt hbl
              clear p2
              have FIN : Hid (StB w W5 g l (k + 1)) := by
                refine NEXT.out _ ?_ ?_
                · rw [HQ.out]
                  have y := Y5.out
                  (try simp only [qnums_two, List.cons_append, List.nil_append] at y)
                  first | exact y | (rw [qnums_8] at y; exact y)
                · have := QB0.out.head ⟨1, nm, sz, ty, ct, ms⟩ HNB.out
                  have e : qputW q0 ⟨1, nm, sz, ty, ct, ms⟩ = qheadW q0 ⟨1, nm, sz, ty, ct, ms⟩ := by simp [qputW]
                  rw [e]
                  exact this.mono (by omega)
              clear Y5 HQ NEXT
              go_wp2_with fail
              go_roundw
              case rel => exact ⟨k + 1, by have := HK.out; omega, by go_num, FIN.out⟩
              case measure => have := HK.out; simp [intOf]; omega
            · have n1 : (kd == 1) = false := by simpa using k1
              have K1 := Lib.hid k1
              clear k1
              by_cases k2 : kd = 2
              · subst k2
                obtain ⟨Q1, hQ1⟩ : ∃ Q1, qnums (qname q0 nm) [2 * 16777216 + (ms.length : Int)] = Q1 := ⟨_, rfl⟩
                rw [hQ1] at Y3 QL
                have HQ : Hid (qputW q0 ⟨2, nm, sz, ty, ct, ms⟩ = qnums Q1 [ty]) := by
                  show qputW q0 _ = _
                  rw [← hQ1]
                  simp [qputW, qheadW, kindNums]
                clear hQ1
                have p3 : W3.cell? ⟨T, 3, none⟩ = some (.int .i64 ty) := Z2.out.cell 3
                go_wp2_with fail
                go_at_call 17
                refine (wnum_q Y3.out (c := 40000000) (by have := QL.out; (try simp only [qnums_ts, List.length_cons, List.length_nil]); omega) (by decide) _).mono ?_
                rintro e W4 ⟨rfl, hw, hkt, hbl⟩
                have Y4 := Lib.hid hw
                have Z4 := Lib.hid (hkt.blk Z2.out)
                clear hw hkt hbl
                clear p3
                have FIN : Hid (StB w W4 g l (k + 1)) := by
                  refine NEXT.out _ ?_ ?_
                  · rw [HQ.out]
                    have y := Y4.out
                    (try simp only [qnums_two, List.cons_append, List.nil_append] at y)
                    first | exact y | (rw [qnums_8] at y; exact y)
                  · have := QB0.out.head ⟨2, nm, sz, ty, ct, ms⟩ HNB.out
                    have e : qputW q0 ⟨2, nm, sz, ty, ct, ms⟩ = qheadW q0 ⟨2, nm, sz, ty, ct, ms⟩ := by simp [qputW]
                    rw [e]
                    exact this.mono (by omega)
                clear Y4 HQ NEXT
                go_wp2_with fail
                go_roundw
                case rel => exact ⟨k + 1, by have := HK.out; omega, by go_num, FIN.out⟩
                case measure => have := HK.out; simp [intOf]; omega
              · have n2 : (kd == 2) = false := by simpa using k2
                have K2 := Lib.hid k2
                clear k2
                by_cases k8 : kd = 8
                · subst k8
                  obtain ⟨Q1, hQ1⟩ : ∃ Q1, qnums (qname q0 nm) [8 * 16777216 + (ms.length : Int)] = Q1 := ⟨_, rfl⟩
                  rw [hQ1] at Y3 QL
                  have HQ : Hid (qputW q0 ⟨8, nm, sz, ty, ct, ms⟩ = qnums Q1 [ty]) := by
                    show qputW q0 _ = _
                    rw [← hQ1]
                    simp [qputW, qheadW, kindNums]
                  clear hQ1
                  have p3 : W3.cell? ⟨T, 3, none⟩ = some (.int .i64 ty) := Z2.out.cell 3
                  go_wp2_with fail
                  go_at_call 17
                  refine (wnum_q Y3.out (c := 40000000) (by have := QL.out; (try simp only [qnums_ts, List.length_cons, List.length_nil]); omega) (by decide) _).mono ?_
                  rintro e W4 ⟨rfl, hw, hkt, hbl⟩
                  have Y4 := Lib.hid hw
                  have Z4 := Lib.hid (hkt.blk Z2.out)
                  clear hw hkt hbl
                  clear p3
                  have FIN : Hid (StB w W4 g l (k + 1)) := by
                    refine NEXT.out _ ?_ ?_
                    · rw [HQ.out]
                      have y := Y4.out
                      (try simp only [qnums_two, List.cons_append, List.nil_append] at y)
                      first | exact y | (rw [qnums_8] at y; exact y)
                    · have := QB0.out.head ⟨8, nm, sz, ty, ct, ms⟩ HNB.out
                      have e : qputW q0 ⟨8, nm, sz, ty, ct, ms⟩ = qheadW q0 ⟨8, nm, sz, ty, ct, ms⟩ := by simp [qputW]
                      rw [e]
                      exact this.mono (by omega)
                  clear Y4 HQ NEXT
                  go_wp2_with fail
                  go_roundw
                  case rel => exact ⟨k + 1, by have := HK.out; omega, by go_num, FIN.out⟩
                  case measure => have := HK.out; simp [intOf]; omega
                · have n8 : (kd == 8) = false := by simpa using k8
                  have K8 := Lib.hid k8
                  clear k8
                  by_cases k3 : kd = 3
                  · subst k3
                    obtain ⟨Q1, hQ1⟩ : ∃ Q1, qnums (qname q0 nm) [3 * 16777216 + (ms.length : Int)] = Q1 := ⟨_, rfl⟩
                    rw [hQ1] at Y3 QL
                    have HQ : Hid (qputW q0 ⟨3, nm, sz, ty, ct, ms⟩ = qnums Q1 [0, ty, 0, ct]) := by
                      show qputW q0 _ = _
                      rw [← hQ1]
                      simp [qputW, qheadW, kindNums]
                    clear hQ1
                    go_wp2_with fail
                    go_at_call 17
                    refine (wnum_q Y3.out (c := 40000000) (by have := QL.out; (try simp only [qnums_ts, List.length_cons, List.length_nil]); omega) (by decide) _).mono ?_
                    rintro e W4 ⟨rfl, hw, hkt, hbl⟩
                    have Y4 := Lib.hid hw
                    have Z4 := Lib.hid (hkt.blk Z2.out)
                    clear hw hkt hbl
                    have p3 : W4.cell? ⟨T, 3, none⟩ = some (.int .i64 ty) := Z4.out.cell 3
                    go_wp2_with fail
                    go_at_call 17
                    refine (wnum_q Y4.out (c := 40000000) (by have := QL.out; (try simp only [qnums_ts, List.length_cons, List.length_nil]); omega) (by decide) _).mono ?_
                    rintro e W5 ⟨rfl, hw, hkt, hbl⟩
                    have Y5 := Lib.hid hw
                    have Z5 := Lib.hid (hkt.blk Z4.out)
                    clear hw hkt hbl
                    clear p3
                    go_wp2_with fail
                    go_at_call 17
                    refine (wnum_q Y5.out (c := 40000000) (by have := QL.out; (try simp only [qnums_ts, List.length_cons, List.length_nil]); omega) (by decide) _).mono ?_
                    rintro e W6 ⟨rfl, hw, hkt, hbl⟩
                    have Y6 := Lib.hid hw
                    have Z6 := Lib.hid (hkt.blk Z5.out)
                    clear hw hkt hbl
                    have p4 : W6.cell? ⟨T, 4, none⟩ = some (.int .i64 ct) := Z6.out.cell 4
                    go_wp2_with fail
                    go_at_call 17
                    refine (wnum_q Y6.out (c := 40000000) (by have := QL.out; (try simp only [qnums_ts, List.length_cons, List.length_nil]); omega) (by decide) _).mono ?_
                    rintro e W7 ⟨rfl, hw, hkt, hbl⟩
                    have Y7 := Lib.hid hw
                    have Z7 := Lib.hid (hkt.blk Z6.out)
                    clear hw hkt hbl
                    clear p4
                    have FIN : Hid (StB w W7 g l (k + 1)) := by
                      refine NEXT.out _ ?_ ?_
                      · rw [HQ.out]
                        have y := Y7.out
                        (try simp only [qnums_two, List.cons_append, List.nil_append] at y)
                        first | exact y | (rw [qnums_8] at y; exact y)
                      · have := QB0.out.head ⟨3, nm, sz, ty, ct, ms⟩ HNB.out
                        have e : qputW q0 ⟨3, nm, sz, ty, ct, ms⟩ = qheadW q0 ⟨3, nm, sz, ty, ct, ms⟩ := by simp [qputW]
                        rw [e]
                        exact this.mono (by omega)
                    clear Y7 HQ NEXT
                    go_wp2_with fail
                    go_roundw
                    case rel => exact ⟨k + 1, by have := HK.out; omega, by go_num, FIN.out⟩
                    case measure => have := HK.out; simp [intOf]; omega
                  · have n3 : (kd == 3) = false := by simpa using k3
                    have K3 := Lib.hid k3
                    clear k3
                    by_cases k4 : kd = 4
                    · subst k4
                      obtain ⟨Q1, hQ1⟩ : ∃ Q1, qnums (qname q0 nm) [4 * 16777216 + (ms.length : Int)] = Q1 := ⟨_, rfl⟩
                      rw [hQ1] at Y3 QL
                      have HQ : Hid (qheadW q0 ⟨4, nm, sz, ty, ct, ms⟩ = qnums Q1 [sz]) := by
                        show qheadW q0 _ = _
                        rw [← hQ1]
                        simp [qheadW, kindNums]
                      have QBH := Lib.hid (QB0.out.head ⟨4, nm, sz, ty, ct, ms⟩ HNB.out)
                      clear hQ1
                      have p2 : W3.cell? ⟨T, 2, none⟩ = some (.int .i64 sz) := Z2.out.cell 2
                      go_wp2_with fail
                      go_at_call 17
                      refine (wnum_q Y3.out (c := 40000000) (by have := QL.out; omega) (by decide) _).mono ?_
                      rintro e W4 ⟨rfl, hw, hkt, hbl⟩
                      have Y4 := Lib.hid hw
                      have Z4 := Lib.hid (hkt.blk Z2.out)
                      clear hw hkt hbl
                      clear p2
                      rw [← HQ.out] at Y4
                      go_upto_region 27 with fail
                      clear HQ Y3 Z2 QL
                      obtain ⟨QH, hQH⟩ : ∃ QH, qheadW q0 ⟨4, nm, sz, ty, ct, ms⟩ = QH := ⟨_, rfl⟩
                      have FINQ : Hid (qputW q0 ⟨4, nm, sz, ty, ct, ms⟩ = ms.foldl qmemW QH) := by show qputW q0 _ = _; rw [← hQH]; simp [qputW]
                      rw [hQH] at Y4 QBH
                      clear hQH
                      have HM4 := Lib.hid (HM.out)
                      go_loopw [7] (fun b wm => ∃ j : Nat, j ≤ ms.length ∧ b = .int .i64 j ∧ Wr w wm g ((ms.take j).foldl qmemW QH) ∧ QB ((ms.take j).foldl qmemW QH) (1 + 1026 * k + 2 + j) ∧ Blk wm T 36 #[.int .i64 4, .string nm, .int .i64 sz, .int .i64 ty, .int .i64 ct, .slice A' ms.length c']) (fun b _ => ms.length - (intOf b).toNat)
                      case atStart => exact ⟨0, by omega, rfl, Y4.out, QBH.out, Z4.out⟩
                      case round =>
                        clear Y4 Z4
                        obtain ⟨j, hj, rfl, hw, hqb, hblk⟩ := hrel
                        have Y5 := Lib.hid hw
                        have QB5 := Lib.hid hqb
                        have Z5 := Lib.hid hblk
                        clear hw hqb hblk
                        have p5 : wr.cell? ⟨T, 5, none⟩ = some (.slice A' ms.length c') := Z5.out.cell 5
                        by_cases hjn : j < ms.length
                        · obtain ⟨m, hm⟩ : ∃ m, ms[j]? = some m := ⟨_, List.getElem?_eq_getElem hjn⟩
                          obtain ⟨b3, o3, rfl, hlt3, u0, u1, u2, hsm⟩ := HM.out j m hm
                          have HMJ := Lib.hid hm
                          have hcm : ∀ W, Below w.heap.size w W → ∀ o, W.cell? ⟨b3, o, none⟩ = w.cell? ⟨b3, o, none⟩ := fun W hb o => hb.cell (p := ⟨b3, o, none⟩) hlt3
                          have HCM := Lib.hid hcm
                          have U0 := Lib.hid u0
                          have U1 := Lib.hid u1
                          have U2 := Lib.hid u2
                          clear hm hcm u0 u1 u2
                          obtain ⟨mn, mt, mo⟩ := m
                          simp only at U0 U1 U2 hsm
                          have hsm2 : mn.size ≤ 9223372036854775807 := hsm
                          have CM := Lib.hid (fun W => refName_any mn hsm2 W)
                          obtain ⟨nb, hnb⟩ : ∃ nb, nameB mn = nb := ⟨_, rfl⟩
                          rw [hnb] at CM
                          have HMB := Lib.hid hnb
                          have m1 : decide (j < ms.length) = true := by simpa using hjn
                          have m2 : (j : Int) < (ms.length : Int) := by omega
                          have m3 : (0 : Int) ≤ (j : Int) := by omega
                          have HJ : Hid (j < ms.length) := hjn
                          have a0 : wr.cell? ⟨b3, o3 + j * 3, none⟩ = some (.string mn) := (HCM.out _ Y5.out.2 _).trans U0.out
                          clear hnb hjn hsm hsm2
                          cases nb
                          · have HF := Lib.hid (okB_bad HTK.out (mayB_mem (t := ⟨4, nm, sz, ty, ct, ms⟩) HMJ.out HMB.out))
                            go_wp2_with (go_at_call 15; refine (CM.out _).mono ?_; rintro e W6 ⟨rfl, rfl⟩)
                            go_ret2
                            exact ⟨Y5.out.2, .inr ⟨HF.out, rfl⟩⟩
                          · go_wp2_with fail
                            go_at_call 15
                            refine (CM.out _).mono ?_
                            rintro e W6 ⟨rfl, rfl⟩
                            go_wp2_with fail
                            go_at_call 16
                            refine (wname_q Y5.out QB5.out (by have := HK2.out; have := HMANY.out; have := HJ.out; omega) mn HMB.out).mono ?_
                            rintro e W7 ⟨rfl, hw, hkt, hbl⟩
                            have Y7 := Lib.hid hw
                            have Z7 := Lib.hid (hkt.blk Z5.out)
                            have QB7 := Lib.hid (QB5.out.name HMB.out)
                            clear hw hkt hbl p5 a0
                            have p5 : W7.cell? ⟨T, 5, none⟩ = some (.slice (some ⟨b3, o3, none⟩) ms.length c') := Z7.out.cell 5
                            have a1 : W7.cell? ⟨b3, o3 + j * 3 + 1, none⟩ = some (.int .i64 mt) := (HCM.out _ Y7.out.2 _).trans U1.out
                            go_wp2_with fail
                            go_at_call 17
                            refine (wnum_q Y7.out (c := 40000000) (by have := QB7.out.2.1; have := HK2.out; have := HMANY.out; have := HJ.out; omega) (by decide) _).mono ?_
                            rintro e W8 ⟨rfl, hw, hkt, hbl⟩
                            have Y8 := Lib.hid hw
                            have Z8 := Lib.hid (hkt.blk Z7.out)
                            clear hw hkt hbl p5 a1
                            have p5 : W8.cell? ⟨T, 5, none⟩ = some (.slice (some ⟨b3, o3, none⟩) ms.length c') := Z8.out.cell 5
                            have a2 : W8.cell? ⟨b3, o3 + j * 3 + 2, none⟩ = some (.int .i64 mo) := (HCM.out _ Y8.out.2 _).trans U2.out
                            go_wp2_with fail
                            go_at_call 17
                            refine (wnum_q Y8.out (c := 40000000) (by rw [qnums_ts]; have := QB7.out.2.1; have := HK2.out; have := HMANY.out; have := HJ.out; simp only [List.length_cons, List.length_nil]; omega) (by decide) _).mono ?_
                            rintro e W9 ⟨rfl, hw, hkt, hbl⟩
                            have Y9 := Lib.hid hw
                            have Z9 := Lib.hid (hkt.blk Z8.out)
                            clear hw hkt hbl p5 a2 Y7 Y8 Z7 Z8
                            have FIN : Hid (Wr w W9 g ((ms.take (j + 1)).foldl qmemW QH) ∧ QB ((ms.take (j + 1)).foldl qmemW QH) (1 + 1026 * k + 2 + (j + 1))) := by
                              have e : (ms.take (j + 1)).foldl qmemW QH = qmemW ((ms.take j).foldl qmemW QH) ⟨mn, mt, mo⟩ := by rw [List.take_add_one, HMJ.out, List.foldl_append]; rfl
                              refine ⟨?_, ?_⟩
                              · rw [e]
                                have y := Y9.out
                                rw [qnums_two] at y
                                exact y
                              · rw [e]
                                exact (QB5.out.mem ⟨mn, mt, mo⟩ HMB.out).mono (by omega)
                            clear Y9
                            go_wp2_with fail
                            go_roundw
                            case rel => exact ⟨j + 1, by have := HJ.out; omega, by go_num, FIN.out.1, FIN.out.2, Z9.out⟩
                            case measure => have := HJ.out; simp [intOf]; omega
                        · have : j = ms.length := by omega
                          subst this
                          have m1 : decide (ms.length < ms.length) = false := by simp
                          have FIN : Hid (StB w wr g l (k + 1)) := by
                            have y := Y5.out
                            have z := QB5.out
                            rw [List.take_length, ← FINQ.out] at y z
                            exact NEXT.out _ y (z.mono (by have := HMANY.out; omega))
                          clear Y5 QB5 NEXT
                          go_wp2_with fail
                          go_roundw
                          case rel => exact ⟨k + 1, by have := HK.out; omega, by go_num, FIN.out⟩
                          case measure => have := HK.out; simp [intOf]; omega
                    · have n4 : (kd == 4) = false := by simpa using k4
                      have K4 := Lib.hid k4
                      clear k4
                      have FIN : Hid (StB w W3 g l (k + 1)) := by
                        have e : qputW q0 ⟨kd, nm, sz, ty, ct, ms⟩ = qnums (qname q0 nm) [kd * 16777216 + ms.length] := by
                          simp [qputW, qheadW, kindNums, K1.out, K2.out, K8.out, K3.out, K4.out, qnums_two]
                        have hd := QB0.out.head ⟨kd, nm, sz, ty, ct, ms⟩ HNB.out
                        have e2 : qputW q0 ⟨kd, nm, sz, ty, ct, ms⟩ = qheadW q0 ⟨kd, nm, sz, ty, ct, ms⟩ := by simp [qputW, K4.out]
                        refine NEXT.out _ ?_ ?_
                        · rw [e]; exact Y3.out
                        · rw [e2]; exact hd.mono (by omega)
                      clear Y3 NEXT
                      go_wp2_with fail
                      go_roundw
                      case rel => exact ⟨k + 1, by have := HK.out; omega, by go_num, FIN.out⟩
                      case measure => have := HK.out; simp [intOf]; omega
        · have g2 : decide ((1024 : Int) < ms.length) = true := by simp; omega
          have g2' : decide (1024 < ms.length) = true := by simp; omega
          have HF := Lib.hid (okB_bad HTK.out (mayB_many (t := ⟨kd, nm, sz, ty, ct, ms⟩) (by simp only; omega)))
          clear hmany
          go_wp2_with fail
          go_ret2
          exact ⟨HST.out.1.2.alloc HST.out.1.2.size _, .inr ⟨HF.out, rfl⟩⟩
      · have : k = l.length := by omega
        subst this
        have g1 : decide (l.length < l.length) = false := by simp
        have HSTF := HST.out
        unfold StB at HSTF
        rw [List.take_length] at HSTF
        obtain ⟨Q, hQ⟩ : ∃ Q, l.foldl qputW newQ = Q := ⟨_, rfl⟩
        have HQB : Hid (qbuildF l = qblob Q) := by show qbuildF l = _; unfold qbuildF; rw [hQ]
        rw [hQ] at HSTF
        obtain ⟨⟨⟨av, tv, bv, hwq⟩, hbel⟩, hqb⟩ := HSTF
        obtain ⟨A3, c3, hbv, _⟩ := own_form_any hwq.b
        subst hbv
        have c30 : wr.cell? ⟨g, 0, none⟩ = some (.string (bstr Q.ns)) := hwq.blk.cell 0
        have c33 : wr.cell? ⟨g, 3, none⟩ = some (.slice A3 Q.ts.length c3) := hwq.blk.cell 3
        have WQ0 := Lib.hid hwq
        have BE0 := Lib.hid hbel
        have n1 : Q.ts.length ≤ 20000000 := by have := hqb.2.1; have := HL.out; omega
        have n2 : Q.ns.length ≤ 400000000 := by have := hqb.2.2; have := HL.out; omega
        have N1 := Lib.hid n1
        have N2 := Lib.hid n2
        have hbs : (bstr Q.ns).size = Q.ns.length := bstr_size _
        clear hwq hbel hqb hQ HST hk
        go_upto_region 35 with fail
        have XN : Hid (((bstr Q.ns).size : Int) = (Q.ns.length : Int)) := show ((bstr Q.ns).size : Int) = _ by rw [hbs]
        clear hbs n1 n2
        refine wp_region_noPanic ?_
        refine wp_region_held_drew (S := (fun W => W.cell? ⟨g, 0, none⟩ = some (.string (bstr Q.ns)) ∧ W.cell? ⟨g, 3, none⟩ = some (.slice A3 Q.ts.length c3))) (by kernel_rfl) ⟨c30, c33⟩ (fun hHeld => ?_)
        refine wpAnyH_take (i := 0) (oi := _) (v := ?_) rfl (by kernel_rfl) (by kernel_rfl) (by kernel_rfl) (fun _ _ _ h => h) (Or.inl ⟨by kernel_rfl, ?_⟩) (by assumption) ?_
        rotate_left 1
        · intro w hSw; obtain ⟨hs0, hs1⟩ := hSw; go_simp; (try with_reducible rfl)
        try simp only [Act.put, List.getElem_toArray, List.getElem_cons_succ, List.getElem_cons_zero, List.setIfInBounds_toArray, List.set_cons_zero, List.set_cons_succ]
        refine wpAnyH_take (i := 1) (oi := _) (v := ?_) rfl (by kernel_rfl) (by kernel_rfl) (by kernel_rfl) (fun _ _ _ h => h) (Or.inl ⟨by kernel_rfl, ?_⟩) (by assumption) ?_
        rotate_left 1
        · intro w hSw; obtain ⟨hs0, hs1⟩ := hSw; go_simp; (try with_reducible rfl)
        try simp only [Act.put, List.getElem_toArray, List.getElem_cons_succ, List.getElem_cons_zero, List.setIfInBounds_toArray, List.set_cons_zero, List.set_cons_succ]
        refine wpAnyH_take (i := 2) (oi := _) (v := ?_) rfl (by kernel_rfl) (by kernel_rfl) (by kernel_rfl) (fun _ _ _ h => h) (Or.inl ⟨by kernel_rfl, ?_⟩) (by assumption) ?_
        rotate_left 1
        · intro w hSw; obtain ⟨hs0, hs1⟩ := hSw; go_simp; (try with_reducible rfl)
        try simp only [Act.put, List.getElem_toArray, List.getElem_cons_succ, List.getElem_cons_zero, List.setIfInBounds_toArray, List.set_cons_zero, List.set_cons_succ]
        refine wpAnyH_take (i := 3) (oi := _) (v := ?_) rfl (by kernel_rfl) (by kernel_rfl) (by kernel_rfl) (fun _ _ _ h => h) (Or.inl ⟨by kernel_rfl, ?_⟩) (by assumption) ?_
        rotate_left 1
        · intro w hSw; obtain ⟨hs0, hs1⟩ := hSw; go_simp; (try with_reducible rfl)
        try simp only [Act.put, List.getElem_toArray, List.getElem_cons_succ, List.getElem_cons_zero, List.setIfInBounds_toArray, List.set_cons_zero, List.set_cons_succ]
        refine wpAnyH_take (i := 4) (oi := _) (v := ?_) rfl (by kernel_rfl) (by kernel_rfl) (by kernel_rfl) (fun _ _ _ h => h) (Or.inl ⟨by kernel_rfl, ?_⟩) (by assumption) ?_
        rotate_left 1
        · intro w hSw; obtain ⟨hs0, hs1⟩ := hSw; go_simp; (try with_reducible rfl)
        try simp only [Act.put, List.getElem_toArray, List.getElem_cons_succ, List.getElem_cons_zero, List.setIfInBounds_toArray, List.set_cons_zero, List.set_cons_succ]
        refine wpAnyH_take (i := 5) (oi := _) (v := ?_) rfl (by kernel_rfl) (by kernel_rfl) (by kernel_rfl) (fun _ _ _ h => h) (Or.inl ⟨by kernel_rfl, ?_⟩) (by assumption) ?_
        rotate_left 1
        · intro w hSw; obtain ⟨hs0, hs1⟩ := hSw; go_simp; (try with_reducible rfl)
        try simp only [Act.put, List.getElem_toArray, List.getElem_cons_succ, List.getElem_cons_zero, List.setIfInBounds_toArray, List.set_cons_zero, List.set_cons_succ]
        refine wpAnyH_take (i := 6) (oi := _) (v := ?_) rfl (by kernel_rfl) (by kernel_rfl) (by kernel_rfl) (fun _ _ _ h => h) (Or.inl ⟨by kernel_rfl, ?_⟩) (by assumption) ?_
        rotate_left 1
        · intro w hSw; obtain ⟨hs0, hs1⟩ := hSw; go_simp; (try with_reducible rfl)
        try simp only [Act.put, List.getElem_toArray, List.getElem_cons_succ, List.getElem_cons_zero, List.setIfInBounds_toArray, List.set_cons_zero, List.set_cons_succ]
        refine wpAnyH_take (i := 7) (oi := _) (v := ?_) rfl (by kernel_rfl) (by kernel_rfl) (by kernel_rfl) (fun _ _ _ h => h) (Or.inl ⟨by kernel_rfl, ?_⟩) (by assumption) ?_
        rotate_left 1
        · intro w hSw; obtain ⟨hs0, hs1⟩ := hSw; go_simp; (try with_reducible rfl)
        try simp only [Act.put, List.getElem_toArray, List.getElem_cons_succ, List.getElem_cons_zero, List.setIfInBounds_toArray, List.set_cons_zero, List.set_cons_succ]
        refine wpAnyH_take (i := 8) (oi := _) (v := ?_) rfl (by kernel_rfl) (by kernel_rfl) (by kernel_rfl) (fun _ _ _ h => h) (Or.inl ⟨by kernel_rfl, ?_⟩) (by assumption) ?_
        rotate_left 1
        · intro w hSw; obtain ⟨hs0, hs1⟩ := hSw; go_simp; (try with_reducible rfl)
        try simp only [Act.put, List.getElem_toArray, List.getElem_cons_succ, List.getElem_cons_zero, List.setIfInBounds_toArray, List.set_cons_zero, List.set_cons_succ]
        refine wpAnyH_take (i := 9) (oi := _) (v := ?_) rfl (by kernel_rfl) (by kernel_rfl) (by kernel_rfl) (fun _ _ _ h => h) (Or.inl ⟨by kernel_rfl, ?_⟩) (by assumption) ?_
        rotate_left 1
        · intro w hSw; obtain ⟨hs0, hs1⟩ := hSw; go_simp; (try with_reducible rfl)
        try simp only [Act.put, List.getElem_toArray, List.getElem_cons_succ, List.getElem_cons_zero, List.setIfInBounds_toArray, List.set_cons_zero, List.set_cons_succ]
        refine wpAnyH_take (i := 10) (oi := _) (v := ?_) rfl (by kernel_rfl) (by kernel_rfl) (by kernel_rfl) (fun _ _ _ h => h) (Or.inl ⟨by kernel_rfl, ?_⟩) (by assumption) ?_
        rotate_left 1
        · intro w hSw; obtain ⟨hs0, hs1⟩ := hSw; go_simp; (try with_reducible rfl)
        try simp only [Act.put, List.getElem_toArray, List.getElem_cons_succ, List.getElem_cons_zero, List.setIfInBounds_toArray, List.set_cons_zero, List.set_cons_succ]
        refine wpAnyH_take (i := 11) (oi := _) (v := ?_) rfl (by kernel_rfl) (by kernel_rfl) (by kernel_rfl) (fun _ _ _ h => h) (Or.inl ⟨by kernel_rfl, ?_⟩) (by assumption) ?_
        rotate_left 1
        · intro w hSw; obtain ⟨hs0, hs1⟩ := hSw; go_simp; (try with_reducible rfl)
        try simp only [Act.put, List.getElem_toArray, List.getElem_cons_succ, List.getElem_cons_zero, List.setIfInBounds_toArray, List.set_cons_zero, List.set_cons_succ]
        refine wpAnyH_take (i := 12) (oi := _) (v := ?_) rfl (by kernel_rfl) (by kernel_rfl) (by kernel_rfl) (fun _ _ _ h => h) (Or.inl ⟨by kernel_rfl, ?_⟩) (by assumption) ?_
        rotate_left 1
        · intro w hSw; obtain ⟨hs0, hs1⟩ := hSw; go_simp; (try with_reducible rfl)
        try simp only [Act.put, List.getElem_toArray, List.getElem_cons_succ, List.getElem_cons_zero, List.setIfInBounds_toArray, List.set_cons_zero, List.set_cons_succ]
        refine wpAnyH_take (i := 13) (oi := _) (v := ?_) rfl (by kernel_rfl) (by kernel_rfl) (by kernel_rfl) (fun _ _ _ h => h) (Or.inl ⟨by kernel_rfl, ?_⟩) (by assumption) ?_
        rotate_left 1
        · intro w hSw; obtain ⟨hs0, hs1⟩ := hSw; go_simp; (try with_reducible rfl)
        try simp only [Act.put, List.getElem_toArray, List.getElem_cons_succ, List.getElem_cons_zero, List.setIfInBounds_toArray, List.set_cons_zero, List.set_cons_succ]
        refine wpAnyH_take (i := 14) (oi := _) (v := ?_) rfl (by kernel_rfl) (by kernel_rfl) (by kernel_rfl) (fun _ _ _ h => h) (Or.inl ⟨by kernel_rfl, ?_⟩) (by assumption) ?_
        rotate_left 1
        · intro w hSw; obtain ⟨hs0, hs1⟩ := hSw; go_simp; (try with_reducible rfl)
        try simp only [Act.put, List.getElem_toArray, List.getElem_cons_succ, List.getElem_cons_zero, List.setIfInBounds_toArray, List.set_cons_zero, List.set_cons_succ]
        refine wpAnyH_ready (rs := [15]) (by kernel_rfl) (by simp) ?_
        refine AllReadyH.cons (o := _) rfl (fun K hK => ?_) AllReadyH.nil
        go_simp
        refine hK.out _ _ ⟨(World.cell?_alloc_some _ _ _ (by simp [c30])).trans c30, (World.cell?_alloc_some _ _ _ (by simp [c33])).trans c33⟩ (fun hHeld => ?_)
        clear hK K
        try simp only [Act.put, List.getElem_toArray, List.getElem_cons_succ, List.getElem_cons_zero, List.setIfInBounds_toArray, List.set_cons_zero, List.set_cons_succ]
        refine wpAnyH_take (i := 16) (oi := _) (v := ?_) rfl (by kernel_rfl) (by kernel_rfl) (by kernel_rfl) (fun _ _ _ h => h) (Or.inl ⟨by kernel_rfl, ?_⟩) (by assumption) ?_
        rotate_left 1
        · intro w hSw; obtain ⟨hs0, hs1⟩ := hSw; go_simp; (try with_reducible rfl)
        try simp only [Act.put, List.getElem_toArray, List.getElem_cons_succ, List.getElem_cons_zero, List.setIfInBounds_toArray, List.set_cons_zero, List.set_cons_succ]
        refine wpAnyH_done (by kernel_rfl) ?_ _
        refine NoPanic.normal ?_
        clear hHeld
        go_upto_region 37 with fail
        have V5 : Hid (Blk (wr.alloc (.cells #[.int .i64 0, .int .i64 (Q.ts.length : Int), .int .i64 (Q.ts.length : Int), .int .i64 ((bstr Q.ns).size : Int)] 3)).drew wr.heap.size 3 (intC [0, Q.ts.length, Q.ts.length, Q.ns.length]).toArray) := by
          have := Blk.new wr 3 #[.int .i64 0, .int .i64 (Q.ts.length : Int), .int .i64 (Q.ts.length : Int), .int .i64 ((bstr Q.ns).size : Int)]
          rw [XN.out] at this
          rw [XN.out]
          exact this
        have WQ5 : Hid (WQ (wr.alloc (.cells #[.int .i64 0, .int .i64 (Q.ts.length : Int), .int .i64 (Q.ts.length : Int), .int .i64 ((bstr Q.ns).size : Int)] 3)).drew g w.heap.size Q av tv (.slice A3 Q.ts.length c3)) := (WQ0.out.alloc _).drew_
        have BE5 : Hid (Below w.heap.size w (wr.alloc (.cells #[.int .i64 0, .int .i64 (Q.ts.length : Int), .int .i64 (Q.ts.length : Int), .int .i64 ((bstr Q.ns).size : Int)] 3)).drew) := (Below.alloc BE0.out BE0.out.size _).drew
        clear WQ0 BE0 c30 c33 XN
        generalize (wr.alloc (.cells #[.int .i64 0, .int .i64 (Q.ts.length : Int), .int .i64 (Q.ts.length : Int), .int .i64 ((bstr Q.ns).size : Int)] 3)).drew = W5 at V5 WQ5 BE5 ⊢
        generalize wr.heap.size = V at *
        obtain ⟨nums, hnums⟩ : ∃ nums : List Int, [0, (Q.ts.length : Int), (Q.ts.length : Int), (Q.ns.length : Int)] = nums := ⟨_, rfl⟩
        have HNU : Hid (qblob Q = opening ++ le4s nums ++ Q.ts ++ Q.ns) := by show qblob Q = _; rw [← hnums]; rfl
        have HNL : Hid (nums.length = 4) := by show nums.length = 4; rw [← hnums]; rfl
        have HNB : Hid (∀ x ∈ nums, 0 ≤ x ∧ x ≤ 400000000) := by
          show ∀ x ∈ nums, 0 ≤ x ∧ x ≤ 400000000
          rw [← hnums]
          have := N1.out
          have := N2.out
          intro x hx
          simp only [List.mem_cons, List.not_mem_nil, or_false] at hx
          omega
        rw [hnums] at V5
        clear hnums
        go_loopw [8, 10] (fun s i wm => ∃ j : Nat, j ≤ 4 ∧ i = .int .i64 j ∧ s = .string (bstr (opening ++ le4s (nums.take j))) ∧ Below W5.heap.size W5 wm) (fun _ i _ => 4 - (intOf i).toNat)
        case atStart => exact ⟨0, by omega, rfl, by simp [le4s, opening, bstr], Below.refl _ _⟩
        case round =>
          obtain ⟨j, hj, rfl, rfl, hb⟩ := hrel
          have HB := Lib.hid hb
          clear hb
          by_cases hj4 : j < 4
          · have j1 : decide ((j : Int) < 4) = true := by simp; omega
            obtain ⟨x, hx⟩ : ∃ x, nums[j]? = some x := ⟨_, List.getElem?_eq_getElem (by have := HNL.out; omega)⟩
            have hxb := HNB.out x (List.mem_of_getElem? hx)
            have cv : wr.cell? ⟨V, j, none⟩ = some (.int .i64 x) := by
              rw [(V5.out.below_ HB.out).cell j]
              simp [intC, hx]
            have HT1 : Hid (opening ++ le4s (nums.take (j + 1)) = (opening ++ le4s (nums.take j)) ++ le4 x) := by
              show opening ++ le4s (nums.take (j + 1)) = _
              rw [List.take_add_one, hx]
              simp [le4s]
            have hlen : (opening ++ le4s (nums.take j)).length ≤ 100 := by
              have : (le4s (nums.take j)).length = 4 * (nums.take j).length := by
                generalize nums.take j = L
                induction L with
                | nil => rfl
                | cons a L ih => simp only [le4s, List.flatMap_cons, List.length_append, le4_length, List.length_cons] at *; omega
              have h2 : (nums.take j).length ≤ 4 := by rw [List.length_take]; omega
              simp only [List.length_append, this, show opening.length = 8 from rfl]
              omega
            obtain ⟨H, hH⟩ : ∃ H, opening ++ le4s (nums.take j) = H := ⟨_, rfl⟩
            rw [hH] at HT1 hlen
            rw [hH]
            have CL := Lib.hid (fun W => le_any x W)
            have j2 : IntKind.u64.wrap x = x := by rw [IntKind.wrap_u64]; omega
            have rcat : ∀ W, (Op.stringOp .add (bstr H) (bstr (le4 x))).run Try.prog W = .ok (.string (bstr (H ++ le4 x))) W := fun W => cat_run _ _ (by rw [le4_length]; omega) W
            have j3 : (0 : Int) ≤ (j : Int) := by omega
            have j4 : (j : Int) ≤ 3 := by omega
            have HJ : Hid (j < 4) := hj4
            have HXB := Lib.hid hxb
            have hx0 : 0 ≤ x := hxb.1
            have hx1 : x ≤ 400000000 := hxb.2
            clear hx hH hlen hj4 hxb
            go_upto_region 38 with (go_at_call 18; have cl := CL.out; simp only [j2] at cl; refine (cl _).mono ?_; rintro e W6 ⟨rfl, hb6⟩; have HB6 := Lib.hid hb6; clear hb6 cl)
            clear rcat cv
            go_wp2_with fail
            go_roundw
            case rel => exact ⟨j + 1, by have := HJ.out; omega, by go_num, by rw [HT1.out], HB.out.trans (HB6.out.mono HB.out.size)⟩
            case measure => have := HJ.out; simp [intOf]; omega
          · have : j = 4 := by omega
            subst this
            have j1 : decide ((4 : Int) < 4) = false := by simp
            have ht4 : nums.take 4 = nums := by rw [← HNL.out, List.take_length]
            rw [ht4]
            have hl24 : (opening ++ le4s nums).length ≤ 100 := by
              have : (le4s nums).length = 4 * nums.length := by
                generalize nums = L
                induction L with
                | nil => rfl
                | cons a L ih => simp only [le4s, List.flatMap_cons, List.length_append, le4_length, List.length_cons] at *; omega
              have h2 := HNL.out
              simp only [List.length_append, this, show opening.length = 8 from rfl]
              omega
            have e8 := HNU.out
            obtain ⟨H, hH⟩ : ∃ H, opening ++ le4s nums = H := ⟨_, rfl⟩
            rw [hH] at hl24 e8
            rw [hH]
            have WQ6 : Hid (WQ wr g w.heap.size Q av tv (.slice A3 Q.ts.length c3)) := WQ5.out.below HB.out
            have BE6 : Hid (Below w.heap.size w wr) := BE5.out.trans (HB.out.mono BE5.out.size)
            have d0 : wr.cell? ⟨g, 0, none⟩ = some (.string (bstr Q.ns)) := WQ6.out.blk.cell 0
            have d3 : wr.cell? ⟨g, 3, none⟩ = some (.slice A3 Q.ts.length c3) := WQ6.out.blk.cell 3
            have dc : (convert 45 9 (.slice A3 Q.ts.length c3)).run Try.prog wr = .ok (.string (bstr Q.ts)) wr := own_str WQ6.out.b
            have r1 : ∀ W, (Op.stringOp .add (bstr H) (bstr Q.ts)).run Try.prog W = .ok (.string (bstr (H ++ Q.ts))) W := fun W => cat_run _ _ (by have := N1.out; omega) W
            have r2 : ∀ W, (Op.stringOp .add (bstr (H ++ Q.ts)) (bstr Q.ns)).run Try.prog W = .ok (.string (bstr (H ++ Q.ts ++ Q.ns))) W := fun W => cat_run _ _ (by rw [List.length_append]; have := N1.out; have := N2.out; omega) W
            have e9 : qblob Q = H ++ (Q.ts ++ Q.ns) := by rw [e8, List.append_assoc]
            have HE8 := Lib.hid e9
            have HLEN : Hid ((qblob Q).length ≤ 4611686018427387904) := by show (qblob Q).length ≤ _; rw [e8]; simp only [List.length_append]; have := N1.out; have := N2.out; omega
            clear e8 e9 hH ht4 hl24 WQ5 BE5 V5
            go_upto_region 40 with fail
            refine wp_region_noPanic ?_
            refine wp_region_held_drew (S := (fun W => W.cell? ⟨g, 0, none⟩ = some (.string (bstr Q.ns)) ∧ W.cell? ⟨g, 3, none⟩ = some (.slice A3 Q.ts.length c3) ∧ (convert 45 9 (.slice A3 Q.ts.length c3)).run Try.prog W = .ok (.string (bstr Q.ts)) W)) (by kernel_rfl) ⟨d0, d3, own_str (w := wr.drew) WQ6.out.b⟩ (fun hHeld => ?_)
            refine wpAnyH_take (i := 0) (oi := _) (v := ?_) rfl (by kernel_rfl) (by kernel_rfl) (by kernel_rfl) (fun _ _ _ h => h) (Or.inl ⟨by kernel_rfl, ?_⟩) (by assumption) ?_
            rotate_left 1
            · intro w hSw; obtain ⟨hs0, hs1, hs2⟩ := hSw; go_simp; (try with_reducible rfl)
            try simp only [Act.put, List.getElem_toArray, List.getElem_cons_succ, List.getElem_cons_zero, List.setIfInBounds_toArray, List.set_cons_zero, List.set_cons_succ]
            refine wpAnyH_take (i := 1) (oi := _) (v := ?_) rfl (by kernel_rfl) (by kernel_rfl) (by kernel_rfl) (fun _ _ _ h => h) (Or.inl ⟨by kernel_rfl, ?_⟩) (by assumption) ?_
            rotate_left 1
            · intro w hSw; obtain ⟨hs0, hs1, hs2⟩ := hSw; go_simp; (try with_reducible rfl)
            try simp only [Act.put, List.getElem_toArray, List.getElem_cons_succ, List.getElem_cons_zero, List.setIfInBounds_toArray, List.set_cons_zero, List.set_cons_succ]
            refine wpAnyH_take (i := 2) (oi := _) (v := ?_) rfl (by kernel_rfl) (by kernel_rfl) (by kernel_rfl) (fun _ _ _ h => h) (Or.inl ⟨by kernel_rfl, ?_⟩) (by assumption) ?_
            rotate_left 1
            · intro w hSw; obtain ⟨hs0, hs1, hs2⟩ := hSw; go_simp; (try with_reducible rfl)
            try simp only [Act.put, List.getElem_toArray, List.getElem_cons_succ, List.getElem_cons_zero, List.setIfInBounds_toArray, List.set_cons_zero, List.set_cons_succ]
            refine wpAnyH_take (i := 3) (oi := _) (v := ?_) rfl (by kernel_rfl) (by kernel_rfl) (by kernel_rfl) (fun _ _ _ h => h) (Or.inl ⟨by kernel_rfl, ?_⟩) (by assumption) ?_
            rotate_left 1
            · intro w hSw; obtain ⟨hs0, hs1, hs2⟩ := hSw; go_simp; (try with_reducible rfl)
            try simp only [Act.put, List.getElem_toArray, List.getElem_cons_succ, List.getElem_cons_zero, List.setIfInBounds_toArray, List.set_cons_zero, List.set_cons_succ]
            refine wpAnyH_take (i := 4) (oi := _) (v := ?_) rfl (by kernel_rfl) (by kernel_rfl) (by kernel_rfl) (fun _ _ _ h => h) (Or.inl ⟨by kernel_rfl, ?_⟩) (by assumption) ?_
            rotate_left 1
            · intro w hSw; obtain ⟨hs0, hs1, hs2⟩ := hSw; go_simp; (try with_reducible rfl)
            try simp only [Act.put, List.getElem_toArray, List.getElem_cons_succ, List.getElem_cons_zero, List.setIfInBounds_toArray, List.set_cons_zero, List.set_cons_succ]
            refine wpAnyH_take (i := 5) (oi := _) (v := ?_) rfl (by kernel_rfl) (by kernel_rfl) (by kernel_rfl) (fun _ _ _ h => h) (Or.inl ⟨by kernel_rfl, ?_⟩) (by assumption) ?_
            rotate_left 1
            · intro w hSw; obtain ⟨hs0, hs1, hs2⟩ := hSw; go_simp; (try with_reducible rfl)
            try simp only [Act.put, List.getElem_toArray, List.getElem_cons_succ, List.getElem_cons_zero, List.setIfInBounds_toArray, List.set_cons_zero, List.set_cons_succ]
            refine wpAnyH_take (i := 6) (oi := _) (v := ?_) rfl (by kernel_rfl) (by kernel_rfl) (by kernel_rfl) (fun _ _ _ h => h) (Or.inl ⟨by kernel_rfl, ?_⟩) (by assumption) ?_
            rotate_left 1
            · intro w hSw; obtain ⟨hs0, hs1, hs2⟩ := hSw; go_simp; (try with_reducible rfl)
            try simp only [Act.put, List.getElem_toArray, List.getElem_cons_succ, List.getElem_cons_zero, List.setIfInBounds_toArray, List.set_cons_zero, List.set_cons_succ]
            refine wpAnyH_take (i := 7) (oi := _) (v := ?_) rfl (by kernel_rfl) (by kernel_rfl) (by kernel_rfl) (fun _ _ _ h => h) (Or.inl ⟨by kernel_rfl, ?_⟩) (by assumption) ?_
            rotate_left 1
            · intro w hSw; obtain ⟨hs0, hs1, hs2⟩ := hSw; go_simp; (try with_reducible rfl)
            try simp only [Act.put, List.getElem_toArray, List.getElem_cons_succ, List.getElem_cons_zero, List.setIfInBounds_toArray, List.set_cons_zero, List.set_cons_succ]
            refine wpAnyH_take (i := 8) (oi := _) (v := ?_) rfl (by kernel_rfl) (by kernel_rfl) (by kernel_rfl) (fun _ _ _ h => h) (Or.inl ⟨by kernel_rfl, ?_⟩) (by assumption) ?_
            rotate_left 1
            · intro w hSw; obtain ⟨hs0, hs1, hs2⟩ := hSw; go_simp; (try with_reducible rfl)
            try simp only [Act.put, List.getElem_toArray, List.getElem_cons_succ, List.getElem_cons_zero, List.setIfInBounds_toArray, List.set_cons_zero, List.set_cons_succ]
            refine wpAnyH_take (i := 9) (oi := _) (v := ?_) rfl (by kernel_rfl) (by kernel_rfl) (by kernel_rfl) (fun _ _ _ h => h) (Or.inl ⟨by kernel_rfl, ?_⟩) (by assumption) ?_
            rotate_left 1
            · intro w hSw; obtain ⟨hs0, hs1, hs2⟩ := hSw; go_simp; (try with_reducible rfl)
            try simp only [Act.put, List.getElem_toArray, List.getElem_cons_succ, List.getElem_cons_zero, List.setIfInBounds_toArray, List.set_cons_zero, List.set_cons_succ]
            refine wpAnyH_take (i := 10) (oi := _) (v := ?_) rfl (by kernel_rfl) (by kernel_rfl) (by kernel_rfl) (fun _ _ _ h => h) (Or.inl ⟨by kernel_rfl, ?_⟩) (by assumption) ?_
            rotate_left 1
            · intro w hSw; obtain ⟨hs0, hs1, hs2⟩ := hSw; go_simp; (try with_reducible rfl)
            try simp only [Act.put, List.getElem_toArray, List.getElem_cons_succ, List.getElem_cons_zero, List.setIfInBounds_toArray, List.set_cons_zero, List.set_cons_succ]
            refine wpAnyH_take (i := 11) (oi := _) (v := ?_) rfl (by kernel_rfl) (by kernel_rfl) (by kernel_rfl) (fun _ _ _ h => h) (Or.inl ⟨by kernel_rfl, ?_⟩) (by assumption) ?_
            rotate_left 1
            · intro w hSw; obtain ⟨hs0, hs1, hs2⟩ := hSw; go_simp; (try with_reducible rfl)
            try simp only [Act.put, List.getElem_toArray, List.getElem_cons_succ, List.getElem_cons_zero, List.setIfInBounds_toArray, List.set_cons_zero, List.set_cons_succ]
            refine wpAnyH_take (i := 12) (oi := _) (v := ?_) rfl (by kernel_rfl) (by kernel_rfl) (by kernel_rfl) (fun _ _ _ h => h) (Or.inl ⟨by kernel_rfl, ?_⟩) (by assumption) ?_
            rotate_left 1
            · intro w hSw; obtain ⟨hs0, hs1, hs2⟩ := hSw; go_simp; (try with_reducible rfl)
            try simp only [Act.put, List.getElem_toArray, List.getElem_cons_succ, List.getElem_cons_zero, List.setIfInBounds_toArray, List.set_cons_zero, List.set_cons_succ]
            refine wpAnyH_done (by kernel_rfl) ?_ _
            refine NoPanic.normal ?_
            clear hHeld d0 d3 dc r1 r2
            rw [← HE8.out, ← HQB.out]
            have BE7 : Hid (Below w.heap.size w wr.drew) := BE6.out.drew
            clear HE8 BE6 WQ6
            go_upto_region 41 with fail
            generalize hW : wr.drew = W at *
            clear hW
            have BE8 := Lib.hid BE7.out
            have CP := Lib.hid (qparse_any (qbuildF l) (by rw [HQB.out]; exact HLEN.out) W)
            clear BE7 HLEN
            go_wp2_with fail
            go_at_call 19
            refine CP.out.mono ?_
            rintro e W8 ⟨hb8, hcase⟩
            have BE9 := Lib.hid (BE8.out.trans (hb8.mono BE8.out.size))
            clear hb8
            rcases hcase with ⟨m, A9, c9, hqp, rfl, hty⟩ | ⟨hqp, rfl⟩
            · have HQP := Lib.hid hqp
              have HTY := Lib.hid hty
              have hmay := qparseF_may _ _ hqp
              have HMAY := Lib.hid hmay
              clear hqp hty hmay
              have CS := Lib.hid (same_two A A9 c c9 l m hlen (by have := HMAY.out.2; omega) W8 (HT.out.below BE9.out) HTY.out)
              go_wp2_with fail
              go_at_call 10
              refine CS.out.mono ?_
              rintro e W9 ⟨b, rfl, hbiff, hb9⟩
              have B9 := Lib.hid (BE9.out.trans (hb9.mono BE9.out.size))
              have HBI := Lib.hid hbiff
              clear hbiff hb9
              cases b
              · have HF : Hid (okB l = false) := by
                  show okB l = false
                  cases hok : okB l
                  · rfl
                  · simp only [okB, Bool.and_eq_true, decide_eq_true_eq] at hok
                    have h2 := qparse_qbuild l hok.2 hok.1
                    rw [HQP.out] at h2
                    cases HBI.out.2 (Option.some.inj h2).symm
                go_wp2_with fail
                go_ret2
                exact ⟨B9.out, .inr ⟨HF.out, rfl⟩⟩
              · have HF : Hid (okB l = true) := by
                  show okB l = true
                  rw [HBI.out.1 rfl]
                  simp only [okB, Bool.and_eq_true, decide_eq_true_eq]
                  exact ⟨HMAY.out.2, HMAY.out.1⟩
                go_wp2_with fail
                go_ret2
                exact ⟨B9.out, .inl ⟨HF.out, rfl⟩⟩
            · have HN := Lib.hid hqp
              clear hqp
              have HF : Hid (okB l = false) := by
                show okB l = false
                cases hok : okB l
                · rfl
                · simp only [okB, Bool.and_eq_true, decide_eq_true_eq] at hok
                  have := qparse_qbuild l hok.2 hok.1
                  rw [HN.out] at this
                  cases this
              go_wp2_with fail
              go_ret2
              exact ⟨BE9.out, .inr ⟨HF.out, rfl⟩⟩
  · have g0 : decide ((1024 : Int) < l.length) = true := by simp; omega
    have g0' : decide (1024 < l.length) = true := by simp; omega
    have HF : Hid (okB l = false) := show okB l = false by unfold okB; rw [decide_eq_false hl]; rfl
    clear hl
    go_enter Try.func7, Try.ntmps7
    go_wp2_with fail
    go_ret2
    refine ⟨?_, .inr ⟨HF.out, rfl⟩⟩
    exact (((Below.refl _ w).alloc (Nat.le_refl _) _).alloc (by simp) _).alloc (by simp; omega) _
end Go.Proofs.Ytmfdojmecpdikaa
