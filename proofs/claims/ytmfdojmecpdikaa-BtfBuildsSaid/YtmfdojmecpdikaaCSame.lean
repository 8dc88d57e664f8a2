/-
  Layer 6: the reference's Same, of any two lists.
-/
import Derived.Test.YtmfdojmecpdikaaBSame
import Derived.Outline
namespace Go.Proofs.Ytmfdojmecpdikaa
open Go Go.RowKit Go.Maps
set_option linter.unusedVariables false
set_option linter.unusedSimpArgs false
set_option maxRecDepth 100000
theorem toList_ne {a b : ByteArray} (h : ¬ a = b) : (a.toList == b.toList) = false := by
  rw [ByteArray.toList_eq, ByteArray.toList_eq]
  cases hb : (a.data.toList == b.data.toList)
  · rfl
  · exact absurd (ByteArray.ext (Array.toList_inj.1 (by simpa using hb))) h
theorem mem_ne {a b : ByteArray} {x y u v : Int} (h : ¬ (a = b ∧ x = y ∧ u = v)) : (a.toList == b.toList && (x == y && u == v)) = false := by
  cases hb : (a.toList == b.toList && (x == y && u == v))
  · rfl
  · simp only [Bool.and_eq_true, beq_iff_eq] at hb
    refine absurd ⟨?_, hb.2.1, hb.2.2⟩ h
    by_cases e : a = b
    · exact e
    · have := toList_ne e
      rw [beq_eq_false_iff_ne] at this
      exact absurd hb.1 this
theorem ne_at {l1 l2 : List Ty} {k : Nat} {t1 t2 : Ty} (h : l1[k]? = some t1 ∧ l2[k]? = some t2) (hne : ¬ t1 = t2) : ¬ l1 = l2 := by
  rintro rfl
  rw [h.1] at h
  exact hne (Option.some.inj h.2)
theorem ne_mem {m1 m2 : List Mem} {m : Nat} {a b : Mem} {k : Int} {n : ByteArray} {s y q : Int} (h1 : m1[m]? = some a) (h2 : m2[m]? = some b) (hne : ¬ a = b) : ¬ (⟨k, n, s, y, q, m1⟩ : Ty) = ⟨k, n, s, y, q, m2⟩ := by
  intro h
  have e : m1 = m2 := congrArg Ty.mems h
  subst e
  rw [h1] at h2
  exact hne (Option.some.inj h2)
def PostSame (w : World) (l1 l2 : List Ty) (e : Ending) (w' : World) : Prop := ∃ b, e = .returned (.bool b) ∧ (b = true ↔ l1 = l2) ∧ Below w.heap.size w w'
set_option maxHeartbeats 4000000 in
theorem same_two (A1 A2 : Option Addr) (c1 c2 : Nat) (l1 l2 : List Ty) (hlen1 : l1.length ≤ 9223372036854775807) (hlen2 : l2.length ≤ 9223372036854775807) (w : World) (h1 : TysAt w A1 l1) (h2 : TysAt w A2 l2) :
    Calls Try.prog 10 #[.slice A1 l1.length c1, .slice A2 l2.length c2] w (PostSame w l1 l2) := by
  have i1 : (l1.length : Int) ≤ 9223372036854775807 := by omega
  have H1 := Lib.hid h1
  have H2 := Lib.hid h2
  clear h1 h2
  by_cases hll : l1.length = l2.length
  · have g0 : ((l1.length : Int) != (l2.length : Int)) = false := by simp [hll]
    have HLL := Lib.hid hll
    clear hll
    go_enter Try.func10, Try.ntmps10
    go_wp2_with fail
    clear g0
    go_loopw [5, 6, 7, 8] (fun i a b d wr => ∃ k : Nat, k ≤ l1.length ∧ i = .int .i64 k ∧ Below w.heap.size w wr ∧ l1.take k = l2.take k) (fun i _ _ _ _ => l1.length - (intOf i).toNat)
    case atStart => exact ⟨0, by omega, rfl, Below.refl _ _, by simp⟩
    case round =>
      obtain ⟨k, hk, rfl, hb, htake⟩ := hrel
      have HB := Lib.hid hb
      have HTAKE := Lib.hid htake
      clear hb htake
      by_cases hkn : k < l1.length
      · have hkn2 : k < l2.length := by have := HLL.out; omega
        obtain ⟨t1, ht1⟩ : ∃ t, l1[k]? = some t := ⟨_, List.getElem?_eq_getElem hkn⟩
        obtain ⟨t2, ht2⟩ : ∃ t, l2[k]? = some t := ⟨_, List.getElem?_eq_getElem hkn2⟩
        obtain ⟨b1, o1, A1', c1', rfl, hlt1, x0, x1, x2, x3, x4, x5, hm1, hs1, hn1⟩ := (H1.out.below HB.out) k t1 ht1
        obtain ⟨b2, o2, A2', c2', rfl, hlt2, y0_, y1_, y2_, y3_, y4_, y5_, hm2, hs2, hn2⟩ := (H2.out.below HB.out) k t2 ht2
        have HT := Lib.hid (And.intro ht1 ht2)
        clear ht1 ht2
        obtain ⟨k1, n1, s1, y1, q1, m1⟩ := t1
        obtain ⟨k2, n2, s2, y2, q2, m2⟩ := t2
        simp only at x0 x1 x2 x3 x4 x5 y0_ y1_ y2_ y3_ y4_ y5_ hm1 hs1 hn1 hm2 hs2 hn2
        have g1 : decide (k < l1.length) = true := by simpa using hkn
        have i2 : (k : Int) < (l1.length : Int) := by omega
        have i2b : (k : Int) < (l2.length : Int) := by omega
        have i3 : (0 : Int) ≤ (k : Int) := by omega
        have HM1 := Lib.hid hm1
        have HM2 := Lib.hid hm2
        have i4 : (m1.length : Int) ≤ 9223372036854775807 := by omega
        have i5 : (m2.length : Int) ≤ 9223372036854775807 := by omega
        clear hkn hkn2 hm1 hm2 hs1 hs2 hn1 hn2
        go_wp2_with fail
        go_region_held3 (fun W => W.cell? ⟨b1, o1 + k * 6, none⟩ = some (.int .i64 k1) ∧ W.cell? ⟨b1, o1 + k * 6 + 1, none⟩ = some (.string n1) ∧ W.cell? ⟨b1, o1 + k * 6 + 2, none⟩ = some (.int .i64 s1) ∧ W.cell? ⟨b1, o1 + k * 6 + 3, none⟩ = some (.int .i64 y1) ∧ W.cell? ⟨b1, o1 + k * 6 + 4, none⟩ = some (.int .i64 q1) ∧ W.cell? ⟨b1, o1 + k * 6 + 5, none⟩ = some ((.slice A1' m1.length c1')) ∧ W.cell? ⟨b2, o2 + k * 6, none⟩ = some (.int .i64 k2) ∧ W.cell? ⟨b2, o2 + k * 6 + 1, none⟩ = some (.string n2) ∧ W.cell? ⟨b2, o2 + k * 6 + 2, none⟩ = some (.int .i64 s2) ∧ W.cell? ⟨b2, o2 + k * 6 + 3, none⟩ = some (.int .i64 y2) ∧ W.cell? ⟨b2, o2 + k * 6 + 4, none⟩ = some (.int .i64 q2) ∧ W.cell? ⟨b2, o2 + k * 6 + 5, none⟩ = some ((.slice A2' m2.length c2')))
          (go_keep) (fail)
        · have hb2 : Below w.heap.size w ((wr.alloc (.cells #[.int .i64 k1, .string n1, .int .i64 s1, .int .i64 y1, .int .i64 q1, .slice A1' m1.length c1'] 36)).alloc (.cells #[.int .i64 k2, .string n2, .int .i64 s2, .int .i64 y2, .int .i64 q2, .slice A2' m2.length c2'] 36)).drew := (((HB.out.alloc HB.out.size _).alloc (by have := HB.out.size; simp; omega) _)).drew
          have hl : Below wr.heap.size wr ((wr.alloc (.cells #[.int .i64 k1, .string n1, .int .i64 s1, .int .i64 y1, .int .i64 q1, .slice A1' m1.length c1'] 36)).alloc (.cells #[.int .i64 k2, .string n2, .int .i64 s2, .int .i64 y2, .int .i64 q2, .slice A2' m2.length c2'] 36)).drew := (((Below.refl _ wr).alloc (Nat.le_refl _) _).alloc (by simp) _).drew
          have z1 : Blk ((wr.alloc (.cells #[.int .i64 k1, .string n1, .int .i64 s1, .int .i64 y1, .int .i64 q1, .slice A1' m1.length c1'] 36)).alloc (.cells #[.int .i64 k2, .string n2, .int .i64 s2, .int .i64 y2, .int .i64 q2, .slice A2' m2.length c2'] 36)).drew wr.heap.size 36 #[.int .i64 k1, .string n1, .int .i64 s1, .int .i64 y1, .int .i64 q1, .slice A1' m1.length c1'] := (Blk.new wr _ _).alloc _
          have z2 : Blk ((wr.alloc (.cells #[.int .i64 k1, .string n1, .int .i64 s1, .int .i64 y1, .int .i64 q1, .slice A1' m1.length c1'] 36)).alloc (.cells #[.int .i64 k2, .string n2, .int .i64 s2, .int .i64 y2, .int .i64 q2, .slice A2' m2.length c2'] 36)).drew (wr.heap.size + 1) 36 #[.int .i64 k2, .string n2, .int .i64 s2, .int .i64 y2, .int .i64 q2, .slice A2' m2.length c2'] := by
            have := Blk.new (wr.alloc (.cells #[.int .i64 k1, .string n1, .int .i64 s1, .int .i64 y1, .int .i64 q1, .slice A1' m1.length c1'] 36)) 36 #[.int .i64 k2, .string n2, .int .i64 s2, .int .i64 y2, .int .i64 q2, .slice A2' m2.length c2']
            rw [show (wr.alloc (.cells #[.int .i64 k1, .string n1, .int .i64 s1, .int .i64 y1, .int .i64 q1, .slice A1' m1.length c1'] 36)).heap.size = wr.heap.size + 1 by simp] at this
            exact this
          have HB2 := Lib.hid hb2
          have HN1 := Lib.hid (HM1.out.below hl)
          have HN2 := Lib.hid (HM2.out.below hl)
          have Z1 := Lib.hid z1
          have Z2 := Lib.hid z2
          clear hb2 hl z1 z2 x0 x1 x2 x3 x4 x5 y0_ y1_ y2_ y3_ y4_ y5_
          generalize ((wr.alloc (.cells #[.int .i64 k1, .string n1, .int .i64 s1, .int .i64 y1, .int .i64 q1, .slice A1' m1.length c1'] 36)).alloc (.cells #[.int .i64 k2, .string n2, .int .i64 s2, .int .i64 y2, .int .i64 q2, .slice A2' m2.length c2'] 36)).drew = W at *
          generalize (wr.heap.size + 1) = X2 at *
          generalize wr.heap.size = X1 at *
          have p0 : W.cell? ⟨X1, 0, none⟩ = some (.int .i64 k1) := Z1.out.cell 0
          have p1 : W.cell? ⟨X1, 1, none⟩ = some (.string n1) := Z1.out.cell 1
          have p2 : W.cell? ⟨X1, 2, none⟩ = some (.int .i64 s1) := Z1.out.cell 2
          have p3 : W.cell? ⟨X1, 3, none⟩ = some (.int .i64 y1) := Z1.out.cell 3
          have p4 : W.cell? ⟨X1, 4, none⟩ = some (.int .i64 q1) := Z1.out.cell 4
          have p5 : W.cell? ⟨X1, 5, none⟩ = some ((.slice A1' m1.length c1')) := Z1.out.cell 5
          have r0 : W.cell? ⟨X2, 0, none⟩ = some (.int .i64 k2) := Z2.out.cell 0
          have r1 : W.cell? ⟨X2, 1, none⟩ = some (.string n2) := Z2.out.cell 1
          have r2 : W.cell? ⟨X2, 2, none⟩ = some (.int .i64 s2) := Z2.out.cell 2
          have r3 : W.cell? ⟨X2, 3, none⟩ = some (.int .i64 y2) := Z2.out.cell 3
          have r4 : W.cell? ⟨X2, 4, none⟩ = some (.int .i64 q2) := Z2.out.cell 4
          have r5 : W.cell? ⟨X2, 5, none⟩ = some ((.slice A2' m2.length c2')) := Z2.out.cell 5
          by_cases e_kind : k1 = k2
          · subst e_kind
            by_cases e_name : n1 = n2
            · subst e_name
              have g_name : (n1.toList == n1.toList) = true := by simp
              by_cases e_size : s1 = s2
              · subst e_size
                by_cases e_ty : y1 = y2
                · subst e_ty
                  by_cases e_count : q1 = q2
                  · subst e_count
                    by_cases e_len : m1.length = m2.length
                    · have g_len : ((m1.length : Int) != (m2.length : Int)) = false := by simp [e_len]
                      have ELEN := Lib.hid e_len
                      clear e_len
                      go_wp2_with fail
                      go_loopw [8] (fun j wr => ∃ m : Nat, m ≤ m1.length ∧ j = .int .i64 m ∧ Olds W wr ∧ m1.take m = m2.take m) (fun j _ => m1.length - (intOf j).toNat)
                      case atStart => exact ⟨0, by omega, rfl, Olds.refl _, by simp⟩
                      case round =>
                        clear p0 p1 p2 p3 p4 p5 r0 r1 r2 r3 r4 r5 g_len g_name
                        obtain ⟨m, hm, rfl, ho, htk⟩ := hrel
                        have HO := Lib.hid ho
                        have HTK := Lib.hid htk
                        have r5 : wr.cell? ⟨X1, 5, none⟩ = some (.slice A1' m1.length c1') := (ho.blk Z1.out).cell 5
                        have s5 : wr.cell? ⟨X2, 5, none⟩ = some (.slice A2' m2.length c2') := (ho.blk Z2.out).cell 5
                        clear ho htk
                        by_cases hmn : m < m1.length
                        · have hmn2 : m < m2.length := by have := ELEN.out; omega
                          obtain ⟨mm1, hmm1⟩ : ∃ mm, m1[m]? = some mm := ⟨_, List.getElem?_eq_getElem hmn⟩
                          obtain ⟨mm2, hmm2⟩ : ∃ mm, m2[m]? = some mm := ⟨_, List.getElem?_eq_getElem hmn2⟩
                          obtain ⟨b3, o3, rfl, hlt3, u0, u1, u2, hsm⟩ := (HN1.out.below (HO.out.below (Nat.le_refl _))) m mm1 hmm1
                          obtain ⟨b4, o4, rfl, hlt4, v0, v1, v2, _⟩ := (HN2.out.below (HO.out.below (Nat.le_refl _))) m mm2 hmm2
                          have g2 : decide (m < m1.length) = true := by simpa using hmn
                          have i6 : (m : Int) < (m1.length : Int) := by omega
                          have i8 : (m : Int) < (m2.length : Int) := by omega
                          have i7 : (0 : Int) ≤ (m : Int) := by omega
                          have MM1 := Lib.hid hmm1
                          have MM2 := Lib.hid hmm2
                          clear hmm1 hmm2 hmn hmn2
                          obtain ⟨ma, mt, mo⟩ := mm1
                          obtain ⟨na, nt, no⟩ := mm2
                          simp only at u0 u1 u2 v0 v1 v2
                          by_cases ea : ma = na
                          · subst ea
                            by_cases et : mt = nt
                            · subst et
                              by_cases eo : mo = no
                              · subst eo
                                go_wp2_with fail
                                go_quiet (fail)
                                go_wp2_with fail
                                go_roundw
                                case rel => exact ⟨m + 1, by omega, by go_num, HO.out.drews _, by rw [List.take_add_one, List.take_add_one, MM1.out, MM2.out, HTK.out]⟩
                                case measure => simp [intOf]; omega
                              · have EM : Hid (¬ (⟨ma, mt, mo⟩ : Mem) = ⟨ma, mt, no⟩) := fun h => eo (congrArg Mem.off h)
                                go_wp2_with fail
                                go_quiet (fail)
                                go_wp2_with fail
                                go_ret
                                exact ⟨false, rfl, ⟨(fun h => by cases h), fun h => absurd h (ne_at HT.out (ne_mem MM1.out MM2.out EM.out))⟩, HB2.out.trans ((HO.out.drews _).below HB2.out.size)⟩
                            · have EM : Hid (¬ (⟨ma, mt, mo⟩ : Mem) = ⟨ma, nt, no⟩) := fun h => et (congrArg Mem.ty h)
                              go_wp2_with fail
                              go_quiet (fail)
                              go_wp2_with fail
                              go_ret
                              exact ⟨false, rfl, ⟨(fun h => by cases h), fun h => absurd h (ne_at HT.out (ne_mem MM1.out MM2.out EM.out))⟩, HB2.out.trans ((HO.out.drews _).below HB2.out.size)⟩
                          · have EM : Hid (¬ (⟨ma, mt, mo⟩ : Mem) = ⟨na, nt, no⟩) := fun h => ea (congrArg Mem.name h)
                            have ea2 : ¬ ma.toList = na.toList := by simpa using toList_ne ea
                            clear ea
                            go_wp2_with fail
                            go_quiet (fail)
                            go_wp2_with fail
                            go_ret
                            exact ⟨false, rfl, ⟨(fun h => by cases h), fun h => absurd h (ne_at HT.out (ne_mem MM1.out MM2.out EM.out))⟩, HB2.out.trans ((HO.out.drews _).below HB2.out.size)⟩
                        · have : m = m1.length := by omega
                          subst this
                          have g2 : decide (m1.length < m1.length) = false := by simp
                          have hmm : m1 = m2 := by have := HTK.out; rw [List.take_length, ELEN.out, List.take_length] at this; exact this
                          have HMM := Lib.hid hmm
                          clear hmm
                          go_wp2_with fail
                          go_roundw
                          case rel => exact ⟨k + 1, by omega, by go_num, HB2.out.trans (HO.out.below HB2.out.size), by rw [List.take_add_one, List.take_add_one, HT.out.1, HT.out.2, HTAKE.out, HMM.out]⟩
                          case measure => simp [intOf]; omega
                    · have g_len : ((m1.length : Int) != (m2.length : Int)) = true := by simp; omega
                      have g_len2 : (m1.length != m2.length) = true := by simp; omega
                      have E := Lib.hid e_len
                      clear e_len
                      go_wp2_with fail
                      go_ret
                      exact ⟨false, rfl, ⟨(fun h => by cases h), fun h => absurd h (ne_at HT.out (fun h => E.out (congrArg (fun t => t.mems.length) h)))⟩, HB2.out⟩
                  · have g_count : (q1 != q2) = true := by simpa using e_count
                    have E := Lib.hid e_count
                    clear e_count
                    go_wp2_with fail
                    go_ret
                    exact ⟨false, rfl, ⟨(fun h => by cases h), fun h => absurd h (ne_at HT.out (fun h => E.out (congrArg Ty.count h)))⟩, HB2.out⟩
                · have g_ty : (y1 != y2) = true := by simpa using e_ty
                  have E := Lib.hid e_ty
                  clear e_ty
                  go_wp2_with fail
                  go_ret
                  exact ⟨false, rfl, ⟨(fun h => by cases h), fun h => absurd h (ne_at HT.out (fun h => E.out (congrArg Ty.ty h)))⟩, HB2.out⟩
              · have g_size : (s1 != s2) = true := by simpa using e_size
                have E := Lib.hid e_size
                clear e_size
                go_wp2_with fail
                go_ret
                exact ⟨false, rfl, ⟨(fun h => by cases h), fun h => absurd h (ne_at HT.out (fun h => E.out (congrArg Ty.size h)))⟩, HB2.out⟩
            · have g_name : (n1.toList == n2.toList) = false := toList_ne e_name
              have E := Lib.hid e_name
              clear e_name
              go_wp2_with fail
              go_ret
              exact ⟨false, rfl, ⟨(fun h => by cases h), fun h => absurd h (ne_at HT.out (fun h => E.out (congrArg Ty.name h)))⟩, HB2.out⟩
          · have g_kind : (k1 != k2) = true := by simpa using e_kind
            have E := Lib.hid e_kind
            clear e_kind
            go_wp2_with fail
            go_ret
            exact ⟨false, rfl, ⟨(fun h => by cases h), fun h => absurd h (ne_at HT.out (fun h => E.out (congrArg Ty.kind h)))⟩, HB2.out⟩
        · have hb2 : Below w.heap.size w ((wr.alloc (.cells #[.int .i64 k2, .string n2, .int .i64 s2, .int .i64 y2, .int .i64 q2, .slice A2' m2.length c2'] 36)).alloc (.cells #[.int .i64 k1, .string n1, .int .i64 s1, .int .i64 y1, .int .i64 q1, .slice A1' m1.length c1'] 36)).drew := (((HB.out.alloc HB.out.size _).alloc (by have := HB.out.size; simp; omega) _)).drew
          have hl : Below wr.heap.size wr ((wr.alloc (.cells #[.int .i64 k2, .string n2, .int .i64 s2, .int .i64 y2, .int .i64 q2, .slice A2' m2.length c2'] 36)).alloc (.cells #[.int .i64 k1, .string n1, .int .i64 s1, .int .i64 y1, .int .i64 q1, .slice A1' m1.length c1'] 36)).drew := (((Below.refl _ wr).alloc (Nat.le_refl _) _).alloc (by simp) _).drew
          have z1 : Blk ((wr.alloc (.cells #[.int .i64 k2, .string n2, .int .i64 s2, .int .i64 y2, .int .i64 q2, .slice A2' m2.length c2'] 36)).alloc (.cells #[.int .i64 k1, .string n1, .int .i64 s1, .int .i64 y1, .int .i64 q1, .slice A1' m1.length c1'] 36)).drew wr.heap.size 36 #[.int .i64 k2, .string n2, .int .i64 s2, .int .i64 y2, .int .i64 q2, .slice A2' m2.length c2'] := (Blk.new wr _ _).alloc _
          have z2 : Blk ((wr.alloc (.cells #[.int .i64 k2, .string n2, .int .i64 s2, .int .i64 y2, .int .i64 q2, .slice A2' m2.length c2'] 36)).alloc (.cells #[.int .i64 k1, .string n1, .int .i64 s1, .int .i64 y1, .int .i64 q1, .slice A1' m1.length c1'] 36)).drew (wr.heap.size + 1) 36 #[.int .i64 k1, .string n1, .int .i64 s1, .int .i64 y1, .int .i64 q1, .slice A1' m1.length c1'] := by
            have := Blk.new (wr.alloc (.cells #[.int .i64 k2, .string n2, .int .i64 s2, .int .i64 y2, .int .i64 q2, .slice A2' m2.length c2'] 36)) 36 #[.int .i64 k1, .string n1, .int .i64 s1, .int .i64 y1, .int .i64 q1, .slice A1' m1.length c1']
            rw [show (wr.alloc (.cells #[.int .i64 k2, .string n2, .int .i64 s2, .int .i64 y2, .int .i64 q2, .slice A2' m2.length c2'] 36)).heap.size = wr.heap.size + 1 by simp] at this
            exact this
          have HB2 := Lib.hid hb2
          have HN1 := Lib.hid (HM1.out.below hl)
          have HN2 := Lib.hid (HM2.out.below hl)
          have Z1 := Lib.hid z2
          have Z2 := Lib.hid z1
          clear hb2 hl z1 z2 x0 x1 x2 x3 x4 x5 y0_ y1_ y2_ y3_ y4_ y5_
          generalize ((wr.alloc (.cells #[.int .i64 k2, .string n2, .int .i64 s2, .int .i64 y2, .int .i64 q2, .slice A2' m2.length c2'] 36)).alloc (.cells #[.int .i64 k1, .string n1, .int .i64 s1, .int .i64 y1, .int .i64 q1, .slice A1' m1.length c1'] 36)).drew = W at *
          generalize (wr.heap.size + 1) = X1 at *
          generalize wr.heap.size = X2 at *
          have p0 : W.cell? ⟨X1, 0, none⟩ = some (.int .i64 k1) := Z1.out.cell 0
          have p1 : W.cell? ⟨X1, 1, none⟩ = some (.string n1) := Z1.out.cell 1
          have p2 : W.cell? ⟨X1, 2, none⟩ = some (.int .i64 s1) := Z1.out.cell 2
          have p3 : W.cell? ⟨X1, 3, none⟩ = some (.int .i64 y1) := Z1.out.cell 3
          have p4 : W.cell? ⟨X1, 4, none⟩ = some (.int .i64 q1) := Z1.out.cell 4
          have p5 : W.cell? ⟨X1, 5, none⟩ = some ((.slice A1' m1.length c1')) := Z1.out.cell 5
          have r0 : W.cell? ⟨X2, 0, none⟩ = some (.int .i64 k2) := Z2.out.cell 0
          have r1 : W.cell? ⟨X2, 1, none⟩ = some (.string n2) := Z2.out.cell 1
          have r2 : W.cell? ⟨X2, 2, none⟩ = some (.int .i64 s2) := Z2.out.cell 2
          have r3 : W.cell? ⟨X2, 3, none⟩ = some (.int .i64 y2) := Z2.out.cell 3
          have r4 : W.cell? ⟨X2, 4, none⟩ = some (.int .i64 q2) := Z2.out.cell 4
          have r5 : W.cell? ⟨X2, 5, none⟩ = some ((.slice A2' m2.length c2')) := Z2.out.cell 5
          by_cases e_kind : k1 = k2
          · subst e_kind
            by_cases e_name : n1 = n2
            · subst e_name
              have g_name : (n1.toList == n1.toList) = true := by simp
              by_cases e_size : s1 = s2
              · subst e_size
                by_cases e_ty : y1 = y2
                · subst e_ty
                  by_cases e_count : q1 = q2
                  · subst e_count
                    by_cases e_len : m1.length = m2.length
                    · have g_len : ((m1.length : Int) != (m2.length : Int)) = false := by simp [e_len]
                      have ELEN := Lib.hid e_len
                      clear e_len
                      go_wp2_with fail
                      go_loopw [8] (fun j wr => ∃ m : Nat, m ≤ m1.length ∧ j = .int .i64 m ∧ Olds W wr ∧ m1.take m = m2.take m) (fun j _ => m1.length - (intOf j).toNat)
                      case atStart => exact ⟨0, by omega, rfl, Olds.refl _, by simp⟩
                      case round =>
                        clear p0 p1 p2 p3 p4 p5 r0 r1 r2 r3 r4 r5 g_len g_name
                        obtain ⟨m, hm, rfl, ho, htk⟩ := hrel
                        have HO := Lib.hid ho
                        have HTK := Lib.hid htk
                        have r5 : wr.cell? ⟨X1, 5, none⟩ = some (.slice A1' m1.length c1') := (ho.blk Z1.out).cell 5
                        have s5 : wr.cell? ⟨X2, 5, none⟩ = some (.slice A2' m2.length c2') := (ho.blk Z2.out).cell 5
                        clear ho htk
                        by_cases hmn : m < m1.length
                        · have hmn2 : m < m2.length := by have := ELEN.out; omega
                          obtain ⟨mm1, hmm1⟩ : ∃ mm, m1[m]? = some mm := ⟨_, List.getElem?_eq_getElem hmn⟩
                          obtain ⟨mm2, hmm2⟩ : ∃ mm, m2[m]? = some mm := ⟨_, List.getElem?_eq_getElem hmn2⟩
                          obtain ⟨b3, o3, rfl, hlt3, u0, u1, u2, hsm⟩ := (HN1.out.below (HO.out.below (Nat.le_refl _))) m mm1 hmm1
                          obtain ⟨b4, o4, rfl, hlt4, v0, v1, v2, _⟩ := (HN2.out.below (HO.out.below (Nat.le_refl _))) m mm2 hmm2
                          have g2 : decide (m < m1.length) = true := by simpa using hmn
                          have i6 : (m : Int) < (m1.length : Int) := by omega
                          have i8 : (m : Int) < (m2.length : Int) := by omega
                          have i7 : (0 : Int) ≤ (m : Int) := by omega
                          have MM1 := Lib.hid hmm1
                          have MM2 := Lib.hid hmm2
                          clear hmm1 hmm2 hmn hmn2
                          obtain ⟨ma, mt, mo⟩ := mm1
                          obtain ⟨na, nt, no⟩ := mm2
                          simp only at u0 u1 u2 v0 v1 v2
                          by_cases ea : ma = na
                          · subst ea
                            by_cases et : mt = nt
                            · subst et
                              by_cases eo : mo = no
                              · subst eo
                                go_wp2_with fail
                                go_quiet (fail)
                                go_wp2_with fail
                                go_roundw
                                case rel => exact ⟨m + 1, by omega, by go_num, HO.out.drews _, by rw [List.take_add_one, List.take_add_one, MM1.out, MM2.out, HTK.out]⟩
                                case measure => simp [intOf]; omega
                              · have EM : Hid (¬ (⟨ma, mt, mo⟩ : Mem) = ⟨ma, mt, no⟩) := fun h => eo (congrArg Mem.off h)
                                go_wp2_with fail
                                go_quiet (fail)
                                go_wp2_with fail
                                go_ret
                                exact ⟨false, rfl, ⟨(fun h => by cases h), fun h => absurd h (ne_at HT.out (ne_mem MM1.out MM2.out EM.out))⟩, HB2.out.trans ((HO.out.drews _).below HB2.out.size)⟩
                            · have EM : Hid (¬ (⟨ma, mt, mo⟩ : Mem) = ⟨ma, nt, no⟩) := fun h => et (congrArg Mem.ty h)
                              go_wp2_with fail
                              go_quiet (fail)
                              go_wp2_with fail
                              go_ret
                              exact ⟨false, rfl, ⟨(fun h => by cases h), fun h => absurd h (ne_at HT.out (ne_mem MM1.out MM2.out EM.out))⟩, HB2.out.trans ((HO.out.drews _).below HB2.out.size)⟩
                          · have EM : Hid (¬ (⟨ma, mt, mo⟩ : Mem) = ⟨na, nt, no⟩) := fun h => ea (congrArg Mem.name h)
                            have ea2 : ¬ ma.toList = na.toList := by simpa using toList_ne ea
                            clear ea
                            go_wp2_with fail
                            go_quiet (fail)
                            go_wp2_with fail
                            go_ret
                            exact ⟨false, rfl, ⟨(fun h => by cases h), fun h => absurd h (ne_at HT.out (ne_mem MM1.out MM2.out EM.out))⟩, HB2.out.trans ((HO.out.drews _).below HB2.out.size)⟩
                        · have : m = m1.length := by omega
                          subst this
                          have g2 : decide (m1.length < m1.length) = false := by simp
                          have hmm : m1 = m2 := by have := HTK.out; rw [List.take_length, ELEN.out, List.take_length] at this; exact this
                          have HMM := Lib.hid hmm
                          clear hmm
                          go_wp2_with fail
                          go_roundw
                          case rel => exact ⟨k + 1, by omega, by go_num, HB2.out.trans (HO.out.below HB2.out.size), by rw [List.take_add_one, List.take_add_one, HT.out.1, HT.out.2, HTAKE.out, HMM.out]⟩
                          case measure => simp [intOf]; omega
                    · have g_len : ((m1.length : Int) != (m2.length : Int)) = true := by simp; omega
                      have g_len2 : (m1.length != m2.length) = true := by simp; omega
                      have E := Lib.hid e_len
                      clear e_len
                      go_wp2_with fail
                      go_ret
                      exact ⟨false, rfl, ⟨(fun h => by cases h), fun h => absurd h (ne_at HT.out (fun h => E.out (congrArg (fun t => t.mems.length) h)))⟩, HB2.out⟩
                  · have g_count : (q1 != q2) = true := by simpa using e_count
                    have E := Lib.hid e_count
                    clear e_count
                    go_wp2_with fail
                    go_ret
                    exact ⟨false, rfl, ⟨(fun h => by cases h), fun h => absurd h (ne_at HT.out (fun h => E.out (congrArg Ty.count h)))⟩, HB2.out⟩
                · have g_ty : (y1 != y2) = true := by simpa using e_ty
                  have E := Lib.hid e_ty
                  clear e_ty
                  go_wp2_with fail
                  go_ret
                  exact ⟨false, rfl, ⟨(fun h => by cases h), fun h => absurd h (ne_at HT.out (fun h => E.out (congrArg Ty.ty h)))⟩, HB2.out⟩
              · have g_size : (s1 != s2) = true := by simpa using e_size
                have E := Lib.hid e_size
                clear e_size
                go_wp2_with fail
                go_ret
                exact ⟨false, rfl, ⟨(fun h => by cases h), fun h => absurd h (ne_at HT.out (fun h => E.out (congrArg Ty.size h)))⟩, HB2.out⟩
            · have g_name : (n1.toList == n2.toList) = false := toList_ne e_name
              have E := Lib.hid e_name
              clear e_name
              go_wp2_with fail
              go_ret
              exact ⟨false, rfl, ⟨(fun h => by cases h), fun h => absurd h (ne_at HT.out (fun h => E.out (congrArg Ty.name h)))⟩, HB2.out⟩
          · have g_kind : (k1 != k2) = true := by simpa using e_kind
            have E := Lib.hid e_kind
            clear e_kind
            go_wp2_with fail
            go_ret
            exact ⟨false, rfl, ⟨(fun h => by cases h), fun h => absurd h (ne_at HT.out (fun h => E.out (congrArg Ty.kind h)))⟩, HB2.out⟩
      · have : k = l1.length := by omega
        subst this
        have g1 : decide (l1.length < l1.length) = false := by simp
        have hall : l1 = l2 := by have := HTAKE.out; rw [List.take_length, HLL.out, List.take_length] at this; exact this
        have HALL := Lib.hid hall
        clear hall
        go_wp2_with fail
        go_ret
        exact ⟨true, rfl, ⟨fun _ => HALL.out, fun _ => rfl⟩, HB.out⟩
  · have g0 : ((l1.length : Int) != (l2.length : Int)) = true := by simp; omega
    have g00 : (l1.length != l2.length) = true := by simp; omega
    have HLL := Lib.hid hll
    clear hll
    go_enter Try.func10, Try.ntmps10
    go_wp2_with fail
    go_ret
    exact ⟨false, rfl, ⟨(fun h => by cases h), fun h => absurd (congrArg List.length h) HLL.out⟩, Below.refl _ _⟩
end Go.Proofs.Ytmfdojmecpdikaa
