/-
  The law HashKeys, walked.
-/
import Derived.Test.YtmopflcaeecgcaaHLruP
import Derived.Test.YtmopflcaeecgcaaP17
namespace Go.Proofs.Ytmopflcaeecgcaa
open Go Go.RowKit Go.Maps
set_option linter.unusedVariables false
set_option linter.unusedSimpArgs false
set_option maxRecDepth 100000
theorem countP_one (f g : Ent → Bool) : ∀ (es : List Ent) (i : Nat) (e0 : Ent), es[i]? = some e0 → f e0 = true → g e0 = false → (∀ j e, es[j]? = some e → j ≠ i → f e = g e) → es.countP f = es.countP g + 1
  | [], _, _, h, _, _, _ => by simp at h
  | e :: es, 0, e0, h, h1, h2, h3 => by
    simp at h
    subst h
    rw [List.countP_cons_of_pos h1, List.countP_cons_of_neg (by rw [h2]; decide)]
    congr 1
    refine List.countP_congr fun x hx => ?_
    obtain ⟨j, hj, rfl⟩ := List.getElem_of_mem hx
    rw [h3 (j + 1) es[j] (by rw [List.getElem?_cons_succ]; exact List.getElem?_eq_getElem hj) (by omega)]
  | e :: es, i + 1, e0, h, h1, h2, h3 => by
    have ih := countP_one f g es i e0 (by simpa using h) h1 h2 (fun j e' he' hj => h3 (j + 1) e' (by simpa using he') (by omega))
    have he := h3 0 e (by simp) (by omega)
    rw [List.countP_cons, List.countP_cons, ih, he]
    omega
theorem setUsed_keys (es : List Ent) (i u : Nat) : (setUsed es i u).map (·.key) = es.map (·.key) := by
  induction es generalizing i with
  | nil => simp [setUsed]
  | cons e es ih =>
    cases i with
    | zero => rfl
    | succ i =>
      have := ih i
      unfold setUsed at this ⊢
      rw [List.modify_succ_cons, List.map_cons, List.map_cons, this]
/-- How many keys are not above k. -/
def upTo (es : List Ent) (k : ByteArray) : Nat := es.countP fun e => !ltS k e.key
theorem upTo_used (es : List Ent) (i u : Nat) (k : ByteArray) : upTo (setUsed es i u) k = upTo es k := by
  have h : ∀ l : List Ent, upTo l k = (l.map (·.key)).countP fun x => !ltS k x := fun l => by
    unfold upTo; rw [List.countP_map]; rfl
  rw [h, h, setUsed_keys]
theorem upTo_look (s : HSt) (key k : ByteArray) : upTo (lookS s key).es k = upTo s.es k := by
  rcases hf : findE s.es key with _ | i
  · rw [(look_off hf).2]
  · obtain ⟨e, he⟩ := found hf
    rw [(look_at hf he).2.1, upTo_used]
section
variable {p : HPar} {s : HSt} {last k : ByteArray}
theorem upTo_step (ho : HOk p s) (h : nextTo p.key s.es last s.es.length = some k) (hl : last.size = p.key) : upTo s.es k = upTo s.es last + 1 ∧ gtS k last = true ∧ Has s k := by
  obtain ⟨⟨e, he, rfl, hp⟩, hm⟩ := (nextTo_all p.key s.es last).yes k h
  have hgt : gtS e.key last = true := hp.resolve_left (fun hh => hh hl)
  have hlt : ltS last e.key = true := by rw [← gtS_lt]; exact hgt
  obtain ⟨i, hi, rfl⟩ := List.getElem_of_mem he
  refine ⟨countP_one _ _ s.es i _ (List.getElem?_eq_getElem hi) (by rw [ltS_irr]; rfl) (by rw [hlt]; rfl) (fun j x hx hj => ?_), hgt, ⟨_, he, rfl⟩⟩
  have hne := ho.aparts.at_ j i x _ hx (List.getElem?_eq_getElem hi) hj
  cases hx2 : ltS last x.key
  · cases hx3 : ltS s.es[i].key x.key
    · rfl
    · rw [ltS_trans hlt hx3] at hx2; cases hx2
  · have h4 := hm x (List.mem_of_getElem? hx) (.inr (by rw [gtS_lt]; exact hx2))
    cases hx3 : ltS s.es[i].key x.key
    · exact absurd (ltS_tri h4 hx3) hne
    · rfl
theorem upTo_first (ho : HOk p s) (h : nextTo p.key s.es last s.es.length = some k) (hl : last.size ≠ p.key) : upTo s.es k = 1 ∧ Has s k := by
  obtain ⟨⟨e, he, rfl, hp⟩, hm⟩ := (nextTo_all p.key s.es last).yes k h
  obtain ⟨i, hi, rfl⟩ := List.getElem_of_mem he
  have h0 : s.es.countP (fun _ => false) = 0 := List.countP_eq_zero.2 (fun _ _ => by decide)
  refine ⟨(countP_one _ (fun _ => false) s.es i _ (List.getElem?_eq_getElem hi) (by rw [ltS_irr]; rfl) rfl (fun j x hx hj => ?_)).trans (by rw [h0]), ⟨_, he, rfl⟩⟩
  have hne := ho.aparts.at_ j i x _ hx (List.getElem?_eq_getElem hi) hj
  have h4 := hm x (List.mem_of_getElem? hx) (.inl hl)
  cases hx3 : ltS s.es[i].key x.key
  · exact absurd (ltS_tri h4 hx3) hne
  · rfl
theorem upTo_all (h : nextTo p.key s.es last s.es.length = none) (hl : last.size = p.key) : upTo s.es last = s.es.length := by
  refine List.countP_eq_length.2 fun e he => ?_
  have := (nextTo_all p.key s.es last).no h e he
  cases hx : ltS last e.key
  · rfl
  · exact absurd (.inr (by rw [gtS_lt]; exact hx)) this
theorem upTo_none (h : nextTo p.key s.es last s.es.length = none) (hl : last.size ≠ p.key) : s.es.length = 0 := by
  rcases he : s.es with _ | ⟨e, es⟩
  · rfl
  · exact absurd (.inl hl) ((nextTo_all p.key s.es last).no h e (by rw [he]; simp))
end
/-- Behind n keys that were told. -/
structure KeysAt (B : Nat) (w0 : World) (p : HPar) (n : Nat) (last : ByteArray) (s : HSt) (w : World) : Prop where
  ok : HOk p s
  clock : s.clock ≤ 50 + n
  le : n ≤ s.es.length
  last : (n = 0 ∧ last = ⟨#[]⟩) ∨ (1 ≤ n ∧ last.size = p.key ∧ upTo s.es last = n)
  tb : TB B w0 p s w
abbrev vV : ByteArray := ⟨#[118]⟩
theorem leq_run (t : TypeId) (a b : ByteArray) : binOp .leq t (.string a) (.string b) = pure (.bool (!gtS a b)) := by simp [binOp, Op.stringOp, gtS]
set_option maxHeartbeats 4000000 in
theorem keys_walk (A : Option Addr) (len cap : Nat) (hlc : len ≤ cap) (hm : cap ≤ maxLen) (w : World)
    (hA : ∀ i, i < len → ∃ (b off : Nat) (ss : ByteArray), A = some ⟨b, off, none⟩ ∧ b < w.heap.size ∧ w.cell? ⟨b, off + i, none⟩ = some (.string ss)) :
    Calls Try.prog 4 #[.slice A len cap] w fun e w' => e = .returned (.bool true) ∧ Below w.heap.size w w' := by
  have hm' : cap ≤ 9223372036854775807 := by unfold maxLen at hm; omega
  have hfit : fitsH 1 (2 : Nat) (1 : Nat) (50 : Nat) = true := by decide
  have C0 := Lib.hid (new_any w)
  have CN := Lib.hid (tb_new w 1 2 1 50 hfit)
  have HOK := Lib.hid (fun x => hok_new (bm := w.heap.size) (bx := 0) (x := x) (y := 0) (m := ⟨0, 0, fun _ => none⟩) hfit)
  have HA := Lib.hid hA
  have CAW := Lib.hid (fun (W : World) (h1 : Below w.heap.size w W) (h2 : w.heap.size ≤ W.heap.size) => awake_later h1 h2)
  clear hA hm hfit
  go_enter Try.func4, Try.ntmps4
  go_upto_region 5 with (first
    | (go_at_call 8; refine C0.out.mono ?_; rintro e w1 ⟨rfl, rfl⟩)
    | (go_at_call 9; refine CN.out.mono ?_; rintro e w2 ⟨x, rfl, hf⟩; have F := Lib.hid hf; clear hf))
  have H0 := Lib.hid (HOK.out x)
  have EP : Hid ((⟨w.heap.size, 0, x, 0, 1, 2, 1, 50⟩ : HPar).x = x ∧ (⟨w.heap.size, 0, x, 0, 1, 2, 1, 50⟩ : HPar).key = 2 ∧ (⟨w.heap.size, 0, x, 0, 1, 2, 1, 50⟩ : HPar).mx = 50) := ⟨rfl, rfl, rfl⟩
  clear C0 CN HOK
  generalize (⟨w.heap.size, 0, x, 0, 1, 2, 1, 50⟩ : HPar) = p at H0 EP F
  go_wp2_with fail
  go_loopw [6] (fun i wr => ∃ (q : Nat) (s : HSt), q ≤ len ∧ q ≤ 50 ∧ i = .int .i64 q ∧ HOk p s ∧ s.clock ≤ q ∧ s.m.made ≤ q ∧ TB w.heap.size w p s wr) (fun i _ => len - (intOf i).toNat)
  case atStart => exact ⟨0, _, by omega, by omega, rfl, H0.out, Nat.le_refl _, Nat.le_refl _, F.out⟩
  case round =>
    clear H0 F
    obtain ⟨q, s, hq1, hq2, rfl, ho, hcl, hmd, hT⟩ := hrel
    have HT0 := Lib.hid hT
    have HO := Lib.hid ho
    clear hT ho
    by_cases hlt : q < len ∧ q < 50
    · obtain ⟨hlt, hlt2⟩ := hlt
      obtain ⟨b, off, ss, rfl, hbw, t0⟩ := HA.out q hlt
      have t1 : wr.cell? ⟨b, off + q, none⟩ = some (.string ss) := (HT0.out.below.cell (p := ⟨b, off + q, none⟩) hbw).trans t0
      have g1 : decide (q < len) = true := decide_eq_true hlt
      have g2 : decide (q < 50) = true := decide_eq_true hlt2
      have i2 : (q : Int) < (len : Int) := by omega
      have i3 : (q : Int) < 50 := by omega
      have HJ := Lib.hid (And.intro hlt hlt2)
      have CU := HT0.out.upd HO.out (by omega) (by omega) ss vV 0
      rw [EP.out.1] at CU
      have HCU := Lib.hid CU
      have HG := Lib.hid (upd_goes HO.out ss vV 0)
      have HCM := Lib.hid (And.intro hcl hmd)
      clear HA hlt hlt2 hbw t0 hq1 hq2 CU hcl hmd
      go_wp2_with (go_at_call 19; refine HCU.out.mono ?_; rintro e w3 ⟨rfl, h⟩; have H3 := Lib.hid h; clear h)
      go_roundw
      case rel => exact ⟨q + 1, _, by have := HJ.out; omega, by have := HJ.out; omega, by go_num, HG.out.ok, by have := HG.out.clock; have := HCM.out; omega, by have := HG.out.made; have := HCM.out; omega, H3.out⟩
      case measure => simp [intOf]; have := HJ.out; omega
    · have HK0 : Hid (KeysAt w.heap.size w p 0 ⟨#[]⟩ s wr) := ⟨HO.out, by omega, Nat.zero_le _, .inl ⟨rfl, rfl⟩, HT0.out⟩
      have HCL : Hid (s.clock ≤ 50) := by unfold Hid; omega
      have HLT2 := Lib.hid hlt
      have i9 : q ≤ 50 := hq2
      clear HA HT0 HO hlt hcl hmd
      have hend : (decide (q < len) = false) ∨ (decide (q < len) = true ∧ decide (q < 50) = false) := by
        by_cases h : q < len
        · exact .inr ⟨decide_eq_true h, decide_eq_false (fun h2 => HLT2.out ⟨h, h2⟩)⟩
        · exact .inl (decide_eq_false h)
      have hendi : (¬ (q : Int) < (len : Int)) ∨ ((q : Int) < (len : Int) ∧ ¬ (q : Int) < 50) := by
        by_cases h : q < len
        · exact .inr ⟨by omega, fun h2 => HLT2.out ⟨h, by omega⟩⟩
        · exact .inl (by omega)
      have HQQ : Hid (q ≤ 50) := hq2
      clear hq1 hq2 i9
      rcases hend with g1 | ⟨g1, g2⟩
      all_goals
        rcases hendi with i1 | ⟨i1, i2⟩
        all_goals (first | (exfalso; simp at g1; omega) | skip)
        all_goals (first | (exfalso; simp at g1 g2; omega) | skip)
        all_goals (
          go_wp2_with fail
          go_loopw [7, 8, 9, 10] (fun l n _ _ wr => ∃ (c : Nat) (last : ByteArray) (s : HSt), l = .string last ∧ n = .int .i64 c ∧ KeysAt w.heap.size w p c last s wr) (fun _ n _ _ _ => 51 - (intOf n).toNat)
          case atStart => exact ⟨0, _, _, rfl, rfl, HK0.out⟩
          case round =>
            clear HK0
            obtain ⟨c, last, s, rfl, rfl, hK⟩ := hrel
            have HK := Lib.hid hK
            have hc50 : c ≤ 50 := by
              have h1 := hK.le
              have h2 := hK.ok.len
              rw [EP.out.2.2] at h2
              omega
            clear hK
            have j1 : decide (c ≤ 50) = true := decide_eq_true hc50
            have j2 : (c : Int) ≤ 50 := by omega
            have HC50 := Lib.hid hc50
            clear hc50
            have CX := HK.out.tb.next HK.out.ok last
            rw [EP.out.1] at CX
            unfold nextE nextA at CX
            rcases hn : nextTo p.key s.es last s.es.length with _ | k
            · rw [hn] at CX
              rw [show (none : Option ByteArray).getD ⟨#[]⟩ = ⟨#[]⟩ from rfl, show (none : Option ByteArray).elim (4 : Int) (fun _ => 0) = 4 from rfl] at CX
              have HCX := Lib.hid CX
              have HL : Hid (s.es.length = c) := by
                rcases HK.out.last with ⟨rfl, rfl⟩ | ⟨_, h1, h2⟩
                · exact upTo_none hn (by rw [EP.out.2.1]; decide)
                · exact (upTo_all hn h1).symm.trans h2
              have CLN : Hid (∀ W, TB w.heap.size w p s W → Calls Try.prog 14 #[tp x] W fun e w' => e = .returned (.int .i64 c) ∧ W = w') := fun W h => by
                have := h.len HK.out.ok
                rw [EP.out.1, HL.out] at this
                exact this
              clear CX hn HK
              go_wp2_with (first
                | (go_at_call 20; refine HCX.out.mono ?_; rintro e w3 ⟨rfl, h⟩; have H3 := Lib.hid h; clear h)
                | (go_at_call 14; refine (CLN.out _ H3.out).mono ?_; rintro e w4 ⟨rfl, rfl⟩)
                | (go_at_call 18; refine (CAW.out _ H3.out.below H3.out.sz).mono ?_; rintro e w7 ⟨rfl, hb⟩; have B7 := Lib.hid hb; clear hb))
              go_ret
              exact ⟨rfl, B7.out⟩
            · rw [hn] at CX
              rw [show (some k).getD ⟨#[]⟩ = k from rfl, show (some k).elim (4 : Int) (fun _ => 0) = 0 from rfl] at CX
              have HCX := Lib.hid CX
              have HS : Hid (upTo s.es k = c + 1 ∧ Has s k ∧ (1 ≤ c → gtS k last = true)) := by
                rcases HK.out.last with ⟨rfl, rfl⟩ | ⟨h0, h1, h2⟩
                · obtain ⟨a1, a2⟩ := upTo_first HK.out.ok hn (by rw [EP.out.2.1]; decide)
                  exact ⟨a1, a2, fun h => absurd h (by decide)⟩
                · obtain ⟨a1, a2, a3⟩ := upTo_step HK.out.ok hn h1
                  exact ⟨by rw [a1, h2], a3, fun _ => a2⟩
              have HKK : Hid (k.size = 2) := by
                obtain ⟨e, he, rfl⟩ := HS.out.2.1
                unfold Hid
                rw [(HK.out.ok.of_mem he).2.1, EP.out.2.1]
              have HLK := Lib.hid (look_has HK.out.ok HS.out.2.1)
              have CLK : Hid (∀ W, TB w.heap.size w p s W → Calls Try.prog 21 #[tp x, .string k] W fun e w' => ∃ a : Int, (a == 0) = false ∧ e = .returned (.int .u64 a) ∧ KeysAt w.heap.size w p (c + 1) k (lookS s k) w') := fun W h => by
                have hcl := HK.out.clock
                have hc5 := HC50.out
                have C := h.look HK.out.ok (by omega) k (by rw [HKK.out]; decide)
                rw [EP.out.1] at C
                obtain ⟨a1, a2, a3, a4, a5, a6, a7, a8⟩ := HLK.out
                refine C.mono ?_
                rintro e w' ⟨rfl, h'⟩
                refine ⟨lookA s k, by rw [beq_eq_false_iff_ne]; exact a1, rfl, ⟨a8, by rw [a4]; omega, ?_, .inr ⟨by omega, by rw [HKK.out, EP.out.2.1], by rw [upTo_look]; exact HS.out.1⟩, h'⟩⟩
                rw [a7, ← HS.out.1]
                exact List.countP_le_length
              clear CX hn
              have bl := leq_run 9 k last
              by_cases hc0 : c = 0
              · subst hc0
                clear HK bl
                go_wp2_with (first
                  | (go_at_call 20; refine HCX.out.mono ?_; rintro e w3 ⟨rfl, h⟩; have H3 := Lib.hid h; clear h)
                  | (go_at_call 21; refine (CLK.out _ H3.out).mono ?_; rintro e w4 ⟨a, a0, rfl, h⟩; have H4 := Lib.hid h; clear h))
                go_roundw
                case rel => exact ⟨0 + 1, k, _, rfl, by go_num, H4.out⟩
                case measure => simp [intOf]
              · have b0 : decide (0 < c) = true := decide_eq_true (by omega)
                have b1 : (0 : Int) < (c : Int) := by omega
                rw [HS.out.2.2 (by omega)] at bl
                have bl' : binOp .leq 9 (.string k) (.string last) = pure (.bool false) := bl
                clear HK bl hc0
                go_wp2_with (first
                  | (go_at_call 20; refine HCX.out.mono ?_; rintro e w3 ⟨rfl, h⟩; have H3 := Lib.hid h; clear h)
                  | (go_at_call 21; refine (CLK.out _ H3.out).mono ?_; rintro e w4 ⟨a, a0, rfl, h⟩; have H4 := Lib.hid h; clear h))
                go_roundw
                case rel => exact ⟨c + 1, k, _, rfl, by go_num, H4.out⟩
                case measure => simp [intOf]; have := HC50.out; omega)
end Go.Proofs.Ytmopflcaeecgcaa
