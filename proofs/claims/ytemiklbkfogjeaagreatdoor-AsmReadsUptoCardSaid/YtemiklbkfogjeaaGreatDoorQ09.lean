/-
  A strings.Builder of a call's own: WriteString. Package asm: Line. Package asm: Text. Package asm: Text, exact.
-/
import Derived.Test.YtemiklbkfogjeaaGreatDoorQ08
import Derived.Shelf.RegionOpenPlain
import Derived.Lib.Strings
import Derived.Lib.Builder
import Derived.Lib.AppendStr
import Derived.Lib.UnsafeStr
import Derived.Laws.Externs
import Derived.Laws.IdiomCopy
namespace Go.Proofs.YtemiklbkfogjeaaGreatDoor
open Go Go.RowKit Go.Maps
set_option linter.unusedVariables false
set_option linter.unusedSimpArgs false
set_option maxRecDepth 100000
abbrev bldT : TypeId := 55
theorem bldSize : (Tryz.prog.info? bldT).map (·.size) = some 2 := by kernel_rfl
set_option maxHeartbeats 1000000 in
theorem copyCheck_used (b : Nat) (w : World) (h0 : w.cell? ⟨b, 0, none⟩ = some (.pointer (some ⟨b, 0, none⟩))) :
  Calls Tryz.prog 47 #[.pointer (some ⟨b, 0, none⟩)] w fun e w' => e = .returned (.tuple #[]) ∧ w' = w := by
 obtain ⟨j, hj, _⟩ := Option.map_eq_some_iff.1 bldSize
 go_enter Tryz.func47, Tryz.ntmps47
 go_wp2
 rw [Lib.run_neq_ptr_same w _ Tryz.underlying52 hj]
 go_wp2
 go_end0
 exact ⟨rfl, rfl⟩
set_option maxHeartbeats 1000000 in
theorem copyCheck_fresh (b : Nat) (w : World) (h0 : w.cell? ⟨b, 0, none⟩ = some (.pointer none)) (hsh : w.shape? b = some (bldT, 2)) (hfz : w.frozen? ⟨b, 0, none⟩ = false) :
  Calls Tryz.prog 47 #[.pointer (some ⟨b, 0, none⟩)] w fun e w' => e = .returned (.tuple #[]) ∧ w' = w.setCell ⟨b, 0, none⟩ (.pointer (some ⟨b, 0, none⟩)) := by
 obtain ⟨j, hj, hjs⟩ := Option.map_eq_some_iff.1 bldSize
 go_enter Tryz.func47, Tryz.ntmps47
 go_wp2
 rw [Lib.run_to_unsafe w ⟨b, 0, none⟩ Tryz.underlying52 Tryz.underlying100 hj (by rw [hjs]; decide) hsh (Nat.zero_lt_succ 1)]
 simp only [Result.andThen]
 rw [Oper.upon_value]
 go_wp2
 rw [run_callFunc_extern Tryz.func73 (by kernel_rfl) (by kernel_rfl) (by kernel_rfl) (e := Extern.AbiNoEscape.same) (by kernel_rfl)]
 rw [Lib.run_noEscape]
 simp only [Result.andThen]
 rw [Oper.upon_value]
 go_wp2
 rw [Lib.run_from_unsafe w ⟨b, 0, none⟩ Tryz.underlying100 Tryz.underlying52 hj hsh (by kernel_rfl)]
 simp only [Result.andThen]
 rw [Oper.upon_value]
 go_wp2
 go_end0
 exact ⟨rfl, rfl⟩
theorem copyCheck_any (B b : Nat) (bs : List Value) (w : World) (h : Lib.IsBuilder bldT 5 B b bs w) :
  Calls Tryz.prog 47 #[.pointer (some ⟨b, 0, none⟩)] w fun e w' => e = .returned (.tuple #[]) ∧ (Lib.BuilderAt bldT 5 B b (.pointer (some ⟨b, 0, none⟩)) bs w' ∧ Below B w w') := by
 rcases h with h | h
 ·refine (copyCheck_fresh b w h.cell0 h.shape h.frozen0).mono ?_
  rintro e w' ⟨rfl, rfl⟩
  exact ⟨rfl, h.used _, (Below.refl B w).setCell (p := ⟨b, 0, none⟩) h.1 _⟩
 ·refine (copyCheck_used b w h.cell0).mono ?_
  rintro e w' ⟨rfl, rfl⟩
  exact ⟨rfl, h, Below.refl B _⟩
set_option maxHeartbeats 2000000 in
theorem writeString_any (B b : Nat) (bs : List Value) (s : ByteArray) (w : World) (h : Lib.IsBuilder bldT 5 B b bs w) (hlen : bs.length + s.size ≤ 140737488355328) (hBw : B ≤ w.heap.size) :
  Calls Tryz.prog 19 #[.pointer (some ⟨b, 0, none⟩), .string s] w fun e w' => e = .returned (.tuple #[.int .i64 s.size, .nilIface]) ∧ (Lib.BuilderAt bldT 5 B b (.pointer (some ⟨b, 0, none⟩)) (bs ++ Lib.strCells s) w' ∧ Below B w w') := by
 obtain ⟨i0, hi, hz0, hz1, hz2⟩ := info_parts info8
 go_enter Tryz.func19, Tryz.ntmps19
 go_wp2_with (go_at_call 47; refine (copyCheck_any B b bs _ h).mono ?_)
 rintro e w1 ⟨rfl, h1, hb1⟩
 obtain ⟨hB, v, hbk, hown, hne⟩ := h1
 have c0 : w1.cell? ⟨b, 0, none⟩ = some (.pointer (some ⟨b, 0, none⟩)) := by rw [Lib.cell_of_heap hbk]; rfl
 have c1 : w1.cell? ⟨b, 1, none⟩ = some v := by rw [Lib.cell_of_heap hbk]; rfl
 go_wp2_with (at_builtin; refine Lib.wpList_append_own_string _ rfl _ _ 53 9 rfl B 5 i0 Tryz.underlying53 Tryz.underlying9 hi hz0 hz1 hz2 _ _ _ rfl hown s rfl ?c3 ?c4 ?c5 ?_)
 case c3 => unfold maxLen; omega
 case c4 => omega
 case c5 => have := hb1.size; omega
 intro v' w2 hown' hgrow _
 have hlt : b < w1.heap.size := by
  rcases Nat.lt_or_ge b w1.heap.size with h' | h'
  ·exact h'
  ·simp [Array.getElem?_eq_none h'] at hbk
 have hb2 : w2.heap[b]? = some (.cells #[.pointer (some ⟨b, 0, none⟩), v] bldT (0, 0)) := by
  rw [hgrow.block b hlt (fun e => hne e.symm)]
  exact hbk
 have d0 : w2.cell? ⟨b, 0, none⟩ = some (.pointer (some ⟨b, 0, none⟩)) := by rw [Lib.cell_of_heap hb2]; rfl
 have d1 : w2.cell? ⟨b, 1, none⟩ = some v := by rw [Lib.cell_of_heap hb2]; rfl
 have f1 : w2.frozen? ⟨b, 1, none⟩ = false := Lib.frozen_of_heap hb2 1
 obtain ⟨ao, n', cap, rfl⟩ : ∃ ao n' cap, v' = .slice ao n' cap := by
  rcases hown'.2 with ⟨hv, _⟩ | ⟨g, cap, cur, hv, _⟩
  ·exact ⟨_, _, _, hv⟩
  ·exact ⟨_, _, _, hv⟩
 go_wp2
 go_ret2
 refine ⟨rfl, ?_, ?_⟩
 ·exact Lib.BuilderAt.put (T := bldT) (e := 5) hB hb2 (bs' := bs ++ Lib.strCells s) (by simpa [Lib.strCells_length] using hown') (by decide)
 ·exact (hb1.grown hgrow (by have := hb1.size; omega) (fun k hk => (hown.lt k hk).1)).setCell (p := ⟨b, 1, none⟩) hB _
abbrev insT : TypeId := 22
theorem slots_sub {w : World} {b off n i k : Nat} {X : Nat → Slot} (h : Slots w (some ⟨b, off, none⟩) n X) (hik : i + k ≤ n) : Slots w (some ⟨b, off + i * 5, none⟩) k (fun j => X (i + j)) := by
 intro j hj
 obtain ⟨b', off', e, h1, h2⟩ := h (i + j) (by omega)
 cases e
 refine ⟨_, _, rfl, h1, ?_⟩
 have : off + i * 5 + j * 5 = off + (i + j) * 5 := by omega
 rw [this]
 exact h2
theorem sizeI (w : World) : (sizeOf (Tryz.prog.elem insT)).run Tryz.prog w = .ok 5 w := by kernel_rfl
theorem elemI : Tryz.prog.underlying insT = some (.slice (Tryz.prog.elem insT)) := by kernel_rfl
theorem slice_ins (b o n c q k : Nat) (e : Int) (he : e = ((q + k : Nat) : Int)) (hq : q < n) (hk : q + k ≤ c) (hc : n ≤ c) (w : World) : (Instr.slice insT (.slice (some ⟨b, o, none⟩) n c) (some (.int .i64 (q : Int))) (some (.int .i64 e)) none).run Tryz.prog w = .ok (.slice (some ⟨b, o + q * 5, none⟩) k (c - q)) w := by
 subst he
 rw [run_slice_lh (ht := elemI) (h0 := by omega) (h1 := by omega) (h2 := by omega), sizeI]
 have h : ¬ c = q := by omega
 have h3 : ((q : Int) + (k : Int)).toNat - q = k := by omega
 simp [Result.andThen, sliced, Addr.add, h, h3]
/-- How many slots the instruction at a place has. -/
def slotsAt (X : Nat → Slot) (n i : Nat) : Nat := if (X i).o = 24 ∧ i + 1 < n then 2 else 1
noncomputable def lineAt (X : Nat → Slot) (n i : Nat) : ByteArray := lineN (fun j => X (i + j)) (slotsAt X n i)
noncomputable def lineE (l : ByteArray) (k : Nat) : Ending := if l.size = 0 then .returned (.tuple #[.string emptyT, .int .i64 0, .int .i64 31]) else .returned (.tuple #[.string l, .int .i64 (k : Int), .int .i64 0])
set_option maxHeartbeats 4000000 in
theorem Line_any (b off n c : Nat) (X : Nat → Slot) (hc : n ≤ c) (hn : n ≤ 4194304) (i : Nat) (hi : i < n) (w : World) (hT : Tabs w) (h : Slots w (some ⟨b, off, none⟩) n X) :
  Calls Tryz.prog 18 #[.slice (some ⟨b, off, none⟩) n c, .int .i64 i] w fun e w' => e = lineE (lineAt X n i) (slotsAt X n i) ∧ Below w.heap.size w w' := by
 have e1 : IntKind.i64.wrap ((i : Int) + 1) = (i : Int) + 1 := IntWalk.i64_in _ (by omega)
 have e2 : IntKind.i64.wrap ((i : Int) + 2) = (i : Int) + 2 := IntWalk.i64_in _ (by omega)
 have i0 : ¬ (i : Int) < 0 := by omega
 have i1 : (i : Int) < n := by omega
 have i3 : ¬ (n : Int) ≤ i := by omega
 have s1 : ∀ w, (Instr.slice insT (.slice (some ⟨b, off, none⟩) n c) (some (.int .i64 (i : Int))) (some (.int .i64 ((i : Int) + 1))) none).run Tryz.prog w = .ok (.slice (some ⟨b, off + i * 5, none⟩) 1 (c - i)) w := fun w => slice_ins b off n c i 1 _ (by omega) hi (by omega) hc w
 obtain ⟨b', off', e0, hlt, hcl⟩ := h i hi
 cases e0
 have C1 := Lib.hid (fun w' (hb : Below w.heap.size w w') => lineOf_any b (off + i * 5) (c - i) 1 (.inl rfl) (fun j => X (i + j)) w' (hT.below hb) (slots_sub (h.below hb) (by omega)))
 unfold Cells5 at hcl
 obtain ⟨a0, a1, a2, a3, a4⟩ := hcl
 have CW := Lib.hid (fun w => wide_any (X i).o (X i).d (X i).s (X i).f (X i).m w)
 unfold insV at CW
 unfold lineAt
 by_cases h24 : (X i).o = 24
 case neg =>
  have b24 : ((X i).o == 24) = false := by simpa using h24
  have HS : slotsAt X n i = 1 := if_neg fun h => h24 h.1
  rw [HS]
  rw [b24] at CW
  generalize (X i).o = o at *
  generalize (X i).d = d at *
  generalize (X i).s = s at *
  generalize (X i).f = f at *
  generalize (X i).m = m at *
  generalize lineN (fun j => X (i + j)) 1 = l1 at *
  clear h hT hn hc hi HS e2 h24 b24
  unfold lineE
  by_cases hl : l1.size = 0
  ·have bE : l1.toList.isEmpty = true := (isEmpty_size l1).trans (decide_eq_true hl)
   rw [if_pos hl]
   clear hl
   go_enter Tryz.func18, Tryz.ntmps18
   go_wp2_with (first
    | (go_at_call 45; refine (CW.out _).mono ?_; rintro e w1 ⟨rfl, hb⟩; have H1 := Lib.hid hb; clear hb)
    | (go_at_call 46; refine (C1.out _ H1.out).mono ?_; rintro e w2 ⟨rfl, hb⟩; have H2 := Lib.hid (H1.out.on hb); clear hb))
   go_ret3
   exact ⟨rfl, H2.out⟩
  ·have bE : l1.toList.isEmpty = false := (isEmpty_size l1).trans (decide_eq_false hl)
   rw [if_neg hl]
   clear hl
   go_enter Tryz.func18, Tryz.ntmps18
   go_wp2_with (first
    | (go_at_call 45; refine (CW.out _).mono ?_; rintro e w1 ⟨rfl, hb⟩; have H1 := Lib.hid hb; clear hb)
    | (go_at_call 46; refine (C1.out _ H1.out).mono ?_; rintro e w2 ⟨rfl, hb⟩; have H2 := Lib.hid (H1.out.on hb); clear hb))
   go_ret3
   exact ⟨rfl, H2.out⟩
 have b24 : ((X i).o == 24) = true := by simpa using h24
 rw [b24] at CW
 by_cases h2 : i + 1 < n
 case neg =>
  have HS : slotsAt X n i = 1 := if_neg fun h => h2 h.2
  have i4 : ¬ (i : Int) + 1 < n := by omega
  rw [HS]
  generalize (X i).o = o at *
  generalize (X i).d = d at *
  generalize (X i).s = s at *
  generalize (X i).f = f at *
  generalize (X i).m = m at *
  generalize lineN (fun j => X (i + j)) 1 = l1 at *
  clear h hT hn hc hi HS e2 h24 b24 h2
  unfold lineE
  by_cases hl : l1.size = 0
  ·have bE : l1.toList.isEmpty = true := (isEmpty_size l1).trans (decide_eq_true hl)
   rw [if_pos hl]
   clear hl
   go_enter Tryz.func18, Tryz.ntmps18
   go_wp2_with (first
    | (go_at_call 45; refine (CW.out _).mono ?_; rintro e w1 ⟨rfl, hb⟩; have H1 := Lib.hid hb; clear hb)
    | (go_at_call 46; refine (C1.out _ H1.out).mono ?_; rintro e w2 ⟨rfl, hb⟩; have H2 := Lib.hid (H1.out.on hb); clear hb))
   go_ret3
   exact ⟨rfl, H2.out⟩
  ·have bE : l1.toList.isEmpty = false := (isEmpty_size l1).trans (decide_eq_false hl)
   rw [if_neg hl]
   clear hl
   go_enter Tryz.func18, Tryz.ntmps18
   go_wp2_with (first
    | (go_at_call 45; refine (CW.out _).mono ?_; rintro e w1 ⟨rfl, hb⟩; have H1 := Lib.hid hb; clear hb)
    | (go_at_call 46; refine (C1.out _ H1.out).mono ?_; rintro e w2 ⟨rfl, hb⟩; have H2 := Lib.hid (H1.out.on hb); clear hb))
   go_ret3
   exact ⟨rfl, H2.out⟩
 have HS : slotsAt X n i = 2 := if_pos ⟨h24, h2⟩
 have i4 : (i : Int) + 1 < n := by omega
 have s2 : ∀ w, (Instr.slice insT (.slice (some ⟨b, off, none⟩) n c) (some (.int .i64 (i : Int))) (some (.int .i64 ((i : Int) + 2))) none).run Tryz.prog w = .ok (.slice (some ⟨b, off + i * 5, none⟩) 2 (c - i)) w := fun w => slice_ins b off n c i 2 _ (by omega) hi (by omega) hc w
 have C2 := Lib.hid (fun w' (hb : Below w.heap.size w w') => lineOf_any b (off + i * 5) (c - i) 2 (.inr rfl) (fun j => X (i + j)) w' (hT.below hb) (slots_sub (h.below hb) (by omega)))
 rw [HS]
 generalize (X i).o = o at *
 generalize (X i).d = d at *
 generalize (X i).s = s at *
 generalize (X i).f = f at *
 generalize (X i).m = m at *
 generalize lineN (fun j => X (i + j)) 2 = l1 at *
 clear h hT hn hc hi HS h24 b24 h2 C1
 unfold lineE
 by_cases hl : l1.size = 0
 ·have bE : l1.toList.isEmpty = true := (isEmpty_size l1).trans (decide_eq_true hl)
  rw [if_pos hl]
  clear hl
  go_enter Tryz.func18, Tryz.ntmps18
  go_wp2_with (first
   | (go_at_call 45; refine (CW.out _).mono ?_; rintro e w1 ⟨rfl, hb⟩; have H1 := Lib.hid hb; clear hb)
   | (go_at_call 46; refine (C2.out _ H1.out).mono ?_; rintro e w2 ⟨rfl, hb⟩; have H2 := Lib.hid (H1.out.on hb); clear hb))
  go_ret3
  exact ⟨rfl, H2.out⟩
 ·have bE : l1.toList.isEmpty = false := (isEmpty_size l1).trans (decide_eq_false hl)
  rw [if_neg hl]
  clear hl
  go_enter Tryz.func18, Tryz.ntmps18
  go_wp2_with (first
   | (go_at_call 45; refine (CW.out _).mono ?_; rintro e w1 ⟨rfl, hb⟩; have H1 := Lib.hid hb; clear hb)
   | (go_at_call 46; refine (C2.out _ H1.out).mono ?_; rintro e w2 ⟨rfl, hb⟩; have H2 := Lib.hid (H1.out.on hb); clear hb))
  go_ret3
  exact ⟨rfl, H2.out⟩
theorem isBuilder_on {B b : Nat} {bs : List Value} {w w' : World} (h : Lib.IsBuilder bldT 5 B b bs w) (hb : Below w.heap.size w w') : Lib.IsBuilder bldT 5 B b bs w' := by
 have one : ∀ p, Lib.BuilderAt bldT 5 B b p bs w → Lib.BuilderAt bldT 5 B b p bs w' := by
  intro p h
  have hlt := h.lt
  obtain ⟨h1, v, h2, h3, h4⟩ := h
  exact ⟨h1, v, (hb.block b hlt).trans h2, ownsRow_below h3 hb, h4⟩
 exact h.imp (one _) (one _)
theorem said8 (l : List ByteArray) (hl : l.length ≤ 6) (h : ∀ x ∈ l, x.size ≤ 1000) : (saidT l).size ≤ 6006 := Nat.le_trans (saidT_size l 1000 h) (Nat.mul_le_mul hl (Nat.le_refl 1001))
theorem operG_size (z f : Int) (g : ByteArray → ByteArray) (e : ByteArray) (he : e.size ≤ 6006) : ∀ l : List (ByteArray × Int × Int), (∀ x ∈ l, (g x.1).size ≤ 6006) → (operG z f g e l).size ≤ 6006
 | [], _ => he
 | (nm, k, x) :: l, h => by
  unfold operG
  split
  ·exact h (nm, k, x) (List.mem_cons_self ..)
  ·exact operG_size z f g e he l fun x hx => h x (List.mem_cons_of_mem _ hx)
theorem testG_size (z : Int) (g : ByteArray → ByteArray) : ∀ l : List (ByteArray × Int), (∀ x ∈ l, (g x.1).size ≤ 6006) → (testG z g l).size ≤ 6006
 | [], _ => Nat.zero_le _
 | (nm, k) :: l, h => by
  unfold testG
  split
  ·exact h (nm, k) (List.mem_cons_self ..)
  ·exact testG_size z g l fun x hx => h x (List.mem_cons_of_mem _ hx)
theorem turnB_size (rd nm : ByteArray) (hr : rd.size ≤ 100) (hn : nm.size ≤ 100) (op o s f m : Int) : ∀ l : List Int, (∀ b ∈ l, 0 ≤ b ∧ b ≤ 64) → ∀ t, turnB rd nm op o s f m l = some t → t.size ≤ 6006
 | [], _, t, h => by cases h
 | b :: l, hl, t, h => by
  unfold turnB at h
  split at h
  ·cases h
   have hb := hl b (List.mem_cons_self ..)
   have hd := dec_size b (by omega) (by omega)
   have e2 : (nm ++ dec b).size = nm.size + (dec b).size := size_app _ _
   have h4 : eqT.size = 1 := rfl
   refine said8 _ (Nat.le_of_ble_eq_true rfl) ?_
   intro x hx
   simp only [List.mem_cons, List.not_mem_nil, or_false] at hx
   rcases hx with rfl | rfl | rfl | rfl <;> omega
  ·exact turnB_size rd nm hr hn op o s f m l (fun x hx => hl x (List.mem_cons_of_mem _ hx)) t h
theorem turnG_size (rd : ByteArray) (hr : rd.size ≤ 100) (o s f m : Int) : ∀ l : List (ByteArray × Int), (∀ x ∈ l, x.1.size ≤ 100) → (turnG rd o s f m l).size ≤ 6006
 | [], _ => Nat.zero_le _
 | (nm, op) :: l, h => by
  unfold turnG
  rcases hb : turnB rd nm op o s f m [16, 32, 64] with _ | t
  ·exact turnG_size rd hr o s f m l fun x hx => h x (List.mem_cons_of_mem _ hx)
  ·exact turnB_size rd nm hr (h (nm, op) (List.mem_cons_self ..)) op o s f m _ (by decide) t hb
theorem bodyT_size (x : Slot) (h : x.Ok) (wd : ByteArray) (hw : wd.size ≤ 6006) : (bodyT x wd).size ≤ 6006 := by
 obtain ⟨o, d, s, f, m⟩ := x
 have hd : 0 ≤ d ∧ d ≤ 15 := h.2.1
 have hs : 0 ≤ s ∧ s ≤ 15 := h.2.2.1
 have hf : -32768 ≤ f ∧ f ≤ 32767 := h.2.2.2.1
 have hm : -2147483648 ≤ m ∧ m ≤ 2147483647 := h.2.2.2.2
 have hls := letterS_size (o % 8)
 have hss := secT_size s m (bits .and .i64 o 8 != 0) (letterS (o % 8)) hs hm
 have hs3 := secT_size s m (o % 8 == 3) wholeT hs hm
 have hrd := regT_size (letterS (o % 8)) d (by omega) (by omega)
 have hrs := regT_size (letterS (o % 8)) s (by omega) (by omega)
 have hr := regT_size wholeT d (by omega) (by omega)
 have hr' : (regT ⟨#[114]⟩ d).size ≤ 22 := regT_size ⟨#[114]⟩ d (by omega) (by omega)
 have hfs := farT_size f (by omega) (by omega)
 have hg := signT_size f (by omega) (by omega)
 have hds := dec_size m (by omega) (by omega)
 have hp1 := placeT_size (bits .and .i64 o 224) o f s hs hf
 have hp2 := placeT_size 96 o f d hd hf
 have hlk := lockT_size s m hs
 have k1 : wholeT.size = 1 := rfl
 have k2 : eqT.size = 1 := rfl
 have k2' : (⟨#[61]⟩ : ByteArray).size = 1 := rfl
 have k3 : lockW.size = 4 := rfl
 have k4 : gotoT.size = 4 := rfl
 have k5 : callT.size = 4 := rfl
 have k6 : ifT.size = 2 := rfl
 have k7 : minusW.size = 1 := rfl
 have k8 : exitT.size = 4 := rfl
 have a1 : (minusW ++ regT (letterS (o % 8)) d).size = minusW.size + (regT (letterS (o % 8)) d).size := size_app _ _
 have a2 : (signT f ++ regT (letterS (o % 8)) s).size = (signT f).size + (regT (letterS (o % 8)) s).size := size_app _ _
 have ht := turnG_size (regT wholeT d) (by omega) o s f m turnL (by decide)
 have he : emptyT.size ≤ 6006 := Nat.zero_le _
 unfold bodyT
 simp only
 split
 ·exact hw
 split
 ·unfold loadT
  split
  ·refine said8 _ (Nat.le_of_ble_eq_true rfl) ?_
   intro x hx
   simp only [List.mem_cons, List.not_mem_nil, or_false] at hx
   rcases hx with rfl | rfl | rfl <;> omega
  ·exact he
 split
 ·unfold storeT
  split
  ·refine said8 _ (Nat.le_of_ble_eq_true rfl) ?_
   intro x hx
   simp only [List.mem_cons, List.not_mem_nil, or_false] at hx
   rcases hx with rfl | rfl | rfl <;> omega
  ·split
   ·refine said8 _ (Nat.le_of_ble_eq_true rfl) ?_
    intro x hx
    simp only [List.mem_cons, List.not_mem_nil, or_false] at hx
    rcases hx with rfl | rfl | rfl <;> omega
   ·exact he
 split
 ·unfold aluT
  split
  ·refine said8 _ (Nat.le_of_ble_eq_true rfl) ?_
   intro x hx
   simp only [List.mem_cons, List.not_mem_nil, or_false] at hx
   rcases hx with rfl | rfl | rfl <;> omega
  ·split
   ·refine said8 _ (Nat.le_of_ble_eq_true rfl) ?_
    intro x hx
    simp only [List.mem_cons, List.not_mem_nil, or_false] at hx
    rcases hx with rfl | rfl | rfl <;> omega
   ·refine operG_size _ _ _ _ ht _ ?_
    intro y hy
    have hy4 : y.1.size ≤ 4 := (by decide : ∀ y ∈ operL, y.1.size ≤ 4) y hy
    refine said8 _ (Nat.le_of_ble_eq_true rfl) ?_
    intro x hx
    simp only [List.mem_cons, List.not_mem_nil, or_false] at hx
    rcases hx with rfl | rfl | rfl <;> omega
 ·unfold jumpT
  split
  ·refine said8 _ (Nat.le_of_ble_eq_true rfl) ?_
   intro x hx
   simp only [List.mem_cons, List.not_mem_nil, or_false] at hx
   rcases hx with rfl | rfl <;> omega
  ·split
   ·refine said8 _ (Nat.le_of_ble_eq_true rfl) ?_
    intro x hx
    simp only [List.mem_cons, List.not_mem_nil, or_false] at hx
    rcases hx with rfl | rfl <;> omega
   ·split
    ·omega
    ·refine testG_size _ _ _ ?_
     intro y hy
     have hy4 : y.1.size ≤ 3 := (by decide : ∀ y ∈ testL, y.1.size ≤ 3) y hy
     refine said8 _ (Nat.le_of_ble_eq_true rfl) ?_
     intro x hx
     simp only [List.mem_cons, List.not_mem_nil, or_false] at hx
     rcases hx with rfl | rfl | rfl | rfl | rfl | rfl <;> omega
theorem wideT_size (x y : Slot) (hx : x.Ok) : (wideT x y).size ≤ 6006 := by
 obtain ⟨o, d, s, f, m⟩ := x
 have hd : 0 ≤ d ∧ d ≤ 15 := hx.2.1
 have hm : -2147483648 ≤ m ∧ m ≤ 2147483647 := hx.2.2.2.2
 have hr := regT_size wholeT d (by omega) (by omega)
 have hds := dec_size m (by omega) (by omega)
 have k1 : wholeT.size = 1 := rfl
 have k2 : eqT.size = 1 := rfl
 have k3 : llT.size = 2 := rfl
 have k4 : mapT.size = 3 := rfl
 have hus : (decU (wideN m y.m)).size ≤ 21 := by
  have hU : 0 ≤ wideN m y.m ∧ wideN m y.m < 18446744073709551616 := by unfold wideN; omega
  obtain ⟨u, hu, hu2⟩ : ∃ u : Nat, wideN m y.m = (u : Int) ∧ u < 18446744073709551616 := ⟨(wideN m y.m).toNat, by omega, by omega⟩
  unfold decU
  rw [bstr_size, hu, Int.toNat_natCast, Lib.decDigits_length]
  by_cases hu0 : u = 0
  ·subst hu0
   rw [Lib.nDigits, dif_pos (by decide)]
   decide
  ·have := Lib.numDigits_eq u (by omega) hu2
   split at this <;> omega
 unfold wideT
 simp only
 split
 ·split
  ·refine said8 _ (Nat.le_of_ble_eq_true rfl) ?_
   intro x hx
   simp only [List.mem_cons, List.not_mem_nil, or_false] at hx
   rcases hx with rfl | rfl | rfl | rfl <;> omega
  ·split
   ·refine said8 _ (Nat.le_of_ble_eq_true rfl) ?_
    intro x hx
    simp only [List.mem_cons, List.not_mem_nil, or_false] at hx
    rcases hx with rfl | rfl | rfl | rfl | rfl <;> omega
   ·exact Nat.zero_le _
 ·exact Nat.zero_le _
theorem lineN_size (X : Nat → Slot) (n : Nat) (hn : 0 < n) : (lineN X n).size ≤ 6006 := by
 unfold lineN
 split
 ·rename_i h
  refine bodyT_size _ (h.1 0 hn) _ ?_
  split
  ·exact wideT_size _ _ (h.1 0 hn)
  ·exact Nat.zero_le _
 ·exact Nat.zero_le _
theorem slotsAt_pos (X : Nat → Slot) (n i : Nat) : 1 ≤ slotsAt X n i ∧ slotsAt X n i ≤ 2 := by
 unfold slotsAt
 split <;> omega
/-- The lines of all instructions from a place on; none, if there is one that has none. -/
noncomputable def textFrom (X : Nat → Slot) (n i : Nat) : Option (List UInt8) :=
 if h : i < n then (if (lineAt X n i).size = 0 then none else (textFrom X n (i + slotsAt X n i)).map fun r => (lineAt X n i).data.toList ++ [10] ++ r) else some []
termination_by n - i
decreasing_by have := slotsAt_pos X n i; omega
noncomputable def textE (X : Nat → Slot) (n : Nat) : Ending := match textFrom X n 0 with
 | none => .returned (.tuple #[.string emptyT, .int .i64 31])
 | some l => .returned (.tuple #[.string (bstr l), .int .i64 0])
theorem byteCells_app (a b : List UInt8) : Lib.byteCells (a ++ b) = Lib.byteCells a ++ Lib.byteCells b := List.map_append ..
theorem textFrom_end {X : Nat → Slot} {n i : Nat} (h : ¬ i < n) : textFrom X n i = some [] := by
 rw [textFrom, dif_neg h]
theorem textFrom_no {X : Nat → Slot} {n i : Nat} (h : i < n) (hl : (lineAt X n i).size = 0) : textFrom X n i = none := by
 rw [textFrom, dif_pos h, if_pos hl]
theorem textFrom_yes {X : Nat → Slot} {n i : Nat} (h : i < n) (hl : ¬ (lineAt X n i).size = 0) : textFrom X n i = (textFrom X n (i + slotsAt X n i)).map fun r => (lineAt X n i).data.toList ++ [10] ++ r := by
 rw [textFrom, dif_pos h, if_neg hl]
set_option maxHeartbeats 4000000 in
theorem Text_any (A : Option Addr) (n c : Nat) (X : Nat → Slot) (hc : n ≤ c) (hn : n ≤ 4194304) (w : World) (hT : Tabs w) (h : Slots w A n X) :
  Calls Tryz.prog 12 #[.slice A n c] w fun e w' => e = textE X n ∧ Below w.heap.size w w' := by
 have CL : Hid (∀ i, i < n → ∀ w', Below w.heap.size w w' → Calls Tryz.prog 18 #[.slice A n c, .int .i64 (i : Int)] w' fun e w'' => e = lineE (lineAt X n i) (slotsAt X n i) ∧ Below w'.heap.size w' w'') := by
  intro i hi w' hb
  obtain ⟨b, off, e, _⟩ := h i hi
  subst e
  exact Line_any b off n c X hc hn i hi w' (hT.below hb) (h.below hb)
 have HN := Lib.hid hn
 have HB0 : Hid (Lib.IsBuilder bldT 5 w.heap.size w.heap.size (Lib.byteCells []) (w.alloc (.cells #[.pointer none, .slice none 0 0] bldT))) := Lib.fresh_isBuilder bldT 5 w
 clear h hT hc hn
 go_enter Tryz.func12, Tryz.ntmps12
 go_wp2
 go_loopw [5, 6, 7, 8] (fun i _ _ _ wr => ∃ (k : Nat) (acc : List UInt8), i = .int .i64 (k : Int) ∧ k ≤ n ∧ Lib.IsBuilder bldT 5 w.heap.size w.heap.size (Lib.byteCells acc) wr ∧ Below w.heap.size w wr ∧ acc.length ≤ k * 6007 ∧ (textFrom X n k).map (acc ++ ·) = textFrom X n 0) (fun i _ _ _ _ => n - (Lib.intOf i).toNat)
 case atStart => exact ⟨0, [], rfl, Nat.zero_le _, HB0.out, below_alloc w _, Nat.zero_le _, by cases textFrom X n 0 <;> rfl⟩
 case round =>
  obtain ⟨k, acc, rfl, hk, hI, hb, hl, hD⟩ := hrel
  have HK := Lib.hid hk
  have HI := Lib.hid hI
  have HB := Lib.hid hb
  have HL := Lib.hid hl
  have HD := Lib.hid hD
  clear hk hI hb hl hD HB0
  by_cases hkn : k < n
  ·have i1 : (k : Int) < n := by omega
   have C := Lib.hid (CL.out k hkn wr HB.out)
   have HKN := Lib.hid hkn
   have HS := Lib.hid (slotsAt_pos X n k)
   by_cases hz : (lineAt X n k).size = 0
   ·have HE : Hid (lineE (lineAt X n k) (slotsAt X n k) = .returned (.tuple #[.string emptyT, .int .i64 0, .int .i64 31])) := if_pos hz
    rw [HE.out] at C
    have HF : Hid (textE X n = .returned (.tuple #[.string emptyT, .int .i64 31])) := by
     unfold textE
     rw [← HD.out, textFrom_no hkn hz]
     exact rfl
    clear hz hkn HD
    go_wp2_with (go_at_call 18; refine C.out.mono ?_; rintro e w1 ⟨rfl, hb⟩; have H1 := Lib.hid (HB.out.on hb); clear hb)
    go_ret2
    exact ⟨by rw [HF.out]; rfl, H1.out⟩
   ·have HE : Hid (lineE (lineAt X n k) (slotsAt X n k) = .returned (.tuple #[.string (lineAt X n k), .int .i64 (slotsAt X n k : Int), .int .i64 0])) := if_neg hz
    rw [HE.out] at C
    have HD2 : Hid ((textFrom X n (k + slotsAt X n k)).map ((acc ++ (lineAt X n k).data.toList ++ [10]) ++ ·) = textFrom X n 0) := by
     have h1 := HD.out
     rw [textFrom_yes hkn hz, Option.map_map] at h1
     rw [← h1]
     show _ = Option.map _ _
     congr 1
     funext r
     simp [Function.comp, List.append_assoc]
    have hls : (lineAt X n k).size ≤ 6006 := lineN_size _ _ (slotsAt_pos X n k).1
    have hsl : k + slotsAt X n k ≤ n := by
     unfold slotsAt
     split
     ·rename_i h; omega
     ·omega
    have HSL := Lib.hid hsl
    have HLS := Lib.hid hls
    have e1 : IntKind.i64.wrap ((k : Int) + (slotsAt X n k : Int)) = ((k + slotsAt X n k : Nat) : Int) := by
     rw [IntWalk.i64_in _ (by have := HN.out; have := HS.out; omega)]; omega
    clear hz hkn HD hls hsl HE CL
    generalize lineAt X n k = ln at *
    generalize slotsAt X n k = sl at *
    have hlen : Hid ((ln.data.toList).length = ln.size) := Array.length_toList
    have CW1 : Hid (∀ w', Lib.IsBuilder bldT 5 w.heap.size w.heap.size (Lib.byteCells acc) w' → w.heap.size ≤ w'.heap.size → Calls Tryz.prog 19 #[.pointer (some ⟨w.heap.size, 0, none⟩), .string ln] w' fun e w'' => e = .returned (.tuple #[.int .i64 ln.size, .nilIface]) ∧ (Lib.IsBuilder bldT 5 w.heap.size w.heap.size (Lib.byteCells (acc ++ ln.data.toList)) w'' ∧ Below w.heap.size w' w'')) := by
     intro w' hI hsz
     refine (writeString_any _ _ _ ln w' hI (by rw [Lib.byteCells_length]; have := HL.out; have := HLS.out; have := HN.out; have := HK.out; have : k * 6007 ≤ 4194304 * 6007 := Nat.mul_le_mul (by omega) (Nat.le_refl _); omega) hsz).mono ?_
     rintro e w'' ⟨rfl, h1, h2⟩
     exact ⟨rfl, .inr (by rw [byteCells_app]; exact h1), h2⟩
    have CW2 : Hid (∀ w', Lib.IsBuilder bldT 5 w.heap.size w.heap.size (Lib.byteCells (acc ++ ln.data.toList)) w' → w.heap.size ≤ w'.heap.size → Calls Tryz.prog 19 #[.pointer (some ⟨w.heap.size, 0, none⟩), .string ⟨#[10]⟩] w' fun e w'' => e = .returned (.tuple #[.int .i64 1, .nilIface]) ∧ (Lib.IsBuilder bldT 5 w.heap.size w.heap.size (Lib.byteCells (acc ++ ln.data.toList ++ [10])) w'' ∧ Below w.heap.size w' w'')) := by
     intro w' hI hsz
     refine (writeString_any _ _ _ ⟨#[10]⟩ w' hI (by rw [Lib.byteCells_length, List.length_append, hlen.out]; have := HL.out; have := HLS.out; have := HN.out; have := HK.out; have : k * 6007 ≤ 4194304 * 6007 := Nat.mul_le_mul (by omega) (Nat.le_refl _); show _ + 1 ≤ _; omega) hsz).mono ?_
     rintro e w'' ⟨rfl, h1, h2⟩
     exact ⟨rfl, .inr (by rw [byteCells_app (acc ++ ln.data.toList)]; exact h1), h2⟩
    go_wp2_with (first
     | (go_at_call 18; refine C.out.mono ?_; rintro e w1 ⟨rfl, hb⟩; have H1 := Lib.hid (HB.out.on hb); have I1 := Lib.hid (isBuilder_on HI.out hb); clear hb C)
     | (go_at_call 19; first
      | (refine (CW1.out _ I1.out H1.out.size).mono ?_; clear CW1; rintro e w2 ⟨rfl, hI, hb⟩; have H2 := Lib.hid (H1.out.trans hb); have I2 := Lib.hid hI; clear hI hb I1)
      | (refine (CW2.out _ I2.out H2.out.size).mono ?_; rintro e w3 ⟨rfl, hI, hb⟩; have H3 := Lib.hid (H2.out.trans hb); have I3 := Lib.hid hI; clear hI hb)))
    go_roundw
    case rel => exact ⟨k + sl, _, rfl, HSL.out, I3.out, H3.out, by rw [List.length_append, List.length_append, hlen.out]; have := HL.out; have := HLS.out; have := HS.out; have e : (k + sl) * 6007 = k * 6007 + sl * 6007 := Nat.add_mul ..; show _ + 1 ≤ _; omega, HD2.out⟩
    case measure =>
     have := HKN.out
     have := HS.out
     simp only [Lib.intOf]
     omega
  ·have hkn' : k = n := by have := HK.out; omega
   subst hkn'
   have HF : Hid (textE X k = .returned (.tuple #[.string (bstr acc), .int .i64 0])) := by
    unfold textE
    rw [← HD.out, textFrom_end hkn]
    simp
    exact trivial
   have i1 : ¬ (k : Int) < k := by omega
   have C3 := Lib.hid (fun w' h1 h2 => Tryz.Builder_String_any w.heap.size w.heap.size acc w' h1 h2)
   clear hkn HD CL
   go_wp2_with (go_at_call 20; refine (C3.out _ HI.out HB.out.size).mono ?_; rintro e w1 ⟨rfl, hb⟩; have H1 := Lib.hid (HB.out.trans hb); clear hb)
   go_ret2
   exact ⟨by rw [HF.out]; rfl, H1.out⟩
end Go.Proofs.YtemiklbkfogjeaaGreatDoor
