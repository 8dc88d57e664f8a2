/-
  A line's words, without places: blanks at both ends say nothing; what is left is its words with one blank between. The reference's Read: line by line.
-/
import Derived.Test.YtemiklbkfogjeaaGreatDoorQ23
import Derived.Test.YtemiklbkfogjeaaGreatDoorQ30
import Derived.Test.YtemiklbkfogjeaaGreatDoorQ42
import Derived.Test.YtemiklbkfogjeaaGreatDoorQ20
namespace Go.Proofs.YtemiklbkfogjeaaGreatDoor
open Go Go.RowKit Go.Maps
set_option linter.unusedVariables false
set_option linter.unusedSimpArgs false
set_option maxRecDepth 100000
/-- The words, byte by byte: the one that is being read, those that were, the blanks behind the last. -/
def wdL : Option (List UInt8) → List (List UInt8) → Nat → List UInt8 → Option (List (List UInt8))
 | none, ws, _, [] => some ws
 | some a, ws, _, [] => some (ws ++ [a])
 | some a, ws, gap, b :: r => if b.toNat = 32 then wdL none (ws ++ [a]) 1 r else wdL (some (a ++ [b])) ws gap r
 | none, ws, gap, b :: r => if b.toNat = 32 then wdL none ws (gap + 1) r else if ws.length = 8 ∨ (0 < ws.length ∧ 1 < gap) then none else wdL (some [b]) ws gap r
theorem wordsL_wdL (s : ByteArray) : ∀ (l : List UInt8) (at' : Nat) (ws : List ByteArray) (gap : Nat), s.data.toList.drop at' = l →
  (wordsL s l at' ws none gap = (wdL none (ws.map (·.data.toList)) gap l).map (·.map bstr)) ∧
  ∀ f, f ≤ at' → wordsL s l at' ws (some f) gap = (wdL (some ((s.extract f at').data.toList)) (ws.map (·.data.toList)) gap l).map (·.map bstr)
 | [], at', ws, gap, hd => by
  have hself : ∀ L : List ByteArray, (L.map (·.data.toList)).map bstr = L := fun L => by
   rw [List.map_map]
   conv => rhs; rw [← List.map_id L]
   apply List.map_congr_left
   intro a _
   exact bstr_self a
  refine ⟨?_, fun f hf => ?_⟩
  ·rw [wordsL, wdL, Option.map_some, hself]
  ·have hsz : s.size ≤ at' := by
    have := congrArg List.length hd
    rw [List.length_drop, size_list] at this
    simp at this
    omega
   have e : (s.extract f s.size).data.toList = (s.extract f at').data.toList := by
    rw [extract_list, extract_list, List.take_of_length_le, List.take_of_length_le]
    ·rw [List.length_drop, size_list]; omega
    ·rw [List.length_drop, size_list]; omega
   rw [wordsL, wdL, Option.map_some, List.map_append, hself, ← e]
   show _ = some (ws ++ [bstr _])
   rw [bstr_self]
 | b :: r, at', ws, gap, hd => by
  have hlt : at' < s.size := by
   have := congrArg List.length hd
   rw [List.length_drop, size_list] at this
   simp at this
   omega
  have hb : (s[at']'hlt) = b ∧ s.data.toList.drop (at' + 1) = r := by
   have := drop_cons hlt
   rw [hd] at this
   exact ⟨(List.cons.inj this).1.symm, (List.cons.inj this).2.symm⟩
  have ih := wordsL_wdL s r (at' + 1)
  refine ⟨?_, fun f hf => ?_⟩
  ·rw [wordsL, wdL]
   by_cases h : b.toNat = 32
   ·rw [if_pos h, if_pos h]
    exact (ih ws (gap + 1) hb.2).1
   ·rw [if_neg h, if_neg h, List.length_map]
    split
    ·rfl
    ·rw [(ih ws gap hb.2).2 at' (Nat.le_succ _)]
     rw [extract_snoc s at' at' (Nat.le_refl _) hlt, extract_none, hb.1]
     rfl
  ·rw [wordsL, wdL]
   by_cases h : b.toNat = 32
   ·rw [if_pos h, if_pos h, (ih _ 1 hb.2).1, List.map_append]
    rfl
   ·rw [if_neg h, if_neg h, (ih ws gap hb.2).2 f (by omega), extract_snoc s f at' hf hlt, hb.1]
theorem wordsS_wdL (s : ByteArray) : wordsS s = (wdL none [] 0 s.data.toList).map (·.map bstr) :=
 (wordsL_wdL s (s.data.toList.drop 0) 0 [] 0 rfl).1
theorem wd_gap : ∀ (l : List UInt8) (a : List UInt8) (ws : List (List UInt8)) (g g' : Nat), wdL (some a) ws g l = wdL (some a) ws g' l
 | [], a, ws, g, g' => by rw [wdL, wdL]
 | b :: r, a, ws, g, g' => by
  rw [wdL, wdL]
  split
  ·rfl
  ·exact wd_gap r _ ws g g'
theorem wd_start : ∀ (l : List UInt8) (g g' : Nat), wdL none [] g l = wdL none [] g' l
 | [], g, g' => by rw [wdL, wdL]
 | b :: r, g, g' => by
  rw [wdL, wdL]
  split
  ·exact wd_start r _ _
  ·rw [if_neg (by simp), if_neg (by simp)]
   exact wd_gap r _ _ g g'
theorem wd_front : ∀ l : List UInt8, wdL none [] 0 (dropB l) = wdL none [] 0 l
 | [] => by unfold dropB; rfl
 | b :: r => by
  unfold dropB
  split
  ·rename_i h
   rw [wd_front r]
   conv => rhs; rw [wdL]
   rw [if_pos (by rw [h]; rfl)]
   exact wd_start r 0 1
  ·rfl
theorem wd_blanks : ∀ (z : List UInt8), (∀ b ∈ z, b.toNat = 32) → ∀ (ws : List (List UInt8)) (g : Nat), wdL none ws g z = some ws
 | [], h, ws, g => by rw [wdL]
 | b :: z, h, ws, g => by
  rw [wdL, if_pos (h b (by simp))]
  exact wd_blanks z (fun c hc => h c (by simp [hc])) ws _
theorem wd_back : ∀ (l z : List UInt8), (∀ b ∈ z, b.toNat = 32) → ∀ (a : Option (List UInt8)) (ws : List (List UInt8)) (g : Nat), wdL a ws g (l ++ z) = wdL a ws g l
 | [], [], h, a, ws, g => rfl
 | [], b :: z, h, none, ws, g => by
  rw [List.nil_append, wd_blanks _ h, wdL]
 | [], b :: z, h, some a, ws, g => by
  rw [List.nil_append, wdL, wdL, if_pos (h b (by simp)), wd_blanks z (fun c hc => h c (by simp [hc]))]
 | c :: l, z, h, none, ws, g => by
  rw [List.cons_append, wdL, wdL]
  split
  ·exact wd_back l z h _ _ _
  split
  ·rfl
  ·exact wd_back l z h _ _ _
 | c :: l, z, h, some a, ws, g => by
  rw [List.cons_append, wdL, wdL]
  split
  ·exact wd_back l z h _ _ _
  ·exact wd_back l z h _ _ _
theorem dropB_split : ∀ l : List UInt8, ∃ z, l = z ++ dropB l ∧ ∀ b ∈ z, b.toNat = 32
 | [] => ⟨[], by unfold dropB; rfl, by simp⟩
 | b :: r => by
  obtain ⟨z, hz, hb⟩ := dropB_split r
  unfold dropB
  split
  ·rename_i h
   refine ⟨b :: z, by rw [List.cons_append, ← hz], fun c hc => ?_⟩
   rcases List.mem_cons.1 hc with rfl | hc
   ·rw [h]; rfl
   ·exact hb c hc
  ·exact ⟨[], rfl, by simp⟩
theorem dropB_hd : ∀ l : List UInt8, ∀ b, (dropB l).head? = some b → b.toNat ≠ 32
 | [], b, h => by unfold dropB at h; cases h
 | c :: r, b, h => by
  unfold dropB at h
  split at h
  ·exact dropB_hd r b h
  ·rename_i hc
   have : c = b := by simpa using h
   rw [← this]; exact fun e => hc (UInt8.toNat_inj.1 e)
theorem trim_list (s : ByteArray) : (trimR s).data.toList = (dropB (dropB s.data.toList).reverse).reverse := rfl
theorem words_trim (s : ByteArray) : wordsS s = wordsS (trimR s) := by
 rw [wordsS_wdL, wordsS_wdL, trim_list]
 obtain ⟨z, hz, hb⟩ := dropB_split (dropB s.data.toList).reverse
 have e : dropB s.data.toList = (dropB (dropB s.data.toList).reverse).reverse ++ z.reverse := by
  rw [← List.reverse_append, ← hz, List.reverse_reverse]
 rw [← wd_front s.data.toList]
 conv => lhs; rw [e]
 rw [wd_back _ _ (fun b hb' => hb b (List.mem_reverse.1 hb'))]
theorem line_trim (s : ByteArray) : lineR s = lineR (trimR s) := by
 unfold lineR
 rw [words_trim s]
theorem trim_ends {s : ByteArray} : (∀ b, (trimR s).data.toList.head? = some b → b.toNat ≠ 32) ∧ ∀ b, (trimR s).data.toList.getLast? = some b → b.toNat ≠ 32 := by
 rw [trim_list]
 refine ⟨fun b hb => ?_, fun b hb => ?_⟩
 ·obtain ⟨z, hz, _⟩ := dropB_split (dropB s.data.toList).reverse
  have e : dropB s.data.toList = (dropB (dropB s.data.toList).reverse).reverse ++ z.reverse := by
   rw [← List.reverse_append, ← hz, List.reverse_reverse]
  refine dropB_hd s.data.toList b ?_
  rw [e, List.head?_append, hb]
  rfl
 ·rw [List.getLast?_reverse] at hb
  exact dropB_hd _ b hb
/-- Words with one blank between, and none at the end: joined, they are the line. -/
theorem wd_two (ws : List (List UInt8)) (h0 : 0 < ws.length) : ∀ (l : List UInt8) (g : Nat) (o : List (List UInt8)), 1 < g → wdL none ws g l = some o → ∀ b ∈ l, b.toNat = 32
 | [], g, o, hg, h => by simp
 | b :: r, g, o, hg, h => by
  rw [wdL] at h
  split at h
  ·rename_i hb
   intro c hc
   rcases List.mem_cons.1 hc with rfl | hc
   ·exact hb
   ·exact wd_two ws h0 r (g + 1) o (by omega) h c hc
  ·rw [if_pos (.inr ⟨h0, hg⟩)] at h
   cases h
theorem wd_join : ∀ (n : Nat) (l a : List UInt8) (ws : List (List UInt8)) (g : Nat) (o : List (List UInt8)), l.length ≤ n → (∀ b, l.getLast? = some b → b.toNat ≠ 32) → wdL (some a) ws g l = some o → ∃ u, o = ws ++ u ∧ u ≠ [] ∧ a ++ l = Lib.join u [32]
 | n, [], a, ws, g, o, hn, hl, h => by
  rw [wdL] at h
  cases h
  exact ⟨[a], rfl, by simp, by rw [List.append_nil, Lib.join_one]⟩
 | 0, b :: r, a, ws, g, o, hn, hl, h => by simp at hn
 | n + 1, b :: r, a, ws, g, o, hn, hl, h => by
  rw [wdL] at h
  have hr : ∀ c, r.getLast? = some c → c.toNat ≠ 32 := fun c hc => hl c (by
   rw [List.getLast?_cons, hc]; rfl)
  split at h
  ·rename_i hb
   rcases r with _ | ⟨c, r⟩
   ·exact absurd hb (hl b rfl)
   rw [wdL] at h
   split at h
   ·rename_i hc
    exfalso
    have hall := wd_two (ws ++ [a]) (by simp) r (1 + 1) o (by omega) h
    rcases hz : (c :: r).getLast? with _ | z
    ·simp at hz
    ·refine hr z hz ?_
     rcases List.mem_cons.1 (List.mem_of_getLast? hz) with rfl | hm
     ·exact hc
     ·exact hall z hm
   ·split at h
    ·cases h
    ·have hr2 : ∀ d, r.getLast? = some d → d.toNat ≠ 32 := fun d hd => hr d (by rw [List.getLast?_cons, hd]; rfl)
     obtain ⟨u, h1, h2, h3⟩ := wd_join n r [c] (ws ++ [a]) 1 o (by simp at hn; omega) hr2 h
     refine ⟨a :: u, by rw [h1, List.append_assoc]; rfl, by simp, ?_⟩
     have hb32 : b = 32 := UInt8.toNat_inj.1 hb
     rcases u with _ | ⟨x, u⟩
     ·exact absurd rfl h2
     ·rw [join_two, ← h3, hb32]
      rfl
  ·obtain ⟨u, h1, h2, h3⟩ := wd_join n r (a ++ [b]) ws g o (by simp at hn; omega) hr h
   exact ⟨u, h1, h2, by rw [← h3, List.append_assoc]; rfl⟩
theorem words_join {s : ByteArray} {ws : List ByteArray} (h : wordsS s = some ws) (h0 : (trimR s).size ≠ 0) : trimR s = joinT ws ∧ ws ≠ [] := by
 obtain ⟨he, hl⟩ := trim_ends (s := s)
 rw [words_trim, wordsS_wdL] at h
 obtain ⟨o, ho, hw⟩ := Option.map_eq_some_iff.1 h
 rcases hc : (trimR s).data.toList with _ | ⟨b, r⟩
 ·exact absurd (by rw [Lib.size_eq, hc]; rfl) h0
 rw [hc] at ho he hl
 rw [wdL, if_neg (he b rfl), if_neg (by simp)] at ho
 obtain ⟨u, h1, h2, h3⟩ := wd_join r.length r [b] [] 0 o (Nat.le_refl _) (fun c hc => hl c (by rw [List.getLast?_cons, hc]; rfl)) ho
 rw [List.nil_append] at h1
 subst h1
 rw [← hw]
 refine ⟨?_, by simpa using h2⟩
 apply ba_ext
 rw [hc, joinT_list, List.map_map]
 have : (o.map ((fun x : ByteArray => x.data.toList) ∘ bstr)) = o := by
  conv => rhs; rw [← List.map_id o]
  rfl
 rw [this, ← h3]
 rfl
theorem words_empty {s : ByteArray} (h0 : (trimR s).size = 0) : lineR s = some [] := by
 rw [line_trim]
 unfold lineR
 rw [wordsS_wdL, show (trimR s).data.toList = [] from List.length_eq_zero_iff.1 (by rw [size_list]; exact h0)]
 rfl
/-! ### The reference's words -/
theorem cut_word : ∀ (u : List UInt8), (∀ b ∈ u, b.toNat ≠ 32) → ∀ (acc r : List UInt8), cutL acc (u ++ r) = cutL (acc ++ u) r
 | [], _, acc, r => by rw [List.append_nil]; rfl
 | b :: u, h, acc, r => by
  rw [List.cons_append, cutL, if_neg (fun e => h b (by simp) (by rw [e]; rfl)), cut_word u (fun c hc => h c (by simp [hc])), List.append_assoc]
  rfl
theorem cut_join : ∀ (ws : List (List UInt8)), ws ≠ [] → (∀ w ∈ ws, ∀ b ∈ w, b.toNat ≠ 32) → cutL [] (Lib.join ws [32]) = ws
 | [], h, _ => absurd rfl h
 | [w], _, hw => by
  rw [Lib.join_one]
  have := cut_word w (hw w (by simp)) [] []
  rw [List.append_nil, List.nil_append] at this
  rw [this, cutL]
 | w :: w2 :: ws, _, hw => by
  rw [join_two, cut_word w (hw w (by simp)), List.nil_append, cutL, if_pos rfl, cut_join (w2 :: ws) (by simp) (fun x hx => hw x (List.mem_cons_of_mem _ hx))]
theorem wordsR_join {ws : List ByteArray} (h : ws ≠ []) (hw : ∀ w ∈ ws, isW w) : wordsR (joinT ws) = ws := by
 unfold wordsR
 rw [joinT_list, cut_join _ (by simpa using h) (fun w hm b hb => by
  obtain ⟨x, hx, rfl⟩ := List.mem_map.1 hm
  exact ((hw x hx).2 b hb).1), List.map_map]
 conv => rhs; rw [← List.map_id ws]
 apply List.map_congr_left
 intro a _
 exact bstr_self a
/-- The lines, cut at each end of a line. -/
def linesA (acc : List UInt8) : List UInt8 → List (List UInt8)
 | [] => [acc]
 | b :: r => if b = 10 then acc :: linesA [] r else linesA (acc ++ [b]) r
theorem linesA_eq : ∀ (l acc : List UInt8), linesA acc l = match linesL l with
  | [] => [acc]
  | x :: t => (acc ++ x) :: t
 | [], acc => by simp [linesA, linesL]
 | b :: r, acc => by
  unfold linesA linesL
  by_cases h : b = 10
  ·rw [if_pos h, if_pos h, linesA_eq r []]
   have := linesL_ne r
   cases hr : linesL r with
   | nil => exact absurd hr this
   | cons x t => simp
  ·rw [if_neg h, if_neg h, linesA_eq r]
   have := linesL_ne r
   cases hr : linesL r with
   | nil => exact absurd hr this
   | cons x t => simp
theorem linesA_self (s : ByteArray) : (linesA [] s.data.toList).map bstr = linesOf s := by
 unfold linesOf
 rw [linesA_eq]
 have := linesL_ne s.data.toList
 cases hr : linesL s.data.toList with
 | nil => exact absurd hr this
 | cons x t => simp
/-- A line of a text, blanks cut off: its slots. -/
def refOne (p : ByteArray) : Option (List Slot) := if (trimR p).size = 0 then some [] else if refLine (trimR p) = true then some (guessG (trimR p) (wordsR (trimR p))) else none
/-- The slots of lines. -/
def refAll : List ByteArray → Option (List Slot)
 | [] => some []
 | x :: l => match refOne x with
  | none => none
  | some a => (refAll l).map (a ++ ·)
/-- The first line that is none. -/
def refBad : List ByteArray → Nat
 | [] => 0
 | x :: l => if (refOne x).isSome = true then refBad l + 1 else 1
theorem refAll_snoc : ∀ {pre : List ByteArray} {x : ByteArray} {X a : List Slot}, refAll pre = some X → refOne x = some a → refAll (pre ++ [x]) = some (X ++ a)
 | [], x, X, a, h, hx => by
  cases h
  simp [refAll, hx]
 | y :: pre, x, X, a, h, hx => by
  rw [List.cons_append, refAll]
  rw [refAll] at h
  rcases hy : refOne y with _ | b
  ·rw [hy] at h; cases h
  ·rw [hy] at h
   obtain ⟨Z, hZ, rfl⟩ := Option.map_eq_some_iff.1 h
   simp only [refAll_snoc hZ hx, Option.map_some, List.append_assoc]
theorem refAll_stop : ∀ {pre : List ByteArray} {x : ByteArray} {r : List ByteArray} {X : List Slot}, refAll pre = some X → refOne x = none → refAll (pre ++ x :: r) = none ∧ refBad (pre ++ x :: r) = pre.length + 1
 | [], x, r, X, h, hx => by
  simp [refAll, refBad, hx]
 | y :: pre, x, r, X, h, hx => by
  rw [refAll] at h
  rcases hy : refOne y with _ | b
  ·rw [hy] at h; cases h
  ·rw [hy] at h
   obtain ⟨Z, hZ, rfl⟩ := Option.map_eq_some_iff.1 h
   obtain ⟨h1, h2⟩ := refAll_stop (r := r) hZ hx
   rw [List.cons_append, refAll, refBad, hy, h1, h2]
   simp
theorem guess_len (s : ByteArray) (L : List ByteArray) : (guessG s L).length ≤ 2 := by
 rcases guess_shape s L with ⟨x, h⟩ | ⟨x, y, h, _⟩ <;> rw [h] <;> simp
theorem refAll_len : ∀ {pre : List ByteArray} {X : List Slot}, refAll pre = some X → X.length ≤ 2 * pre.length
 | [], X, h => by cases h; simp
 | y :: pre, X, h => by
  rw [refAll] at h
  rcases hy : refOne y with _ | b
  ·rw [hy] at h; cases h
  ·rw [hy] at h
   obtain ⟨Z, hZ, rfl⟩ := Option.map_eq_some_iff.1 h
   have h1 := refAll_len hZ
   have h2 : b.length ≤ 2 := by
    unfold refOne at hy
    split at hy
    ·cases hy; exact Nat.zero_le _
    split at hy
    ·cases hy; exact guess_len _ _
    ·cases hy
   simp only [List.length_append, List.length_cons]
   omega
/-- Between two rounds: the lines so far, and what is still to come. -/
def LineAt (s : ByteArray) (k f : Nat) (L : List ByteArray) : Prop := f ≤ k ∧ L.length ≤ k ∧ ((k ≤ s.size ∧ L ++ (linesA (s.extract f k).data.toList (s.data.toList.drop k)).map bstr = linesOf s) ∨ (k = s.size + 1 ∧ L = linesOf s))
theorem LineAt.start (s : ByteArray) : LineAt s 0 0 [] := ⟨Nat.le_refl _, Nat.le_refl _, .inl ⟨Nat.zero_le _, by rw [extract_none]; exact linesA_self s⟩⟩
theorem LineAt.last {s : ByteArray} {f : Nat} {L : List ByteArray} (h : LineAt s s.size f L) : LineAt s (s.size + 1) (s.size + 1) (L ++ [s.extract f s.size]) ∧ ∃ r, linesOf s = L ++ s.extract f s.size :: r := by
 obtain ⟨h1, h2, ⟨h3, h4⟩ | ⟨h3, _⟩⟩ := h
 ·rw [List.drop_of_length_le (by rw [size_list]; exact Nat.le_refl _), linesA, List.map_cons, List.map_nil, ← extract_bstr04] at h4
  exact ⟨⟨Nat.le_refl _, by rw [List.length_append]; exact Nat.add_le_add_right h2 1, .inr ⟨rfl, h4⟩⟩, [], h4.symm⟩
 ·omega
theorem LineAt.cut {s : ByteArray} {k f : Nat} {L : List ByteArray} (h : LineAt s k f L) (hk : k < s.size) (hb : (s[k]'hk).toNat = 10) : LineAt s (k + 1) (k + 1) (L ++ [s.extract f k]) ∧ ∃ r, linesOf s = L ++ s.extract f k :: r := by
 obtain ⟨h1, h2, ⟨h3, h4⟩ | ⟨h3, _⟩⟩ := h
 ·rw [drop_cons hk, linesA, if_pos (UInt8.toNat_inj.1 hb), List.map_cons, ← extract_bstr04] at h4
  refine ⟨⟨Nat.le_refl _, by rw [List.length_append]; exact Nat.add_le_add_right h2 1, .inl ⟨hk, ?_⟩⟩, _, h4.symm⟩
  rw [← h4, extract_none, List.append_assoc]
  rfl
 ·omega
theorem LineAt.on {s : ByteArray} {k f : Nat} {L : List ByteArray} (h : LineAt s k f L) (hk : k < s.size) (hb : (s[k]'hk).toNat ≠ 10) : LineAt s (k + 1) f L := by
 obtain ⟨h1, h2, ⟨h3, h4⟩ | ⟨h3, _⟩⟩ := h
 ·refine ⟨by omega, by omega, .inl ⟨hk, ?_⟩⟩
  rw [← h4, drop_cons hk, linesA, if_neg (fun e => hb (by rw [e]; rfl)), extract_snoc s f k h1 hk]
 ·omega
theorem LineAt.done {s : ByteArray} {k f : Nat} {L : List ByteArray} (h : LineAt s k f L) (hk : ¬ k ≤ s.size) : L = linesOf s := by
 obtain ⟨h1, h2, ⟨h3, h4⟩ | ⟨h3, h4⟩⟩ := h
 ·omega
 ·exact h4
theorem trim_size (s : ByteArray) : (trimR s).size ≤ s.size := by
 have hd : ∀ l : List UInt8, (dropB l).length ≤ l.length := fun l => by
  induction l with
  | nil => simp [dropB]
  | cons b r ih => unfold dropB; split <;> simp_all; omega
 have h1 : (frontR s).size ≤ s.size := by
  have := hd s.data.toList
  rw [size_list] at this
  exact this
 have h2 : ∀ t : ByteArray, (backR t).size ≤ t.size := fun t => by
  have := hd t.data.toList.reverse
  rw [List.length_reverse, size_list] at this
  show (bstr _).size ≤ _
  rw [← size_list]
  show ((dropB t.data.toList.reverse).reverse).length ≤ _
  rw [List.length_reverse]
  exact this
 exact Nat.le_trans (h2 _) h1
theorem slots_guess {W : World} {g : Nat} (s : ByteArray) (L : List ByteArray) (h : Blk W g isT' ((guessG s L).flatMap Slot.cells).toArray) : Slots W (some ⟨g, 0, none⟩) (guessG s L).length (nthS (guessG s L)) := by
 rcases guess_shape s L with ⟨x, e⟩ | ⟨x, y, e, _⟩ <;> rw [e] at h ⊢
 ·intro i hi
  have hi : i < 1 := hi
  obtain rfl : i = 0 := by omega
  exact ⟨g, 0, rfl, h.lt, h.cell 0, h.cell 1, h.cell 2, h.cell 3, h.cell 4⟩
 ·intro i hi
  have hi : i < 2 := hi
  have : i = 0 ∨ i = 1 := by omega
  rcases this with rfl | rfl
  ·exact ⟨g, 0, rfl, h.lt, h.cell 0, h.cell 1, h.cell 2, h.cell 3, h.cell 4⟩
  ·exact ⟨g, 0, rfl, h.lt, h.cell 5, h.cell 6, h.cell 7, h.cell 8, h.cell 9⟩
/-- What Read answers, and the row that it makes. -/
def RefG (w : World) (s : ByteArray) (e : Ending) (w' : World) : Prop := Below w.heap.size w w' ∧ match refAll (linesOf s) with
 | some X => ∃ v, e = .returned (.tuple #[v, .int .i64 0, .int .i64 0]) ∧ rowAt w' w.heap.size v X
 | none => e = .returned (.tuple #[.slice none 0 0, .int .i64 (refBad (linesOf s) : Int), .int .i64 31])
theorem wpList_append_run1 {P : Program} {ops : Array Oper} {rest : List Oper} {o : Oper} {a : Act} {w : World} {Q : Exit → Act → World → Prop} (hgd : o.guard = none) (s x : Operand) (t : TypeId)
  (ho : o.op = .call { callee := .builtin .append, args := #[s, x], argTypes := #[t, t] }) (v xv v' : Value) (w' : World) (hs : a.eval s = v) (hx : a.eval x = xv) (hrun : (Builtin.append_ #[t, t] o.type #[v, xv]).run P w = .ok v' w')
  (h : wpList P ops Q rest (a.put o.dst v') w') : wpList P ops Q (o :: rest) a w := by
 refine wpList_plain hgd fun K hK => ?_
 unfold Oper.wp execOp
 simp only [ho, resolve, invoke, builtin, Sem.run_bind, Sem.run_pure, Result.andThen_ok, List.map_toArray, List.map_cons, List.map_nil, hs, hx, hrun]
 exact hK _ _ h
theorem took_any (q : ByteArray) (hq : q.size ≤ 1048576) {b : Bool} (hb : refLine q = b) {Y : List Slot} (hY : guessG q (wordsR q) = Y) (w : World) :
  Calls Tryz.prog 11 #[.string q] w fun e w' => ∃ g, e = .returned (.tuple #[.slice (some ⟨g, 0, none⟩) Y.length Y.length, .bool b]) ∧ Below w.heap.size w w' ∧ Slots w' (some ⟨g, 0, none⟩) Y.length (nthS Y) := by
 subst hb hY
 refine (line04_any q hq w).mono ?_
 rintro e w1 ⟨g, rfl, h1, h2⟩
 exact ⟨g, rfl, h1, slots_guess q (wordsR q) h2⟩
theorem refOne_empty {p : ByteArray} (h : (trimR p).size = 0) : refOne p = some [] := if_pos h
theorem refOne_good {p : ByteArray} (h : (trimR p).size ≠ 0) (hb : refLine (trimR p) = true) : refOne p = some (guessG (trimR p) (wordsR (trimR p))) := by unfold refOne; rw [if_neg h, if_pos hb]
theorem refOne_bad {p : ByteArray} (h : (trimR p).size ≠ 0) (hb : refLine (trimR p) = false) : refOne p = none := by unfold refOne; rw [if_neg h, if_neg (by rw [hb]; decide)]
set_option maxHeartbeats 8000000 in
theorem Read04_any (s : ByteArray) (hs : s.size ≤ 1048576) (w : World) :
  Calls Tryz.prog 5 #[.string s] w (RefG w s) := by
 go_enter Tryz.func5, Tryz.ntmps5
 go_wp2_with fail
 go_loopw [5, 6, 7, 8] (fun l fr n i wr => ∃ (k f : Nat) (L : List ByteArray) (X : List Slot), i = .int .i64 (k : Int) ∧ fr = .int .i64 (f : Int) ∧ n = .int .i64 ((L.length : Int) + 1) ∧ k ≤ s.size + 1 ∧ LineAt s k f L ∧ refAll L = some X ∧ Below w.heap.size w wr ∧ rowAt wr w.heap.size l X) (fun _ _ _ i _ => s.size + 1 - (intOf i).toNat)
 case atStart => exact ⟨0, 0, [], [], rfl, rfl, rfl, Nat.zero_le _, LineAt.start s, rfl, Below.refl _ _, World.ownsRow_nil _ _ _ _⟩
 case round =>
  obtain ⟨k, f, L, X, rfl, rfl, rfl, hk, hC, hX, hb, hS⟩ := hrel
  have HC := Lib.hid hC
  have HB := Lib.hid hb
  have HS := Lib.hid hS
  have HX := Lib.hid hX
  obtain ⟨A, c, rfl, _⟩ := own_form_any hS
  have hfk := hC.1
  have hLk := hC.2.1
  have hXl := refAll_len hX
  have hXs : X.length ≤ 2 * (s.size + 1) := by omega
  clear hC hb hS hX
  by_cases hle : k ≤ s.size
  ·have g1 : decide (k ≤ s.size) = true := decide_eq_true hle
   have g2 : (k : Int) ≤ (s.size : Int) := by omega
   have e1 : IntKind.i64.wrap ((k : Int) + 1) = ((k + 1 : Nat) : Int) := by rw [IntWalk.i64_in _ (by omega)]; omega
   have e2 : Hid (∀ n : Nat, n = L.length + 1 → Value.int .i64 (wrap64 ((L.length : Int) + 1 + 1)) = Value.int .i64 ((n : Int) + 1)) := fun n h => by
    have : wrap64 ((L.length : Int) + 1 + 1) = (L.length : Int) + 1 + 1 := IntWalk.wrap64_in _ ⟨by omega, by omega⟩
    rw [this, h]; rfl
   have g3 : (f : Int) ≤ (k : Int) := by omega
   by_cases hon : ∃ h : k < s.size, (s[k]'h).toNat ≠ 10
   ·obtain ⟨hlt, h10⟩ := hon
    have xk := fun w => idx_at s k hlt w
    have j0 : decide (k < s.size) = true := decide_eq_true hlt
    have j1 : (k : Int) < (s.size : Int) := by omega
    have HN := Lib.hid (HC.out.on hlt h10)
    have d1 : (((s[k]'hlt).toNat : Int) == 10) = false := by simp; omega
    have d2 : ((s[k]'hlt).toNat == 10) = false := by simpa using h10
    clear HC hLk h10
    go_wp2_with fail
    go_roundw
    case rel => exact ⟨k + 1, f, L, X, rfl, rfl, rfl, by omega, HN.out, HX.out, HB.out, HS.out⟩
    case measure => simp [intOf]; omega
   ·have hcut : LineAt s (k + 1) (k + 1) (L ++ [s.extract f k]) ∧ ∃ r, linesOf s = L ++ s.extract f k :: r := by
     by_cases heq : k = s.size
     ·have := HC.out
      subst heq
      exact this.last
     ·have hlt : k < s.size := by omega
      exact HC.out.cut hlt (Decidable.byContradiction fun h => hon ⟨hlt, h⟩)
    have hps : (s.extract f k).size ≤ s.size := by rw [ByteArray.size_extract]; omega
    obtain ⟨p, hp⟩ : ∃ p, s.extract f k = p := ⟨_, rfl⟩
    rw [hp] at hcut hps
    have hqs := trim_size p
    have CT := Lib.hid (trim04_any p (by omega))
    have hlen : (L ++ [p]).length = L.length + 1 := by simp
    have HCUT := Lib.hid hcut
    have HP := Lib.hid hp
    obtain ⟨q, hq⟩ : ∃ q, trimR p = q := ⟨_, rfl⟩
    rw [hq] at CT hqs
    have hE := eq_nil q
    have hE1 := isEmpty_size q
    have hAB : (decide (k < s.size) = false ∧ ¬ (k : Int) < (s.size : Int)) ∨ ∃ h : k < s.size, decide (k < s.size) = true ∧ (k : Int) < (s.size : Int) ∧ (((s[k]'h).toNat : Int) == 10) = true ∧ ((s[k]'h).toNat == 10) = true ∧ ∀ w, (Instr.index 9 (.string s) (.int .i64 (k : Int))).run Tryz.prog w = .ok (.int .u8 (((s[k]'h).toNat : Nat) : Int)) w := by
     by_cases heq : k = s.size
     ·exact .inl ⟨decide_eq_false (by omega), by omega⟩
     ·have hlt : k < s.size := by omega
      have h10 : (s[k]'hlt).toNat = 10 := Decidable.byContradiction fun h => hon ⟨hlt, h⟩
      exact .inr ⟨hlt, decide_eq_true hlt, by omega, by rw [h10]; rfl, by rw [h10]; rfl, fun w => idx_at s k hlt w⟩
    clear hcut hp hon hLk HC
    by_cases h0 : q.size = 0
    ·rw [decide_eq_true h0] at hE hE1
     have HN : Hid (refAll (L ++ [p]) = some X) := by
      have := refAll_snoc HX.out (refOne_empty (p := p) (by rw [hq]; exact h0))
      rwa [List.append_nil] at this
     clear hq h0 hqs hps HX
     rcases hAB with ⟨a1, a2⟩ | ⟨hlt, a1, a2, a3, a4, a5⟩
     all_goals
      go_wp2_with (go_at_call 10; rw [HP.out]; refine (CT.out _).mono ?_; rintro e w1 ⟨rfl, rfl⟩)
      go_roundw
      case rel => exact ⟨k + 1, k + 1, L ++ [p], X, rfl, rfl, e2.out _ hlen, by omega, HCUT.out.1, HN.out, HB.out, HS.out⟩
      case measure => simp [intOf]; omega
    ·rw [decide_eq_false h0] at hE hE1
     obtain ⟨Y, hY⟩ : ∃ Y, guessG q (wordsR q) = Y := ⟨_, rfl⟩
     have hYl : Y.length ≤ 2 := hY ▸ guess_len q (wordsR q)
     cases hbq : refLine q with
     | false =>
      have CL := Lib.hid (took_any q (by omega) hbq hY)
      have HN : Hid (refAll (linesOf s) = none ∧ refBad (linesOf s) = L.length + 1) := by
       obtain ⟨r, hr⟩ := HCUT.out.2
       rw [hr]
       exact refAll_stop HX.out (refOne_bad (by rw [hq]; exact h0) (by rw [hq]; exact hbq))
      clear hq h0 hqs hps HX hY hbq HS hXl
      rcases hAB with ⟨a1, a2⟩ | ⟨hlt, a1, a2, a3, a4, a5⟩
      all_goals
       go_wp2_with (first
        | (go_at_call 10; rw [HP.out]; refine (CT.out _).mono ?_; rintro e w1 ⟨rfl, rfl⟩)
        | (go_at_call 11; refine (CL.out _).mono ?_; rintro e w1 ⟨g, rfl, hb, hsl⟩; have HB1 := Lib.hid (below_on' HB.out hb); clear hb hsl))
       go_ret3
       refine ⟨HB1.out, ?_⟩
       rw [HN.out.1, HN.out.2]
       exact rfl
     | true =>
      have CL := Lib.hid (took_any q (by omega) hbq hY)
      have HN : Hid (refAll (L ++ [p]) = some (X ++ Y)) := by
       have := refAll_snoc HX.out (refOne_good (p := p) (by rw [hq]; exact h0) (by rw [hq]; exact hbq))
       rwa [hq, hY] at this
      have HNM : Hid (X.length + Y.length ≤ 1099511627776) := by unfold Hid; omega
      clear hq h0 hqs hps HX hY hbq hXl hYl
      rcases hAB with ⟨a1, a2⟩ | ⟨hlt, a1, a2, a3, a4, a5⟩
      all_goals
       go_wp2_with (first
        | (go_at_call 10; rw [HP.out]; refine (CT.out _).mono ?_; rintro e w1 ⟨rfl, rfl⟩)
        | (go_at_call 11; refine (CL.out _).mono ?_; rintro e w1 ⟨g, rfl, hb, hsl⟩; have hB1 := below_on' HB.out hb; obtain ⟨v', w5, hrun, hrow5, row, hg, hgr⟩ := append_slots (base := w.heap.size) (c := Y.length) hB1.size (ownsRow_below HS.out hb) hsl (fun h => by cases h) HNM.out; have HRUN := Lib.hid hrun; have HROW := Lib.hid hrow5; have HB5 := Lib.hid (hB1.grown hg hB1.size hgr); clear hb hsl hrun hrow5 hg hgr hB1)
        | (at_builtin; refine wpList_append_run1 rfl (.tmp 45) (.tmp 46) 22 rfl _ _ v' w5 rfl rfl HRUN.out ?_))
       go_roundw
       case rel =>
        refine ⟨k + 1, k + 1, L ++ [p], X ++ Y, rfl, rfl, e2.out _ hlen, by omega, HCUT.out.1, HN.out, HB5.out, ?_⟩
        have := HROW.out
        show World.ownsRow _ _ _ _ _ _ _
        rw [List.length_append, rowC_app]
        exact this
       case measure => simp [intOf]; omega
  ·have g1 : decide (k ≤ s.size) = false := decide_eq_false hle
   have g2 : ¬ (k : Int) ≤ (s.size : Int) := by omega
   have HD := Lib.hid (HC.out.done hle)
   clear HC
   go_wp2_with fail
   go_ret3
   refine ⟨HB.out, ?_⟩
   rw [← HD.out, HX.out]
   exact ⟨_, rfl, HS.out⟩
end Go.Proofs.YtemiklbkfogjeaaGreatDoor
