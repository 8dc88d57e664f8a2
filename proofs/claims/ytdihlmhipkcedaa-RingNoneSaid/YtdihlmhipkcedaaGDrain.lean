/-
  Package ring: Drain.
-/
import Derived.Test.YtdihlmhipkcedaaGRows
namespace Go.Proofs.Ytdihlmhipkcedaa
open Go Go.RowKit Go.Maps
set_option linter.unusedVariables false
set_option linter.unusedSimpArgs false
set_option maxRecDepth 100000
def told (l : List Rec) : List ByteArray := (l.filter fun r => r.state == 1).map fun r => bstr r.text
theorem told_snoc (l : List Rec) (r : Rec) : told (l ++ [r]) = if r.state = 1 then told l ++ [bstr r.text] else told l := by
  unfold told
  rw [List.filter_append, List.map_append]
  by_cases h : r.state = 1
  · rw [if_pos h]; simp [h]
  · rw [if_neg h]; simp [h]
theorem told_le (l : List Rec) : (told l).length ≤ l.length := by
  unfold told
  rw [List.length_map]
  exact List.length_filter_le _ _
theorem len_sumU : ∀ l : List Rec, 8 * l.length ≤ sumU l
  | [] => Nat.zero_le _
  | r :: l => by
    have := len_sumU l
    have := uses_ge r.size
    simp only [sumU, List.length_cons]; omega
theorem drain_nil (w : World) : Calls Try.prog 11 #[.pointer none] w fun e w' => e = .returned (.slice none 0 0) ∧ w = w' := by
  have CG := Lib.hid gone_nil
  go_enter Try.func11, Try.ntmps11
  go_wp2_with (go_at_call 19; refine (CG.out _).mono ?_; rintro e w1 ⟨rfl, rfl⟩)
  go_ret
  exact ⟨rfl, rfl⟩
section
variable {p : RPar} {s : RSt} {T : Nat → Prop} {bs : List UInt8} {N B : Nat} {D : DataW Value} {w w' : World}
/-- The oldest record is taken. -/
def RSt.cut (s : RSt) (mx : Nat) (r : Rec) (q : List Rec) : RSt := ⟨s.m, (s.first + uses r.size) % mx, q⟩
theorem RB.cut {r : Rec} {q : List Rec} (h : RB p s T bs N D w) (hr : s.rs = r :: q) (hst : r.state ≠ 0) (k : Keeps (fun b => b = p.x) w w') (hm : Blk w' p.x mapT (liveC p ((s.first + uses r.size) % p.mx) (sumU q))) : RB p (s.cut p.mx r q) T bs N D w' where
  side := h.side.keeps' k fun b hb e => h.tx (e ▸ hb)
  tx := h.tx
  tg := h.tg
  tm := h.tm
  map := hm
  row := h.row.keeps k fun e => h.ngx e.symm
  len := h.len
  lies := by
    have := h.lies
    rw [hr] at this
    have h2 := lies_mod this.2
    rw [h.len] at h2
    exact h2
  own := ownsMap_block h.own (k.block p.mb h.own.lt fun e => h.nxm e.symm)
  dat := h.dat.same fun n => by
    show hp p.mx ((s.first + uses r.size) % p.mx) q n = hp p.mx s.first s.rs n
    rw [hr, hp_mod q ((s.first + uses r.size) % p.mx) (s.first + uses r.size) (Nat.mod_mod _ _)]
    show _ = if r.state = 0 ∧ r.n = n then some (s.first % p.mx) else hp p.mx (s.first + uses r.size) q n
    rw [if_neg (fun e => hst e.1)]
  nle := h.nle
/-- Between two rounds. -/
structure DR (p : RPar) (s : RSt) (T : Nat → Prop) (bs : List UInt8) (N : Nat) (D : DataW Value) (w : World) (V : Value) (done rest : List Rec) (f : Nat) (wr : World) : Prop where
  rs : s.rs = done ++ rest
  gone : ∀ r, r ∈ done → r.state ≠ 0
  ring : RB p ⟨s.m, f, rest⟩ T bs N D wr
  flt : f < p.mx
  f8 : f % 8 = 0
  row : Strs wr w.heap.size V (told done)
  keeps : Keeps (fun b => b = p.x ∨ w.heap.size ≤ b) w wr
theorem DR.next {V V' : Value} {done q : List Rec} {r : Rec} {f : Nat} {wr : World} (h : DR p s T bs N D w V done (r :: q) f wr) (ho : Ok p s) (hst : r.state ≠ 0) (w2 w3 : World) (h2 : RB p ⟨s.m, f, r :: q⟩ T bs N D w2) (k2 : Keeps (fun b => b = p.x ∨ w.heap.size ≤ b) w w2) (hrow : Strs w2 w.heap.size V' (told (done ++ [r])))
    (k3 : Keeps (fun b => b = p.x) w2 w3) (hx : p.x < w.heap.size) (hm : Blk w3 p.x mapT (liveC p ((f + uses r.size) % p.mx) (sumU q))) : DR p s T bs N D w V' (done ++ [r]) q ((f + uses r.size) % p.mx) w3 where
  rs := by rw [h.rs, List.append_assoc]; rfl
  gone x hx := by
    rcases List.mem_append.1 hx with hx | hx
    · exact h.gone x hx
    · obtain rfl : x = r := by simpa using hx
      exact hst
  ring := h2.cut rfl hst k3 hm
  flt := Nat.mod_lt _ (by have := ho.m64; omega)
  f8 := by
    have h1 := Nat.mod_mod_of_dvd (f + uses r.size) (Nat.dvd_of_mod_eq_zero ho.dv)
    have h2 := h.f8
    have h3 := uses_dvd r.size
    omega
  row := ownsRow_keeps hrow k3 fun b hb => by subst hb; exact hx
  keeps := k2.trans (k3.mono fun b hb => .inl (.inl hb))
theorem DR.grow {V : Value} {done rest : List Rec} {f : Nat} {wr W : World} (h : DR p s T bs N D w V done rest f wr) (hb : Below wr.heap.size wr W) (hw : w.heap.size ≤ wr.heap.size) : DR p s T bs N D w V done rest f W :=
  ⟨h.rs, h.gone, h.ring.below hb, h.flt, h.f8, ownsRow_keeps h.row (keeps_grow hb) (fun _ h => h.elim), h.keeps.trans ((keeps_grow hb).mono fun _ h => h.elim)⟩
/-- The oldest record's head was read, into block h. -/
structure NY (p : RPar) (s : RSt) (T : Nat → Prop) (bs : List UInt8) (N : Nat) (D : DataW Value) (w : World) (V : Value) (done : List Rec) (r : Rec) (q : List Rec) (f : Nat) (wr W : World) (h : Nat) : Prop where
  dr : DR p s T bs N D w V done (r :: q) f W
  blk : Blk W h headT #[.int .i64 r.size, .int .i64 r.state]
  ge : w.heap.size ≤ h
  lt : h < W.heap.size
theorem ny1 {V : Value} {done q : List Rec} {r : Rec} {f : Nat} {wr w1 : World} (h : DR p s T bs N D w V done (r :: q) f wr) (hw : w.heap.size ≤ wr.heap.size) (hb : Below wr.heap.size wr w1) : NY p s T bs N D w V done r q f wr (w1.alloc (.cells #[.int .i64 r.size, .int .i64 r.state] headT)) w1.heap.size := by
  have b2 := below_then hb (below_alloc w1 (.cells #[.int .i64 r.size, .int .i64 r.state] headT))
  refine ⟨h.grow b2 hw, Blk.new w1 _ _, Nat.le_trans hw hb.size, ?_⟩
  simp
theorem ny2 {V : Value} {done q : List Rec} {r : Rec} {f : Nat} {wr w1 : World} (h : DR p s T bs N D w V done (r :: q) f wr) (hw : w.heap.size ≤ wr.heap.size) (hb : Below (wr.alloc (.cells #[.int .i64 0, .int .i64 0] headT)).drew.heap.size (wr.alloc (.cells #[.int .i64 0, .int .i64 0] headT)).drew w1) :
    NY p s T bs N D w V done r q f wr ((w1.setCell ⟨wr.heap.size, 0, none⟩ (.int .i64 r.size)).setCell ⟨wr.heap.size, 1, none⟩ (.int .i64 r.state)) wr.heap.size := by
  have hb' : Below (wr.alloc (.cells #[.int .i64 0, .int .i64 0] headT)).heap.size (wr.alloc (.cells #[.int .i64 0, .int .i64 0] headT)) w1 := ⟨hb.os, hb.tape, hb.output, hb.size, hb.block⟩
  have b1 := below_then (below_alloc wr (.cells #[.int .i64 0, .int .i64 0] headT)) hb'
  have b2 := (b1.setCell (p := ⟨wr.heap.size, 0, none⟩) (Nat.le_refl _) (.int .i64 r.size)).setCell (p := ⟨wr.heap.size, 1, none⟩) (Nat.le_refl _) (.int .i64 r.state)
  have hk : Blk w1 wr.heap.size headT #[.int .i64 0, .int .i64 0] := blk_below (Blk.new wr _ _) hb'
  have h2 := (hk.set_ 0 (.int .i64 r.size)).set_ 1 (.int .i64 r.state)
  refine ⟨h.grow b2 hw, by simpa using h2, hw, ?_⟩
  exact h2.lt
/-- .. and what was submitted with it is told. -/
structure NZ (p : RPar) (s : RSt) (T : Nat → Prop) (bs : List UInt8) (N : Nat) (D : DataW Value) (w : World) (V : Value) (done : List Rec) (r : Rec) (q : List Rec) (f : Nat) (W : World) (h : Nat) : Prop where
  ring : RB p ⟨s.m, f, r :: q⟩ T bs N D W
  row : Strs W w.heap.size V (told (done ++ [r]))
  keeps : Keeps (fun b => b = p.x ∨ w.heap.size ≤ b) w W
  blk : Blk W h headT #[.int .i64 r.size, .int .i64 r.state]
  ge : w.heap.size ≤ h
theorem NY.silent {V : Value} {done q : List Rec} {r : Rec} {f h : Nat} {wr W : World} (y : NY p s T bs N D w V done r q f wr W h) (hs : r.state ≠ 1) : NZ p s T bs N D w V done r q f W h :=
  ⟨y.dr.ring, by rw [told_snoc, if_neg hs]; exact y.dr.row, y.dr.keeps, y.blk, y.ge⟩
/-- A text is appended to what was told. -/
theorem NY.told_ {V : Value} {done q : List Rec} {r : Rec} {f h : Nat} {wr W W1 : World} (y : NY p s T bs N D w V done r q f wr W h) (hs : r.state = 1) (hb : Below W.heap.size W W1) (hl : ∀ b, ownB p T b → b < w.heap.size) (hm : done.length ≤ 65536) :
    ∃ V' W2, (∀ ty, (Builtin.append_ #[strsT, strsT] ty #[V, .slice (some ⟨W1.heap.size, 0, none⟩) 1 1]).run Try.prog (W1.alloc (.cells #[.string (bstr r.text)] strT)) = .ok V' W2) ∧ NZ p s T bs N D w V' done r q f W2 h := by
  have hw := y.dr.keeps.size
  have hrow : Strs W1 w.heap.size V (told done) := ownsRow_keeps y.dr.row (keeps_grow hb) (fun _ h => h.elim)
  obtain ⟨V', W2, h1, h2, h3, _⟩ := append_one (bstr r.text) (Nat.le_trans hw hb.size) hrow (Nat.le_trans (told_le done) hm)
  refine ⟨V', W2, h1, (y.dr.ring.below hb).keeps h3 (fun b hb' e => ?_), by rw [told_snoc, if_pos hs]; exact h2, ?_, (blk_below y.blk hb).keeps h3 (fun e => ?_), y.ge⟩
  · have := hl b hb'
    have := (strs_own hrow e).1
    omega
  · exact (y.dr.keeps.trans ((keeps_grow hb).mono fun _ h => h.elim)).trans (h3.mono fun b e => .inl (.inr (strs_own hrow e).1))
  · obtain ⟨_, cs, hc⟩ := strs_own hrow e
    exact Blk.ne_ (blk_below y.blk hb) hc (by decide) rfl
end
end Go.Proofs.Ytdihlmhipkcedaa
