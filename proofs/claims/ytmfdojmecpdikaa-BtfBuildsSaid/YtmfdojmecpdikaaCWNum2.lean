/-
  Layer 6, the reference: its writer's numbers, laid.
-/
import Derived.Test.YtmfdojmecpdikaaCWNum
import Derived.Test.YtmfdojmecpdikaaBNext0
namespace Go.Proofs.Ytmfdojmecpdikaa
open Go Go.RowKit Go.Maps Go.Lib
set_option linter.unusedVariables false
set_option linter.unusedSimpArgs false
set_option maxRecDepth 100000
def PostWN (w : World) (g base : Nat) (n0 a0 t0 bv : Value) (l : List UInt8) (e : Ending) (w' : World) : Prop :=
  e = .returned (.tuple #[]) ∧ ∃ bv', Blk w' g 47 #[n0, a0, t0, bv'] ∧ w'.ownsRow base 5 1 bv' l.length (l.map byteV) ∧ newPlace w bv bv' ∧ Keeps (fun b => b = g ∨ bv.ownBlock = some b) w w'
theorem below_of_drew {w w1 : World} (h : Below w.drew.heap.size w.drew w1) : Below w.heap.size w w1 := ⟨h.os, h.tape, h.output, h.size, h.block⟩
theorem row_ne_blk {w : World} {base g : Nat} {e t : TypeId} {s : Nat} {v : Value} {n : Nat} {xs : List Value} {cs : Array Value} (h : w.ownsRow base e s v n xs) (hb : Blk w g t cs) (hne : t ≠ e) (b : Nat) (hx : v.ownBlock = some b) : b ≠ g := by
  rintro rfl
  obtain ⟨_, cur, hc⟩ := row_tag h b hx
  exact hb.ne_ (show Blk w b e cur from hc) hne rfl
theorem own_far {w w' : World} {base g : Nat} {e t : TypeId} {s : Nat} {v : Value} {n : Nat} {xs : List Value} {cs : Array Value} (h : w.ownsRow base e s v n xs) (hk : Keeps (· = g) w w') (hb : Blk w g t cs) (hne : t ≠ e) : w'.ownsRow base e s v n xs := by
  have hx := row_ne_blk h hb hne
  have ht := row_tag h
  refine ⟨h.1, ?_⟩
  rcases h.2 with hn | ⟨x, cap, cur, rfl, h1, h2, rest⟩
  · exact .inl hn
  · have hlt : x < w.heap.size := (show Blk w x e cur from h2).lt
    exact .inr ⟨x, cap, cur, rfl, h1, (hk.block x hlt (hx x rfl)).trans h2, rest⟩
theorem wnum_append {w w1 : World} {g base : Nat} {n0 a0 t0 bv : Value} {l : List UInt8} (hb : Blk w g 47 #[n0, a0, t0, bv]) (hr : w.ownsRow base 5 1 bv l.length (l.map byteV)) (hg : base ≤ g) (hbase : base ≤ w.heap.size)
    (n : Int) (hl : l.length + 4 ≤ 140737488355328) (h1 : Below w.heap.size w w1) :
    ∃ A N c w2, (Builtin.append_ #[45, 9] 45 #[bv, .string (bstr (le4 n))]).run Try.prog w1 = .ok (.slice A N c) w2 ∧ Blk w2 g 47 #[n0, a0, t0, bv] ∧
      PostWN w g base n0 a0 t0 bv (l ++ le4 n) (.returned (.tuple #[])) (w2.setCell ⟨g, 3, none⟩ (.slice A N c)) := by
  have hs1 := h1.size
  obtain ⟨v2, w2, hrun, ho2, hg2, hp2⟩ := run_append_t (ownsRow_below hr h1) 45 (bstr (le4 n)) (by rw [bstr_size]; exact hl) (by omega) (by rw [bstr_size, le4_length]; decide)
  rw [bstr_data] at ho2
  have hne : ∀ b, bv.ownBlock = some b → base ≤ b ∧ ∃ cur, w.heap[b]? = some (.cells cur 5 (0, 0)) := fun b e => row_tag hr b e
  have hb2 : Blk w2 g 47 #[n0, a0, t0, bv] := (hg2.block g (hb.below_ h1).lt (fun e => by obtain ⟨_, cur, hc⟩ := hne g e.symm; exact hb.ne_ (show Blk w g 5 cur from hc) (by decide) rfl)).trans (hb.below_ h1)
  obtain ⟨A, c, rfl, _⟩ := own_form_any ho2
  refine ⟨A, _, c, w2, hrun, hb2, rfl, _, by simpa using hb2.set_ 3 _, own_far ho2 (keeps_set w2 g 3 _) hb2 (by decide), ?_, ?_⟩
  · exact hp2.imp id fun e => ⟨_, e, h1.size⟩
  · have hk : Keeps (fun b => b = g ∨ bv.ownBlock = some b) w w2 := ⟨hg2.os.trans h1.os, hg2.tape.trans h1.tape, hg2.output.trans h1.output, Nat.le_trans h1.size hg2.size, fun b hb hS => (hg2.block b (Nat.lt_of_lt_of_le hb h1.size) (fun e => hS (.inr e.symm))).trans (h1.block b hb)⟩
    exact hk.setCell (p := ⟨g, 3, none⟩) (.inl (.inl rfl)) _
set_option maxHeartbeats 2000000 in
theorem wnum_any {w : World} {g base : Nat} {n0 a0 t0 bv : Value} {l : List UInt8} (hb : Blk w g 47 #[n0, a0, t0, bv]) (hr : w.ownsRow base 5 1 bv l.length (l.map byteV)) (hg : base ≤ g) (hbase : base ≤ w.heap.size)
    (n : Int) (hl : l.length + 4 ≤ 140737488355328) :
    Calls Try.prog 17 #[.pointer (some ⟨g, 0, none⟩), .int .i64 n] w (PostWN w g base n0 a0 t0 bv (l ++ le4 n)) := by
  have c3 : w.cell? ⟨g, 3, none⟩ = some bv := hb.cell 3
  have HB := Lib.hid hb
  have HR := Lib.hid hr
  have HG := Lib.hid hg
  have HBS := Lib.hid hbase
  have HL := Lib.hid hl
  have CL := Lib.hid (fun w => le_any n w)
  clear hb hr hg hbase hl
  go_enter Try.func17, Try.ntmps17
  go_upto_region 0 with fail
  have WA := Lib.hid (fun w1 => wnum_append (w1 := w1) HB.out HR.out HG.out HBS.out n HL.out)
  go_region_law (first
    | (go_simp; go_at_call 18; refine (CL.out _).mono ?_; rintro e w1 ⟨rfl, hb1⟩; obtain ⟨A2, N2, k2, w2, hrun, hbk, hpost⟩ := WA.out w1 (below_of_drew hb1); have HRUN := Lib.hid hrun; have HPOST := Lib.hid hpost; have f32 : w2.frozen? ⟨g, 3, none⟩ = false := hbk.frozen 3; have c32 : w2.cell? ⟨g, 3, none⟩ = some bv := hbk.cell 3; have c31 : w1.cell? ⟨g, 3, none⟩ = some bv := (HB.out.below_ (below_of_drew hb1)).cell 3; clear hrun hpost hbk hb1)
    | (refine step_append_runT (by rfl) (.tmp 8) (.tmp 11) 45 9 (by rfl) bv (.string (bstr (le4 n))) (.slice A2 N2 k2) w2 (by rfl) (by rfl) 45 (by rfl) HRUN.out ?_))
  all_goals
    go_end0
    exact HPOST.out
end Go.Proofs.Ytmfdojmecpdikaa
