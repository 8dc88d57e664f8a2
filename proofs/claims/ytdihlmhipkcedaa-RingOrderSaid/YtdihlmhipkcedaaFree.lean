/-
  Free of a region that was not retired.
-/
import Derived.Test.YtdihlmhipkcedaaPut
import Derived.Outline
namespace Go.Proofs.Ytdihlmhipkcedaa
open Go Go.RowKit Go.Maps
set_option linter.unusedVariables false
section
variable {w w1 w2 : World} {S : Nat → Prop} {bm made fail : Nat} {st : Nat → Option RG} {rl : List Nat} {mv rv : Value}
theorem turned_grown {w w' : World} {b : Nat} (h : w.mapTurned w' b) : w.grownBy w' (some b) := h.grown
set_option maxRecDepth 100000 in
theorem free_ok (h : KM w S bm made fail st rl mv rv) (n : Nat) {r : RG} (hs : st n = some r) (hret : r.ret = false) :
    Calls Try.prog 31 #[.pointer (some ⟨bm, 0, none⟩), .int .u64 (addr n 0)] w fun e w' => e = .returned (.int .i64 0) ∧ KM w' (more S w w') bm made fail (upd st n none) rl mv rv ∧ Keeps S w w' := by
  obtain ⟨h0, hm⟩ := h.range n r hs
  have hle := h.made_le
  have hn : n ≤ 4294967295 := by omega
  have c := beginsAt_at h n hn
  rw [hs] at c
  change Calls _ _ _ _ (fun e w' => e = Ending.returned (Value.pointer (some ⟨r.blk, 0, none⟩)) ∧ w = w') at c
  have cs := split_any n 0 hn (by omega) w
  have d3 : w.cell? ⟨r.blk, 3, none⟩ = some (.bool r.ret) := (h.regs n r hs).head.cell 3
  rw [hret] at d3
  have hrl := (h.regs n r hs).head.lt
  have hbl := h.mem.lt
  obtain ⟨b, D, rfl, hSb, ho, hmo⟩ : ∃ b D, mv = .map (some b) ∧ S b ∧ w.ownsMap Try.prog 48 heldV b made D ∧ MapOf D st := by
    rcases h.map with ⟨_, h1⟩ | h1
    · rw [h1 n] at hs; cases hs
    · exact h1
  have c0 : w.cell? ⟨bm, 0, none⟩ = some (.map (some b)) := h.mem.cell 0
  obtain ⟨w2, hrun, hown, hturn⟩ := ((ho.alloc (.cells #[.int .u32 (n : Int)] 48)).drew).drop law32 Try.underlying47 (key32 hn) 0
  have hrun' : ∀ ty, (Builtin.delete_ #[47, 48] ty #[.map (some b), .int .u32 (n : Int)]).run Try.prog (w.alloc (.cells #[.int .u32 (n : Int)] 48)).drew = .ok (.tuple #[]) w2 := fun ty => hrun
  have hbs : b < w.heap.size := ho.lt
  have kk : Keeps (fun x => x = b) w w2 := ((Keeps.refl _ w).alloc (.cells #[.int .u32 (n : Int)] 48)).drew.grown hturn.grown (fun k e => .inl (by simpa using e.symm))
  have H := Lib.hid (h.delmap hs hret rfl kk hown (hmo.del n))
  have E0 : w2.cell? ⟨bm, 0, none⟩ = some (.map (some b)) := H.out.1.mem.cell 0
  have E6 : w2.cell? ⟨w.heap.size, 0, none⟩ = some (.int .u32 (n : Int)) := Blk.cell (t := 48) (cs := #[.int .u32 (n : Int)]) ((hturn.grown.block w.heap.size (by simp) (by simp; omega)).trans (Blk.new w _ _)) 0
  clear h hs hret ho hown hturn hmo kk hrun
  generalize r.blk = rb at c d3 hrl
  generalize addr n 0 = a at *
  have hne : bm ≠ w.heap.size := by omega
  have hne2 : rb ≠ w.heap.size := by omega
  go_enter Try.func31, Try.ntmps31
  go_wp2_with (first
    | (go_at_call 40; refine c.mono ?_; rintro e w' ⟨rfl, rfl⟩)
    | (go_at_call 36; refine cs.mono ?_; rintro e w' ⟨rfl, rfl⟩))
  go_region_held3 (fun w' => w'.cell? ⟨bm, 0, none⟩ = some (.map (some b)) ∧ w'.cell? ⟨w.heap.size, 0, none⟩ = some (.int .u32 (n : Int)))
    (first | go_keep | exact ⟨E0, E6⟩)
    (fail)
  go_wp2
  go_ret
  exact ⟨rfl, H.out⟩
end
end Go.Proofs.Ytdihlmhipkcedaa
