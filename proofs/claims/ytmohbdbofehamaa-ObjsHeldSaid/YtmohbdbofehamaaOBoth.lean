/-
  Layer 14: both tables; one table in a world of its own; New; awake.
-/
import Derived.Test.YtmohbdbofehamaaYLive
namespace Go.Proofs.Ytmohbdbofehamaa
open Go Go.RowKit Go.Maps OSt
set_option linter.unusedVariables false
set_option linter.unusedSimpArgs false
set_option maxRecDepth 100000
def newO : OSt := ⟨[], List.replicate 64 0, [], 0⟩
theorem newO_ok (n : Nat) : OOk n newO where
  len := by simp [newO]
  fd id h h0 := by simp [newO] at h; exact absurd h h0
  pin q h := by simp [newO] at h
  nd i j a b h := by simp [newO] at h
  psz q h := by simp [newO] at h
  os := Nat.zero_le _
  hl id := by unfold holdsOf obj newO; split <;> simp
  pl := Nat.zero_le _
  pm := Nat.zero_le _
theorem newO_none (id : Nat) : ¬ newO.isThere id := by
  rintro ⟨o, h, _⟩
  unfold obj newO at h
  split at h
  · cases h
  · simp at h
/-- A new table of the program's. -/
theorem pr_new (w : World) : PR w.heap.size newO (fun b => b = w.heap.size) (w.alloc (.cells (tabC none 0 newO.fds none) tabT)) := by
  refine ⟨none, none, .map [], .map [], fun _ => 0, Keeps.refl _ _, fun b hb => (by rw [hb]; simp), rfl, Blk.new _ _ _, .inl ⟨rfl, rfl⟩, .inl ⟨rfl, rfl⟩, fun b hb => (by cases hb), fun b hb => (by cases hb), fun b hb => (by cases hb), ⟨fun id hid => absurd hid (newO_none id), fun n _ => rfl⟩, ⟨fun q hq => (by simp [newO] at hq), fun p _ => rfl⟩, fun id hid => absurd hid (newO_none id), fun id hid => absurd hid (newO_none id), fun i j hi => absurd hi (newO_none i)⟩
/-- .. of the reference's. -/
theorem yr_new (w : World) : YR w.heap.size newO (fun b => b = w.heap.size) (w.alloc (.cells (refC (.slice none 0 0) newO.fds (.slice none 0 0)) refT)) :=
  ⟨.slice none 0 0, .slice none 0 0, Keeps.refl _ _, fun b hb => (by rw [hb]; simp), rfl, Blk.new _ _ _, World.ownsRow_nil _ _ _ _, World.ownsRow_nil _ _ _ _, fun g hg => (by cases hg), fun g hg => (by cases hg)⟩
theorem new_any (w : World) : Calls Try.prog 7 #[] w fun e w' => e = .returned (tp w.heap.size) ∧ w' = w.alloc (.cells (tabC none 0 newO.fds none) tabT) := by
  go_enter Try.func7, Try.ntmps7
  go_wp2_with fail
  go_ret
  exact ⟨rfl, rfl⟩
/-- One table of the program's, in blocks from B on. -/
def TO (B : Nat) (w0 : World) (x : Nat) (s : OSt) (w : World) : Prop := ∃ P, PR x s P w ∧ (∀ b, P b → B ≤ b) ∧ Below B w0 w ∧ B ≤ w.heap.size
section
variable {B x y : Nat} {w0 w w' : World} {s s' sx sy : OSt} {f : FuncId} {args : Array Value} {Φ : Ending → World → Prop}
theorem TO.call (h : TO B w0 x s w) (c : ∀ P, TG x w P s w → Calls Try.prog f args w fun e w' => Φ e w' ∧ TG x w P s' w') : Calls Try.prog f args w fun e w' => Φ e w' ∧ TO B w0 x s' w' := by
  obtain ⟨P, h1, h2, h3, h4⟩ := h
  refine (c P h1).mono ?_
  rintro e w' ⟨hf, hg⟩
  obtain ⟨hk, kk⟩ := hg.done
  refine ⟨hf, _, hk, ?_, h3.trans (kk.below h2 h4), Nat.le_trans h4 kk.size⟩
  rintro b (hb | ⟨hb, _⟩)
  · exact h2 b hb
  · omega
theorem TO.quiet (h : TO B w0 x s w) (k : Keeps (fun _ => False) w w') : TO B w0 x s w' := by
  obtain ⟨P, h1, h2, h3, h4⟩ := h
  exact ⟨P, h1.keeps k (fun _ _ h => h), h2, h3.trans (k.below (fun _ h => h.elim) h4), Nat.le_trans h4 k.size⟩
theorem TO.below (h : TO B w0 x s w) : Below B w0 w := by obtain ⟨P, h1, h2, h3, h4⟩ := h; exact h3
theorem TO.sz (h : TO B w0 x s w) : B ≤ w.heap.size := by obtain ⟨P, h1, h2, h3, h4⟩ := h; exact h4
theorem TO.new (w : World) : TO w.heap.size w w.heap.size newO (w.alloc (.cells (tabC none 0 newO.fds none) tabT)) := ⟨_, pr_new w, fun b hb => (by rw [hb]; exact Nat.le_refl _), (Below.refl _ w).alloc (Nat.le_refl _) _, by simp⟩
theorem TO.live {n : Nat} (h : TO B w0 x s w) (ho : OOk n s) (hn : n ≤ 100000) : Calls Try.prog 10 #[tp x] w fun e w' => ∃ A c, e = .returned (.slice A (liveS s).length c) ∧ RowI w.heap.size w' A (liveS s) ∧ TO B w0 x s w' := by
  obtain ⟨P, h1, h2, h3, h4⟩ := h
  refine (live_any h1 ho hn).mono ?_
  rintro e w' ⟨A, c, rfl, hr, hb⟩
  exact ⟨A, c, rfl, hr, TO.quiet ⟨P, h1, h2, h3, h4⟩ (keeps_below hb)⟩
/-- A row of numbers is none of the table's. -/
theorem PR.less {P : Nat → Prop} {g : Nat} {cs : Array Value} (h : PR x s P w) (hg : Blk w g intT cs) : PR x s (fun b => P b ∧ b ≠ g) w := by
  obtain ⟨mo, mp, D, E, bl, h⟩ := h
  have old : ∀ b, b < w.heap.size → P b ∨ w.heap.size ≤ b → P b := fun b hb h1 => h1.resolve_right (by omega)
  exact ⟨mo, mp, D, E, bl, Keeps.refl _ _, fun b hb => h.pl b hb.1, ⟨h.px, h.tab.ne_ hg (by decide)⟩, h.tab, h.obs, h.pth, fun b hb => .inl ⟨old b (h.obs.lt hb) (h.pmo b hb), fun e => h.obs.ne_ hg hb e.symm⟩, fun b hb => .inl ⟨old b (h.pth.lt hb) (h.pmp b hb), fun e => h.pth.ne_ hg hb e.symm⟩, h.two, h.dat, h.pat, h.ent, fun id hid => .inl ⟨old _ (h.ent id hid).lt (h.pent id hid), (h.ent id hid).ne_ hg (by decide)⟩, h.inj⟩
theorem TO.callK {g : Nat} {cs : Array Value} (h : TO B w0 x s w) (hg : Blk w g intT cs) (c : ∀ P, TG x w P s w → Calls Try.prog f args w fun e w' => Φ e w' ∧ TG x w P s' w') : Calls Try.prog f args w fun e w' => Φ e w' ∧ TO B w0 x s' w' ∧ Blk w' g intT cs := by
  obtain ⟨P, h1, h2, h3, h4⟩ := h
  refine (c _ (h1.less hg)).mono ?_
  rintro e w' ⟨hf, hg'⟩
  obtain ⟨hk, kk⟩ := hg'.done
  refine ⟨hf, ⟨_, hk, ?_, h3.trans (kk.below (fun b hb => h2 b hb.1) h4), Nat.le_trans h4 kk.size⟩, hg.keeps kk (fun hb => hb.2 rfl)⟩
  rintro b (hb | ⟨hb, _⟩)
  · exact h2 b hb.1
  · omega
/-- Both tables, in blocks of their own. -/
def BothO (B : Nat) (w0 : World) (x y : Nat) (sx sy : OSt) (w : World) : Prop := ∃ P Q, PR x sx P w ∧ YR y sy Q w ∧ (∀ b, P b → ¬ Q b) ∧ (∀ b, P b → B ≤ b) ∧ (∀ b, Q b → B ≤ b) ∧ Below B w0 w ∧ B ≤ w.heap.size
theorem BothO.quiet (h : BothO B w0 x y sx sy w) (k : Keeps (fun _ => False) w w') : BothO B w0 x y sx sy w' := by
  obtain ⟨P, Q, h1, h2, h3, h4, h5, h6, h7⟩ := h
  exact ⟨P, Q, h1.keeps k (fun _ _ h => h), h2.keeps k (fun _ _ h => h), h3, h4, h5, h6.trans (k.below (fun _ h => h.elim) h7), Nat.le_trans h7 k.size⟩
theorem BothO.drew (h : BothO B w0 x y sx sy w) : BothO B w0 x y sx sy w.drew := h.quiet (keeps_drew w)
theorem BothO.drewN (h : BothO B w0 x y sx sy w) (n : Nat) : BothO B w0 x y sx sy (w.drewN n) := h.quiet (keeps_drewN w n)
theorem BothO.below (h : BothO B w0 x y sx sy w) : Below B w0 w := by obtain ⟨P, Q, _, _, _, _, _, h, _⟩ := h; exact h
theorem BothO.sz (h : BothO B w0 x y sx sy w) : B ≤ w.heap.size := by obtain ⟨P, Q, _, _, _, _, _, _, h⟩ := h; exact h
/-- .. where the program's blocks lie below KP, the reference's below KQ. -/
def BothK (B : Nat) (w0 : World) (x y KP KQ : Nat) (sx sy : OSt) (w : World) : Prop := ∃ P Q, PR x sx P w ∧ YR y sy Q w ∧ (∀ b, P b → ¬ Q b) ∧ (∀ b, P b → B ≤ b) ∧ (∀ b, Q b → B ≤ b) ∧ Below B w0 w ∧ B ≤ w.heap.size ∧ (∀ b, P b → b < KP) ∧ ∀ b, Q b → b < KQ
theorem BothO.start (h : BothO B w0 x y sx sy w) : BothK B w0 x y w.heap.size w.heap.size sx sy w := by
  obtain ⟨P, Q, h1, h2, h3, h4, h5, h6, h7⟩ := h
  exact ⟨P, Q, h1, h2, h3, h4, h5, h6, h7, h1.lt, h2.lt⟩
theorem BothK.done {KP KQ : Nat} (h : BothK B w0 x y KP KQ sx sy w) : BothO B w0 x y sx sy w := by
  obtain ⟨P, Q, h1, h2, h3, h4, h5, h6, h7, h8, h9⟩ := h
  exact ⟨P, Q, h1, h2, h3, h4, h5, h6, h7⟩
theorem BothK.quiet {KP KQ : Nat} (h : BothK B w0 x y KP KQ sx sy w) (k : Keeps (fun _ => False) w w') : BothK B w0 x y KP KQ sx sy w' := by
  obtain ⟨P, Q, h1, h2, h3, h4, h5, h6, h7, h8⟩ := h
  exact ⟨P, Q, h1.keeps k (fun _ _ h => h), h2.keeps k (fun _ _ h => h), h3, h4, h5, h6.trans (k.below (fun _ h => h.elim) h7), Nat.le_trans h7 k.size, h8⟩
theorem BothK.drew {KP KQ : Nat} (h : BothK B w0 x y KP KQ sx sy w) : BothK B w0 x y KP KQ sx sy w.drew := h.quiet (keeps_drew w)
/-- A call of the program's. -/
theorem BothK.fcall {KP KQ : Nat} (h : BothK B w0 x y KP KQ s sy w) (c : ∀ P, TG x w P s w → Calls Try.prog f args w fun e w' => Φ e w' ∧ TG x w P s' w') : Calls Try.prog f args w fun e w' => Φ e w' ∧ BothK B w0 x y w'.heap.size KQ s' sy w' ∧ (∀ D t cs, KP ≤ D → Blk w D t cs → Blk w' D t cs) := by
  obtain ⟨P, Q, h1, h2, h3, h4, h5, h6, h7, h8, h9⟩ := h
  refine (c P h1).mono ?_
  rintro e w' ⟨hf, hg⟩
  obtain ⟨hk, kk⟩ := hg.done
  refine ⟨hf, ⟨_, Q, hk, h2.keeps kk (fun b hb hs => h3 b hs hb), ?_, ?_, h5, h6.trans (kk.below h4 h7), Nat.le_trans h7 kk.size, hk.lt, h9⟩, fun D t cs hD hB => hB.keeps kk fun hp => by have := h8 D hp; omega⟩
  · rintro b (hs | ⟨hs, _⟩) ht
    · exact h3 b hs ht
    · have := h2.lt b ht; omega
  · rintro b (hs | ⟨hs, _⟩)
    · exact h4 b hs
    · omega
/-- A call of the reference's: rows from KQ on stay. -/
theorem BothK.gcall {KP KQ : Nat} (h : BothK B w0 x y KP KQ sx s w) (c : ∀ Q, YG y w Q s w → Calls Try.prog f args w fun e w' => Φ e w' ∧ YG y w Q s' w') : Calls Try.prog f args w fun e w' => Φ e w' ∧ BothK B w0 x y KP w'.heap.size sx s' w' ∧ (∀ D t cs, KQ ≤ D → Blk w D t cs → Blk w' D t cs) ∧ ∀ A L, RowI KQ w A L → RowI KQ w' A L := by
  obtain ⟨P, Q, h1, h2, h3, h4, h5, h6, h7, h8, h9⟩ := h
  refine (c Q h2).mono ?_
  rintro e w' ⟨hf, hg⟩
  obtain ⟨hk, kk⟩ := hg.done
  refine ⟨hf, ⟨P, _, h1.keeps kk (fun b hb hs => h3 b hb hs), hk, ?_, h4, ?_, h6.trans (kk.below h5 h7), Nat.le_trans h7 kk.size, h8, hk.lt⟩, fun D t cs hD hB => hB.keeps kk fun hp => by have := h9 D hp; omega, fun A L hr => hr.keeps kk fun g hg _ hq => by have := h9 g hq; omega⟩
  · rintro b hs (ht | ⟨ht, _⟩)
    · exact h3 b hs ht
    · have := h1.lt b hs; omega
  · rintro b (hs | ⟨hs, _⟩)
    · exact h5 b hs
    · omega
theorem BothO.live {n : Nat} (h : BothO B w0 x y s sy w) (ho : OOk n s) (hn : n ≤ 100000) : Calls Try.prog 10 #[tp x] w fun e w' => ∃ A c, e = .returned (.slice A (liveS s).length c) ∧ RowI w.heap.size w' A (liveS s) ∧ BothO B w0 x y s sy w' := by
  have hh := h
  obtain ⟨P, Q, h1, h2, h3, h4, h5, h6, h7⟩ := h
  refine (live_any h1 ho hn).mono ?_
  rintro e w' ⟨A, c, rfl, hr, hb⟩
  exact ⟨A, c, rfl, hr, hh.quiet (keeps_below hb)⟩
theorem BothO.xlive {n : Nat} (h : BothO B w0 x y sx s w) (ho : OOk n s) (hn : n ≤ 100000) : Calls Try.prog 11 #[tp y] w fun e w' => ∃ A c, e = .returned (.slice A (liveS s).length c) ∧ RowI w.heap.size w' A (liveS s) ∧ BothO B w0 x y sx s w' ∧ Below w.heap.size w w' := by
  have hh := h
  obtain ⟨P, Q, h1, h2, h3, h4, h5, h6, h7⟩ := h
  refine (xlive_any h2 (Nat.le_trans ho.os hn)).mono ?_
  rintro e w' ⟨A, c, rfl, hr, hb⟩
  exact ⟨A, c, rfl, hr, hh.quiet (keeps_below hb), hb⟩
end
end Go.Proofs.Ytmohbdbofehamaa
