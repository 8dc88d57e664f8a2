/-
  Package trie: a tree as it lies in the heap. Package trie: the longest entry that matches, and the entry of a prefix. Package trie: the longest entry that matches, the entry of a prefix: whole. Package trie: what stands in a node's place; a node above another.
-/
import Derived.Test.YtomhflaofipccaaP21
import Derived.Deep.RegionHeld3
import Derived.Deep.RegionLaw
import Derived.Laws.EntriesVeiled
namespace Go.Proofs.Ytomhflaofipccaa
open Go Go.RowKit Go.Maps
set_option linter.unusedVariables false
set_option linter.unusedSimpArgs false
set_option maxRecDepth 100000
abbrev tp (b : Nat) : Value := .pointer (some ⟨b, 0, none⟩)
abbrev nodeT : TypeId := 71
abbrev preT : TypeId := 64
abbrev nptrT : TypeId := 58
abbrev nodeC (f : ByteArray) (len n : Nat) (vl vr : Value) : Array Value := #[.string f, .int .i64 len, .int .u64 (addr n 0), vl, vr]
abbrev preV (f : ByteArray) (len : Nat) : Value := .agg #[.string f, .int .i64 len]
abbrev preC (f : ByteArray) (len : Nat) : Array Value := #[.string f, .int .i64 len]
def Tr.ptr : Tr → Value
  | .nil => .pointer none
  | .node b _ _ _ _ _ => tp b
def Tr.At (w : World) : Tr → Prop
  | .nil => True
  | .node b f len n l r => Blk w b nodeT (nodeC f len n l.ptr r.ptr) ∧ l.At w ∧ r.At w
theorem Blk.drewN {w : World} {g : Nat} {t : TypeId} {cs : Array Value} (h : Blk w g t cs) (n : Nat) : Blk (w.drewN n) g t cs := h
theorem Blk.drew {w : World} {g : Nat} {t : TypeId} {cs : Array Value} (h : Blk w g t cs) : Blk w.drew g t cs := h
theorem Keeps.undrew {S : Nat → Prop} {w w' : World} (h : Keeps S w.drew w') : Keeps S w w' := ⟨h.os, h.tape, h.output, h.size, h.block⟩
theorem Keeps.undrewN {S : Nat → Prop} {w w' : World} {n : Nat} (h : Keeps S (w.drewN n) w') : Keeps S w w' := ⟨h.os, h.tape, h.output, h.size, h.block⟩
theorem Blk.quiet {w w' : World} {g : Nat} {t : TypeId} {cs : Array Value} (h : Blk w g t cs) (k : Qt w w') : Blk w' g t cs := h.keeps k fun h => h
theorem Keeps.then_ {S : Nat → Prop} {a b c : World} (h : Keeps S a b) (k : Keeps S b c) : Keeps S a c := h.trans (k.mono fun _ h => .inl h)
theorem Keeps.qt {S : Nat → Prop} {w w' : World} (h : Qt w w') : Keeps S w w' := h.mono fun _ h => h.elim
theorem Tr.At.keeps {S : Nat → Prop} {w w' : World} : ∀ {t : Tr}, t.At w → Keeps S w w' → (∀ b, b ∈ t.blocks → ¬ S b) → t.At w'
  | .nil, _, _, _ => trivial
  | .node b f len n l r, h, k, hs => by
    have me : ∀ x, x ∈ (Tr.node b f len n l r).blocks ↔ x = b ∨ x ∈ l.blocks ∨ x ∈ r.blocks := fun x => by
      show x ∈ b :: (l.blocks ++ r.blocks) ↔ _
      simp
    exact ⟨h.1.keeps k (hs b ((me b).2 (.inl rfl))), Tr.At.keeps h.2.1 k (fun x hx => hs x ((me x).2 (.inr (.inl hx)))), Tr.At.keeps h.2.2 k (fun x hx => hs x ((me x).2 (.inr (.inr hx))))⟩
theorem Tr.At.blk {w : World} : ∀ {t : Tr} {b : Nat}, t.At w → b ∈ t.blocks → ∃ cs, Blk w b nodeT cs
  | .nil, b, _, h => by simp [Tr.blocks] at h
  | .node b' f len n l r, b, h, hb => by
    have : b = b' ∨ b ∈ l.blocks ∨ b ∈ r.blocks := by
      have : b ∈ b' :: (l.blocks ++ r.blocks) := hb
      simpa using this
    rcases this with rfl | q | q
    · exact ⟨_, h.1⟩
    · exact Tr.At.blk h.2.1 q
    · exact Tr.At.blk h.2.2 q
/-- What turns a block of another type leaves the tree. -/
theorem Tr.At.off {S : Nat → Prop} {w w' : World} {t : Tr} (h : t.At w) (k : Keeps S w w') (hs : ∀ b cs, Blk w b nodeT cs → ¬ S b) : t.At w' :=
  h.keeps k fun b hb => by
    obtain ⟨cs, hc⟩ := h.blk hb
    exact hs b cs hc
theorem Tr.At.quiet {w w' : World} {t : Tr} (h : t.At w) (k : Qt w w') : t.At w' := h.keeps k fun _ _ h => h
/-- The best so far, as it is held. -/
def bestV : Option (Nat × Ent) → Value
  | none => .pointer none
  | some (b, _) => tp b
end Go.Proofs.Ytomhflaofipccaa
namespace Go.Proofs.Ytomhflaofipccaa
open Go Go.RowKit Go.Maps
set_option linter.unusedVariables false
set_option linter.unusedSimpArgs false
set_option maxRecDepth 100000
abbrev lwT : TypeId := 86
abbrev lwV (pb bb wb : Nat) : Value := .func (.func 37) #[] #[tp pb, tp bb, tp wb]
/-- What the walk captured. -/
structure LW (w : World) (pb bb wb : Nat) (pf : ByteArray) (pl : Nat) (best : Option (Nat × Ent)) : Prop where
  p : Blk w pb preT (preC pf pl)
  b : Blk w bb nptrT #[bestV best]
  f : Blk w wb lwT #[lwV pb bb wb]
section
variable {w w' : World} {pb bb wb : Nat} {pf : ByteArray} {pl : Nat} {best : Option (Nat × Ent)}
theorem LW.keeps {S : Nat → Prop} (h : LW w pb bb wb pf pl best) (k : Keeps S w w') (h1 : ¬ S pb) (h2 : ¬ S bb) (h3 : ¬ S wb) : LW w' pb bb wb pf pl best := ⟨h.p.keeps k h1, h.b.keeps k h2, h.f.keeps k h3⟩
theorem LW.quiet (h : LW w pb bb wb pf pl best) (k : Qt w w') : LW w' pb bb wb pf pl best := h.keeps k (fun h => h) (fun h => h) (fun h => h)
def pickB (best : Option (Nat × Ent)) (b : Nat) (f : ByteArray) (n : Nat) : Option (Nat × Ent) := if n = 0 then best else some (b, ⟨f, n⟩)
theorem pickB_no {best : Option (Nat × Ent)} {b : Nat} {f : ByteArray} {n : Nat} (h : n = 0) : pickB best b f n = best := if_pos h
theorem pickB_yes {best : Option (Nat × Ent)} {b : Nat} {f : ByteArray} {n : Nat} (h : n ≠ 0) : pickB best b f n = some (b, ⟨f, n⟩) := if_neg h
def LPost (w : World) (pb bb wb : Nat) (pf : ByteArray) (pl : Nat) (best : Option (Nat × Ent)) (e : Ending) (w' : World) : Prop := e = .returned (.tuple #[]) ∧ LW w' pb bb wb pf pl best ∧ Keeps (fun b => b = bb) w w'
theorem long_nil (h : LW w pb bb wb pf pl best) (k : Nat) :
    Calls Try.prog 37 #[.pointer none, .int .i64 k, tp pb, tp bb, tp wb] w (LPost w pb bb wb pf pl best) := by
  have H := Lib.hid h
  clear h
  go_enter Try.func37, Try.ntmps37
  go_wp2_with fail
  go_quiet (fail)
  go_wp2_with fail
  go_end0
  exact ⟨rfl, H.out.quiet ((Keeps.refl _ w).drewN' _), (Keeps.refl _ w).drewN' _⟩
theorem long_off {b : Nat} {f : ByteArray} {len n : Nat} {vl vr : Value} (h : LW w pb bb wb pf pl best) (hb : Blk w b nodeT (nodeC f len n vl vr)) {K : Nat} (hp : Pre K f len) (hq : Pre K pf pl) {k : Nat} (hk1 : k ≤ len) (hk2 : k ≤ pl) (ha : Agree f pf k) (hno : ¬ (len ≤ pl ∧ Agree f pf len)) :
    Calls Try.prog 37 #[tp b, .int .i64 k, tp pb, tp bb, tp wb] w (LPost w pb bb wb pf pl best) := by
  have H : Hid (LW w.drew pb bb wb pf pl best) := Lib.hid (h.quiet (Keeps.refl _ w).drew)
  have k2 := hp.k2
  have hle := hp.le
  have hle2 := hq.le
  have CS := Lib.hid (fun W => same_any f pf len pl k hk1 hk2 (by rw [hp.sz]; exact hle) (by rw [hq.sz]; exact hle2) (by omega) (by omega) ha W)
  have c0 : w.cell? ⟨b, 0, none⟩ = some (.string f) := hb.cell 0
  have c1 : w.cell? ⟨b, 1, none⟩ = some (.int .i64 len) := hb.cell 1
  have d0 : w.cell? ⟨pb, 0, none⟩ = some (.string pf) := h.p.cell 0
  have d1 : w.cell? ⟨pb, 1, none⟩ = some (.int .i64 pl) := h.p.cell 1
  have hs : share f pf (min len pl) < len := share_lt.2 hno
  have g1 : decide (share f pf (min len pl) < len) = true := by simpa using hs
  have S0 : Hid (w.cell? ⟨b, 0, none⟩ = some (.string f) ∧ w.cell? ⟨b, 1, none⟩ = some (.int .i64 len) ∧ w.cell? ⟨pb, 0, none⟩ = some (.string pf) ∧ w.cell? ⟨pb, 1, none⟩ = some (.int .i64 pl)) := ⟨c0, c1, d0, d1⟩
  have HB := Lib.hid (hb.drew)
  clear h hb hp hq hno ha hs
  generalize share f pf (min len pl) = sh at *
  go_enter Try.func37, Try.ntmps37
  go_upto_region 0 with fail
  go_region_held3 (fun W => W.cell? ⟨b, 0, none⟩ = some (.string f) ∧ W.cell? ⟨b, 1, none⟩ = some (.int .i64 len) ∧ W.cell? ⟨pb, 0, none⟩ = some (.string pf) ∧ W.cell? ⟨pb, 1, none⟩ = some (.int .i64 pl))
    (first | exact S0.out | exact S1.out)
    (first | (go_at_call 38; refine (CS.out _).mono ?_; rintro e w1 ⟨rfl, hq⟩; have hb1 := HB.out.quiet hq; have hl1 := H.out.quiet hq; have S1 : Hid (w1.cell? ⟨b, 0, none⟩ = some (.string f) ∧ w1.cell? ⟨b, 1, none⟩ = some (.int .i64 len) ∧ w1.cell? ⟨pb, 0, none⟩ = some (.string pf) ∧ w1.cell? ⟨pb, 1, none⟩ = some (.int .i64 pl)) := ⟨hb1.cell 0, hb1.cell 1, hl1.p.cell 0, hl1.p.cell 1⟩; have HQ := Lib.hid hq; have HL1 := Lib.hid hl1; clear hq hb1 hl1))
  go_wp2_with fail
  go_end0
  exact ⟨rfl, HL1.out, Keeps.qt HQ.out.undrew⟩
set_option maxHeartbeats 400000 in
theorem long_here {b : Nat} {f : ByteArray} {len n : Nat} {vl vr : Value} (h : LW w pb bb wb pf pl best) (hb : Blk w b nodeT (nodeC f len n vl vr)) {K : Nat} (hp : Pre K f len) (hq : Pre K pf pl) {k : Nat} (hk1 : k ≤ len) (hk2 : k ≤ pl) (ha : Agree f pf k) (hag : Agree f pf len) (hl : len = pl) :
    Calls Try.prog 37 #[tp b, .int .i64 k, tp pb, tp bb, tp wb] w (LPost w pb bb wb pf pl (pickB best b f n)) := by
  have k2 := hp.k2
  have hle := hp.le
  have hle2 := hq.le
  have CS := Lib.hid (fun W => same_any f pf len pl k hk1 hk2 (by rw [hp.sz]; exact hle) (by rw [hq.sz]; exact hle2) (by omega) (by omega) ha W)
  have g3 : decide (len < pl) = false := by simp; omega
  have H : Hid (LW w.drew pb bb wb pf pl best) := Lib.hid (h.quiet (Keeps.refl _ w).drew)
  have hs : ¬ share f pf (min len pl) < len := fun hs => (share_lt.1 hs) ⟨(by omega), hag⟩
  have g1 : decide (share f pf (min len pl) < len) = false := by simpa using hs
  have S0 : Hid (w.cell? ⟨b, 0, none⟩ = some (.string f) ∧ w.cell? ⟨b, 1, none⟩ = some (.int .i64 len) ∧ w.cell? ⟨pb, 0, none⟩ = some (.string pf) ∧ w.cell? ⟨pb, 1, none⟩ = some (.int .i64 pl)) := ⟨hb.cell 0, hb.cell 1, h.p.cell 0, h.p.cell 1⟩
  have HB := Lib.hid (hb.drew)
  have hnb : bb ≠ b := h.b.ne_ hb (by decide)
  clear hl
  have e0 : ((addr n 0) != 0) = decide (n ≠ 0) := by unfold addr; by_cases hn : n = 0 <;> simp [hn]
  have E0 := Lib.hid e0; clear e0
  clear h hb hp hq hag ha hs
  generalize share f pf (min len pl) = sh at *
  go_enter Try.func37, Try.ntmps37
  go_upto_region 0 with fail
  go_region_held3 (fun W => W.cell? ⟨b, 0, none⟩ = some (.string f) ∧ W.cell? ⟨b, 1, none⟩ = some (.int .i64 len) ∧ W.cell? ⟨pb, 0, none⟩ = some (.string pf) ∧ W.cell? ⟨pb, 1, none⟩ = some (.int .i64 pl))
    (first | exact S0.out | exact S1.out)
    (first | (go_at_call 38; refine (CS.out _).mono ?_; rintro e w1 ⟨rfl, hq⟩; have hb1 := HB.out.quiet hq; have hl1 := H.out.quiet hq; have S1 : Hid (w1.cell? ⟨b, 0, none⟩ = some (.string f) ∧ w1.cell? ⟨b, 1, none⟩ = some (.int .i64 len) ∧ w1.cell? ⟨pb, 0, none⟩ = some (.string pf) ∧ w1.cell? ⟨pb, 1, none⟩ = some (.int .i64 pl)) := ⟨hb1.cell 0, hb1.cell 1, hl1.p.cell 0, hl1.p.cell 1⟩; have HQ := Lib.hid hq; have HL1 := Lib.hid hl1; have HB1 := Lib.hid hb1; clear hq hb1 hl1))
  have e2 : w1.cell? ⟨b, 2, none⟩ = some (.int .u64 (addr n 0)) := HB1.out.cell 2
  have b0 : w1.cell? ⟨bb, 0, none⟩ = some (bestV best) := HL1.out.b.cell 0
  have fb : w1.frozen? ⟨bb, 0, none⟩ = false := HL1.out.b.frozen 0
  by_cases hn : n = 0
  · have e3 : ((addr n 0) != 0) = false := by rw [E0.out]; simp [hn]
    have HN := Lib.hid hn
    clear hn
    generalize addr n 0 = A at *
    go_upto_region 3 with fail
    have x1 : w1.cell? ⟨b, 1, none⟩ = some (.int .i64 len) := HB1.out.cell 1
    have x2 : w1.cell? ⟨pb, 1, none⟩ = some (.int .i64 pl) := HL1.out.p.cell 1
    go_quiet (fail)
    go_wp2_with fail
    go_end0
    refine ⟨rfl, ?_, (Keeps.qt HQ.out.undrew).drewN' _⟩
    rw [pickB_no HN.out]
    exact HL1.out.quiet ((Keeps.refl _ w1).drewN' _)
  · have e3 : ((addr n 0) != 0) = true := by rw [E0.out]; simp [hn]
    have HN := Lib.hid hn
    clear hn
    generalize addr n 0 = A at *
    have HL2 : Hid (LW (w1.setCell ⟨bb, 0, none⟩ (tp b)) pb bb wb pf pl (some (b, ⟨f, n⟩))) := ⟨HL1.out.p.far (HL1.out.p.ne_ HL1.out.b (by decide)) _, HL1.out.b.set_ 0 _, HL1.out.f.far (HL1.out.f.ne_ HL1.out.b (by decide)) _⟩
    have HB2 := Lib.hid (HB1.out.far (p := ⟨bb, 0, none⟩) (Ne.symm hnb) (tp b))
    have hk2 : Keeps (fun x => x = bb) w (w1.setCell ⟨bb, 0, none⟩ (tp b)) := (Keeps.qt (S := fun x => x = bb) HQ.out.undrew).setCell (p := ⟨bb, 0, none⟩) (.inl rfl) _
    have HK2 := Lib.hid hk2; clear hk2
    go_upto_region 3 with fail
    generalize World.setCell w1 _ _ = w2 at HL2 HB2 HK2 ⊢
    have x1 : w2.cell? ⟨b, 1, none⟩ = some (.int .i64 len) := HB2.out.cell 1
    have x2 : w2.cell? ⟨pb, 1, none⟩ = some (.int .i64 pl) := HL2.out.p.cell 1
    go_quiet (fail)
    go_wp2_with fail
    go_end0
    refine ⟨rfl, ?_, HK2.out.drewN' _⟩
    rw [pickB_yes HN.out]
    exact HL2.out.quiet ((Keeps.refl _ w2).drewN' _)
set_option maxHeartbeats 2000000 in
theorem long_down0 {b : Nat} {f : ByteArray} {len n : Nat} {l r : Tr} (h : LW w pb bb wb pf pl best) (hb : Blk w b nodeT (nodeC f len n l.ptr r.ptr)) {K : Nat} (hp : Pre K f len) (hq : Pre K pf pl) {k : Nat} (hk1 : k ≤ len) (hk2 : k ≤ pl) (ha : Agree f pf k) (hag : Agree f pf len) (hl : len < pl) (hd : bitB pf len = false) (best' : Option (Nat × Ent))
    (ih : ∀ w2, LW w2 pb bb wb pf pl (pickB best b f n) → Keeps (fun x => x = bb) w w2 → Calls Try.prog 37 #[l.ptr, .int .i64 len, tp pb, tp bb, tp wb] w2 (LPost w2 pb bb wb pf pl best')) :
    Calls Try.prog 37 #[tp b, .int .i64 k, tp pb, tp bb, tp wb] w (LPost w pb bb wb pf pl best') := by
  have k2 := hp.k2
  have hle := hp.le
  have hle2 := hq.le
  have k5 := hp.k5
  have CS := Lib.hid (fun W => same_any f pf len pl k hk1 hk2 (by rw [hp.sz]; exact hle) (by rw [hq.sz]; exact hle2) (by omega) (by omega) ha W)
  have hsz := hq.sz
  have CB := Lib.hid (fun W => bit_any pf pl len (by omega) (by omega) W)
  clear hsz
  have g3 : decide (len < pl) = true := by simp; omega
  have hbi : bitI pf len = 0 := by unfold bitI; rw [hd]; rfl
  rw [hbi] at CB
  have IH := Lib.hid ih
  clear ih hd hbi
  have H : Hid (LW w.drew pb bb wb pf pl best) := Lib.hid (h.quiet (Keeps.refl _ w).drew)
  have hs : ¬ share f pf (min len pl) < len := fun hs => (share_lt.1 hs) ⟨(by omega), hag⟩
  have g1 : decide (share f pf (min len pl) < len) = false := by simpa using hs
  have S0 : Hid (w.cell? ⟨b, 0, none⟩ = some (.string f) ∧ w.cell? ⟨b, 1, none⟩ = some (.int .i64 len) ∧ w.cell? ⟨pb, 0, none⟩ = some (.string pf) ∧ w.cell? ⟨pb, 1, none⟩ = some (.int .i64 pl)) := ⟨hb.cell 0, hb.cell 1, h.p.cell 0, h.p.cell 1⟩
  have HB := Lib.hid (hb.drew)
  have hnb : bb ≠ b := h.b.ne_ hb (by decide)
  clear hl
  have e0 : ((addr n 0) != 0) = decide (n ≠ 0) := by unfold addr; by_cases hn : n = 0 <;> simp [hn]
  have E0 := Lib.hid e0; clear e0
  clear h hb hp hq hag ha hs
  generalize share f pf (min len pl) = sh at *
  go_enter Try.func37, Try.ntmps37
  go_upto_region 0 with fail
  go_region_held3 (fun W => W.cell? ⟨b, 0, none⟩ = some (.string f) ∧ W.cell? ⟨b, 1, none⟩ = some (.int .i64 len) ∧ W.cell? ⟨pb, 0, none⟩ = some (.string pf) ∧ W.cell? ⟨pb, 1, none⟩ = some (.int .i64 pl))
    (first | exact S0.out | exact S1.out)
    (first | (go_at_call 38; refine (CS.out _).mono ?_; rintro e w1 ⟨rfl, hq⟩; have hb1 := HB.out.quiet hq; have hl1 := H.out.quiet hq; have S1 : Hid (w1.cell? ⟨b, 0, none⟩ = some (.string f) ∧ w1.cell? ⟨b, 1, none⟩ = some (.int .i64 len) ∧ w1.cell? ⟨pb, 0, none⟩ = some (.string pf) ∧ w1.cell? ⟨pb, 1, none⟩ = some (.int .i64 pl)) := ⟨hb1.cell 0, hb1.cell 1, hl1.p.cell 0, hl1.p.cell 1⟩; have HQ := Lib.hid hq; have HL1 := Lib.hid hl1; have HB1 := Lib.hid hb1; clear hq hb1 hl1))
  have e2 : w1.cell? ⟨b, 2, none⟩ = some (.int .u64 (addr n 0)) := HB1.out.cell 2
  have b0 : w1.cell? ⟨bb, 0, none⟩ = some (bestV best) := HL1.out.b.cell 0
  have fb : w1.frozen? ⟨bb, 0, none⟩ = false := HL1.out.b.frozen 0
  have W2 : ∃ w2, (n = 0 → w2 = w1) ∧ (n ≠ 0 → w2 = w1.setCell ⟨bb, 0, none⟩ (tp b)) ∧ LW w2 pb bb wb pf pl (pickB best b f n) ∧ Blk w2 b nodeT (nodeC f len n l.ptr r.ptr) ∧ Keeps (fun x => x = bb) w w2 := by
    by_cases hn : n = 0
    · exact ⟨w1, fun _ => rfl, fun h => absurd hn h, by rw [pickB_no hn]; exact HL1.out, HB1.out, Keeps.qt HQ.out.undrew⟩
    · exact ⟨_, fun h => absurd h hn, fun _ => rfl, by rw [pickB_yes hn]; exact ⟨HL1.out.p.far (HL1.out.p.ne_ HL1.out.b (by decide)) _, HL1.out.b.set_ 0 _, HL1.out.f.far (HL1.out.f.ne_ HL1.out.b (by decide)) _⟩, HB1.out.far (p := ⟨bb, 0, none⟩) (Ne.symm hnb) (tp b), (Keeps.qt (S := fun x => x = bb) HQ.out.undrew).setCell (p := ⟨bb, 0, none⟩) (.inl rfl) _⟩
  obtain ⟨w2, hw0, hw1, hl2, hb2, hk2⟩ := W2
  have HL2 := Lib.hid hl2; have HB2 := Lib.hid hb2; have HK2 := Lib.hid hk2; have HW0 := Lib.hid hw0; have HW1 := Lib.hid hw1
  clear hl2 hb2 hk2 hw0 hw1
  by_cases hn : n = 0
  · have e3 : ((addr n 0) != 0) = false := by rw [E0.out]; simp [hn]
    obtain rfl := HW0.out hn
    clear hn
    generalize addr n 0 = A at *
    go_upto_region 3 with fail
    have x1 : w2.cell? ⟨b, 1, none⟩ = some (.int .i64 len) := HB2.out.cell 1
    have x2 : w2.cell? ⟨pb, 1, none⟩ = some (.int .i64 pl) := HL2.out.p.cell 1
    go_quiet (fail)
    go_upto_region 4 with fail
    have HL3 := Lib.hid (HL2.out.quiet ((Keeps.refl _ w2).drewN' nq))
    have HB3 := Lib.hid (HB2.out.drewN nq)
    have HK3 := Lib.hid (HK2.out.drewN' nq)
    clear x1 x2
    generalize w2.drewN nq = w3 at HL3 HB3 HK3 ⊢
    have HL3d := Lib.hid (HL3.out.quiet (Keeps.refl _ w3).drew)
    have HB3d := Lib.hid (HB3.out.drew)
    have S3 : Hid (w3.cell? ⟨wb, 0, none⟩ = some (lwV pb bb wb) ∧ w3.cell? ⟨pb, 0, none⟩ = some (.string pf) ∧ w3.cell? ⟨pb, 1, none⟩ = some (.int .i64 pl) ∧ w3.cell? ⟨b, 1, none⟩ = some (.int .i64 len) ∧ w3.cell? ⟨b, 3, none⟩ = some l.ptr) := ⟨HL3.out.f.cell 0, HL3.out.p.cell 0, HL3.out.p.cell 1, HB3.out.cell 1, HB3.out.cell 3⟩
    go_region_held3 (fun W => W.cell? ⟨wb, 0, none⟩ = some (lwV pb bb wb) ∧ W.cell? ⟨pb, 0, none⟩ = some (.string pf) ∧ W.cell? ⟨pb, 1, none⟩ = some (.int .i64 pl) ∧ W.cell? ⟨b, 1, none⟩ = some (.int .i64 len) ∧ W.cell? ⟨b, 3, none⟩ = some l.ptr)
      (first | exact S3.out | exact S4.out | exact S5.out)
      (first
        | (go_at_call 39; refine (CB.out _).mono ?_; rintro e w4 ⟨rfl, hq4⟩; have HL4 := Lib.hid (HL3d.out.quiet hq4); have HB4 := Lib.hid (HB3d.out.quiet hq4); have HK4 := Lib.hid (HK3.out.then_ (Keeps.qt hq4.undrew)); have S4 : Hid (w4.cell? ⟨wb, 0, none⟩ = some (lwV pb bb wb) ∧ w4.cell? ⟨pb, 0, none⟩ = some (.string pf) ∧ w4.cell? ⟨pb, 1, none⟩ = some (.int .i64 pl) ∧ w4.cell? ⟨b, 1, none⟩ = some (.int .i64 len) ∧ w4.cell? ⟨b, 3, none⟩ = some l.ptr) := ⟨HL4.out.f.cell 0, HL4.out.p.cell 0, HL4.out.p.cell 1, HB4.out.cell 1, HB4.out.cell 3⟩; clear hq4)
        | (go_at_call 37; refine (IH.out _ HL4.out HK4.out).mono ?_; rintro e w5 ⟨rfl, hl5, hk5⟩; have HL5 := Lib.hid hl5; have HB5 := Lib.hid (HB4.out.keeps hk5 (Ne.symm hnb)); have HK5 := Lib.hid (HK4.out.then_ hk5); have S5 : Hid (w5.cell? ⟨wb, 0, none⟩ = some (lwV pb bb wb) ∧ w5.cell? ⟨pb, 0, none⟩ = some (.string pf) ∧ w5.cell? ⟨pb, 1, none⟩ = some (.int .i64 pl) ∧ w5.cell? ⟨b, 1, none⟩ = some (.int .i64 len) ∧ w5.cell? ⟨b, 3, none⟩ = some l.ptr) := ⟨HL5.out.f.cell 0, HL5.out.p.cell 0, HL5.out.p.cell 1, HB5.out.cell 1, HB5.out.cell 3⟩; clear hl5 hk5))
    go_wp2_with fail
    go_end0
    exact ⟨rfl, HL5.out, HK5.out⟩
  · have e3 : ((addr n 0) != 0) = true := by rw [E0.out]; simp [hn]
    have HWW := Lib.hid (HW1.out hn)
    clear hn
    generalize addr n 0 = A at *
    go_upto_region 3 with fail
    rw [← HWW.out]
    have x1 : w2.cell? ⟨b, 1, none⟩ = some (.int .i64 len) := HB2.out.cell 1
    have x2 : w2.cell? ⟨pb, 1, none⟩ = some (.int .i64 pl) := HL2.out.p.cell 1
    go_quiet (fail)
    go_upto_region 4 with fail
    have HL3 := Lib.hid (HL2.out.quiet ((Keeps.refl _ w2).drewN' nq))
    have HB3 := Lib.hid (HB2.out.drewN nq)
    have HK3 := Lib.hid (HK2.out.drewN' nq)
    clear x1 x2
    generalize w2.drewN nq = w3 at HL3 HB3 HK3 ⊢
    have HL3d := Lib.hid (HL3.out.quiet (Keeps.refl _ w3).drew)
    have HB3d := Lib.hid (HB3.out.drew)
    have S3 : Hid (w3.cell? ⟨wb, 0, none⟩ = some (lwV pb bb wb) ∧ w3.cell? ⟨pb, 0, none⟩ = some (.string pf) ∧ w3.cell? ⟨pb, 1, none⟩ = some (.int .i64 pl) ∧ w3.cell? ⟨b, 1, none⟩ = some (.int .i64 len) ∧ w3.cell? ⟨b, 3, none⟩ = some l.ptr) := ⟨HL3.out.f.cell 0, HL3.out.p.cell 0, HL3.out.p.cell 1, HB3.out.cell 1, HB3.out.cell 3⟩
    go_region_held3 (fun W => W.cell? ⟨wb, 0, none⟩ = some (lwV pb bb wb) ∧ W.cell? ⟨pb, 0, none⟩ = some (.string pf) ∧ W.cell? ⟨pb, 1, none⟩ = some (.int .i64 pl) ∧ W.cell? ⟨b, 1, none⟩ = some (.int .i64 len) ∧ W.cell? ⟨b, 3, none⟩ = some l.ptr)
      (first | exact S3.out | exact S4.out | exact S5.out)
      (first
        | (go_at_call 39; refine (CB.out _).mono ?_; rintro e w4 ⟨rfl, hq4⟩; have HL4 := Lib.hid (HL3d.out.quiet hq4); have HB4 := Lib.hid (HB3d.out.quiet hq4); have HK4 := Lib.hid (HK3.out.then_ (Keeps.qt hq4.undrew)); have S4 : Hid (w4.cell? ⟨wb, 0, none⟩ = some (lwV pb bb wb) ∧ w4.cell? ⟨pb, 0, none⟩ = some (.string pf) ∧ w4.cell? ⟨pb, 1, none⟩ = some (.int .i64 pl) ∧ w4.cell? ⟨b, 1, none⟩ = some (.int .i64 len) ∧ w4.cell? ⟨b, 3, none⟩ = some l.ptr) := ⟨HL4.out.f.cell 0, HL4.out.p.cell 0, HL4.out.p.cell 1, HB4.out.cell 1, HB4.out.cell 3⟩; clear hq4)
        | (go_at_call 37; refine (IH.out _ HL4.out HK4.out).mono ?_; rintro e w5 ⟨rfl, hl5, hk5⟩; have HL5 := Lib.hid hl5; have HB5 := Lib.hid (HB4.out.keeps hk5 (Ne.symm hnb)); have HK5 := Lib.hid (HK4.out.then_ hk5); have S5 : Hid (w5.cell? ⟨wb, 0, none⟩ = some (lwV pb bb wb) ∧ w5.cell? ⟨pb, 0, none⟩ = some (.string pf) ∧ w5.cell? ⟨pb, 1, none⟩ = some (.int .i64 pl) ∧ w5.cell? ⟨b, 1, none⟩ = some (.int .i64 len) ∧ w5.cell? ⟨b, 3, none⟩ = some l.ptr) := ⟨HL5.out.f.cell 0, HL5.out.p.cell 0, HL5.out.p.cell 1, HB5.out.cell 1, HB5.out.cell 3⟩; clear hl5 hk5))
    go_wp2_with fail
    go_end0
    exact ⟨rfl, HL5.out, HK5.out⟩
set_option maxHeartbeats 2000000 in
theorem long_down1 {b : Nat} {f : ByteArray} {len n : Nat} {l r : Tr} (h : LW w pb bb wb pf pl best) (hb : Blk w b nodeT (nodeC f len n l.ptr r.ptr)) {K : Nat} (hp : Pre K f len) (hq : Pre K pf pl) {k : Nat} (hk1 : k ≤ len) (hk2 : k ≤ pl) (ha : Agree f pf k) (hag : Agree f pf len) (hl : len < pl) (hd : bitB pf len = true) (best' : Option (Nat × Ent))
    (ih : ∀ w2, LW w2 pb bb wb pf pl (pickB best b f n) → Keeps (fun x => x = bb) w w2 → Calls Try.prog 37 #[r.ptr, .int .i64 len, tp pb, tp bb, tp wb] w2 (LPost w2 pb bb wb pf pl best')) :
    Calls Try.prog 37 #[tp b, .int .i64 k, tp pb, tp bb, tp wb] w (LPost w pb bb wb pf pl best') := by
  have k2 := hp.k2
  have hle := hp.le
  have hle2 := hq.le
  have k5 := hp.k5
  have CS := Lib.hid (fun W => same_any f pf len pl k hk1 hk2 (by rw [hp.sz]; exact hle) (by rw [hq.sz]; exact hle2) (by omega) (by omega) ha W)
  have hsz := hq.sz
  have CB := Lib.hid (fun W => bit_any pf pl len (by omega) (by omega) W)
  clear hsz
  have g3 : decide (len < pl) = true := by simp; omega
  have hbi : bitI pf len = 1 := by unfold bitI; rw [hd]; rfl
  rw [hbi] at CB
  have IH := Lib.hid ih
  clear ih hd hbi
  have H : Hid (LW w.drew pb bb wb pf pl best) := Lib.hid (h.quiet (Keeps.refl _ w).drew)
  have hs : ¬ share f pf (min len pl) < len := fun hs => (share_lt.1 hs) ⟨(by omega), hag⟩
  have g1 : decide (share f pf (min len pl) < len) = false := by simpa using hs
  have S0 : Hid (w.cell? ⟨b, 0, none⟩ = some (.string f) ∧ w.cell? ⟨b, 1, none⟩ = some (.int .i64 len) ∧ w.cell? ⟨pb, 0, none⟩ = some (.string pf) ∧ w.cell? ⟨pb, 1, none⟩ = some (.int .i64 pl)) := ⟨hb.cell 0, hb.cell 1, h.p.cell 0, h.p.cell 1⟩
  have HB := Lib.hid (hb.drew)
  have hnb : bb ≠ b := h.b.ne_ hb (by decide)
  clear hl
  have e0 : ((addr n 0) != 0) = decide (n ≠ 0) := by unfold addr; by_cases hn : n = 0 <;> simp [hn]
  have E0 := Lib.hid e0; clear e0
  clear h hb hp hq hag ha hs
  generalize share f pf (min len pl) = sh at *
  go_enter Try.func37, Try.ntmps37
  go_upto_region 0 with fail
  go_region_held3 (fun W => W.cell? ⟨b, 0, none⟩ = some (.string f) ∧ W.cell? ⟨b, 1, none⟩ = some (.int .i64 len) ∧ W.cell? ⟨pb, 0, none⟩ = some (.string pf) ∧ W.cell? ⟨pb, 1, none⟩ = some (.int .i64 pl))
    (first | exact S0.out | exact S1.out)
    (first | (go_at_call 38; refine (CS.out _).mono ?_; rintro e w1 ⟨rfl, hq⟩; have hb1 := HB.out.quiet hq; have hl1 := H.out.quiet hq; have S1 : Hid (w1.cell? ⟨b, 0, none⟩ = some (.string f) ∧ w1.cell? ⟨b, 1, none⟩ = some (.int .i64 len) ∧ w1.cell? ⟨pb, 0, none⟩ = some (.string pf) ∧ w1.cell? ⟨pb, 1, none⟩ = some (.int .i64 pl)) := ⟨hb1.cell 0, hb1.cell 1, hl1.p.cell 0, hl1.p.cell 1⟩; have HQ := Lib.hid hq; have HL1 := Lib.hid hl1; have HB1 := Lib.hid hb1; clear hq hb1 hl1))
  have e2 : w1.cell? ⟨b, 2, none⟩ = some (.int .u64 (addr n 0)) := HB1.out.cell 2
  have b0 : w1.cell? ⟨bb, 0, none⟩ = some (bestV best) := HL1.out.b.cell 0
  have fb : w1.frozen? ⟨bb, 0, none⟩ = false := HL1.out.b.frozen 0
  have W2 : ∃ w2, (n = 0 → w2 = w1) ∧ (n ≠ 0 → w2 = w1.setCell ⟨bb, 0, none⟩ (tp b)) ∧ LW w2 pb bb wb pf pl (pickB best b f n) ∧ Blk w2 b nodeT (nodeC f len n l.ptr r.ptr) ∧ Keeps (fun x => x = bb) w w2 := by
    by_cases hn : n = 0
    · exact ⟨w1, fun _ => rfl, fun h => absurd hn h, by rw [pickB_no hn]; exact HL1.out, HB1.out, Keeps.qt HQ.out.undrew⟩
    · exact ⟨_, fun h => absurd h hn, fun _ => rfl, by rw [pickB_yes hn]; exact ⟨HL1.out.p.far (HL1.out.p.ne_ HL1.out.b (by decide)) _, HL1.out.b.set_ 0 _, HL1.out.f.far (HL1.out.f.ne_ HL1.out.b (by decide)) _⟩, HB1.out.far (p := ⟨bb, 0, none⟩) (Ne.symm hnb) (tp b), (Keeps.qt (S := fun x => x = bb) HQ.out.undrew).setCell (p := ⟨bb, 0, none⟩) (.inl rfl) _⟩
  obtain ⟨w2, hw0, hw1, hl2, hb2, hk2⟩ := W2
  have HL2 := Lib.hid hl2; have HB2 := Lib.hid hb2; have HK2 := Lib.hid hk2; have HW0 := Lib.hid hw0; have HW1 := Lib.hid hw1
  clear hl2 hb2 hk2 hw0 hw1
  by_cases hn : n = 0
  · have e3 : ((addr n 0) != 0) = false := by rw [E0.out]; simp [hn]
    obtain rfl := HW0.out hn
    clear hn
    generalize addr n 0 = A at *
    go_upto_region 3 with fail
    have x1 : w2.cell? ⟨b, 1, none⟩ = some (.int .i64 len) := HB2.out.cell 1
    have x2 : w2.cell? ⟨pb, 1, none⟩ = some (.int .i64 pl) := HL2.out.p.cell 1
    go_quiet (fail)
    go_upto_region 4 with fail
    have HL3 := Lib.hid (HL2.out.quiet ((Keeps.refl _ w2).drewN' nq))
    have HB3 := Lib.hid (HB2.out.drewN nq)
    have HK3 := Lib.hid (HK2.out.drewN' nq)
    clear x1 x2
    generalize w2.drewN nq = w3 at HL3 HB3 HK3 ⊢
    have HL3d := Lib.hid (HL3.out.quiet (Keeps.refl _ w3).drew)
    have HB3d := Lib.hid (HB3.out.drew)
    have S3 : Hid (w3.cell? ⟨wb, 0, none⟩ = some (lwV pb bb wb) ∧ w3.cell? ⟨pb, 0, none⟩ = some (.string pf) ∧ w3.cell? ⟨pb, 1, none⟩ = some (.int .i64 pl) ∧ w3.cell? ⟨b, 1, none⟩ = some (.int .i64 len) ∧ w3.cell? ⟨b, 4, none⟩ = some r.ptr) := ⟨HL3.out.f.cell 0, HL3.out.p.cell 0, HL3.out.p.cell 1, HB3.out.cell 1, HB3.out.cell 4⟩
    go_region_held3 (fun W => W.cell? ⟨wb, 0, none⟩ = some (lwV pb bb wb) ∧ W.cell? ⟨pb, 0, none⟩ = some (.string pf) ∧ W.cell? ⟨pb, 1, none⟩ = some (.int .i64 pl) ∧ W.cell? ⟨b, 1, none⟩ = some (.int .i64 len) ∧ W.cell? ⟨b, 4, none⟩ = some r.ptr)
      (first | exact S3.out | exact S4.out | exact S5.out)
      (first
        | (go_at_call 39; refine (CB.out _).mono ?_; rintro e w4 ⟨rfl, hq4⟩; have HL4 := Lib.hid (HL3d.out.quiet hq4); have HB4 := Lib.hid (HB3d.out.quiet hq4); have HK4 := Lib.hid (HK3.out.then_ (Keeps.qt hq4.undrew)); have S4 : Hid (w4.cell? ⟨wb, 0, none⟩ = some (lwV pb bb wb) ∧ w4.cell? ⟨pb, 0, none⟩ = some (.string pf) ∧ w4.cell? ⟨pb, 1, none⟩ = some (.int .i64 pl) ∧ w4.cell? ⟨b, 1, none⟩ = some (.int .i64 len) ∧ w4.cell? ⟨b, 4, none⟩ = some r.ptr) := ⟨HL4.out.f.cell 0, HL4.out.p.cell 0, HL4.out.p.cell 1, HB4.out.cell 1, HB4.out.cell 4⟩; clear hq4)
        | (go_at_call 37; refine (IH.out _ HL4.out HK4.out).mono ?_; rintro e w5 ⟨rfl, hl5, hk5⟩; have HL5 := Lib.hid hl5; have HB5 := Lib.hid (HB4.out.keeps hk5 (Ne.symm hnb)); have HK5 := Lib.hid (HK4.out.then_ hk5); have S5 : Hid (w5.cell? ⟨wb, 0, none⟩ = some (lwV pb bb wb) ∧ w5.cell? ⟨pb, 0, none⟩ = some (.string pf) ∧ w5.cell? ⟨pb, 1, none⟩ = some (.int .i64 pl) ∧ w5.cell? ⟨b, 1, none⟩ = some (.int .i64 len) ∧ w5.cell? ⟨b, 4, none⟩ = some r.ptr) := ⟨HL5.out.f.cell 0, HL5.out.p.cell 0, HL5.out.p.cell 1, HB5.out.cell 1, HB5.out.cell 4⟩; clear hl5 hk5))
    go_wp2_with fail
    go_end0
    exact ⟨rfl, HL5.out, HK5.out⟩
  · have e3 : ((addr n 0) != 0) = true := by rw [E0.out]; simp [hn]
    have HWW := Lib.hid (HW1.out hn)
    clear hn
    generalize addr n 0 = A at *
    go_upto_region 3 with fail
    rw [← HWW.out]
    have x1 : w2.cell? ⟨b, 1, none⟩ = some (.int .i64 len) := HB2.out.cell 1
    have x2 : w2.cell? ⟨pb, 1, none⟩ = some (.int .i64 pl) := HL2.out.p.cell 1
    go_quiet (fail)
    go_upto_region 4 with fail
    have HL3 := Lib.hid (HL2.out.quiet ((Keeps.refl _ w2).drewN' nq))
    have HB3 := Lib.hid (HB2.out.drewN nq)
    have HK3 := Lib.hid (HK2.out.drewN' nq)
    clear x1 x2
    generalize w2.drewN nq = w3 at HL3 HB3 HK3 ⊢
    have HL3d := Lib.hid (HL3.out.quiet (Keeps.refl _ w3).drew)
    have HB3d := Lib.hid (HB3.out.drew)
    have S3 : Hid (w3.cell? ⟨wb, 0, none⟩ = some (lwV pb bb wb) ∧ w3.cell? ⟨pb, 0, none⟩ = some (.string pf) ∧ w3.cell? ⟨pb, 1, none⟩ = some (.int .i64 pl) ∧ w3.cell? ⟨b, 1, none⟩ = some (.int .i64 len) ∧ w3.cell? ⟨b, 4, none⟩ = some r.ptr) := ⟨HL3.out.f.cell 0, HL3.out.p.cell 0, HL3.out.p.cell 1, HB3.out.cell 1, HB3.out.cell 4⟩
    go_region_held3 (fun W => W.cell? ⟨wb, 0, none⟩ = some (lwV pb bb wb) ∧ W.cell? ⟨pb, 0, none⟩ = some (.string pf) ∧ W.cell? ⟨pb, 1, none⟩ = some (.int .i64 pl) ∧ W.cell? ⟨b, 1, none⟩ = some (.int .i64 len) ∧ W.cell? ⟨b, 4, none⟩ = some r.ptr)
      (first | exact S3.out | exact S4.out | exact S5.out)
      (first
        | (go_at_call 39; refine (CB.out _).mono ?_; rintro e w4 ⟨rfl, hq4⟩; have HL4 := Lib.hid (HL3d.out.quiet hq4); have HB4 := Lib.hid (HB3d.out.quiet hq4); have HK4 := Lib.hid (HK3.out.then_ (Keeps.qt hq4.undrew)); have S4 : Hid (w4.cell? ⟨wb, 0, none⟩ = some (lwV pb bb wb) ∧ w4.cell? ⟨pb, 0, none⟩ = some (.string pf) ∧ w4.cell? ⟨pb, 1, none⟩ = some (.int .i64 pl) ∧ w4.cell? ⟨b, 1, none⟩ = some (.int .i64 len) ∧ w4.cell? ⟨b, 4, none⟩ = some r.ptr) := ⟨HL4.out.f.cell 0, HL4.out.p.cell 0, HL4.out.p.cell 1, HB4.out.cell 1, HB4.out.cell 4⟩; clear hq4)
        | (go_at_call 37; refine (IH.out _ HL4.out HK4.out).mono ?_; rintro e w5 ⟨rfl, hl5, hk5⟩; have HL5 := Lib.hid hl5; have HB5 := Lib.hid (HB4.out.keeps hk5 (Ne.symm hnb)); have HK5 := Lib.hid (HK4.out.then_ hk5); have S5 : Hid (w5.cell? ⟨wb, 0, none⟩ = some (lwV pb bb wb) ∧ w5.cell? ⟨pb, 0, none⟩ = some (.string pf) ∧ w5.cell? ⟨pb, 1, none⟩ = some (.int .i64 pl) ∧ w5.cell? ⟨b, 1, none⟩ = some (.int .i64 len) ∧ w5.cell? ⟨b, 4, none⟩ = some r.ptr) := ⟨HL5.out.f.cell 0, HL5.out.p.cell 0, HL5.out.p.cell 1, HB5.out.cell 1, HB5.out.cell 4⟩; clear hl5 hk5))
    go_wp2_with fail
    go_end0
    exact ⟨rfl, HL5.out, HK5.out⟩
end
end Go.Proofs.Ytomhflaofipccaa
namespace Go.Proofs.Ytomhflaofipccaa
open Go Go.RowKit Go.Maps
set_option linter.unusedVariables false
set_option linter.unusedSimpArgs false
set_option maxRecDepth 100000
theorem look_node {pf : ByteArray} {pl b : Nat} {f : ByteArray} {len n : Nat} {l r : Tr} {best : Option (Nat × Ent)} : (Tr.node b f len n l r).look pf pl best = if len ≤ pl ∧ Agree f pf len then (if len < pl then (if bitB pf len then r.look pf pl (pickB best b f n) else l.look pf pl (pickB best b f n)) else pickB best b f n) else best := rfl
theorem long_any {K pb bb wb : Nat} {pf : ByteArray} {pl : Nat} (hq : Pre K pf pl) : ∀ {t : Tr} {g : ByteArray} {k : Nat} {best : Option (Nat × Ent)} {w : World}, t.ok K → t.from_ g k → Agree g pf k → k ≤ pl → t.At w → LW w pb bb wb pf pl best →
    Calls Try.prog 37 #[t.ptr, .int .i64 k, tp pb, tp bb, tp wb] w (LPost w pb bb wb pf pl (t.look pf pl best))
  | .nil, g, k, best, w, _, _, _, _, _, h => long_nil h k
  | .node b f len n l r, g, k, best, w, ok, hf, hg, hk, hA, h => by
    have ha : Agree f pf k := hf.2.symm.trans hg
    rw [look_node]
    by_cases hm : len ≤ pl ∧ Agree f pf len
    · rw [if_pos hm]
      by_cases hl : len < pl
      · rw [if_pos hl]
        have off : ∀ {w2 : World} {t : Tr}, t.At w → Keeps (fun x => x = bb) w w2 → t.At w2 := fun ht k => ht.off k fun b' cs hb e => by
          subst e
          exact absurd rfl (hb.ne_ h.b (by decide))
        cases hd : bitB pf len
        · rw [if_neg (by decide)]
          exact long_down0 h hA.1 ok.1 hq hf.1 hk ha hm.2 hl hd _ fun w2 h2 k2 => long_any hq ok.2.2.2.1 (Tr.under_from ok.2.1) hm.2 hm.1 (off hA.2.1 k2) h2
        · rw [if_pos rfl]
          exact long_down1 h hA.1 ok.1 hq hf.1 hk ha hm.2 hl hd _ fun w2 h2 k2 => long_any hq ok.2.2.2.2 (Tr.under_from ok.2.2.1) hm.2 hm.1 (off hA.2.2 k2) h2
      · rw [if_neg hl]
        exact long_here h hA.1 ok.1 hq hf.1 hk ha hm.2 (by omega)
    · rw [if_neg hm]
      exact long_off h hA.1 ok.1 hq hf.1 hk ha hm
theorem cell_congr {w w' : World} {b : Nat} (i : Nat) (h : w'.heap[b]? = w.heap[b]?) : w'.cell? ⟨b, i, none⟩ = w.cell? ⟨b, i, none⟩ := by unfold World.cell?; simp only [h]
section
variable {w w' : World} {x K : Nat} {pf : ByteArray} {pl : Nat} {t : Tr}
set_option maxHeartbeats 1000000 in
theorem longest_any (hq : Pre K pf pl) (ok : t.ok K) (hA : t.At w) (hr : w.cell? ⟨x, 5, none⟩ = some t.ptr) (hx : x < w.heap.size) :
    Calls Try.prog 23 #[.pointer (some ⟨x, 5, none⟩), preV pf pl] w fun e w' => e = .returned (bestV (t.look pf pl none)) ∧ Qt w w' := by
  have hf : t.from_ pf 0 := by
    cases t with
    | nil => trivial
    | node b f len n l r => exact ⟨Nat.zero_le _, fun i hi => by omega⟩
  have hmf : ∀ (fn : Fn) (first cap : Array Value) (w : World), (Instr.makeFunc fn first cap).run Try.prog w = .ok (.func fn first cap) w := fun _ _ _ _ => rfl
  have b0 := ((Blk.new w preT (preC pf pl)).alloc (.cells #[.pointer none] nptrT)).alloc (.cells #[lwV w.heap.size (w.heap.size + 1) (w.heap.size + 1 + 1)] lwT)
  have b1 := (Blk.new (w.alloc (.cells (preC pf pl) preT)) nptrT #[.pointer none]).alloc (.cells #[lwV w.heap.size (w.heap.size + 1) (w.heap.size + 1 + 1)] lwT)
  have b2 := Blk.new ((w.alloc (.cells (preC pf pl) preT)).alloc (.cells #[.pointer none] nptrT)) lwT #[lwV w.heap.size (w.heap.size + 1) (w.heap.size + 1 + 1)]
  rw [show (w.alloc (.cells (preC pf pl) preT)).heap.size = w.heap.size + 1 by simp] at b1
  rw [show ((w.alloc (.cells (preC pf pl) preT)).alloc (.cells #[.pointer none] nptrT)).heap.size = w.heap.size + 1 + 1 by simp] at b2
  have HL : Hid (LW (((w.alloc (.cells (preC pf pl) preT)).alloc (.cells #[.pointer none] nptrT)).alloc (.cells #[lwV w.heap.size (w.heap.size + 1) (w.heap.size + 1 + 1)] lwT)) w.heap.size (w.heap.size + 1) (w.heap.size + 1 + 1) pf pl none) := ⟨b0, b1, b2⟩
  have HK : Hid (Qt w (((w.alloc (.cells (preC pf pl) preT)).alloc (.cells #[.pointer none] nptrT)).alloc (.cells #[lwV w.heap.size (w.heap.size + 1) (w.heap.size + 1 + 1)] lwT))) := Lib.hid ((((Keeps.refl (fun _ => False) w).alloc _).alloc _).alloc _)
  clear b0 b1 b2
  have HA := Lib.hid hA; have HR := Lib.hid hr; have HX := Lib.hid hx; have HO := Lib.hid ok; have HF := Lib.hid hf; have HQ := Lib.hid hq
  clear hA hr hx ok hf hq
  go_enter Try.func23, Try.ntmps23
  go_upto_region 4 with fail
  generalize World.alloc _ _ = W at HL HK ⊢
  have HAd := Lib.hid ((HA.out.quiet HK.out).quiet (Keeps.refl _ W).drew)
  have HLd := Lib.hid (HL.out.quiet (Keeps.refl _ W).drew)
  have CW : Hid (Calls Try.prog 37 #[t.ptr, .int .i64 0, tp w.heap.size, tp (w.heap.size + 1), tp (w.heap.size + 1 + 1)] W.drew (LPost W.drew w.heap.size (w.heap.size + 1) (w.heap.size + 1 + 1) pf pl (t.look pf pl none))) := Lib.hid (long_any (k := 0) HQ.out HO.out HF.out (Agree.refl _ _) (Nat.zero_le _) HAd.out HLd.out)
  have S0 : Hid (W.cell? ⟨w.heap.size + 1 + 1, 0, none⟩ = some (lwV w.heap.size (w.heap.size + 1) (w.heap.size + 1 + 1)) ∧ W.cell? ⟨x, 5, none⟩ = some t.ptr) := ⟨HL.out.f.cell 0, by rw [← HR.out]; exact cell_congr _ (HK.out.block x HX.out (fun h => h))⟩
  go_region_held3 (fun U => U.cell? ⟨w.heap.size + 1 + 1, 0, none⟩ = some (lwV w.heap.size (w.heap.size + 1) (w.heap.size + 1 + 1)) ∧ U.cell? ⟨x, 5, none⟩ = some t.ptr)
    (first | exact S0.out | exact S1.out)
    (first | (go_at_call 37; refine CW.out.mono ?_; rintro e w1 ⟨rfl, hl1, hk1⟩; have hkq : Qt w w1 := HK.out.trans (hk1.undrew.mono fun b e => .inr ⟨by omega, by rw [e]; exact HL.out.b.lt⟩); have S1 : Hid (w1.cell? ⟨w.heap.size + 1 + 1, 0, none⟩ = some (lwV w.heap.size (w.heap.size + 1) (w.heap.size + 1 + 1)) ∧ w1.cell? ⟨x, 5, none⟩ = some t.ptr) := ⟨hl1.f.cell 0, by rw [← HR.out]; exact cell_congr _ (hkq.block x HX.out (fun h => h))⟩; have HL1 := Lib.hid hl1; have HK1 := Lib.hid hkq; clear hl1 hk1 hkq))
  have z1 : w1.cell? ⟨w.heap.size + 1, 0, none⟩ = some (bestV (t.look pf pl none)) := HL1.out.b.cell 0
  go_wp2_with fail
  go_ret
  exact ⟨rfl, HK1.out⟩
/-- A node that holds an entry, as it lies. -/
theorem Tr.At.has {K : Nat} : ∀ {t : Tr} {b : Nat} {e : Ent}, t.At w → t.ok K → t.has b e → ∃ vl vr, Blk w b nodeT (nodeC e.key (lenB e.key) e.n vl vr) ∧ b ∈ t.blocks
  | .nil, _, _, _, _, h => h.elim
  | .node b' f len n l r, b, e, hA, ok, h => by
    have me : ∀ x, x ∈ (Tr.node b' f len n l r).blocks ↔ x = b' ∨ x ∈ l.blocks ∨ x ∈ r.blocks := fun x => by
      show x ∈ b' :: (l.blocks ++ r.blocks) ↔ _
      simp
    rcases h with ⟨rfl, rfl, hn⟩ | h | h
    · refine ⟨l.ptr, r.ptr, ?_, (me b).2 (.inl rfl)⟩
      show Blk w b nodeT (nodeC f (lenB f) n _ _)
      rw [ok.1.len]
      exact hA.1
    · obtain ⟨vl, vr, h1, h2⟩ := Tr.At.has hA.2.1 ok.2.2.2.1 h
      exact ⟨vl, vr, h1, (me b).2 (.inr (.inl h2))⟩
    · obtain ⟨vl, vr, h1, h2⟩ := Tr.At.has hA.2.2 ok.2.2.2.2 h
      exact ⟨vl, vr, h1, (me b).2 (.inr (.inr h2))⟩
def Tr.findT (t : Tr) (pf : ByteArray) (pl : Nat) : Option (Nat × Ent) := (t.look pf pl none).elim none fun q => if lenB q.2.key < pl then none else some q
theorem from_zero (t : Tr) (g : ByteArray) : t.from_ g 0 := by
  cases t with
  | nil => trivial
  | node b f len n l r => exact ⟨Nat.zero_le _, fun i hi => by omega⟩
/-- What is found: the entry of that form. -/
theorem findT_spec (hq : Pre K pf pl) (ok : t.ok K) : (t.findT pf pl = none ∧ ∀ e, e ∈ t.ents → e.key ≠ pf) ∨ ∃ b e, t.findT pf pl = some (b, e) ∧ t.has b e ∧ e ∈ t.ents ∧ e.key = pf := by
  unfold Tr.findT
  rcases Tr.look_spec (best := none) (pf := pf) (pl := pl) ok (from_zero t pf) (Agree.refl _ _) with ⟨h1, h2⟩ | ⟨b, e, h1, h2, h3, h4, h5⟩
  · rw [h1]
    refine .inl ⟨rfl, fun e he hk => h2 e he ⟨?_, ?_⟩⟩
    · rw [hk, hq.len]; exact Nat.le_refl _
    · rw [hk]; exact Agree.refl _ _
  · rw [h1]
    show ((if lenB e.key < pl then none else some (b, e)) = none ∧ _) ∨ ∃ b' e', (if lenB e.key < pl then none else some (b, e)) = some (b', e') ∧ _
    by_cases hl : lenB e.key < pl
    · rw [if_pos hl]
      refine .inl ⟨rfl, fun x hx hk => ?_⟩
      have := h5 x hx ⟨by rw [hk, hq.len]; exact Nat.le_refl _, by rw [hk]; exact Agree.refl _ _⟩
      rw [hk, hq.len] at this
      omega
    · rw [if_neg hl]
      obtain ⟨m, hm, _, _, _⟩ := Tr.ents_from ok (from_zero t pf) e h3
      obtain ⟨q1, q2⟩ := h4
      have hml := hm.len
      have : m = pl := by omega
      subst this
      rw [hml] at q2
      exact .inr ⟨b, e, rfl, h2, h3, hm.same hq q2⟩
set_option maxHeartbeats 1000000 in
theorem find_tree (hq : Pre K pf pl) (ok : t.ok K) (hA : t.At w) (hr : w.cell? ⟨x, 5, none⟩ = some t.ptr) (hx : x < w.heap.size) :
    Calls Try.prog 20 #[.pointer (some ⟨x, 5, none⟩), preV pf pl] w fun e w' => e = .returned (bestV (t.findT pf pl)) ∧ Qt w w' := by
  have hb := Blk.new w preT (preC pf pl)
  have hk : Qt w (w.alloc (.cells (preC pf pl) preT)) := (Keeps.refl _ w).alloc _
  have CL := Lib.hid (longest_any (w := w.alloc (.cells (preC pf pl) preT)) (x := x) hq ok (hA.quiet hk) (by rw [← hr]; exact cell_congr _ (hk.block x hx (fun h => h))) (by simp; omega))
  have HS := Lib.hid (Tr.look_spec (best := none) (pf := pf) (pl := pl) ok (from_zero t pf) (Agree.refl _ _))
  have d0 : (w.alloc (.cells (preC pf pl) preT)).cell? ⟨w.heap.size, 0, none⟩ = some (.string pf) := hb.cell 0
  have d1 : (w.alloc (.cells (preC pf pl) preT)).cell? ⟨w.heap.size, 1, none⟩ = some (.int .i64 pl) := hb.cell 1
  have HB := Lib.hid hb; have HK := Lib.hid hk; have HA := Lib.hid (hA.quiet hk); have HO := Lib.hid ok
  have HF : Hid (t.findT pf pl = (t.look pf pl none).elim none fun q => if lenB q.2.key < pl then none else some q) := rfl
  rw [HF.out]
  clear hb hk ok hA hr hx hq
  generalize t.look pf pl none = res at *
  rcases res with _ | ⟨b, e⟩
  · show Calls _ _ _ _ fun e w' => e = .returned (.pointer none) ∧ Qt w w'
    have CL2 : Hid (Calls Try.prog 23 #[.pointer (some ⟨x, 5, none⟩), preV pf pl] (w.alloc (.cells (preC pf pl) preT)) fun e w' => e = .returned (.pointer none) ∧ Qt (w.alloc (.cells (preC pf pl) preT)) w') := CL
    clear CL
    go_enter Try.func20, Try.ntmps20
    go_wp2_with (go_at_call 23; refine CL2.out.mono ?_; rintro e' w1 ⟨rfl, hq⟩; have HQ := Lib.hid hq; clear hq)
    go_quiet (fail)
    go_wp2_with fail
    go_ret
    exact ⟨rfl, (HK.out.then_ HQ.out).drewN' _⟩
  · have CL2 : Hid (Calls Try.prog 23 #[.pointer (some ⟨x, 5, none⟩), preV pf pl] (w.alloc (.cells (preC pf pl) preT)) fun e w' => e = .returned (tp b) ∧ Qt (w.alloc (.cells (preC pf pl) preT)) w') := CL
    clear CL
    obtain ⟨vl, vr, hbn, _⟩ : ∃ vl vr, Blk (w.alloc (.cells (preC pf pl) preT)) b nodeT (nodeC e.key (lenB e.key) e.n vl vr) ∧ b ∈ t.blocks := by
      rcases HS.out with ⟨h1, _⟩ | ⟨b', e', h1, h2, _⟩
      · cases h1
      · cases h1
        exact Tr.At.has HA.out HO.out h2
    have HBN := Lib.hid hbn; clear hbn
    by_cases hl : lenB e.key < pl
    · show Calls _ _ _ _ fun e' w' => e' = .returned (bestV (if lenB e.key < pl then none else some (b, e))) ∧ Qt w w'
      rw [if_pos hl]
      have g1 : decide (lenB e.key < pl) = true := by simpa using hl
      clear hl
      generalize lenB e.key = le' at *
      go_enter Try.func20, Try.ntmps20
      go_wp2_with (go_at_call 23; refine CL2.out.mono ?_; rintro e' w1 ⟨rfl, hq⟩; have q1 : w1.cell? ⟨b, 1, none⟩ = some (.int .i64 (le' : Int)) := (HBN.out.quiet hq).cell 1; have q2 : w1.cell? ⟨w.heap.size, 1, none⟩ = some (.int .i64 pl) := (HB.out.quiet hq).cell 1; have HQ := Lib.hid hq; clear hq)
      go_quiet (fail)
      go_wp2_with fail
      go_ret
      exact ⟨rfl, (HK.out.then_ HQ.out).drewN' _⟩
    · show Calls _ _ _ _ fun e' w' => e' = .returned (bestV (if lenB e.key < pl then none else some (b, e))) ∧ Qt w w'
      rw [if_neg hl]
      have g1 : decide (lenB e.key < pl) = false := by simpa using hl
      clear hl
      generalize lenB e.key = le' at *
      go_enter Try.func20, Try.ntmps20
      go_wp2_with (go_at_call 23; refine CL2.out.mono ?_; rintro e' w1 ⟨rfl, hq⟩; have q1 : w1.cell? ⟨b, 1, none⟩ = some (.int .i64 (le' : Int)) := (HBN.out.quiet hq).cell 1; have q2 : w1.cell? ⟨w.heap.size, 1, none⟩ = some (.int .i64 pl) := (HB.out.quiet hq).cell 1; have HQ := Lib.hid hq; clear hq)
      go_quiet (fail)
      go_wp2_with fail
      go_ret
      exact ⟨rfl, (HK.out.then_ HQ.out).drewN' _⟩
end
end Go.Proofs.Ytomhflaofipccaa
namespace Go.Proofs.Ytomhflaofipccaa
open Go Go.RowKit Go.Maps
set_option linter.unusedVariables false
set_option linter.unusedSimpArgs false
set_option maxRecDepth 100000
theorem ret_p {a b : Tr} (h : a = b) : Ending.returned a.ptr = Ending.returned b.ptr := by rw [h]
theorem need_000 {w : World} {b : Nat} {f : ByteArray} {len : Nat} {A : Int} {b1 b2 : Nat} (hb : Blk w b nodeT #[.string f, .int .i64 len, .int .u64 A, .pointer none, .pointer none]) (hA : (A != 0) = false) :
    Calls Try.prog 45 #[tp b] w fun e w' => e = .returned (.pointer none) ∧ w = w' := by
  have c2 : w.cell? ⟨b, 2, none⟩ = some (.int .u64 A) := hb.cell 2
  have c3 : w.cell? ⟨b, 3, none⟩ = some (.pointer none) := hb.cell 3
  have c4 : w.cell? ⟨b, 4, none⟩ = some (.pointer none) := hb.cell 4
  clear hb
  go_enter Try.func45, Try.ntmps45
  go_wp2_with fail
  go_ret
  exact ⟨rfl, rfl⟩
theorem need_001 {w : World} {b : Nat} {f : ByteArray} {len : Nat} {A : Int} {b1 b2 : Nat} (hb : Blk w b nodeT #[.string f, .int .i64 len, .int .u64 A, .pointer none, tp b2]) (hA : (A != 0) = false) :
    Calls Try.prog 45 #[tp b] w fun e w' => e = .returned (tp b2) ∧ w = w' := by
  have c2 : w.cell? ⟨b, 2, none⟩ = some (.int .u64 A) := hb.cell 2
  have c3 : w.cell? ⟨b, 3, none⟩ = some (.pointer none) := hb.cell 3
  have c4 : w.cell? ⟨b, 4, none⟩ = some (tp b2) := hb.cell 4
  clear hb
  go_enter Try.func45, Try.ntmps45
  go_wp2_with fail
  go_ret
  exact ⟨rfl, rfl⟩
theorem need_010 {w : World} {b : Nat} {f : ByteArray} {len : Nat} {A : Int} {b1 b2 : Nat} (hb : Blk w b nodeT #[.string f, .int .i64 len, .int .u64 A, tp b1, .pointer none]) (hA : (A != 0) = false) :
    Calls Try.prog 45 #[tp b] w fun e w' => e = .returned (tp b1) ∧ w = w' := by
  have c2 : w.cell? ⟨b, 2, none⟩ = some (.int .u64 A) := hb.cell 2
  have c3 : w.cell? ⟨b, 3, none⟩ = some (tp b1) := hb.cell 3
  have c4 : w.cell? ⟨b, 4, none⟩ = some (.pointer none) := hb.cell 4
  clear hb
  go_enter Try.func45, Try.ntmps45
  go_wp2_with fail
  go_ret
  exact ⟨rfl, rfl⟩
theorem need_011 {w : World} {b : Nat} {f : ByteArray} {len : Nat} {A : Int} {b1 b2 : Nat} (hb : Blk w b nodeT #[.string f, .int .i64 len, .int .u64 A, tp b1, tp b2]) (hA : (A != 0) = false) :
    Calls Try.prog 45 #[tp b] w fun e w' => e = .returned (tp b) ∧ w = w' := by
  have c2 : w.cell? ⟨b, 2, none⟩ = some (.int .u64 A) := hb.cell 2
  have c3 : w.cell? ⟨b, 3, none⟩ = some (tp b1) := hb.cell 3
  have c4 : w.cell? ⟨b, 4, none⟩ = some (tp b2) := hb.cell 4
  clear hb
  go_enter Try.func45, Try.ntmps45
  go_wp2_with fail
  go_ret
  exact ⟨rfl, rfl⟩
theorem need_100 {w : World} {b : Nat} {f : ByteArray} {len : Nat} {A : Int} {b1 b2 : Nat} (hb : Blk w b nodeT #[.string f, .int .i64 len, .int .u64 A, .pointer none, .pointer none]) (hA : (A != 0) = true) :
    Calls Try.prog 45 #[tp b] w fun e w' => e = .returned (tp b) ∧ w = w' := by
  have c2 : w.cell? ⟨b, 2, none⟩ = some (.int .u64 A) := hb.cell 2
  have c3 : w.cell? ⟨b, 3, none⟩ = some (.pointer none) := hb.cell 3
  have c4 : w.cell? ⟨b, 4, none⟩ = some (.pointer none) := hb.cell 4
  clear hb
  go_enter Try.func45, Try.ntmps45
  go_wp2_with fail
  go_ret
  exact ⟨rfl, rfl⟩
theorem need_101 {w : World} {b : Nat} {f : ByteArray} {len : Nat} {A : Int} {b1 b2 : Nat} (hb : Blk w b nodeT #[.string f, .int .i64 len, .int .u64 A, .pointer none, tp b2]) (hA : (A != 0) = true) :
    Calls Try.prog 45 #[tp b] w fun e w' => e = .returned (tp b) ∧ w = w' := by
  have c2 : w.cell? ⟨b, 2, none⟩ = some (.int .u64 A) := hb.cell 2
  have c3 : w.cell? ⟨b, 3, none⟩ = some (.pointer none) := hb.cell 3
  have c4 : w.cell? ⟨b, 4, none⟩ = some (tp b2) := hb.cell 4
  clear hb
  go_enter Try.func45, Try.ntmps45
  go_wp2_with fail
  go_ret
  exact ⟨rfl, rfl⟩
theorem need_110 {w : World} {b : Nat} {f : ByteArray} {len : Nat} {A : Int} {b1 b2 : Nat} (hb : Blk w b nodeT #[.string f, .int .i64 len, .int .u64 A, tp b1, .pointer none]) (hA : (A != 0) = true) :
    Calls Try.prog 45 #[tp b] w fun e w' => e = .returned (tp b) ∧ w = w' := by
  have c2 : w.cell? ⟨b, 2, none⟩ = some (.int .u64 A) := hb.cell 2
  have c3 : w.cell? ⟨b, 3, none⟩ = some (tp b1) := hb.cell 3
  have c4 : w.cell? ⟨b, 4, none⟩ = some (.pointer none) := hb.cell 4
  clear hb
  go_enter Try.func45, Try.ntmps45
  go_wp2_with fail
  go_ret
  exact ⟨rfl, rfl⟩
theorem need_111 {w : World} {b : Nat} {f : ByteArray} {len : Nat} {A : Int} {b1 b2 : Nat} (hb : Blk w b nodeT #[.string f, .int .i64 len, .int .u64 A, tp b1, tp b2]) (hA : (A != 0) = true) :
    Calls Try.prog 45 #[tp b] w fun e w' => e = .returned (tp b) ∧ w = w' := by
  have c2 : w.cell? ⟨b, 2, none⟩ = some (.int .u64 A) := hb.cell 2
  have c3 : w.cell? ⟨b, 3, none⟩ = some (tp b1) := hb.cell 3
  have c4 : w.cell? ⟨b, 4, none⟩ = some (tp b2) := hb.cell 4
  clear hb
  go_enter Try.func45, Try.ntmps45
  go_wp2_with fail
  go_ret
  exact ⟨rfl, rfl⟩
theorem need_any {w : World} {b : Nat} {f : ByteArray} {len n : Nat} {l r : Tr} (hb : Blk w b nodeT (nodeC f len n l.ptr r.ptr)) :
    Calls Try.prog 45 #[tp b] w fun e w' => e = .returned ((Tr.node b f len n l r).need.ptr) ∧ w = w' := by
  have e0 : ((addr n 0) != 0) = decide (n ≠ 0) := by unfold addr; by_cases hn : n = 0 <;> simp [hn]
  by_cases hn : n = 0
  · have e1 : ((addr n 0) != 0) = false := by rw [e0]; simp [hn]
    cases l with
    | nil =>
      cases r with
      | nil => exact (need_000 (b1 := 0) (b2 := 0) hb e1).mono fun e w' ⟨h1, h2⟩ => ⟨by rw [h1]; refine ret_p (a := .nil) ?_; rw [Tr.need_node, if_neg (by simp [hn, Tr.isNil]), if_neg (by simp [Tr.isNil])], h2⟩
      | node b2 f2 l2 n2 x2 y2 => exact (need_001 (b1 := 0) hb e1).mono fun e w' ⟨h1, h2⟩ => ⟨by rw [h1]; refine ret_p (a := .node b2 f2 l2 n2 x2 y2) ?_; rw [Tr.need_node, if_neg (by simp [hn, Tr.isNil]), if_neg (by simp [Tr.isNil])], h2⟩
    | node b1 f1 l1 n1 x1 y1 =>
      cases r with
      | nil => exact (need_010 (b2 := 0) hb e1).mono fun e w' ⟨h1, h2⟩ => ⟨by rw [h1]; refine ret_p (a := .node b1 f1 l1 n1 x1 y1) ?_; rw [Tr.need_node, if_neg (by simp [hn, Tr.isNil]), if_pos (by simp [Tr.isNil])], h2⟩
      | node b2 f2 l2 n2 x2 y2 => exact (need_011 hb e1).mono fun e w' ⟨h1, h2⟩ => ⟨by rw [h1]; refine ret_p (a := .node b f len n (.node b1 f1 l1 n1 x1 y1) (.node b2 f2 l2 n2 x2 y2)) ?_; rw [Tr.need_node, if_pos (by simp [Tr.isNil])], h2⟩
  · have e1 : ((addr n 0) != 0) = true := by rw [e0]; simp [hn]
    have e2 : (Tr.node b f len n l r).need = .node b f len n l r := by rw [Tr.need_node, if_pos (.inl hn)]
    rw [e2]
    cases l with
    | nil =>
      cases r with
      | nil => exact need_100 (b1 := 0) (b2 := 0) hb e1
      | node b2 f2 l2 n2 x2 y2 => exact need_101 (b1 := 0) hb e1
    | node b1 f1 l1 n1 x1 y1 =>
      cases r with
      | nil => exact need_110 (b2 := 0) hb e1
      | node b2 f2 l2 n2 x2 y2 => exact need_111 hb e1
set_option maxHeartbeats 1000000 in
theorem parted_any {w : World} {b : Nat} {f : ByteArray} {len n : Nat} {l r : Tr} (hb : Blk w b nodeT (nodeC f len n l.ptr r.ptr)) {K : Nat} (hp : Pre K f len) (sh : Nat) (hs : sh < len) :
    Calls Try.prog 55 #[tp b, .int .i64 sh] w fun e w' => ∃ nb, e = .returned (tp nb) ∧ w.heap.size ≤ nb ∧ Blk w' nb nodeT (if bitB f sh then nodeC (cutB f sh) sh 0 (.pointer none) (tp b) else nodeC (cutB f sh) sh 0 (tp b) (.pointer none)) ∧ Qt w w' := by
  have k2 := hp.k2
  have k5 := hp.k5
  have hle := hp.le
  have hsz := hp.sz
  have CC := Lib.hid (fun W => cut_any f sh (by omega) (by omega) (by omega) W)
  have CB := Lib.hid (fun W => bit_any f len sh (by omega) (by omega) W)
  have c0 : w.cell? ⟨b, 0, none⟩ = some (.string f) := hb.cell 0
  have c1 : w.cell? ⟨b, 1, none⟩ = some (.int .i64 len) := hb.cell 1
  have HB := Lib.hid hb
  clear hb hp hsz
  cases hd : bitB f sh
  all_goals
    have hbi : bitI f sh = (if bitB f sh then 1 else 0) := rfl
    rw [hd] at hbi
    simp only [Bool.false_eq_true, if_false, if_true] at hbi ⊢
    rw [hbi] at CB
    clear hbi hd
    go_enter Try.func55, Try.ntmps55
    go_upto_region 2 with (go_at_call 51; refine (CC.out _).mono ?_; rintro e w1 ⟨rfl, hq⟩; have HQ := Lib.hid hq; clear hq)
    have HN := Lib.hid (Blk.new w1 nodeT (nodeC (cutB f sh) sh 0 (.pointer none) (.pointer none)))
    have HQ2 : Hid (Qt w (w1.alloc (.cells (nodeC (cutB f sh) sh 0 (.pointer none) (.pointer none)) nodeT))) := Lib.hid (HQ.out.alloc _)
    have HZ : Hid (w.heap.size ≤ w1.heap.size) := HQ.out.size
    have HBL : Hid (b < w.heap.size) := HB.out.lt
    have HNB : Hid (w1.heap.size ≠ b) := by have h1 := HZ.out; have h2 := HBL.out; exact Lib.hid (by omega)
    have z0 : addr 0 0 = 0 := rfl
    unfold nodeC at HN HQ2
    rw [z0] at HN HQ2
    generalize hnb : w1.heap.size = nb at *
    generalize World.alloc w1 _ = W at HN HQ2 ⊢
    clear hnb z0
    have HB2 := Lib.hid (HB.out.quiet HQ2.out)
    have HBd := Lib.hid HB2.out.drew
    have HNd := Lib.hid HN.out.drew
    have S0 : Hid (W.cell? ⟨b, 0, none⟩ = some (.string f) ∧ W.cell? ⟨b, 1, none⟩ = some (.int .i64 len)) := ⟨HB2.out.cell 0, HB2.out.cell 1⟩
    have S2 : ∀ (w2 : World) (i : Nat), Blk w2 b nodeT (nodeC f len n l.ptr r.ptr) → ((w2.setCell ⟨nb, i, none⟩ (tp b)).cell? ⟨b, 0, none⟩ = some (.string f) ∧ (w2.setCell ⟨nb, i, none⟩ (tp b)).cell? ⟨b, 1, none⟩ = some (.int .i64 len)) := fun w2 i h => ⟨(h.far (p := ⟨nb, i, none⟩) (Ne.symm HNB.out) _).cell 0, (h.far (p := ⟨nb, i, none⟩) (Ne.symm HNB.out) _).cell 1⟩
    have HS2 := Lib.hid S2; clear S2
    go_region_held3 (fun U => U.cell? ⟨b, 0, none⟩ = some (.string f) ∧ U.cell? ⟨b, 1, none⟩ = some (.int .i64 len))
      (first | exact S0.out | exact S1.out | exact HS2.out _ _ HB3.out)
      (first | (go_at_call 39; refine (CB.out _).mono ?_; rintro e w2 ⟨rfl, hq2⟩; have HB3 := Lib.hid (HBd.out.quiet hq2); have HN3 := Lib.hid (HNd.out.quiet hq2); have S1 : Hid (w2.cell? ⟨b, 0, none⟩ = some (.string f) ∧ w2.cell? ⟨b, 1, none⟩ = some (.int .i64 len)) := ⟨HB3.out.cell 0, HB3.out.cell 1⟩; have d3 : w2.cell? ⟨nb, 3, none⟩ = some (.pointer none) := HN3.out.cell 3; have d4 : w2.cell? ⟨nb, 4, none⟩ = some (.pointer none) := HN3.out.cell 4; have f3 := HN3.out.frozen 3; have f4 := HN3.out.frozen 4; have HQ3 := Lib.hid hq2; clear hq2))
    go_wp2_with fail
    go_ret
    exact ⟨nb, rfl, HZ.out, HN3.out.set_ _ _, ((HQ2.out.then_ HQ3.out.undrew).setCell (p := ⟨nb, _, none⟩) (.inr HZ.out) _)⟩
end Go.Proofs.Ytomhflaofipccaa
