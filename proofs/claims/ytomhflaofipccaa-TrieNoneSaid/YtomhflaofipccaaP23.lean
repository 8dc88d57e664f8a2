/-
  Package trie: an entry is put in: the walk, way by way. Package trie: an entry is put in: the walk, a node parted. Package trie: an entry is put in: whole.
-/
import Derived.Test.YtomhflaofipccaaP22
import Derived.Laws.EntriesVeiled
namespace Go.Proofs.Ytomhflaofipccaa
open Go Go.RowKit Go.Maps
set_option linter.unusedVariables false
set_option linter.unusedSimpArgs false
set_option maxRecDepth 100000
abbrev awT : TypeId := 104
abbrev awV (pb fb wb : Nat) : Value := .func (.func 54) #[] #[tp pb, tp fb, tp wb]
/-- What the walk captured. -/
structure AW (w : World) (pb fb wb : Nat) (pf : ByteArray) (pl n : Nat) : Prop where
  p : Blk w pb preT (preC pf pl)
  f : Blk w fb 36 #[.int .u64 (addr n 0)]
  w : Blk w wb awT #[awV pb fb wb]
def partC (d : Bool) (f : ByteArray) (sh n : Nat) (v : Value) : Array Value := if d then nodeC f sh n (.pointer none) v else nodeC f sh n v (.pointer none)
theorem partC_set (d : Bool) (f : ByteArray) (sh n : Nat) (v : Value) : (if d then nodeC f sh 0 (.pointer none) v else nodeC f sh 0 v (.pointer none)).setIfInBounds 2 (.int .u64 (addr n 0)) = partC d f sh n v := by unfold partC; cases d <;> rfl
section
variable {w w' : World} {pb fb wb : Nat} {pf : ByteArray} {pl n : Nat}
theorem AW.keeps {S : Nat → Prop} (h : AW w pb fb wb pf pl n) (k : Keeps S w w') (h1 : ¬ S pb) (h2 : ¬ S fb) (h3 : ¬ S wb) : AW w' pb fb wb pf pl n := ⟨h.p.keeps k h1, h.f.keeps k h2, h.w.keeps k h3⟩
theorem AW.quiet (h : AW w pb fb wb pf pl n) (k : Qt w w') : AW w' pb fb wb pf pl n := h.keeps k (fun h => h) (fun h => h) (fun h => h)
theorem AW.node {b : Nat} {cs : Array Value} (h : AW w pb fb wb pf pl n) (hb : Blk w b nodeT cs) : pb ≠ b ∧ fb ≠ b ∧ wb ≠ b := ⟨h.p.ne_ hb (by decide), h.f.ne_ hb (by decide), h.w.ne_ hb (by decide)⟩
theorem AW.set_ {b i : Nat} {cs : Array Value} (h : AW w pb fb wb pf pl n) (hb : Blk w b nodeT cs) (v : Value) : AW (w.setCell ⟨b, i, none⟩ v) pb fb wb pf pl n := ⟨h.p.far (h.node hb).1 v, h.f.far (h.node hb).2.1 v, h.w.far (h.node hb).2.2 v⟩
theorem add_nil (h : AW w pb fb wb pf pl n) (k : Nat) :
    Calls Try.prog 54 #[.pointer none, .int .i64 k, tp pb, tp fb, tp wb] w fun e w' => e = .returned (tp w.heap.size) ∧ AW w' pb fb wb pf pl n ∧ Blk w' w.heap.size nodeT (nodeC pf pl n (.pointer none) (.pointer none)) ∧ Qt w w' := by
  have H : Hid (AW (w.alloc (.cells (nodeC pf pl n (.pointer none) (.pointer none)) nodeT)) pb fb wb pf pl n) := Lib.hid (h.quiet ((Keeps.refl _ w).alloc _))
  have c0 : w.cell? ⟨pb, 0, none⟩ = some (.string pf) := h.p.cell 0
  have c1 : w.cell? ⟨pb, 1, none⟩ = some (.int .i64 pl) := h.p.cell 1
  have c2 : w.cell? ⟨fb, 0, none⟩ = some (.int .u64 (addr n 0)) := h.f.cell 0
  have HN := Lib.hid (Blk.new w nodeT (nodeC pf pl n (.pointer none) (.pointer none)))
  clear h
  go_enter Try.func54, Try.ntmps54
  go_wp2_with fail
  go_ret
  exact ⟨rfl, H.out, HN.out, (Keeps.refl _ w).alloc _⟩
set_option maxHeartbeats 4000000 in
theorem add_down_here {b : Nat} {f : ByteArray} {len m : Nat} {l r : Tr} (h : AW w pb fb wb pf pl n) (hb : Blk w b nodeT (nodeC f len m l.ptr r.ptr)) {K : Nat} (hp : Pre K f len) (hq : Pre K pf pl) {k : Nat} (hk1 : k ≤ len) (hk2 : k ≤ pl) (ha : Agree f pf k) (hag : Agree f pf len) (hl : len = pl) :
    Calls Try.prog 54 #[tp b, .int .i64 k, tp pb, tp fb, tp wb] w fun e w' => e = .returned (tp b) ∧ AW w' pb fb wb pf pl n ∧ Blk w' b nodeT (nodeC f len n l.ptr r.ptr) ∧ Keeps (fun x => x = b) w w' := by
  have k2 := hp.k2
  have hle := hp.le
  have hle2 := hq.le
  have k5 := hp.k5
  have CS := Lib.hid (fun W => same_any f pf len pl k hk1 hk2 (by rw [hp.sz]; exact hle) (by rw [hq.sz]; exact hle2) (by omega) (by omega) ha W)
  have H : Hid (AW w.drew pb fb wb pf pl n) := Lib.hid (h.quiet (Keeps.refl _ w).drew)
  have hs : ¬ share f pf (min len pl) < len := fun hs => (share_lt.1 hs) ⟨(by omega), hag⟩
  have g1 : decide (share f pf (min len pl) < len) = false := by simpa using hs
  have g2 : ((len : Int) == (pl : Int)) = true := by simp; omega
  have S0 : Hid (w.cell? ⟨b, 0, none⟩ = some (.string f) ∧ w.cell? ⟨b, 1, none⟩ = some (.int .i64 len) ∧ w.cell? ⟨pb, 0, none⟩ = some (.string pf) ∧ w.cell? ⟨pb, 1, none⟩ = some (.int .i64 pl)) := ⟨hb.cell 0, hb.cell 1, h.p.cell 0, h.p.cell 1⟩
  have HB := Lib.hid hb.drew
  clear hb h hp hq hag ha hs hl
  generalize share f pf (min len pl) = sh at *
  go_enter Try.func54, Try.ntmps54
  go_upto_region 3 with fail
  go_region_held3 (fun W => W.cell? ⟨b, 0, none⟩ = some (.string f) ∧ W.cell? ⟨b, 1, none⟩ = some (.int .i64 len) ∧ W.cell? ⟨pb, 0, none⟩ = some (.string pf) ∧ W.cell? ⟨pb, 1, none⟩ = some (.int .i64 pl))
    (first | exact S0.out | exact S1.out)
    (first | (go_at_call 38; refine (CS.out _).mono ?_; rintro e w1 ⟨rfl, hq⟩; have hb1 := HB.out.quiet hq; have hl1 := H.out.quiet hq; have S1 : Hid (w1.cell? ⟨b, 0, none⟩ = some (.string f) ∧ w1.cell? ⟨b, 1, none⟩ = some (.int .i64 len) ∧ w1.cell? ⟨pb, 0, none⟩ = some (.string pf) ∧ w1.cell? ⟨pb, 1, none⟩ = some (.int .i64 pl)) := ⟨hb1.cell 0, hb1.cell 1, hl1.p.cell 0, hl1.p.cell 1⟩; have HQ := Lib.hid hq.undrew; have HL1 := Lib.hid hl1; have HB1 := Lib.hid hb1; clear hq hb1 hl1))
  have e1 : w1.cell? ⟨b, 1, none⟩ = some (.int .i64 len) := HB1.out.cell 1
  go_upto_region 6 with fail
  have HL2 := HL1; have HN2 := HB1; have HK2 := HQ
  clear HL1 HB1 HQ S1
  generalize w1 = w2 at *
  have x1 : w2.cell? ⟨b, 1, none⟩ = some (.int .i64 len) := HN2.out.cell 1
  have x2 : w2.cell? ⟨b, 2, none⟩ = some (.int .u64 (addr m 0)) := HN2.out.cell 2
  have y1 : w2.cell? ⟨pb, 1, none⟩ = some (.int .i64 pl) := HL2.out.p.cell 1
  have y2 : w2.cell? ⟨fb, 0, none⟩ = some (.int .u64 (addr n 0)) := HL2.out.f.cell 0
  have fz : w2.frozen? ⟨b, 2, none⟩ = false := HN2.out.frozen 2
  go_quiet (fail)
  go_wp2_with fail
  go_ret
  exact ⟨rfl, (HL2.out.quiet ((Keeps.refl _ w2).drewN' nq)).set_ (HN2.out.drewN nq) _, (HN2.out.drewN nq).set_ 2 (.int .u64 (addr n 0)), (Keeps.qt (S := fun x => x = b) (HK2.out.drewN' nq)).setCell (p := ⟨b, 2, none⟩) (.inl rfl) _⟩
set_option maxHeartbeats 4000000 in
theorem add_down_0 {b : Nat} {f : ByteArray} {len m : Nat} {l r : Tr} (h : AW w pb fb wb pf pl n) (hb : Blk w b nodeT (nodeC f len m l.ptr r.ptr)) {K : Nat} (hp : Pre K f len) (hq : Pre K pf pl) {k : Nat} (hk1 : k ≤ len) (hk2 : k ≤ pl) (ha : Agree f pf k) (hag : Agree f pf len) (hl : len < pl) (hd : bitB pf len = false)
    (R : Nat → World → World → Prop) (hR : ∀ c u v, R c u v → AW v pb fb wb pf pl n ∧ Keeps (fun x => x ∈ l.blocks) u v) (hnb : b ∉ l.blocks)
    (ih : ∀ w2, AW w2 pb fb wb pf pl n → Keeps (fun _ => False) w w2 → Calls Try.prog 54 #[l.ptr, .int .i64 len, tp pb, tp fb, tp wb] w2 (fun e w3 => ∃ c, e = .returned (tp c) ∧ R c w2 w3)) :
    Calls Try.prog 54 #[tp b, .int .i64 k, tp pb, tp fb, tp wb] w fun e w' => ∃ c w2 w3, e = .returned (tp b) ∧ Qt w w2 ∧ R c w2 w3 ∧ AW w' pb fb wb pf pl n ∧ w' = w3.setCell ⟨b, 3, none⟩ (tp c) ∧ Blk w' b nodeT (nodeC f len m (tp c) r.ptr) := by
  have k2 := hp.k2
  have hle := hp.le
  have hle2 := hq.le
  have k5 := hp.k5
  have CS := Lib.hid (fun W => same_any f pf len pl k hk1 hk2 (by rw [hp.sz]; exact hle) (by rw [hq.sz]; exact hle2) (by omega) (by omega) ha W)
  have hsz := hq.sz
  have CB := Lib.hid (fun W => bit_any pf pl len (by omega) (by omega) W)
  have hbi : bitI pf len = 0 := by unfold bitI; rw [hd]; rfl
  rw [hbi] at CB
  have IH := Lib.hid ih
  have HR := Lib.hid hR
  clear ih hR hd hbi hsz
  have HNB := Lib.hid hnb
  clear hnb
  have H : Hid (AW w.drew pb fb wb pf pl n) := Lib.hid (h.quiet (Keeps.refl _ w).drew)
  have hs : ¬ share f pf (min len pl) < len := fun hs => (share_lt.1 hs) ⟨(by omega), hag⟩
  have g1 : decide (share f pf (min len pl) < len) = false := by simpa using hs
  have g2 : ((len : Int) == (pl : Int)) = false := by simp; omega
  have S0 : Hid (w.cell? ⟨b, 0, none⟩ = some (.string f) ∧ w.cell? ⟨b, 1, none⟩ = some (.int .i64 len) ∧ w.cell? ⟨pb, 0, none⟩ = some (.string pf) ∧ w.cell? ⟨pb, 1, none⟩ = some (.int .i64 pl)) := ⟨hb.cell 0, hb.cell 1, h.p.cell 0, h.p.cell 1⟩
  have HB := Lib.hid hb.drew
  clear hb h hp hq hag ha hs hl
  generalize share f pf (min len pl) = sh at *
  go_enter Try.func54, Try.ntmps54
  go_upto_region 3 with fail
  go_region_held3 (fun W => W.cell? ⟨b, 0, none⟩ = some (.string f) ∧ W.cell? ⟨b, 1, none⟩ = some (.int .i64 len) ∧ W.cell? ⟨pb, 0, none⟩ = some (.string pf) ∧ W.cell? ⟨pb, 1, none⟩ = some (.int .i64 pl))
    (first | exact S0.out | exact S1.out)
    (first | (go_at_call 38; refine (CS.out _).mono ?_; rintro e w1 ⟨rfl, hq⟩; have hb1 := HB.out.quiet hq; have hl1 := H.out.quiet hq; have S1 : Hid (w1.cell? ⟨b, 0, none⟩ = some (.string f) ∧ w1.cell? ⟨b, 1, none⟩ = some (.int .i64 len) ∧ w1.cell? ⟨pb, 0, none⟩ = some (.string pf) ∧ w1.cell? ⟨pb, 1, none⟩ = some (.int .i64 pl)) := ⟨hb1.cell 0, hb1.cell 1, hl1.p.cell 0, hl1.p.cell 1⟩; have HQ := Lib.hid hq.undrew; have HL1 := Lib.hid hl1; have HB1 := Lib.hid hb1; clear hq hb1 hl1))
  have e1 : w1.cell? ⟨b, 1, none⟩ = some (.int .i64 len) := HB1.out.cell 1
  go_upto_region 6 with fail
  have HL2 := HL1; have HN2 := HB1; have HK2 := HQ
  clear HL1 HB1 HQ S1
  generalize w1 = w2 at *
  have x1 : w2.cell? ⟨b, 1, none⟩ = some (.int .i64 len) := HN2.out.cell 1
  have y1 : w2.cell? ⟨pb, 1, none⟩ = some (.int .i64 pl) := HL2.out.p.cell 1
  go_quiet (fail)
  go_upto_region 9 with fail
  have HL3 := Lib.hid (HL2.out.quiet ((Keeps.refl _ w2).drewN' nq))
  have HN3 := Lib.hid (HN2.out.drewN nq)
  have HK3 := Lib.hid (HK2.out.drewN' nq)
  clear x1 y1 HL2 HN2 HK2
  generalize w2.drewN nq = w3 at *
  have HL3d := Lib.hid (HL3.out.quiet (Keeps.refl _ w3).drew)
  have HN3d := Lib.hid HN3.out.drew
  have S3 : Hid (w3.cell? ⟨b, 1, none⟩ = some (.int .i64 len) ∧ w3.cell? ⟨pb, 0, none⟩ = some (.string pf) ∧ w3.cell? ⟨pb, 1, none⟩ = some (.int .i64 pl)) := ⟨HN3.out.cell 1, HL3.out.p.cell 0, HL3.out.p.cell 1⟩
  go_region_held3 (fun W => W.cell? ⟨b, 1, none⟩ = some (.int .i64 len) ∧ W.cell? ⟨pb, 0, none⟩ = some (.string pf) ∧ W.cell? ⟨pb, 1, none⟩ = some (.int .i64 pl))
    (first | exact S3.out | exact S4.out)
    (first | (go_at_call 39; refine (CB.out _).mono ?_; rintro e w4 ⟨rfl, hq4⟩; have HL4 := Lib.hid (HL3d.out.quiet hq4); have HN4 := Lib.hid (HN3d.out.quiet hq4); have HK4 := Lib.hid (HK3.out.then_ (Keeps.undrew hq4)); have S4 : Hid (w4.cell? ⟨b, 1, none⟩ = some (.int .i64 len) ∧ w4.cell? ⟨pb, 0, none⟩ = some (.string pf) ∧ w4.cell? ⟨pb, 1, none⟩ = some (.int .i64 pl)) := ⟨HN4.out.cell 1, HL4.out.p.cell 0, HL4.out.p.cell 1⟩; clear hq4))
  go_upto_region 10 with fail
  have HL4d := Lib.hid (HL4.out.quiet (Keeps.refl _ w4).drew)
  have HN4d := Lib.hid HN4.out.drew
  have HK4d := Lib.hid HK4.out.drew
  have CI := Lib.hid (IH.out _ HL4d.out HK4d.out)
  have z0 : w4.cell? ⟨wb, 0, none⟩ = some (awV pb fb wb) := HL4.out.w.cell 0
  have z1 : w4.cell? ⟨b, 1, none⟩ = some (.int .i64 len) := HN4.out.cell 1
  have z2 : w4.cell? ⟨b, 3, none⟩ = some (l.ptr) := HN4.out.cell 3
  go_region_law (first
    | (go_simp; go_at_call 54; refine CI.out.mono ?_; rintro e w5 ⟨c, rfl, hr⟩; have HR5 := Lib.hid hr; have hl5 := (HR.out _ _ _ hr).1; have hn5 := HN4d.out.keeps (HR.out _ _ _ hr).2 HNB.out; have z5 : w5.cell? ⟨b, 3, none⟩ = some (l.ptr) := hn5.cell 3; have z6 := hn5.frozen 3; have HL5 := Lib.hid hl5; have HN5 := Lib.hid hn5; clear hr hl5 hn5))
  all_goals go_wp2_with fail
  all_goals go_ret
  all_goals exact ⟨c, _, w5, rfl, HK4d.out, HR5.out, HL5.out.set_ HN5.out _, rfl, HN5.out.set_ 3 (tp c)⟩
set_option maxHeartbeats 4000000 in
theorem add_down_1 {b : Nat} {f : ByteArray} {len m : Nat} {l r : Tr} (h : AW w pb fb wb pf pl n) (hb : Blk w b nodeT (nodeC f len m l.ptr r.ptr)) {K : Nat} (hp : Pre K f len) (hq : Pre K pf pl) {k : Nat} (hk1 : k ≤ len) (hk2 : k ≤ pl) (ha : Agree f pf k) (hag : Agree f pf len) (hl : len < pl) (hd : bitB pf len = true)
    (R : Nat → World → World → Prop) (hR : ∀ c u v, R c u v → AW v pb fb wb pf pl n ∧ Keeps (fun x => x ∈ r.blocks) u v) (hnb : b ∉ r.blocks)
    (ih : ∀ w2, AW w2 pb fb wb pf pl n → Keeps (fun _ => False) w w2 → Calls Try.prog 54 #[r.ptr, .int .i64 len, tp pb, tp fb, tp wb] w2 (fun e w3 => ∃ c, e = .returned (tp c) ∧ R c w2 w3)) :
    Calls Try.prog 54 #[tp b, .int .i64 k, tp pb, tp fb, tp wb] w fun e w' => ∃ c w2 w3, e = .returned (tp b) ∧ Qt w w2 ∧ R c w2 w3 ∧ AW w' pb fb wb pf pl n ∧ w' = w3.setCell ⟨b, 4, none⟩ (tp c) ∧ Blk w' b nodeT (nodeC f len m l.ptr (tp c)) := by
  have k2 := hp.k2
  have hle := hp.le
  have hle2 := hq.le
  have k5 := hp.k5
  have CS := Lib.hid (fun W => same_any f pf len pl k hk1 hk2 (by rw [hp.sz]; exact hle) (by rw [hq.sz]; exact hle2) (by omega) (by omega) ha W)
  have hsz := hq.sz
  have CB := Lib.hid (fun W => bit_any pf pl len (by omega) (by omega) W)
  have hbi : bitI pf len = 1 := by unfold bitI; rw [hd]; rfl
  rw [hbi] at CB
  have IH := Lib.hid ih
  have HR := Lib.hid hR
  clear ih hR hd hbi hsz
  have HNB := Lib.hid hnb
  clear hnb
  have H : Hid (AW w.drew pb fb wb pf pl n) := Lib.hid (h.quiet (Keeps.refl _ w).drew)
  have hs : ¬ share f pf (min len pl) < len := fun hs => (share_lt.1 hs) ⟨(by omega), hag⟩
  have g1 : decide (share f pf (min len pl) < len) = false := by simpa using hs
  have g2 : ((len : Int) == (pl : Int)) = false := by simp; omega
  have S0 : Hid (w.cell? ⟨b, 0, none⟩ = some (.string f) ∧ w.cell? ⟨b, 1, none⟩ = some (.int .i64 len) ∧ w.cell? ⟨pb, 0, none⟩ = some (.string pf) ∧ w.cell? ⟨pb, 1, none⟩ = some (.int .i64 pl)) := ⟨hb.cell 0, hb.cell 1, h.p.cell 0, h.p.cell 1⟩
  have HB := Lib.hid hb.drew
  clear hb h hp hq hag ha hs hl
  generalize share f pf (min len pl) = sh at *
  go_enter Try.func54, Try.ntmps54
  go_upto_region 3 with fail
  go_region_held3 (fun W => W.cell? ⟨b, 0, none⟩ = some (.string f) ∧ W.cell? ⟨b, 1, none⟩ = some (.int .i64 len) ∧ W.cell? ⟨pb, 0, none⟩ = some (.string pf) ∧ W.cell? ⟨pb, 1, none⟩ = some (.int .i64 pl))
    (first | exact S0.out | exact S1.out)
    (first | (go_at_call 38; refine (CS.out _).mono ?_; rintro e w1 ⟨rfl, hq⟩; have hb1 := HB.out.quiet hq; have hl1 := H.out.quiet hq; have S1 : Hid (w1.cell? ⟨b, 0, none⟩ = some (.string f) ∧ w1.cell? ⟨b, 1, none⟩ = some (.int .i64 len) ∧ w1.cell? ⟨pb, 0, none⟩ = some (.string pf) ∧ w1.cell? ⟨pb, 1, none⟩ = some (.int .i64 pl)) := ⟨hb1.cell 0, hb1.cell 1, hl1.p.cell 0, hl1.p.cell 1⟩; have HQ := Lib.hid hq.undrew; have HL1 := Lib.hid hl1; have HB1 := Lib.hid hb1; clear hq hb1 hl1))
  have e1 : w1.cell? ⟨b, 1, none⟩ = some (.int .i64 len) := HB1.out.cell 1
  go_upto_region 6 with fail
  have HL2 := HL1; have HN2 := HB1; have HK2 := HQ
  clear HL1 HB1 HQ S1
  generalize w1 = w2 at *
  have x1 : w2.cell? ⟨b, 1, none⟩ = some (.int .i64 len) := HN2.out.cell 1
  have y1 : w2.cell? ⟨pb, 1, none⟩ = some (.int .i64 pl) := HL2.out.p.cell 1
  go_quiet (fail)
  go_upto_region 9 with fail
  have HL3 := Lib.hid (HL2.out.quiet ((Keeps.refl _ w2).drewN' nq))
  have HN3 := Lib.hid (HN2.out.drewN nq)
  have HK3 := Lib.hid (HK2.out.drewN' nq)
  clear x1 y1 HL2 HN2 HK2
  generalize w2.drewN nq = w3 at *
  have HL3d := Lib.hid (HL3.out.quiet (Keeps.refl _ w3).drew)
  have HN3d := Lib.hid HN3.out.drew
  have S3 : Hid (w3.cell? ⟨b, 1, none⟩ = some (.int .i64 len) ∧ w3.cell? ⟨pb, 0, none⟩ = some (.string pf) ∧ w3.cell? ⟨pb, 1, none⟩ = some (.int .i64 pl)) := ⟨HN3.out.cell 1, HL3.out.p.cell 0, HL3.out.p.cell 1⟩
  go_region_held3 (fun W => W.cell? ⟨b, 1, none⟩ = some (.int .i64 len) ∧ W.cell? ⟨pb, 0, none⟩ = some (.string pf) ∧ W.cell? ⟨pb, 1, none⟩ = some (.int .i64 pl))
    (first | exact S3.out | exact S4.out)
    (first | (go_at_call 39; refine (CB.out _).mono ?_; rintro e w4 ⟨rfl, hq4⟩; have HL4 := Lib.hid (HL3d.out.quiet hq4); have HN4 := Lib.hid (HN3d.out.quiet hq4); have HK4 := Lib.hid (HK3.out.then_ (Keeps.undrew hq4)); have S4 : Hid (w4.cell? ⟨b, 1, none⟩ = some (.int .i64 len) ∧ w4.cell? ⟨pb, 0, none⟩ = some (.string pf) ∧ w4.cell? ⟨pb, 1, none⟩ = some (.int .i64 pl)) := ⟨HN4.out.cell 1, HL4.out.p.cell 0, HL4.out.p.cell 1⟩; clear hq4))
  go_upto_region 10 with fail
  have HL4d := Lib.hid (HL4.out.quiet (Keeps.refl _ w4).drew)
  have HN4d := Lib.hid HN4.out.drew
  have HK4d := Lib.hid HK4.out.drew
  have CI := Lib.hid (IH.out _ HL4d.out HK4d.out)
  have z0 : w4.cell? ⟨wb, 0, none⟩ = some (awV pb fb wb) := HL4.out.w.cell 0
  have z1 : w4.cell? ⟨b, 1, none⟩ = some (.int .i64 len) := HN4.out.cell 1
  have z2 : w4.cell? ⟨b, 4, none⟩ = some (r.ptr) := HN4.out.cell 4
  go_region_law (first
    | (go_simp; go_at_call 54; refine CI.out.mono ?_; rintro e w5 ⟨c, rfl, hr⟩; have HR5 := Lib.hid hr; have hl5 := (HR.out _ _ _ hr).1; have hn5 := HN4d.out.keeps (HR.out _ _ _ hr).2 HNB.out; have z5 : w5.cell? ⟨b, 4, none⟩ = some (r.ptr) := hn5.cell 4; have z6 := hn5.frozen 4; have HL5 := Lib.hid hl5; have HN5 := Lib.hid hn5; clear hr hl5 hn5))
  all_goals go_wp2_with fail
  all_goals go_ret
  all_goals exact ⟨c, _, w5, rfl, HK4d.out, HR5.out, HL5.out.set_ HN5.out _, rfl, HN5.out.set_ 4 (tp c)⟩
end
end Go.Proofs.Ytomhflaofipccaa
namespace Go.Proofs.Ytomhflaofipccaa
open Go Go.RowKit Go.Maps
set_option linter.unusedVariables false
set_option linter.unusedSimpArgs false
set_option maxRecDepth 100000
section
variable {w w' : World} {pb fb wb : Nat} {pf : ByteArray} {pl n : Nat}
set_option maxHeartbeats 4000000 in
theorem add_part_here {b : Nat} {f : ByteArray} {len m : Nat} {l r : Tr} (h : AW w pb fb wb pf pl n) (hb : Blk w b nodeT (nodeC f len m l.ptr r.ptr)) {K : Nat} (hp : Pre K f len) (hq : Pre K pf pl) {k : Nat} (hk1 : k ≤ len) (hk2 : k ≤ pl) (ha : Agree f pf k) {sh : Nat} (hsh : share f pf (min len pl) = sh) (hlt : sh < len) (hl : sh = pl) :
    Calls Try.prog 54 #[tp b, .int .i64 k, tp pb, tp fb, tp wb] w fun e w' => ∃ nb, e = .returned (tp nb) ∧ w.heap.size ≤ nb ∧ AW w' pb fb wb pf pl n ∧ Blk w' nb nodeT (partC (bitB f sh) (cutB f sh) sh n (tp b)) ∧ Qt w w' := by
  have k2 := hp.k2
  have hle := hp.le
  have hle2 := hq.le
  have k5 := hp.k5
  have CS := Lib.hid (fun W => same_any f pf len pl k hk1 hk2 (by rw [hp.sz]; exact hle) (by rw [hq.sz]; exact hle2) (by omega) (by omega) ha W)
  have H : Hid (AW w.drew pb fb wb pf pl n) := Lib.hid (h.quiet (Keeps.refl _ w).drew)
  rw [hsh] at CS
  have g1 : decide (sh < len) = true := by simpa using hlt
  have CP := Lib.hid (fun W (hb : Blk W b nodeT (nodeC f len m l.ptr r.ptr)) => parted_any hb hp sh hlt)
  have g2 : ((sh : Int) == (pl : Int)) = true := by simp; omega
  have S0 : Hid (w.cell? ⟨b, 0, none⟩ = some (.string f) ∧ w.cell? ⟨b, 1, none⟩ = some (.int .i64 len) ∧ w.cell? ⟨pb, 0, none⟩ = some (.string pf) ∧ w.cell? ⟨pb, 1, none⟩ = some (.int .i64 pl)) := ⟨hb.cell 0, hb.cell 1, h.p.cell 0, h.p.cell 1⟩
  have HB := Lib.hid hb.drew
  have HLT := Lib.hid hlt; have HL := Lib.hid hl
  clear hb h hp hq ha hsh hlt hl
  go_enter Try.func54, Try.ntmps54
  go_upto_region 3 with fail
  go_region_held3 (fun W => W.cell? ⟨b, 0, none⟩ = some (.string f) ∧ W.cell? ⟨b, 1, none⟩ = some (.int .i64 len) ∧ W.cell? ⟨pb, 0, none⟩ = some (.string pf) ∧ W.cell? ⟨pb, 1, none⟩ = some (.int .i64 pl))
    (first | exact S0.out | exact S1.out)
    (first | (go_at_call 38; refine (CS.out _).mono ?_; rintro e w1 ⟨rfl, hq⟩; have hb1 := HB.out.quiet hq; have hl1 := H.out.quiet hq; have S1 : Hid (w1.cell? ⟨b, 0, none⟩ = some (.string f) ∧ w1.cell? ⟨b, 1, none⟩ = some (.int .i64 len) ∧ w1.cell? ⟨pb, 0, none⟩ = some (.string pf) ∧ w1.cell? ⟨pb, 1, none⟩ = some (.int .i64 pl)) := ⟨hb1.cell 0, hb1.cell 1, hl1.p.cell 0, hl1.p.cell 1⟩; have HQ := Lib.hid hq.undrew; have HL1 := Lib.hid hl1; have HB1 := Lib.hid hb1; clear hq hb1 hl1))
  have e1 : w1.cell? ⟨b, 1, none⟩ = some (.int .i64 len) := HB1.out.cell 1
  go_upto_region 6 with (go_at_call 55; refine (CP.out _ HB1.out).mono ?_; rintro e w2 ⟨nb, rfl, hz, hbn, hq⟩; have HZ := Lib.hid hz; have HQ2 := Lib.hid hq; have HN2 := Lib.hid hbn; clear hz hbn hq)
  have HL2 := Lib.hid (HL1.out.quiet HQ2.out)
  have HK2 := Lib.hid (HQ.out.then_ HQ2.out)
  have HZ2 : Hid (w.heap.size ≤ nb) := Lib.hid (Nat.le_trans HQ.out.size HZ.out)
  have x1 : w2.cell? ⟨nb, 1, none⟩ = some (.int .i64 sh) := by rw [HN2.out.cell 1]; split <;> rfl
  have x2 : w2.cell? ⟨nb, 2, none⟩ = some (.int .u64 0) := by rw [HN2.out.cell 2]; split <;> rfl
  have y1 : w2.cell? ⟨pb, 1, none⟩ = some (.int .i64 pl) := HL2.out.p.cell 1
  have y2 : w2.cell? ⟨fb, 0, none⟩ = some (.int .u64 (addr n 0)) := HL2.out.f.cell 0
  have fz : w2.frozen? ⟨nb, 2, none⟩ = false := HN2.out.frozen 2
  go_quiet (fail)
  go_wp2_with fail
  go_ret
  refine ⟨nb, rfl, HZ2.out, (HL2.out.quiet ((Keeps.refl _ w2).drewN' nq)).set_ (HN2.out.drewN nq) _, ?_, (HK2.out.drewN' nq).setCell (p := ⟨nb, 2, none⟩) (.inr HZ2.out) _⟩
  rw [← partC_set]
  exact (HN2.out.drewN nq).set_ 2 (.int .u64 (addr n 0))
set_option maxHeartbeats 4000000 in
theorem add_part_0 {b : Nat} {f : ByteArray} {len m : Nat} {l r : Tr} (h : AW w pb fb wb pf pl n) (hb : Blk w b nodeT (nodeC f len m l.ptr r.ptr)) {K : Nat} (hp : Pre K f len) (hq : Pre K pf pl) {k : Nat} (hk1 : k ≤ len) (hk2 : k ≤ pl) (ha : Agree f pf k) {sh : Nat} (hsh : share f pf (min len pl) = sh) (hlt : sh < len) (hl : sh < pl) (hd : bitB pf sh = false)
    (R : Nat → World → World → Prop) (hR : ∀ c u v, R c u v → AW v pb fb wb pf pl n ∧ Keeps (fun x => x ∈ ([] : List Nat)) u v)
    (ih : ∀ w2, AW w2 pb fb wb pf pl n → Keeps (fun _ => False) w w2 → Calls Try.prog 54 #[.pointer none, .int .i64 sh, tp pb, tp fb, tp wb] w2 (fun e w3 => ∃ c, e = .returned (tp c) ∧ R c w2 w3)) :
    Calls Try.prog 54 #[tp b, .int .i64 k, tp pb, tp fb, tp wb] w fun e w' => ∃ nb c w2 w3, e = .returned (tp nb) ∧ w.heap.size ≤ nb ∧ Qt w w2 ∧ R c w2 w3 ∧ AW w' pb fb wb pf pl n ∧ nb < w2.heap.size ∧ w' = w3.setCell ⟨nb, 3, none⟩ (tp c) ∧ Blk w' nb nodeT (nodeC (cutB f sh) sh 0 (tp c) (tp b)) := by
  have k2 := hp.k2
  have hle := hp.le
  have hle2 := hq.le
  have k5 := hp.k5
  have CS := Lib.hid (fun W => same_any f pf len pl k hk1 hk2 (by rw [hp.sz]; exact hle) (by rw [hq.sz]; exact hle2) (by omega) (by omega) ha W)
  have hsz := hq.sz
  have CB := Lib.hid (fun W => bit_any pf pl sh (by omega) (by omega) W)
  have hbi : bitI pf sh = 0 := by unfold bitI; rw [hd]; rfl
  rw [hbi] at CB
  have IH := Lib.hid ih
  have HR := Lib.hid hR
  clear ih hR hbi hsz
  have H : Hid (AW w.drew pb fb wb pf pl n) := Lib.hid (h.quiet (Keeps.refl _ w).drew)
  rw [hsh] at CS
  have g1 : decide (sh < len) = true := by simpa using hlt
  have CP := Lib.hid (fun W (hb : Blk W b nodeT (nodeC f len m l.ptr r.ptr)) => parted_any hb hp sh hlt)
  have g2 : ((sh : Int) == (pl : Int)) = false := by simp; omega
  have hne := @share_ne f pf (min len pl)
  rw [hsh] at hne
  have hfb : bitB f sh = true := by
    have h1 := hne (by omega)
    rw [‹bitB pf sh = _›] at h1
    cases hx : bitB f sh <;> simp_all
  rw [hfb] at CP
  simp only [Bool.false_eq_true, if_false, if_true] at CP
  clear hne hfb hd
  have S0 : Hid (w.cell? ⟨b, 0, none⟩ = some (.string f) ∧ w.cell? ⟨b, 1, none⟩ = some (.int .i64 len) ∧ w.cell? ⟨pb, 0, none⟩ = some (.string pf) ∧ w.cell? ⟨pb, 1, none⟩ = some (.int .i64 pl)) := ⟨hb.cell 0, hb.cell 1, h.p.cell 0, h.p.cell 1⟩
  have HB := Lib.hid hb.drew
  have HLT := Lib.hid hlt; have HL := Lib.hid hl
  clear hb h hp hq ha hsh hlt hl
  go_enter Try.func54, Try.ntmps54
  go_upto_region 3 with fail
  go_region_held3 (fun W => W.cell? ⟨b, 0, none⟩ = some (.string f) ∧ W.cell? ⟨b, 1, none⟩ = some (.int .i64 len) ∧ W.cell? ⟨pb, 0, none⟩ = some (.string pf) ∧ W.cell? ⟨pb, 1, none⟩ = some (.int .i64 pl))
    (first | exact S0.out | exact S1.out)
    (first | (go_at_call 38; refine (CS.out _).mono ?_; rintro e w1 ⟨rfl, hq⟩; have hb1 := HB.out.quiet hq; have hl1 := H.out.quiet hq; have S1 : Hid (w1.cell? ⟨b, 0, none⟩ = some (.string f) ∧ w1.cell? ⟨b, 1, none⟩ = some (.int .i64 len) ∧ w1.cell? ⟨pb, 0, none⟩ = some (.string pf) ∧ w1.cell? ⟨pb, 1, none⟩ = some (.int .i64 pl)) := ⟨hb1.cell 0, hb1.cell 1, hl1.p.cell 0, hl1.p.cell 1⟩; have HQ := Lib.hid hq.undrew; have HL1 := Lib.hid hl1; have HB1 := Lib.hid hb1; clear hq hb1 hl1))
  have e1 : w1.cell? ⟨b, 1, none⟩ = some (.int .i64 len) := HB1.out.cell 1
  go_upto_region 6 with (go_at_call 55; refine (CP.out _ HB1.out).mono ?_; rintro e w2 ⟨nb, rfl, hz, hbn, hq⟩; have HZ := Lib.hid hz; have HQ2 := Lib.hid hq; have HN2 := Lib.hid hbn; clear hz hbn hq)
  have HL2 := Lib.hid (HL1.out.quiet HQ2.out)
  have HK2 := Lib.hid (HQ.out.then_ HQ2.out)
  have HZ2 : Hid (w.heap.size ≤ nb) := Lib.hid (Nat.le_trans HQ.out.size HZ.out)
  have x1 : w2.cell? ⟨nb, 1, none⟩ = some (.int .i64 sh) := HN2.out.cell 1
  have y1 : w2.cell? ⟨pb, 1, none⟩ = some (.int .i64 pl) := HL2.out.p.cell 1
  go_quiet (fail)
  go_upto_region 9 with fail
  have HL3 := Lib.hid (HL2.out.quiet ((Keeps.refl _ w2).drewN' nq))
  have HN3 := Lib.hid (HN2.out.drewN nq)
  have HK3 := Lib.hid (HK2.out.drewN' nq)
  clear x1 y1 HL2 HN2 HK2
  have HSZ : Hid (nb < (w2.drewN nq).heap.size) := Lib.hid HN3.out.lt
  generalize w2.drewN nq = w3 at *
  have HL3d := Lib.hid (HL3.out.quiet (Keeps.refl _ w3).drew)
  have HN3d := Lib.hid HN3.out.drew
  have S3 : Hid (w3.cell? ⟨nb, 1, none⟩ = some (.int .i64 sh) ∧ w3.cell? ⟨pb, 0, none⟩ = some (.string pf) ∧ w3.cell? ⟨pb, 1, none⟩ = some (.int .i64 pl)) := ⟨HN3.out.cell 1, HL3.out.p.cell 0, HL3.out.p.cell 1⟩
  go_region_held3 (fun W => W.cell? ⟨nb, 1, none⟩ = some (.int .i64 sh) ∧ W.cell? ⟨pb, 0, none⟩ = some (.string pf) ∧ W.cell? ⟨pb, 1, none⟩ = some (.int .i64 pl))
    (first | exact S3.out | exact S4.out)
    (first | (go_at_call 39; refine (CB.out _).mono ?_; rintro e w4 ⟨rfl, hq4⟩; have HL4 := Lib.hid (HL3d.out.quiet hq4); have HN4 := Lib.hid (HN3d.out.quiet hq4); have HK4 := Lib.hid (HK3.out.then_ (Keeps.undrew hq4)); have S4 : Hid (w4.cell? ⟨nb, 1, none⟩ = some (.int .i64 sh) ∧ w4.cell? ⟨pb, 0, none⟩ = some (.string pf) ∧ w4.cell? ⟨pb, 1, none⟩ = some (.int .i64 pl)) := ⟨HN4.out.cell 1, HL4.out.p.cell 0, HL4.out.p.cell 1⟩; clear hq4))
  go_upto_region 10 with fail
  have HL4d := Lib.hid (HL4.out.quiet (Keeps.refl _ w4).drew)
  have HN4d := Lib.hid HN4.out.drew
  have HK4d := Lib.hid HK4.out.drew
  have CI := Lib.hid (IH.out _ HL4d.out HK4d.out)
  have z0 : w4.cell? ⟨wb, 0, none⟩ = some (awV pb fb wb) := HL4.out.w.cell 0
  have z1 : w4.cell? ⟨nb, 1, none⟩ = some (.int .i64 sh) := HN4.out.cell 1
  have z2 : w4.cell? ⟨nb, 3, none⟩ = some (.pointer none) := HN4.out.cell 3
  have HSZ4 : Hid (nb < w4.drew.heap.size) := Lib.hid HN4d.out.lt
  go_region_law (first
    | (go_simp; go_at_call 54; refine CI.out.mono ?_; rintro e w5 ⟨c, rfl, hr⟩; have HR5 := Lib.hid hr; have hl5 := (HR.out _ _ _ hr).1; have hn5 := HN4d.out.keeps (HR.out _ _ _ hr).2 (by simp); have z5 : w5.cell? ⟨nb, 3, none⟩ = some (.pointer none) := hn5.cell 3; have z6 := hn5.frozen 3; have HL5 := Lib.hid hl5; have HN5 := Lib.hid hn5; clear hr hl5 hn5))
  all_goals go_wp2_with fail
  all_goals go_ret
  all_goals exact ⟨nb, c, _, w5, rfl, HZ2.out, HK4d.out, HR5.out, HL5.out.set_ HN5.out _, HSZ4.out, rfl, HN5.out.set_ 3 (tp c)⟩
set_option maxHeartbeats 4000000 in
theorem add_part_1 {b : Nat} {f : ByteArray} {len m : Nat} {l r : Tr} (h : AW w pb fb wb pf pl n) (hb : Blk w b nodeT (nodeC f len m l.ptr r.ptr)) {K : Nat} (hp : Pre K f len) (hq : Pre K pf pl) {k : Nat} (hk1 : k ≤ len) (hk2 : k ≤ pl) (ha : Agree f pf k) {sh : Nat} (hsh : share f pf (min len pl) = sh) (hlt : sh < len) (hl : sh < pl) (hd : bitB pf sh = true)
    (R : Nat → World → World → Prop) (hR : ∀ c u v, R c u v → AW v pb fb wb pf pl n ∧ Keeps (fun x => x ∈ ([] : List Nat)) u v)
    (ih : ∀ w2, AW w2 pb fb wb pf pl n → Keeps (fun _ => False) w w2 → Calls Try.prog 54 #[.pointer none, .int .i64 sh, tp pb, tp fb, tp wb] w2 (fun e w3 => ∃ c, e = .returned (tp c) ∧ R c w2 w3)) :
    Calls Try.prog 54 #[tp b, .int .i64 k, tp pb, tp fb, tp wb] w fun e w' => ∃ nb c w2 w3, e = .returned (tp nb) ∧ w.heap.size ≤ nb ∧ Qt w w2 ∧ R c w2 w3 ∧ AW w' pb fb wb pf pl n ∧ nb < w2.heap.size ∧ w' = w3.setCell ⟨nb, 4, none⟩ (tp c) ∧ Blk w' nb nodeT (nodeC (cutB f sh) sh 0 (tp b) (tp c)) := by
  have k2 := hp.k2
  have hle := hp.le
  have hle2 := hq.le
  have k5 := hp.k5
  have CS := Lib.hid (fun W => same_any f pf len pl k hk1 hk2 (by rw [hp.sz]; exact hle) (by rw [hq.sz]; exact hle2) (by omega) (by omega) ha W)
  have hsz := hq.sz
  have CB := Lib.hid (fun W => bit_any pf pl sh (by omega) (by omega) W)
  have hbi : bitI pf sh = 1 := by unfold bitI; rw [hd]; rfl
  rw [hbi] at CB
  have IH := Lib.hid ih
  have HR := Lib.hid hR
  clear ih hR hbi hsz
  have H : Hid (AW w.drew pb fb wb pf pl n) := Lib.hid (h.quiet (Keeps.refl _ w).drew)
  rw [hsh] at CS
  have g1 : decide (sh < len) = true := by simpa using hlt
  have CP := Lib.hid (fun W (hb : Blk W b nodeT (nodeC f len m l.ptr r.ptr)) => parted_any hb hp sh hlt)
  have g2 : ((sh : Int) == (pl : Int)) = false := by simp; omega
  have hne := @share_ne f pf (min len pl)
  rw [hsh] at hne
  have hfb : bitB f sh = false := by
    have h1 := hne (by omega)
    rw [‹bitB pf sh = _›] at h1
    cases hx : bitB f sh <;> simp_all
  rw [hfb] at CP
  simp only [Bool.false_eq_true, if_false, if_true] at CP
  clear hne hfb hd
  have S0 : Hid (w.cell? ⟨b, 0, none⟩ = some (.string f) ∧ w.cell? ⟨b, 1, none⟩ = some (.int .i64 len) ∧ w.cell? ⟨pb, 0, none⟩ = some (.string pf) ∧ w.cell? ⟨pb, 1, none⟩ = some (.int .i64 pl)) := ⟨hb.cell 0, hb.cell 1, h.p.cell 0, h.p.cell 1⟩
  have HB := Lib.hid hb.drew
  have HLT := Lib.hid hlt; have HL := Lib.hid hl
  clear hb h hp hq ha hsh hlt hl
  go_enter Try.func54, Try.ntmps54
  go_upto_region 3 with fail
  go_region_held3 (fun W => W.cell? ⟨b, 0, none⟩ = some (.string f) ∧ W.cell? ⟨b, 1, none⟩ = some (.int .i64 len) ∧ W.cell? ⟨pb, 0, none⟩ = some (.string pf) ∧ W.cell? ⟨pb, 1, none⟩ = some (.int .i64 pl))
    (first | exact S0.out | exact S1.out)
    (first | (go_at_call 38; refine (CS.out _).mono ?_; rintro e w1 ⟨rfl, hq⟩; have hb1 := HB.out.quiet hq; have hl1 := H.out.quiet hq; have S1 : Hid (w1.cell? ⟨b, 0, none⟩ = some (.string f) ∧ w1.cell? ⟨b, 1, none⟩ = some (.int .i64 len) ∧ w1.cell? ⟨pb, 0, none⟩ = some (.string pf) ∧ w1.cell? ⟨pb, 1, none⟩ = some (.int .i64 pl)) := ⟨hb1.cell 0, hb1.cell 1, hl1.p.cell 0, hl1.p.cell 1⟩; have HQ := Lib.hid hq.undrew; have HL1 := Lib.hid hl1; have HB1 := Lib.hid hb1; clear hq hb1 hl1))
  have e1 : w1.cell? ⟨b, 1, none⟩ = some (.int .i64 len) := HB1.out.cell 1
  go_upto_region 6 with (go_at_call 55; refine (CP.out _ HB1.out).mono ?_; rintro e w2 ⟨nb, rfl, hz, hbn, hq⟩; have HZ := Lib.hid hz; have HQ2 := Lib.hid hq; have HN2 := Lib.hid hbn; clear hz hbn hq)
  have HL2 := Lib.hid (HL1.out.quiet HQ2.out)
  have HK2 := Lib.hid (HQ.out.then_ HQ2.out)
  have HZ2 : Hid (w.heap.size ≤ nb) := Lib.hid (Nat.le_trans HQ.out.size HZ.out)
  have x1 : w2.cell? ⟨nb, 1, none⟩ = some (.int .i64 sh) := HN2.out.cell 1
  have y1 : w2.cell? ⟨pb, 1, none⟩ = some (.int .i64 pl) := HL2.out.p.cell 1
  go_quiet (fail)
  go_upto_region 9 with fail
  have HL3 := Lib.hid (HL2.out.quiet ((Keeps.refl _ w2).drewN' nq))
  have HN3 := Lib.hid (HN2.out.drewN nq)
  have HK3 := Lib.hid (HK2.out.drewN' nq)
  clear x1 y1 HL2 HN2 HK2
  have HSZ : Hid (nb < (w2.drewN nq).heap.size) := Lib.hid HN3.out.lt
  generalize w2.drewN nq = w3 at *
  have HL3d := Lib.hid (HL3.out.quiet (Keeps.refl _ w3).drew)
  have HN3d := Lib.hid HN3.out.drew
  have S3 : Hid (w3.cell? ⟨nb, 1, none⟩ = some (.int .i64 sh) ∧ w3.cell? ⟨pb, 0, none⟩ = some (.string pf) ∧ w3.cell? ⟨pb, 1, none⟩ = some (.int .i64 pl)) := ⟨HN3.out.cell 1, HL3.out.p.cell 0, HL3.out.p.cell 1⟩
  go_region_held3 (fun W => W.cell? ⟨nb, 1, none⟩ = some (.int .i64 sh) ∧ W.cell? ⟨pb, 0, none⟩ = some (.string pf) ∧ W.cell? ⟨pb, 1, none⟩ = some (.int .i64 pl))
    (first | exact S3.out | exact S4.out)
    (first | (go_at_call 39; refine (CB.out _).mono ?_; rintro e w4 ⟨rfl, hq4⟩; have HL4 := Lib.hid (HL3d.out.quiet hq4); have HN4 := Lib.hid (HN3d.out.quiet hq4); have HK4 := Lib.hid (HK3.out.then_ (Keeps.undrew hq4)); have S4 : Hid (w4.cell? ⟨nb, 1, none⟩ = some (.int .i64 sh) ∧ w4.cell? ⟨pb, 0, none⟩ = some (.string pf) ∧ w4.cell? ⟨pb, 1, none⟩ = some (.int .i64 pl)) := ⟨HN4.out.cell 1, HL4.out.p.cell 0, HL4.out.p.cell 1⟩; clear hq4))
  go_upto_region 10 with fail
  have HL4d := Lib.hid (HL4.out.quiet (Keeps.refl _ w4).drew)
  have HN4d := Lib.hid HN4.out.drew
  have HK4d := Lib.hid HK4.out.drew
  have CI := Lib.hid (IH.out _ HL4d.out HK4d.out)
  have z0 : w4.cell? ⟨wb, 0, none⟩ = some (awV pb fb wb) := HL4.out.w.cell 0
  have z1 : w4.cell? ⟨nb, 1, none⟩ = some (.int .i64 sh) := HN4.out.cell 1
  have z2 : w4.cell? ⟨nb, 4, none⟩ = some (.pointer none) := HN4.out.cell 4
  have HSZ4 : Hid (nb < w4.drew.heap.size) := Lib.hid HN4d.out.lt
  go_region_law (first
    | (go_simp; go_at_call 54; refine CI.out.mono ?_; rintro e w5 ⟨c, rfl, hr⟩; have HR5 := Lib.hid hr; have hl5 := (HR.out _ _ _ hr).1; have hn5 := HN4d.out.keeps (HR.out _ _ _ hr).2 (by simp); have z5 : w5.cell? ⟨nb, 4, none⟩ = some (.pointer none) := hn5.cell 4; have z6 := hn5.frozen 4; have HL5 := Lib.hid hl5; have HN5 := Lib.hid hn5; clear hr hl5 hn5))
  all_goals go_wp2_with fail
  all_goals go_ret
  all_goals exact ⟨nb, c, _, w5, rfl, HZ2.out, HK4d.out, HR5.out, HL5.out.set_ HN5.out _, HSZ4.out, rfl, HN5.out.set_ 4 (tp c)⟩
end
end Go.Proofs.Ytomhflaofipccaa
namespace Go.Proofs.Ytomhflaofipccaa
open Go Go.RowKit Go.Maps
set_option linter.unusedVariables false
set_option linter.unusedSimpArgs false
set_option maxRecDepth 100000
/-- An entry is in: the tree that is left. -/
def Added (pb fb wb : Nat) (pf : ByteArray) (pl n : Nat) (t : Tr) (w w' : World) (v : Value) : Prop :=
  ∃ nb nb2, v = (t.add pf pl n nb nb2).ptr ∧ nb ≠ nb2 ∧ w.heap.size ≤ nb ∧ w.heap.size ≤ nb2 ∧ (t.add pf pl n nb nb2).At w' ∧ AW w' pb fb wb pf pl n ∧ Keeps (fun b => b ∈ t.blocks) w w'
theorem Tr.add_node {pf : ByteArray} {pl n nb nb2 b : Nat} {f : ByteArray} {len m : Nat} {l r : Tr} : (Tr.node b f len m l r).add pf pl n nb nb2 =
    if len ≤ pl ∧ Agree f pf len then
      if len = pl then .node b f len n l r
      else if bitB pf len then .node b f len m l (r.add pf pl n nb nb2) else .node b f len m (l.add pf pl n nb nb2) r
    else
      if share f pf (min len pl) = pl then Tr.above nb f (share f pf (min len pl)) n (.node b f len m l r) .nil
      else Tr.above nb f (share f pf (min len pl)) 0 (.node b f len m l r) (.node nb2 pf pl n .nil .nil) := rfl
theorem add_tp (t : Tr) (pf : ByteArray) (pl n nb nb2 : Nat) : ∃ c, (t.add pf pl n nb nb2).ptr = tp c := by
  cases t with
  | nil => exact ⟨_, rfl⟩
  | node b f len m l r =>
    rw [Tr.add_node]
    unfold Tr.above
    split
    · split
      · exact ⟨_, rfl⟩
      · split <;> exact ⟨_, rfl⟩
    · split <;> split <;> exact ⟨_, rfl⟩
theorem mem_node {b : Nat} {f : ByteArray} {len n : Nat} {l r : Tr} (x : Nat) : x ∈ (Tr.node b f len n l r).blocks ↔ x = b ∨ x ∈ l.blocks ∨ x ∈ r.blocks := by
  show x ∈ b :: (l.blocks ++ r.blocks) ↔ _
  simp
theorem add_any {K pb fb wb : Nat} {pf : ByteArray} {pl n : Nat} (hq : Pre K pf pl) : ∀ {t : Tr} {g : ByteArray} {k : Nat} {w : World}, t.ok K → t.from_ g k → Agree g pf k → k ≤ pl → t.blocks.Nodup → t.At w → AW w pb fb wb pf pl n →
    Calls Try.prog 54 #[t.ptr, .int .i64 k, tp pb, tp fb, tp wb] w fun e w' => ∃ v, e = .returned v ∧ Added pb fb wb pf pl n t w w' v
  | .nil, g, k, w, _, _, _, _, _, _, h => by
    refine (add_nil h k).mono ?_
    rintro e w' ⟨rfl, h1, h2, h3⟩
    exact ⟨_, rfl, w.heap.size, w.heap.size + 1, rfl, by omega, Nat.le_refl _, by omega, ⟨h2, trivial, trivial⟩, h1, Keeps.qt h3⟩
  | .node b f len m l r, g, k, w, ok, hf, hg, hk, hnd, hA, h => by
    have ha : Agree f pf k := hf.2.symm.trans hg
    obtain ⟨d1, d2, d3, d4, d5⟩ := Tr.node_nodup.1 hnd
    have hbl : b < w.heap.size := hA.1.lt
    have lbl : ∀ x, x ∈ l.blocks → x < w.heap.size := fun x hx => by obtain ⟨cs, hc⟩ := hA.2.1.blk hx; exact hc.lt
    have rbl : ∀ x, x ∈ r.blocks → x < w.heap.size := fun x hx => by obtain ⟨cs, hc⟩ := hA.2.2.blk hx; exact hc.lt
    by_cases hm : len ≤ pl ∧ Agree f pf len
    · by_cases hl : len = pl
      · refine (add_down_here h hA.1 ok.1 hq hf.1 hk ha hm.2 hl).mono ?_
        rintro e w' ⟨rfl, h1, h2, h3⟩
        refine ⟨_, rfl, w.heap.size, w.heap.size + 1, ?_, by omega, Nat.le_refl _, by omega, ?_, h1, h3.mono fun x hx => (mem_node x).2 (.inl hx)⟩
        · rw [Tr.add_node, if_pos hm, if_pos hl]; rfl
        · rw [Tr.add_node, if_pos hm, if_pos hl]
          exact ⟨h2, hA.2.1.keeps h3 fun x hx e => d1 (e ▸ hx), hA.2.2.keeps h3 fun x hx e => d2 (e ▸ hx)⟩
      · have hlt : len < pl := by omega
        cases hd : bitB pf len
        · refine (add_down_0 h hA.1 ok.1 hq hf.1 hk ha hm.2 hlt hd (fun c u v => Added pb fb wb pf pl n l u v (tp c)) (fun c u v ⟨_, _, _, _, _, _, _, h1, h2⟩ => ⟨h1, h2⟩) d1 (fun w2 h2 k2 => ?_)).mono ?_
          · refine (add_any hq ok.2.2.2.1 (Tr.under_from ok.2.1) hm.2 hm.1 d3 (hA.2.1.quiet k2) h2).mono ?_
            rintro e w3 ⟨v, rfl, hv⟩
            obtain ⟨nb, nb2, e1, rest⟩ := hv
            obtain ⟨c, hc⟩ := add_tp l pf pl n nb nb2
            exact ⟨c, by rw [e1, hc], nb, nb2, hc.symm, rest⟩
          · rintro e w' ⟨c, w2, w3, rfl, k2, ⟨nb, nb2, e1, e2, e3, e4, e5, e6, e7⟩, h1, rfl, h2⟩
            have z2 := k2.size
            have k4 : Keeps (fun x => x ∈ (Tr.node b f len m l r).blocks) w (w3.setCell ⟨b, 3, none⟩ (tp c)) := ((Keeps.qt k2).then_ (e7.mono fun x hx => (mem_node x).2 (.inr (.inl hx)))).setCell (p := ⟨b, 3, none⟩) (.inl ((mem_node b).2 (.inl rfl))) _
            have bn : b ∉ (l.add pf pl n nb nb2).blocks := fun hx => by
              rcases Tr.add_blocks hx with q | q | q
              · exact d1 q
              · omega
              · omega
            refine ⟨_, rfl, nb, nb2, ?_, e2, by omega, by omega, ?_, h1, k4⟩
            · rw [Tr.add_node, if_pos hm, if_neg hl, hd]; rfl
            · rw [Tr.add_node, if_pos hm, if_neg hl, hd]
              refine ⟨by rw [← e1]; exact h2, ?_, ?_⟩
              · exact e5.keeps ((Keeps.refl (fun x => x = b) w3).setCell (p := ⟨b, 3, none⟩) (.inl rfl) _) fun x hx e => bn (e ▸ hx)
              · refine hA.2.2.keeps (S := fun x => x = b ∨ x ∈ l.blocks) (((Keeps.qt k2).then_ (e7.mono fun x hx => .inr hx)).setCell (p := ⟨b, 3, none⟩) (.inl (.inl rfl)) _) ?_
                rintro x hx (rfl | q)
                · exact d2 hx
                · exact d5 x q hx
        · refine (add_down_1 h hA.1 ok.1 hq hf.1 hk ha hm.2 hlt hd (fun c u v => Added pb fb wb pf pl n r u v (tp c)) (fun c u v ⟨_, _, _, _, _, _, _, h1, h2⟩ => ⟨h1, h2⟩) d2 (fun w2 h2 k2 => ?_)).mono ?_
          · refine (add_any hq ok.2.2.2.2 (Tr.under_from ok.2.2.1) hm.2 hm.1 d4 (hA.2.2.quiet k2) h2).mono ?_
            rintro e w3 ⟨v, rfl, hv⟩
            obtain ⟨nb, nb2, e1, rest⟩ := hv
            obtain ⟨c, hc⟩ := add_tp r pf pl n nb nb2
            exact ⟨c, by rw [e1, hc], nb, nb2, hc.symm, rest⟩
          · rintro e w' ⟨c, w2, w3, rfl, k2, ⟨nb, nb2, e1, e2, e3, e4, e5, e6, e7⟩, h1, rfl, h2⟩
            have z2 := k2.size
            have k4 : Keeps (fun x => x ∈ (Tr.node b f len m l r).blocks) w (w3.setCell ⟨b, 4, none⟩ (tp c)) := ((Keeps.qt k2).then_ (e7.mono fun x hx => (mem_node x).2 (.inr (.inr hx)))).setCell (p := ⟨b, 4, none⟩) (.inl ((mem_node b).2 (.inl rfl))) _
            have bn : b ∉ (r.add pf pl n nb nb2).blocks := fun hx => by
              rcases Tr.add_blocks hx with q | q | q
              · exact d2 q
              · omega
              · omega
            refine ⟨_, rfl, nb, nb2, ?_, e2, by omega, by omega, ?_, h1, k4⟩
            · rw [Tr.add_node, if_pos hm, if_neg hl, hd]; rfl
            · rw [Tr.add_node, if_pos hm, if_neg hl, hd]
              refine ⟨by rw [← e1]; exact h2, ?_, ?_⟩
              rotate_left
              · exact e5.keeps ((Keeps.refl (fun x => x = b) w3).setCell (p := ⟨b, 4, none⟩) (.inl rfl) _) fun x hx e => bn (e ▸ hx)
              · refine hA.2.1.keeps (S := fun x => x = b ∨ x ∈ r.blocks) (((Keeps.qt k2).then_ (e7.mono fun x hx => .inr hx)).setCell (p := ⟨b, 4, none⟩) (.inl (.inl rfl)) _) ?_
                rintro x hx (rfl | q)
                · exact d1 hx
                · exact d5 x hx q
    · obtain ⟨sh, hsh⟩ : ∃ sh, share f pf (min len pl) = sh := ⟨_, rfl⟩
      have hlt : sh < len := hsh ▸ share_lt.2 hm
      have hle : sh ≤ pl := by have := share_le f pf (min len pl); omega
      by_cases hl : sh = pl
      · refine (add_part_here h hA.1 ok.1 hq hf.1 hk ha hsh hlt hl).mono ?_
        rintro e w' ⟨nb, rfl, hz, h1, h2, h3⟩
        have hs : (Tr.node b f len m l r).At w' := hA.quiet h3
        refine ⟨_, rfl, nb, nb + 1, ?_, by omega, hz, by omega, ?_, h1, Keeps.qt h3⟩
        · rw [Tr.add_node, if_neg hm, hsh, if_pos hl]
          unfold Tr.above; split <;> rfl
        · rw [Tr.add_node, if_neg hm, hsh, if_pos hl]
          unfold Tr.above
          unfold partC at h2
          cases hx : bitB f sh
          · rw [hx] at h2; exact ⟨h2, hs, trivial⟩
          · rw [hx] at h2; exact ⟨h2, trivial, hs⟩
      · have hlp : sh < pl := by omega
        have fin : ∀ (d : Bool) (i : Nat) (w' : World) (nb c : Nat) (w2 w3 : World), bitB f sh = !d → w.heap.size ≤ nb → Qt w w2 → (c = w2.heap.size ∧ AW w3 pb fb wb pf pl n ∧ Blk w3 c nodeT (nodeC pf pl n (.pointer none) (.pointer none)) ∧ Qt w2 w3) → AW w' pb fb wb pf pl n → nb < w2.heap.size → w' = w3.setCell ⟨nb, i, none⟩ (tp c) →
            Blk w' nb nodeT (if d then nodeC (cutB f sh) sh 0 (tp b) (tp c) else nodeC (cutB f sh) sh 0 (tp c) (tp b)) → Added pb fb wb pf pl n (.node b f len m l r) w w' (tp nb) := by
          rintro d i w' nb c w2 w3 hd hz k2 ⟨rfl, _, hc, k3⟩ h1 hn rfl hN
          have k4 : Qt w (w3.setCell ⟨nb, i, none⟩ (tp w2.heap.size)) := (k2.then_ k3).setCell (p := ⟨nb, i, none⟩) (.inr hz) _
          have hs : (Tr.node b f len m l r).At (w3.setCell ⟨nb, i, none⟩ (tp w2.heap.size)) := hA.quiet k4
          have hz2 := k2.size
          have hcn : (Tr.node w2.heap.size pf pl n .nil .nil).At (w3.setCell ⟨nb, i, none⟩ (tp w2.heap.size)) := ⟨hc.far (p := ⟨nb, i, none⟩) (by show w2.heap.size ≠ nb; omega) _, trivial, trivial⟩
          refine ⟨nb, w2.heap.size, ?_, by omega, hz, by omega, ?_, h1, Keeps.qt k4⟩
          · rw [Tr.add_node, if_neg hm, hsh, if_neg hl]
            unfold Tr.above; split <;> rfl
          · rw [Tr.add_node, if_neg hm, hsh, if_neg hl]
            unfold Tr.above
            rw [hd]
            cases d
            · exact ⟨hN, hcn, hs⟩
            · exact ⟨hN, hs, hcn⟩
        have hfb : ∀ d, bitB pf sh = d → bitB f sh = !d := fun d hd => by
          have hne := @share_ne f pf (min len pl)
          rw [hsh] at hne
          have h1 := hne (by omega)
          rw [hd] at h1
          cases hx : bitB f sh <;> cases d <;> simp_all
        have hsz : ∀ w2, AW w2 pb fb wb pf pl n → Calls Try.prog 54 #[.pointer none, .int .i64 sh, tp pb, tp fb, tp wb] w2 (fun e w3 => ∃ c, e = .returned (tp c) ∧ (c = w2.heap.size ∧ AW w3 pb fb wb pf pl n ∧ Blk w3 c nodeT (nodeC pf pl n (.pointer none) (.pointer none)) ∧ Qt w2 w3)) := fun w2 h2 => by
          refine (add_nil h2 sh).mono ?_
          rintro e w3 ⟨rfl, h3, h4, h5⟩
          exact ⟨_, rfl, rfl, h3, h4, h5⟩
        cases hd : bitB pf sh
        · refine (add_part_0 h hA.1 ok.1 hq hf.1 hk ha hsh hlt hlp hd (fun c u v => c = u.heap.size ∧ AW v pb fb wb pf pl n ∧ Blk v c nodeT (nodeC pf pl n (.pointer none) (.pointer none)) ∧ Qt u v) (fun c u v ⟨_, h1, _, h2⟩ => ⟨h1, Keeps.qt h2⟩) (fun w2 h2 _ => hsz w2 h2)).mono ?_
          rintro e w' ⟨nb, c, w2, w3, rfl, hz, k2, hr, h1, hn, hw, hN⟩
          exact ⟨_, rfl, fin false 3 w' nb c w2 w3 (hfb _ hd) hz k2 hr h1 hn hw hN⟩
        · refine (add_part_1 h hA.1 ok.1 hq hf.1 hk ha hsh hlt hlp hd (fun c u v => c = u.heap.size ∧ AW v pb fb wb pf pl n ∧ Blk v c nodeT (nodeC pf pl n (.pointer none) (.pointer none)) ∧ Qt u v) (fun c u v ⟨_, h1, _, h2⟩ => ⟨h1, Keeps.qt h2⟩) (fun w2 h2 _ => hsz w2 h2)).mono ?_
          rintro e w' ⟨nb, c, w2, w3, rfl, hz, k2, hr, h1, hn, hw, hN⟩
          exact ⟨_, rfl, fin true 4 w' nb c w2 w3 (hfb _ hd) hz k2 hr h1 hn hw hN⟩
abbrev mapT : TypeId := 62
abbrev mapC (P : Value) (k key v mx : Int) (root : Value) (c : Int) : Array Value := #[P, .int .i64 k, .int .i64 key, .int .i64 v, .int .i64 mx, root, .int .i64 c]
section
variable {w : World} {x K : Nat} {pf : ByteArray} {pl n : Nat} {t : Tr} {P : Value} {k key v mx : Int} {c : Nat}
set_option maxHeartbeats 2000000 in
theorem tree_add (hq : Pre K pf pl) (ok : t.ok K) (hnd : t.blocks.Nodup) (hA : t.At w) (hx : Blk w x mapT (mapC P k key v mx t.ptr c)) (hc : c ≤ 4096) :
    Calls Try.prog 36 #[.pointer (some ⟨x, 5, none⟩), preV pf pl, .int .u64 (addr n 0)] w fun e w' => e = .returned (.tuple #[]) ∧ ∃ nb nb2, nb ≠ nb2 ∧ w.heap.size ≤ nb ∧ w.heap.size ≤ nb2 ∧ (t.add pf pl n nb nb2).At w' ∧ Blk w' x mapT (mapC P k key v mx (t.add pf pl n nb nb2).ptr ((c + 1 : Nat) : Int)) ∧ Keeps (fun b => b = x ∨ b ∈ t.blocks) w w' := by
  have b0 := ((Blk.new w preT (preC pf pl)).alloc (.cells #[.int .u64 (addr n 0)] 36)).alloc (.cells #[awV w.heap.size (w.heap.size + 1) (w.heap.size + 1 + 1)] awT)
  have b1 := (Blk.new (w.alloc (.cells (preC pf pl) preT)) 36 #[.int .u64 (addr n 0)]).alloc (.cells #[awV w.heap.size (w.heap.size + 1) (w.heap.size + 1 + 1)] awT)
  have b2 := Blk.new ((w.alloc (.cells (preC pf pl) preT)).alloc (.cells #[.int .u64 (addr n 0)] 36)) awT #[awV w.heap.size (w.heap.size + 1) (w.heap.size + 1 + 1)]
  rw [show (w.alloc (.cells (preC pf pl) preT)).heap.size = w.heap.size + 1 by simp] at b1
  rw [show ((w.alloc (.cells (preC pf pl) preT)).alloc (.cells #[.int .u64 (addr n 0)] 36)).heap.size = w.heap.size + 1 + 1 by simp] at b2
  have HL : Hid (AW (((w.alloc (.cells (preC pf pl) preT)).alloc (.cells #[.int .u64 (addr n 0)] 36)).alloc (.cells #[awV w.heap.size (w.heap.size + 1) (w.heap.size + 1 + 1)] awT)) w.heap.size (w.heap.size + 1) (w.heap.size + 1 + 1) pf pl n) := ⟨b0, b1, b2⟩
  have HK : Hid (Qt w (((w.alloc (.cells (preC pf pl) preT)).alloc (.cells #[.int .u64 (addr n 0)] 36)).alloc (.cells #[awV w.heap.size (w.heap.size + 1) (w.heap.size + 1 + 1)] awT))) := Lib.hid ((((Keeps.refl (fun _ => False) w).alloc _).alloc _).alloc _)
  clear b0 b1 b2
  have HA := Lib.hid hA; have HX := Lib.hid hx; have HO := Lib.hid ok; have HQ := Lib.hid hq; have HND := Lib.hid hnd
  have hxn : x ∉ t.blocks := fun h => by
    obtain ⟨cs, hc⟩ := hA.blk h
    exact absurd rfl (hc.ne_ hx (by decide))
  have HXN := Lib.hid hxn
  have ec : IntKind.i64.wrap ((c : Int) + 1) = ((c + 1 : Nat) : Int) := by rw [IntWalk.i64_in _ (by omega)]; omega
  clear hA hx ok hq hnd hxn
  go_enter Try.func36, Try.ntmps36
  go_upto_region 3 with fail
  generalize World.alloc _ _ = W at HL HK ⊢
  have HAd := Lib.hid ((HA.out.quiet HK.out).quiet (Keeps.refl _ W).drew)
  have HLd := Lib.hid (HL.out.quiet (Keeps.refl _ W).drew)
  have HXd := Lib.hid ((HX.out.quiet HK.out).quiet (Keeps.refl _ W).drew)
  have CW : Hid (Calls Try.prog 54 #[t.ptr, .int .i64 0, tp w.heap.size, tp (w.heap.size + 1), tp (w.heap.size + 1 + 1)] W.drew fun e w' => ∃ v, e = .returned v ∧ Added w.heap.size (w.heap.size + 1) (w.heap.size + 1 + 1) pf pl n t W.drew w' v) :=
    Lib.hid (add_any (k := 0) HQ.out HO.out (from_zero t pf) (Agree.refl _ _) (Nat.zero_le _) HND.out HAd.out HLd.out)
  have z0 : W.cell? ⟨w.heap.size + 1 + 1, 0, none⟩ = some (awV w.heap.size (w.heap.size + 1) (w.heap.size + 1 + 1)) := HL.out.w.cell 0
  have z1 : W.cell? ⟨x, 5, none⟩ = some t.ptr := HXd.out.cell 5
  go_region_law (first
    | (go_simp; go_at_call 54; refine CW.out.mono ?_; rintro e w5 ⟨v, rfl, nb, nb2, hv, e2, e3, e4, e5, e6, e7⟩; obtain ⟨cc, hcc⟩ := add_tp t pf pl n nb nb2; (rw [hcc] at hv); subst hv; have hx5 := HXd.out.keeps e7 HXN.out; have z5 : w5.cell? ⟨x, 5, none⟩ = some t.ptr := hx5.cell 5; have z6 := hx5.frozen 5; have y5 : (w5.setCell ⟨x, 5, none⟩ (tp cc)).cell? ⟨x, 6, none⟩ = some (.int .i64 c) := (hx5.set_ 5 (tp cc)).cell 6; have y6 := (hx5.set_ 5 (tp cc)).frozen 6; have HX5 := Lib.hid hx5; have HE5 := Lib.hid e5; have HE7 := Lib.hid e7; have HEX := Lib.hid (And.intro e2 (And.intro e3 e4)); have HCC := Lib.hid hcc; clear hx5 e2 e3 e4 e5 e6 e7 hcc))
  all_goals go_wp2_with fail
  all_goals go_end0
  all_goals
    have hz := HK.out.size
    have hex := HEX.out
    have e1 : ((c : Int) + 1) = ((c + 1 : Nat) : Int) := by omega
    have kk : Keeps (fun b => b = x) w5 ((w5.setCell ⟨x, 5, none⟩ (tp cc)).setCell ⟨x, 6, none⟩ (.int .i64 ((c : Int) + 1))) := ((Keeps.refl (fun b => b = x) w5).setCell (p := ⟨x, 5, none⟩) (.inl rfl) _).setCell (p := ⟨x, 6, none⟩) (.inl rfl) _
    refine ⟨rfl, nb, nb2, hex.1, Nat.le_trans hz hex.2.1, Nat.le_trans hz hex.2.2, HE5.out.off kk fun b cs hb e => by subst e; exact absurd rfl (hb.ne_ HX5.out (by decide)), ?_, ?_⟩
    · rw [HCC.out, ← e1]
      exact (HX5.out.set_ 5 (tp cc)).set_ 6 (.int .i64 ((c : Int) + 1))
    · exact (Keeps.qt HK.out).then_ ((HE7.out.undrew.mono fun b h => .inr h).then_ (kk.mono fun b h => .inl h))
end
end Go.Proofs.Ytomhflaofipccaa
