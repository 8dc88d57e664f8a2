/-
  Package objs: a table as it lies.
-/
import Derived.Test.YtmohbdbofehamaaOPlain2
import Derived.Maps.OwnSet
import Derived.Maps.Range
import Derived.Maps.RangeWalk
import Derived.Lib.Hide
import Derived.Deep.Draws
import Derived.Laws.Rows
import Derived.IntWalk
import Derived.WalkSpells
import Derived.BigQuiet
import Derived.Deep.QuietTactic
import Derived.Deep.Cut
import Derived.Deep.RegionHeld3
import Derived.Deep.RegionLaw
import Derived.Outline
import Derived.Lib.Strings
namespace Go.Proofs.Ytmohbdbofehamaa
open Go Go.RowKit Go.Maps OSt
set_option linter.unusedVariables false
set_option linter.unusedSimpArgs false
set_option maxRecDepth 100000
abbrev tp (b : Nat) : Value := .pointer (some ⟨b, 0, none⟩)
abbrev tabT : TypeId := 60
abbrev objT : TypeId := 91
abbrev mapOT : TypeId := 55
abbrev mapPT : TypeId := 58
abbrev intT : TypeId := 3
abbrev strT : TypeId := 9
theorem lawI : Keyed Try.prog intT := int_keyed Try.underlying3
theorem lawS : Keyed Try.prog strT := string_keyed Try.underlying9
abbrev heldV : Value → Option (DataW Value × List MemPlace) := fun v => some (.held v, [])
abbrev heldD (v : Value) : DataW Value := .held v
def litS (s : ByteArray) : Lit := .string s.data.toList
abbrev litI (n : Int) : Lit := .int .i64 n
theorem keyS {s : ByteArray} (h : s.size ≤ maxLen) : keyOf Try.prog strT (.string s) = some (litS s) := by
  simp [keyOf, Try.underlying9, mapKey, h, litS]
theorem wf64 {n : Int} (h : -9223372036854775808 ≤ n ∧ n ≤ 9223372036854775807) : (Lit.int .i64 n).wf = true := by go_wf
theorem keyI {n : Int} (h : -9223372036854775808 ≤ n ∧ n ≤ 9223372036854775807) : keyOf Try.prog intT (.int .i64 n) = some (litI n) := keyOf_int_mk Try.underlying3 (wf64 h)
theorem litS_inj {a b : ByteArray} (h : litS a = litS b) : a = b := by
  unfold litS at h
  injection h with h
  exact ba_ext h
theorem litS_ne {a b : ByteArray} (h : a ≠ b) : litS a ≠ litS b := fun e => h (litS_inj e)
theorem litI_ne {a b : Int} (h : a ≠ b) : litI a ≠ litI b := by intro e; injection e with _ e; exact h e
theorem isKeyS (s : ByteArray) : WideAt.IsKeyLit (litS s) := trivial
theorem isKeyI (n : Int) : WideAt.IsKeyLit (litI n) := by simp [WideAt.IsKeyLit]
theorem ownsMap_block {w w' : World} {P : Program} {k : TypeId} {R : Value → Option (DataW Value × List MemPlace)} {b n : Nat} {D : DataW Value} (h : w.ownsMap P k R b n D) (hb : w'.heap[b]? = w.heap[b]?) : w'.ownsMap P k R b n D := by
  obtain ⟨es, clock, h1, F, hs, hD⟩ := h
  exact ⟨es, clock, hb.trans h1, F, hs, hD⟩
def MapAt (w : World) (k : TypeId) (m : Option Nat) (N : Nat) (D : DataW Value) : Prop := (m = none ∧ D = .map []) ∨ ∃ b, m = some b ∧ w.ownsMap Try.prog k heldV b N D
section
variable {w w' : World} {k t e : TypeId} {m : Option Nat} {N : Nat} {D : DataW Value} {S : Nat → Prop} {key : Value} {kl : Lit} {v z : Value}
theorem MapAt.keeps (h : MapAt w k m N D) (kk : Keeps S w w') (hs : ∀ b, m = some b → ¬ S b) : MapAt w' k m N D := by
  rcases h with h | ⟨b, rfl, h⟩
  · exact .inl h
  · exact .inr ⟨b, rfl, ownsMap_block h (kk.block b h.lt (hs b rfl))⟩
theorem MapAt.lt (h : MapAt w k m N D) {b : Nat} (e : m = some b) : b < w.heap.size := by
  rcases h with ⟨h, _⟩ | ⟨b', h1, h⟩
  · rw [h] at e; cases e
  · rw [h1] at e; cases e; exact h.lt
theorem map_ne {mb N g : Nat} {D : DataW Value} {t : TypeId} {cs : Array Value} (h : w.ownsMap Try.prog k heldV mb N D) (hb : Blk w g t cs) : g ≠ mb := by
  rintro rfl
  obtain ⟨es, clock, h1, _⟩ := h
  unfold Blk at hb
  rw [hb] at h1; cases h1
theorem MapAt.ne_ (h : MapAt w k m N D) {g : Nat} {t : TypeId} {cs : Array Value} (hb : Blk w g t cs) {b : Nat} (e : m = some b) : g ≠ b := by
  rcases h with ⟨h, _⟩ | ⟨b', h1, h⟩
  · rw [h] at e; cases e
  · rw [h1] at e; cases e; exact map_ne h hb
/-- A look-up of a key that is there. -/
theorem MapAt.look_yes (h : MapAt w k m N D) (K : Keyed Try.prog k) (ht : Try.prog.underlying t = some (.map k e)) (hz : (zeroValue e).run Try.prog w = .ok z w) (hkey : keyOf Try.prog k key = some kl) (hv : ∀ y, D.atKey kl y = .held v) :
    (Instr.lookup t (.map m) key false).run Try.prog w = .ok v w := by
  rcases h with ⟨rfl, rfl⟩ | ⟨b, rfl, h⟩
  · have := hv (.map [])
    simp [DataW.atKey] at this
  · obtain ⟨v', ps, hrun, hv'⟩ := h.lookup K ht hz (zd := .held z) (zp := []) rfl hkey
    simp only [Option.some.injEq, Prod.mk.injEq] at hv'
    have := hv'.1.trans (hv _)
    injection this with this
    rw [hrun, this]
/-- .. that is not. -/
theorem MapAt.look_no (h : MapAt w k m N D) (K : Keyed Try.prog k) (ht : Try.prog.underlying t = some (.map k e)) (hz : (zeroValue e).run Try.prog w = .ok z w) (hkey : keyOf Try.prog k key = some kl) (hv : Maps.has D kl = false) :
    (Instr.lookup t (.map m) key false).run Try.prog w = .ok z w := by
  rcases h with ⟨rfl, rfl⟩ | ⟨b, rfl, h⟩
  · exact Maps.look_nil false K ht hz hkey
  · obtain ⟨v', ps, hrun, hv'⟩ := h.lookup K ht hz (zd := .held z) (zp := []) rfl hkey
    simp only [Option.some.injEq, Prod.mk.injEq] at hv'
    have := hv'.1.trans (atKey_of_not_has hv _)
    injection this with this
    rw [hrun, this]
end
theorem zeroO (w : World) : (zeroValue 88).run Try.prog w = .ok (.pointer none) w := by kernel_rfl
theorem zeroI (w : World) : (zeroValue intT).run Try.prog w = .ok (.int .i64 0) w := by kernel_rfl
/-! ### a table's cells -/
def fdV (l : List Nat) : List Value := l.map fun n : Nat => Value.int .i64 (n : Int)
def tabC (mo : Option Nat) (made : Nat) (fds : List Nat) (mp : Option Nat) : Array Value := (.map mo :: .int .i64 (made : Int) :: (fdV fds ++ [.map mp])).toArray
section
variable {mo mp : Option Nat} {made f a : Nat} {fds : List Nat}
theorem tabC_objs : (tabC mo made fds mp)[0]? = some (.map mo) := rfl
theorem tabC_made : (tabC mo made fds mp)[1]? = some (.int .i64 (made : Int)) := rfl
theorem tabC_fd (h : fds[f]? = some a) : (tabC mo made fds mp)[2 + f]? = some (.int .i64 (a : Int)) := by
  have hl := (List.getElem?_eq_some_iff.1 h).1
  rw [tabC, List.getElem?_toArray, show 2 + f = f + 1 + 1 by omega, List.getElem?_cons_succ, List.getElem?_cons_succ, List.getElem?_append_left (by simpa [fdV] using hl), fdV, List.getElem?_map, h]
  rfl
theorem tabC_paths (h : fds.length = 64) : (tabC mo made fds mp)[66]? = some (.map mp) := by
  rw [tabC, List.getElem?_toArray, List.getElem?_cons_succ, List.getElem?_cons_succ, List.getElem?_append_right (by simp [fdV, h])]
  simp [fdV, h]
theorem tabC_set_fd (h : f < fds.length) (v : Nat) : (tabC mo made fds mp).setIfInBounds (2 + f) (.int .i64 (v : Int)) = tabC mo made (fds.set f v) mp := by
  rw [tabC, tabC, List.setIfInBounds_toArray, show 2 + f = f + 1 + 1 by omega, List.set_cons_succ, List.set_cons_succ, List.set_append_left _ _ (by simpa [fdV] using h), fdV, fdV, List.map_set]
theorem tabC_set_made (v : Nat) : (tabC mo made fds mp).setIfInBounds 1 (.int .i64 (v : Int)) = tabC mo v fds mp := by
  rw [tabC, tabC, List.setIfInBounds_toArray, List.set_cons_succ, List.set_cons_zero]
theorem tabC_set_objs (m : Option Nat) : (tabC mo made fds mp).setIfInBounds 0 (.map m) = tabC m made fds mp := by
  rw [tabC, tabC, List.setIfInBounds_toArray, List.set_cons_zero]
theorem tabC_set_paths (h : fds.length = 64) (m : Option Nat) : (tabC mo made fds mp).setIfInBounds 66 (.map m) = tabC mo made fds m := by
  rw [tabC, tabC, List.setIfInBounds_toArray, List.set_cons_succ, List.set_cons_succ, List.set_append_right _ _ (by simp [fdV, h])]
  simp [fdV, h]
end
/-! ### what the maps say -/
structure DatO (D : DataW Value) (s : OSt) (bl : Nat → Nat) : Prop where
  yes : ∀ id, s.isThere id → ∀ z, D.atKey (litI id) z = heldD (tp (bl id))
  no : ∀ n : Int, thereI s n = false → Maps.has D (litI n) = false
structure DatP (E : DataW Value) (ps : List (ByteArray × Nat)) : Prop where
  yes : ∀ q, q ∈ ps → ∀ z, E.atKey (litS q.1) z = heldD (.int .i64 (q.2 : Int))
  no : ∀ p, (∀ q, q ∈ ps → q.1 ≠ p) → Maps.has E (litS p) = false
abbrev obC (kind : Int) (leads holds : Nat) : Array Value := #[.int .i64 kind, .int .i64 (leads : Int), .int .i64 (holds : Int)]
/-- A table at x lies in its own blocks, from world w0 and the blocks P0 on; ld: what each object's count of fds and paths says. -/
structure PGat (x : Nat) (w0 : World) (P0 : Nat → Prop) (s : OSt) (ld : Nat → Nat) (mo mp : Option Nat) (D E : DataW Value) (bl : Nat → Nat) (w : World) : Prop where
  keeps : Keeps P0 w0 w
  pl : ∀ b, P0 b → b < w0.heap.size
  px : P0 x
  tab : Blk w x tabT (tabC mo s.os.length s.fds mp)
  obs : MapAt w intT mo s.os.length D
  pth : MapAt w strT mp s.pm E
  pmo : ∀ b, mo = some b → P0 b ∨ w0.heap.size ≤ b
  pmp : ∀ b, mp = some b → P0 b ∨ w0.heap.size ≤ b
  two : ∀ b, mo = some b → mp = some b → False
  dat : DatO D s bl
  pat : DatP E s.pins
  ent : ∀ id, s.isThere id → Blk w (bl id) objT (obC (s.kindOf id) (ld id) (s.holdsOf id))
  pent : ∀ id, s.isThere id → P0 (bl id) ∨ w0.heap.size ≤ bl id
  inj : ∀ i j, s.isThere i → s.isThere j → bl i = bl j → i = j
def PG (x : Nat) (w0 : World) (P0 : Nat → Prop) (s : OSt) (ld : Nat → Nat) (w : World) : Prop := ∃ mo mp D E bl, PGat x w0 P0 s ld mo mp D E bl w
/-- .. in the blocks of P. -/
def PR (x : Nat) (s : OSt) (P : Nat → Prop) (w : World) : Prop := PG x w P s s.leads w
section
variable {x : Nat} {w0 w w' : World} {P0 P U : Nat → Prop} {s s' : OSt} {ld ld' : Nat → Nat} {mo mp mo' mp' : Option Nat} {D E D' E' : DataW Value} {bl bl' : Nat → Nat}
/-- The table's own blocks turn. -/
theorem PGat.local_ (h : PGat x w0 P0 s ld mo mp D E bl w) (k : Keeps U w w') (hU : ∀ b, U b → P0 b ∨ w0.heap.size ≤ b)
    (tab' : Blk w' x tabT (tabC mo' s'.os.length s'.fds mp')) (obs' : MapAt w' intT mo' s'.os.length D') (pth' : MapAt w' strT mp' s'.pm E')
    (pmo' : ∀ b, mo' = some b → mo = some b ∨ w.heap.size ≤ b) (pmp' : ∀ b, mp' = some b → mp = some b ∨ w.heap.size ≤ b) (two' : ∀ b, mo' = some b → mp' = some b → False)
    (dat' : DatO D' s' bl') (pat' : DatP E' s'.pins) (ent' : ∀ id, s'.isThere id → Blk w' (bl' id) objT (obC (s'.kindOf id) (ld' id) (s'.holdsOf id)))
    (pent' : ∀ id, s'.isThere id → w.heap.size ≤ bl' id ∨ ∃ j, s.isThere j ∧ bl' id = bl j) (inj' : ∀ i j, s'.isThere i → s'.isThere j → bl' i = bl' j → i = j) : PGat x w0 P0 s' ld' mo' mp' D' E' bl' w' := by
  have hz := h.keeps.size
  have k' : Keeps (more P0 w0 w) w w' := ⟨k.os, k.tape, k.output, k.size, fun b hb hs => k.block b hb fun hu => hs ((hU b hu).imp id fun hz => ⟨hz, hb⟩)⟩
  refine ⟨h.keeps.trans k', h.pl, h.px, tab', obs', pth', fun b hb => ?_, fun b hb => ?_, two', dat', pat', ent', fun id hid => ?_, inj'⟩
  · rcases pmo' b hb with h1 | h1
    · exact h.pmo b h1
    · exact .inr (Nat.le_trans hz h1)
  · rcases pmp' b hb with h1 | h1
    · exact h.pmp b h1
    · exact .inr (Nat.le_trans hz h1)
  · rcases pent' id hid with h1 | ⟨j, h1, h2⟩
    · exact .inr (Nat.le_trans hz h1)
    · rw [h2]; exact h.pent j h1
/-- Nothing of the table's turns. -/
theorem PGat.off (h : PGat x w0 P0 s ld mo mp D E bl w) (k : Keeps U w w') (hx : ¬ U x) (ho : ∀ b, mo = some b → ¬ U b) (hp : ∀ b, mp = some b → ¬ U b) (he : ∀ id, s.isThere id → ¬ U (bl id)) (hU : ∀ b, U b → P0 b ∨ w0.heap.size ≤ b) : PGat x w0 P0 s ld mo mp D E bl w' :=
  h.local_ k hU (h.tab.keeps k hx) (h.obs.keeps k ho) (h.pth.keeps k hp) (fun b hb => .inl hb) (fun b hb => .inl hb) h.two h.dat h.pat (fun id hid => (h.ent id hid).keeps k (he id hid)) (fun id hid => .inr ⟨id, hid, rfl⟩) h.inj
theorem PGat.quiet (h : PGat x w0 P0 s ld mo mp D E bl w) (k : Keeps (fun _ => False) w w') : PGat x w0 P0 s ld mo mp D E bl w' := h.off k (fun h => h) (fun _ _ h => h) (fun _ _ h => h) (fun _ _ h => h) (fun _ h => h.elim)
theorem PG.quiet (h : PG x w0 P0 s ld w) (k : Keeps (fun _ => False) w w') : PG x w0 P0 s ld w' := by
  obtain ⟨mo, mp, D, E, bl, h⟩ := h
  exact ⟨mo, mp, D, E, bl, h.quiet k⟩
theorem keeps_drewN (w : World) (n : Nat) : Keeps (fun _ => False) w (w.drewN n) := ⟨rfl, rfl, rfl, Nat.le_refl _, fun _ _ _ => rfl⟩
theorem keeps_drew (w : World) : Keeps (fun _ => False) w w.drew := ⟨rfl, rfl, rfl, Nat.le_refl _, fun _ _ _ => rfl⟩
theorem keeps_below {w w' : World} (hb : Below w.heap.size w w') : Keeps (fun _ => False) w w' := Below.keeps hb (fun b h1 h2 => by omega)
theorem PG.drewN (h : PG x w0 P0 s ld w) (n : Nat) : PG x w0 P0 s ld (w.drewN n) := h.quiet (keeps_drewN w n)
theorem PG.drew (h : PG x w0 P0 s ld w) : PG x w0 P0 s ld w.drew := h.quiet (keeps_drew w)
theorem PG.grow (h : PG x w0 P0 s ld w) (hb : Below w.heap.size w w') : PG x w0 P0 s ld w' := h.quiet (keeps_below hb)
theorem PR.start (h : PR x s P w) : PG x w P s s.leads w := h
theorem PG.done (h : PG x w0 P0 s s.leads w) : PR x s (more P0 w0 w) w ∧ Keeps P0 w0 w := by
  obtain ⟨mo, mp, D, E, bl, h⟩ := h
  refine ⟨⟨mo, mp, D, E, bl, Keeps.refl _ _, ?_, .inl h.px, h.tab, h.obs, h.pth, fun b hb => .inl ((h.pmo b hb).imp id fun hz => ⟨hz, h.obs.lt hb⟩), fun b hb => .inl ((h.pmp b hb).imp id fun hz => ⟨hz, h.pth.lt hb⟩), h.two, h.dat, h.pat, h.ent, fun i hid => .inl ((h.pent i hid).imp id fun hz => ⟨hz, (h.ent i hid).lt⟩), h.inj⟩, h.keeps⟩
  rintro b (h1 | h1)
  · exact Nat.lt_of_lt_of_le (h.pl b h1) h.keeps.size
  · exact h1.2
theorem PR.lt (h : PR x s P w) : ∀ b, P b → b < w.heap.size := by
  obtain ⟨mo, mp, D, E, bl, h⟩ := h
  exact h.pl
theorem PR.keeps (h : PR x s P w) (k : Keeps U w w') (hd : ∀ b, P b → ¬ U b) : PR x s P w' := by
  obtain ⟨mo, mp, D, E, bl, h⟩ := h
  have old : ∀ b, b < w.heap.size → P b ∨ w.heap.size ≤ b → P b := fun b hb h1 => h1.resolve_right (by omega)
  have po : ∀ b, mo = some b → P b := fun b hb => old b (h.obs.lt hb) (h.pmo b hb)
  have pp : ∀ b, mp = some b → P b := fun b hb => old b (h.pth.lt hb) (h.pmp b hb)
  have pe : ∀ id, s.isThere id → P (bl id) := fun id hid => old _ (h.ent id hid).lt (h.pent id hid)
  exact ⟨mo, mp, D, E, bl, Keeps.refl _ _, fun b hb => Nat.lt_of_lt_of_le (h.pl b hb) k.size, h.px, h.tab.keeps k (hd _ h.px), h.obs.keeps k (fun b hb => hd b (po b hb)), h.pth.keeps k (fun b hb => hd b (pp b hb)), fun b hb => .inl (po b hb), fun b hb => .inl (pp b hb), h.two, h.dat, h.pat, fun id hid => (h.ent id hid).keeps k (hd _ (pe id hid)), fun id hid => .inl (pe id hid), h.inj⟩
end
end Go.Proofs.Ytmohbdbofehamaa
