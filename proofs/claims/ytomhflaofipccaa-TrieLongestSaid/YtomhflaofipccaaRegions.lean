/-
  Regions: the live ones, by rising numbers.
-/
import Derived.Test.YtomhflaofipccaaP6
import Derived.Deep.RegionLaw
namespace Go.Proofs.Ytomhflaofipccaa
open Go Go.RowKit Go.Maps
set_option linter.unusedVariables false

/-- An append of which is known what it gives, as one step of a region that draws its order. -/
theorem step_append_run {P : Program} {ops : Array Oper} {o : Oper} {a : Act} {w : World} {K : Act → World → Prop} {Q : Exit → Act → World → Prop} {E : Prop} (hg : o.guard = none) (s x : Operand) (t : TypeId)
    (hop : o.op = Op.call { callee := Callee.builtin Builtin.append, args := #[s, x], argTypes := #[t, t] }) (v xv v' : Value) (w' : World) (hs : a.eval s = v) (hx : a.eval x = xv) (hrun : ∀ ty, (Builtin.append_ #[t, t] ty #[v, xv]).run P w = .ok v' w') (hK : K (a.put o.dst v') w') :
    if Region.wanted o (yielded ops a.tmps) = true then Oper.wp P o a w K Q else E := by
  have hw : Region.wanted o (yielded ops a.tmps) = true := by simp [Region.wanted, hg]
  rw [if_pos hw]
  unfold Oper.wp
  simp [execOp, hop, resolve, invoke, builtin, hs, hx, hrun, Result.andThen]
  exact hK
abbrev RV := Int × List UInt8 × Bool
/-- A region as Regions tells it. -/
def regC (n : Nat) (q : RV) : List Value := [.int .i64 (n : Int), .int .i64 q.1, .string (bstr q.2.1)]
def cellsR (vs : Nat → Option RV) (ss : List Nat) : List Value := (ss.map fun n => regC n ((vs n).getD (0, [], false))).flatten
theorem cellsR_len (vs : Nat → Option RV) (ss : List Nat) : (cellsR vs ss).length = ss.length * 3 := by
  induction ss with
  | nil => rfl
  | cons x r ih =>
    have : (cellsR vs (x :: r)) = regC x ((vs x).getD (0, [], false)) ++ cellsR vs r := by simp [cellsR]
    rw [this, List.length_append, ih]
    simp [regC]
    omega
theorem cellsR_snoc (vs : Nat → Option RV) (ss : List Nat) (k : Nat) (hk : k < ss.length) : cellsR vs (ss.take (k + 1)) = cellsR vs (ss.take k) ++ regC ss[k] ((vs ss[k]).getD (0, [], false)) := by
  rw [List.take_succ_eq_append_getElem hk]
  unfold cellsR
  rw [List.map_append, List.flatten_append]
  congr 1
theorem ownsRow_ne {w : World} {B B' : Nat} {e e' : TypeId} {s s' n n' : Nat} {v v' : Value} {xs xs' : List Value} (h : w.ownsRow B e s v n xs) (h' : w.ownsRow B' e' s' v' n' xs') (hne : e ≠ e') (g : Nat) (hg : v.ownBlock = some g) : v'.ownBlock ≠ some g := by
  intro hg'
  rcases h.2 with ⟨rfl, _⟩ | ⟨g1, _, cur, rfl, _, h1, _⟩
  · cases hg
  · rcases h'.2 with ⟨rfl, _⟩ | ⟨g2, _, cur', rfl, _, h2, _⟩
    · cases hg'
    · have e1 : g1 = g := by simpa [Value.ownBlock] using hg
      have e2 : g2 = g := by simpa [Value.ownBlock] using hg'
      subst e1; subst e2
      exact Blk.ne_ (show Blk w g2 e cur from h1) (show Blk w g2 e' cur' from h2) hne rfl
theorem ownsRow_base {w : World} {base base' : Nat} {e : TypeId} {size : Nat} {v : Value} {n : Nat} {xs : List Value} (h : w.ownsRow base e size v n xs) (hb : base' ≤ base) : w.ownsRow base' e size v n xs := by
  refine ⟨h.1, ?_⟩
  rcases h.2 with h1 | ⟨g, cap, cur, h1, h2, h3⟩
  · exact .inl h1
  · exact .inr ⟨g, cap, cur, h1, Nat.le_trans hb h2, h3⟩
theorem ownsRow_drew {w : World} {base : Nat} {e : TypeId} {size : Nat} {v : Value} {n : Nat} {xs : List Value} (h : w.ownsRow base e size v n xs) : w.drew.ownsRow base e size v n xs := ownsRow_block h (fun _ _ => rfl)
section
variable {w : World} {S : Nat → Prop} {bm made fail : Nat} {st : Nat → Option RG} {rl : List Nat} {mv rv : Value}
end
end Go.Proofs.Ytomhflaofipccaa
