/-
  Two wide instructions' slots, compared with themselves.
-/
import Derived.Test.YtmbkagjdhpfngaaDoorISame
import Derived.ChangeKeysEq
import Derived.Laws.StructEq
namespace Go.Proofs.YtmbkagjdhpfngaaDoor
open Go Go.RowKit
set_option linter.unusedVariables false
theorem eq_insn (o d s f m : Int) (w : World) : (Op.equalIn 9999 37 (.agg #[.int .i64 o, .int .i64 d, .int .i64 s, .int .i64 f, .int .i64 m]) (.agg #[.int .i64 o, .int .i64 d, .int .i64 s, .int .i64 f, .int .i64 m])).run Tryd.prog w = .ok true w := by
  go_simp
theorem eq_pair (o d s f m o' d' s' f' m' : Int) (w : World) : (Op.equalIn 10000 38 (.agg #[.int .i64 o, .int .i64 d, .int .i64 s, .int .i64 f, .int .i64 m, .int .i64 o', .int .i64 d', .int .i64 s', .int .i64 f', .int .i64 m']) (.agg #[.int .i64 o, .int .i64 d, .int .i64 s, .int .i64 f, .int .i64 m, .int .i64 o', .int .i64 d', .int .i64 s', .int .i64 f', .int .i64 m'])).run Tryd.prog w = .ok true w := by
  obtain ⟨i0, hi, hz0, hz1, hz2⟩ := info_parts info37
  rw [run_equalIn_array w 9999 _ _ Tryd.underlying38 hi]
  have c5 : Tryd.prog.cellsOf 37 = 5 := by kernel_rfl
  rw [c5]
  have p0 : ∀ w : World, (part 37 #[.int .i64 o, .int .i64 d, .int .i64 s, .int .i64 f, .int .i64 m, .int .i64 o', .int .i64 d', .int .i64 s', .int .i64 f', .int .i64 m'] 0).run Tryd.prog w = .ok (.agg #[.int .i64 o, .int .i64 d, .int .i64 s, .int .i64 f, .int .i64 m]) w := fun w => by kernel_rfl
  have p1 : ∀ w : World, (part 37 #[.int .i64 o, .int .i64 d, .int .i64 s, .int .i64 f, .int .i64 m, .int .i64 o', .int .i64 d', .int .i64 s', .int .i64 f', .int .i64 m'] 5).run Tryd.prog w = .ok (.agg #[.int .i64 o', .int .i64 d', .int .i64 s', .int .i64 f', .int .i64 m']) w := fun w => by kernel_rfl
  rw [show List.range 2 = [0, 1] from rfl]
  simp only [Op.eqItems, Sem.run_bind, Nat.zero_mul, Nat.one_mul]
  rw [p0]
  simp only [Result.andThen_ok]
  rw [p0]
  simp only [Result.andThen_ok]
  rw [eq_insn]
  simp only [Result.andThen_ok, Bool.not_true, Bool.false_eq_true, if_false, Sem.run_bind]
  rw [p1]
  simp only [Result.andThen_ok]
  rw [p1]
  simp only [Result.andThen_ok]
  rw [eq_insn]
  simp
end Go.Proofs.YtmbkagjdhpfngaaDoor
