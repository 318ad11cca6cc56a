/- Two pairs of whole numbers held against one another. -/
import Derived.Test.YtmcnnnmlacpppaaDoorRt8
namespace Go.Proofs.YtmcnnnmlacpppaaDoor
open Go.RowKit

theorem Tryd.und2 : Tryd.prog.underlying 96 = some (.array 2 2) := by kernel_rfl
theorem Tryd.undI : Tryd.prog.underlying 2 = some (.int .i64) := by kernel_rfl
theorem Tryd.infoI : (Tryd.prog.info? 2).map (fun i => (i.zero, i.size, i.bytes)) = some (some (.int .i64 0), 1, 8) := by kernel_rfl
theorem eqin_two (a b c e : Int) (w : World) : (Op.equalIn 10000 96 (.agg #[.int .i64 a, .int .i64 b]) (.agg #[.int .i64 c, .int .i64 e])).run Tryd.prog w = .ok (a == c && b == e) w := by
  have h1 : ∀ w, (Op.equalIn 9999 2 (.int .i64 a) (.int .i64 c)).run Tryd.prog w = .ok (a == c) w := fun w => run_equalIn_int w 9998 2 .i64 .i64 a c Tryd.undI
  have h2 : ∀ w, (Op.equalIn 9999 2 (.int .i64 b) (.int .i64 e)).run Tryd.prog w = .ok (b == e) w := fun w => run_equalIn_int w 9998 2 .i64 .i64 b e Tryd.undI
  have hs : ∀ w, (sizeOf 2).run Tryd.prog w = .ok 1 w := fun w => by kernel_rfl
  have hp0 : ∀ w (x y : Int), (part 2 #[.int .i64 x, .int .i64 y] 0).run Tryd.prog w = .ok (.int .i64 x) w := fun w x y => by kernel_rfl
  have hp1 : ∀ w (x y : Int), (part 2 #[.int .i64 x, .int .i64 y] 1).run Tryd.prog w = .ok (.int .i64 y) w := fun w x y => by kernel_rfl
  unfold Op.equalIn
  simp only [Sem.run_bind, run_underlying Tryd.und2, Result.andThen_ok, hs]
  simp [List.range', hp0, hp1, h1, h2]
  by_cases ha : a = c <;> by_cases hb : b = e <;> simp [ha, hb]
theorem guard_two : Tryd.prog.eqGuardType Tryd.prog.depth 96 = false := by kernel_rfl
end Go.Proofs.YtmcnnnmlacpppaaDoor
