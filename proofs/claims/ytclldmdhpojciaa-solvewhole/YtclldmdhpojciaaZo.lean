/- What Of and Int answer. -/
import Derived.Test.YtclldmdhpojciaaZl
import Derived.Test.YtclldmdhpojciaaDr
import Derived.Test.YtclldmdhpojciaaWj
import Derived.Test.YtclldmdhpojciaaZp
import Derived.Test.YtclldmdhpojciaaDx
namespace Go.Proofs.Ytclldmdhpojciaa
open Go.RowKit

/-- How a size is rounded. -/
def szm (neg : Bool) (m : Int) : Int := if m = 3 ∨ (m = 1 ∧ neg = false) ∨ (m = 2 ∧ neg = true) then 3 else if m = 1 ∨ m = 2 then 2 else 0
theorem szm_is (neg : Bool) (m : Int) : szm neg m = 0 ∨ szm neg m = 2 ∨ szm neg m = 3 := by unfold szm; (repeat' split) <;> simp

theorem join_one {last : Int} (h1 : -1074 ≤ last) (h2 : last ≤ 971) : joinF false 1 last = pw last ∧ okP 1 last = true := by
  have l1 : Nat.log2 1 = 0 := by decide
  have e : jR 1 last = pw last := by
    unfold jR jU jM pw
    rw [l1]
    by_cases hc : last < -1022
    · rw [if_neg (by omega), if_neg (by omega), if_pos hc]; omega
    · rw [if_pos (by omega), if_pos (by omega), if_neg hc]; omega
  have hp := (pw_ok h1 (show last ≤ 1023 by omega)).1
  have hk : okP 1 last = true := by unfold okP; rw [if_neg (by omega), e]; simp; omega
  refine ⟨?_, hk⟩
  simp [joinF, valR, hk, e]

theorem inf1_any (w : World) : Calls Try.prog 13 #[.int .i64 1] w fun e w' => e = .returned (.float .f64 9218868437227405312) ∧ w' = w := by
  have ff := run_ffrom
  go_enter Try.func13, Try.ntmps13
  go_wp2
  go_ret
  exact ⟨rfl, rfl⟩

theorem one_box {w w1 : World} {x0 x1 x2 : Value} {s : TypeId} (hb : Below (w.alloc (.cells #[x0, x1, x2] s)).heap.size (w.alloc (.cells #[x0, x1, x2] s)) w1) :
    (w1.cell? ⟨w.heap.size, 0, none⟩ = some x0 ∧ w1.cell? ⟨w.heap.size, 1, none⟩ = some x1 ∧ w1.cell? ⟨w.heap.size, 2, none⟩ = some x2) ∧ Below w.heap.size w w1 := by
  obtain ⟨hc, hf⟩ := oldc hb
  have l0 : w.heap.size < (w.alloc (.cells #[x0, x1, x2] s)).heap.size := by go_simp
  refine ⟨⟨?_, ?_, ?_⟩, ((Below.refl _ _).alloc (Nat.le_refl _) _).trans (hb.mono (by omega))⟩
  · rw [hc _ _ l0]; go_simp
  · rw [hc _ _ l0]; go_simp
  · rw [hc _ _ l0]; go_simp
end Go.Proofs.Ytclldmdhpojciaa

namespace Go.Proofs.Ytclldmdhpojciaa
open Go.RowKit

end Go.Proofs.Ytclldmdhpojciaa

namespace Go.Proofs.Ytclldmdhpojciaa
open Go.RowKit

/-- The answer of Round: a word. -/
def rndW (d : Dy) (m : Int) : Nat := if d.mag.length = 0 then 0 else if d.neg then 9223372036854775808 + rSz (vl d.mag) d.exp (szm d.neg m) else rSz (vl d.mag) d.exp (szm d.neg m)
theorem rSz_lt (v : Nat) (e m : Int) (h0 : v ≠ 0) : rSz v e m ≤ 9218868437227405312 := by
  unfold rSz
  by_cases hg : 1024 < (bl v : Int) + e
  · rw [if_pos hg]; split <;> omega
  · rw [if_neg hg]
    obtain ⟨k1, k2, k3, k4, k5⟩ := kept_bd h0 (show (bl v : Int) + e ≤ 1024 by omega)
    exact rW_lt (by unfold rKp; split <;> omega) k4

end Go.Proofs.Ytclldmdhpojciaa

namespace Go.Proofs.Ytclldmdhpojciaa
open Go.RowKit

/-- The dyad of a float. -/
def ofD (a : Nat) : Dy × Int := if finB a = false then (dy0, 5) else if spF a = 0 then (dy0, 0) else (⟨sgn a, [spF a], spE a⟩, 0)

theorem one_mark {w w1 : World} {x0 x1 x2 : Value} {s : TypeId} (hb : Below (w.alloc (.cells #[x0, x1, x2] s)).heap.size (w.alloc (.cells #[x0, x1, x2] s)) w1) :
    w1.frozen? ⟨w.heap.size, 0, none⟩ = false ∧ w1.frozen? ⟨w.heap.size, 1, none⟩ = false ∧ w1.frozen? ⟨w.heap.size, 2, none⟩ = false := by
  obtain ⟨hc, hf⟩ := oldc hb
  have l0 : w.heap.size < (w.alloc (.cells #[x0, x1, x2] s)).heap.size := by go_simp
  refine ⟨?_, ?_, ?_⟩
  · rw [hf _ _ l0]; go_simp
  · rw [hf _ _ l0]; go_simp
  · rw [hf _ _ l0]; go_simp
theorem mark_alloc {w : World} {a : Addr} {v : Value} (h : w.cell? a = some v) (hf : w.frozen? a = false) (o : Obj) : (w.alloc o).frozen? a = false := by
  rw [((Below.refl _ _).alloc (Nat.le_refl _) o).frozen (World.block_lt_of_cell? w _ h)]; exact hf
theorem one_lrow (w : World) (x : Nat) (o : Obj) (ho : o = .cells #[.int .u64 (x : Nat)] 58) : LRow (w.alloc o) (some ⟨w.heap.size, 0, none⟩) [x] := by
  right
  refine ⟨w.heap.size, 0, rfl, fun j hj => ?_⟩
  have : j = 0 := by simp at hj; omega
  subst this
  subst ho
  go_simp

/-- The dyad of a whole number. -/
def intD (n : Int) : Dy := (normD ⟨decide (n < 0), [n.natAbs], 0⟩).1
def GaveD (w : World) (d : Dy) (e : Ending) (w' : World) : Prop :=
  ∃ ao cap, e = .returned (.agg #[.bool d.neg, .slice ao d.mag.length cap, .int .i64 d.exp]) ∧ LRow w' ao d.mag ∧ Frs w.heap.size ao ∧ Below w.heap.size w w'

end Go.Proofs.Ytclldmdhpojciaa
