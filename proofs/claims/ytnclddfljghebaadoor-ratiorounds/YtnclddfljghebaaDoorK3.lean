/- What Cmp answers, the program's and the reference's, of any two dyads. -/
import Derived.Test.YtnclddfljghebaaDoorZl
import Derived.Test.YtnclddfljghebaaDoorDx
import Derived.Test.YtnclddfljghebaaDoorZp
import Derived.Test.YtnclddfljghebaaDoorK2
namespace Go.Proofs.YtnclddfljghebaaDoor

theorem qd_sign {d : Dy} (h : rightB d = true) : qd d = sgD d * (sz d : Int) ∧ ((sgD d = 0 ∧ sz d = 0) ∨ (sgD d = 1 ∧ 0 < sz d) ∨ (sgD d = -1 ∧ 0 < sz d)) := by
  rcases right_cases h with rfl | ⟨hn, hc⟩
  · refine ⟨?_, Or.inl ⟨rfl, ?_⟩⟩
    · unfold qd; rw [show sv dy0 = 0 from rfl, show sgD dy0 = 0 from rfl, Int.zero_mul, Int.zero_mul]
    · unfold sz; rw [show vl dy0.mag = 0 from rfl, Nat.zero_mul]
  · have hv : vl d.mag ≠ 0 := vl_ne_last hn hc.2.2.1
    have hp : 0 < sz d := Nat.mul_pos (Nat.pos_of_ne_zero hv) (Nat.pow_pos (by omega))
    have hs : (sz d : Int) = (vl d.mag : Int) * 2 ^ (d.exp + 65536).toNat := by unfold sz; push_cast; rfl
    cases hg : d.neg
    · have e : sgD d = 1 := by unfold sgD; rw [if_neg hn, hg]; rfl
      refine ⟨?_, Or.inr (Or.inl ⟨e, hp⟩)⟩
      rw [e, hs, Int.one_mul]
      unfold qd sv
      rw [hg]; rfl
    · have e : sgD d = -1 := by unfold sgD; rw [if_neg hn, hg]; rfl
      refine ⟨?_, Or.inr (Or.inr ⟨e, hp⟩)⟩
      rw [e, hs]
      unfold qd sv
      rw [hg, if_pos rfl, Int.neg_mul, Int.neg_mul, Int.one_mul]

theorem cmp_val {a b : Dy} (ra : rightB a = true) (rb : rightB b = true) :
    sgI (qd a - qd b) = if sgD a ≠ sgD b then cmpI (sgD a) (sgD b) else if sgD a = 0 then 0 else sgD a * cmpI (sz a) (sz b) := by
  obtain ⟨qa, ha⟩ := qd_sign ra
  obtain ⟨qb, hb⟩ := qd_sign rb
  rw [qa, qb]
  generalize (sgD a) = x at *
  generalize (sgD b) = y at *
  generalize sz a = m at *
  generalize sz b = n at *
  clear qa qb ra rb
  rcases ha with ⟨rfl, rfl⟩ | ⟨rfl, hm⟩ | ⟨rfl, hm⟩ <;> rcases hb with ⟨rfl, rfl⟩ | ⟨rfl, hn⟩ | ⟨rfl, hn⟩ <;> simp [sgI, cmpI] <;> (repeat' split) <;> omega
end Go.Proofs.YtnclddfljghebaaDoor

namespace Go.Proofs.YtnclddfljghebaaDoor
open Go.RowKit

/-- A dyad in a box. -/
structure Hd (w : World) (p : Nat) (d : Dy) (ao : Option Addr) (cap : Nat) : Prop where
  c0 : w.cell? ⟨p, 0, none⟩ = some (.bool d.neg)
  c1 : w.cell? ⟨p, 1, none⟩ = some (.slice ao d.mag.length cap)
  c2 : w.cell? ⟨p, 2, none⟩ = some (.int .i64 d.exp)
  row : LRow w ao d.mag
theorem Hd.below {w w' : World} {p : Nat} {d : Dy} {ao : Option Addr} {cap : Nat} (h : Hd w p d ao cap) (hb : Below w.heap.size w w') : Hd w' p d ao cap := by
  obtain ⟨c0, c1, c2⟩ := three_on hb ⟨h.c0, h.c1, h.c2⟩
  exact ⟨c0, c1, c2, h.row.below hb⟩
/-- The box that a result is stored in. -/
theorem Hd.new {w : World} {d : Dy} {ao : Option Addr} {cap : Nat} (h : LRow w ao d.mag) : Hd (w.alloc (.cells #[.bool d.neg, .slice ao d.mag.length cap, .int .i64 d.exp] 47)) w.heap.size d ao cap := by
  refine ⟨?_, ?_, ?_, h.alloc _⟩ <;> go_simp
end Go.Proofs.YtnclddfljghebaaDoor

namespace Go.Proofs.YtnclddfljghebaaDoor
open Go.RowKit

end Go.Proofs.YtnclddfljghebaaDoor

namespace Go.Proofs.YtnclddfljghebaaDoor
open Go.RowKit

end Go.Proofs.YtnclddfljghebaaDoor
