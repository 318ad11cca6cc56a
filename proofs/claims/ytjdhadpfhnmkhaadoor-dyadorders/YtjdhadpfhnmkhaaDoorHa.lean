/- What the statements' own 'same' and 'made' answer. -/
import Derived.Test.YtjdhadpfhnmkhaaDoorZp
namespace Go.Proofs.YtjdhadpfhnmkhaaDoor
open Go.RowKit

set_option maxHeartbeats 400000 in
theorem same_any (a b : Dy) (ao bo : Option Addr) (cap bcap : Nat) (e f : Int) (w : World) (hr : LRow w ao a.mag) (hs : LRow w bo b.mag) (hn : a.mag.length ≤ 1125899906842624) :
    Calls Tryd.prog 11 #[.agg #[.bool a.neg, .slice ao a.mag.length cap, .int .i64 a.exp], .int .i64 e, .agg #[.bool b.neg, .slice bo b.mag.length bcap, .int .i64 b.exp], .int .i64 f] w fun r w' => r = .returned (.bool (decide (e = f) && eqB a b)) ∧ Below w.heap.size w w' := by
  have hsd := fun w' hr' hs' => sameDyad_any a b ao bo cap bcap w' hr' hs' hn
  obtain ⟨v, hv⟩ : ∃ v, eqB a b = v := ⟨_, rfl⟩
  rw [hv] at hsd ⊢
  clear hv
  obtain ⟨n1, m1, e1⟩ := a
  obtain ⟨n2, m2, e2⟩ := b
  simp only at *
  by_cases h : e = f
  · subst h
    have hb : (e == e) = true := by simp
    go_enter Tryd.func11, Tryd.ntmps11
    go_wp2_with (go_at_call 13; refine (hsd _ ((hr.alloc _).alloc _) ((hs.alloc _).alloc _)).mono ?_; rintro r w1 ⟨rfl, hb1⟩)
    go_ret
    exact ⟨retB (by simp), box2_old hb1⟩
  · have hb : (e == f) = false := by simp [h]
    have hend : ∀ o1 o2, Below w.heap.size w ((w.alloc o1).alloc o2) := fun o1 o2 => (((Below.refl _ _).alloc (Nat.le_refl _) o1).alloc (by simp) o2)
    go_enter Tryd.func11, Tryd.ntmps11
    go_wp2
    go_ret
    exact ⟨retB (by simp [h]), hend _ _⟩

/-- A dyad in a box. -/
structure Hd (w : World) (p : Nat) (d : Dy) (ao : Option Addr) (cap : Nat) : Prop where
  c0 : w.cell? ⟨p, 0, none⟩ = some (.bool d.neg)
  c1 : w.cell? ⟨p, 1, none⟩ = some (.slice ao d.mag.length cap)
  c2 : w.cell? ⟨p, 2, none⟩ = some (.int .i64 d.exp)
  row : LRow w ao d.mag
theorem Hd.below {w w' : World} {p : Nat} {d : Dy} {ao : Option Addr} {cap : Nat} (h : Hd w p d ao cap) (hb : Below w.heap.size w w') : Hd w' p d ao cap := by
  obtain ⟨c0, c1, c2⟩ := three_on hb ⟨h.c0, h.c1, h.c2⟩
  exact ⟨c0, c1, c2, h.row.below hb⟩
/-- The box that a result is stored in. -/
theorem Hd.new {w : World} {d : Dy} {ao : Option Addr} {cap : Nat} (h : LRow w ao d.mag) : Hd (w.alloc (.cells #[.bool d.neg, .slice ao d.mag.length cap, .int .i64 d.exp] 24)) w.heap.size d ao cap := by
  refine ⟨?_, ?_, ?_, h.alloc _⟩ <;> go_simp
end Go.Proofs.YtjdhadpfhnmkhaaDoor
