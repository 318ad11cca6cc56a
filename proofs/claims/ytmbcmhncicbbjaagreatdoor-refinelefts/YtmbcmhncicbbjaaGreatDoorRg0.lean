/- A case's box; great, left of the statements of layer 14; Pick of 12. -/
import Derived.Test.YtmbcmhncicbbjaaGreatDoorRf8
namespace Go.Proofs.YtmbcmhncicbbjaaGreatDoor
open Go.RowKit

/-- A case as a value. -/
abbrev csV (r c : Int) (ao : Option Addr) (mn cap : Nat) (n : Int) (lo : Option Addr) (ln lc : Nat) (dO : Option Addr) (dn dc : Nat) (xo : Option Addr) (xn xc : Nat) (bo : Option Addr) (bn bc : Nat) : Value := .agg #[.int .i64 r, .int .i64 c, .slice ao mn cap, .int .i64 n, .slice lo ln lc, .slice dO dn dc, .slice xo xn xc, .slice bo bn bc]
/-- A box that holds a case. -/
structure C8 (w : World) (p : Nat) (r c : Int) (ao : Option Addr) (mn cap : Nat) (n : Int) (lo : Option Addr) (ln lc : Nat) (dO : Option Addr) (dn dc : Nat) (x b : Value) : Prop where
  c0 : w.cell? ⟨p, 0, none⟩ = some (.int .i64 r)
  c1 : w.cell? ⟨p, 1, none⟩ = some (.int .i64 c)
  c2 : w.cell? ⟨p, 2, none⟩ = some (.slice ao mn cap)
  c3 : w.cell? ⟨p, 3, none⟩ = some (.int .i64 n)
  c4 : w.cell? ⟨p, 4, none⟩ = some (.slice lo ln lc)
  c5 : w.cell? ⟨p, 5, none⟩ = some (.slice dO dn dc)
  c6 : w.cell? ⟨p, 6, none⟩ = some x
  c7 : w.cell? ⟨p, 7, none⟩ = some b
theorem C8.below {w w1 : World} {p : Nat} {r c : Int} {ao : Option Addr} {mn cap : Nat} {n : Int} {lo : Option Addr} {ln lc : Nat} {dO : Option Addr} {dn dc : Nat} {x b : Value} (h : C8 w p r c ao mn cap n lo ln lc dO dn dc x b) (hb : Below w.heap.size w w1) : C8 w1 p r c ao mn cap n lo ln lc dO dn dc x b := by
  have hp := World.block_lt_of_cell? w _ h.c0
  have k := fun o => hb.cell (p := ⟨p, o, none⟩) hp
  exact ⟨(k 0).trans h.c0, (k 1).trans h.c1, (k 2).trans h.c2, (k 3).trans h.c3, (k 4).trans h.c4, (k 5).trans h.c5, (k 6).trans h.c6, (k 7).trans h.c7⟩
theorem C8.new (w : World) (r c : Int) (ao : Option Addr) (mn cap : Nat) (n : Int) (lo : Option Addr) (ln lc : Nat) (dO : Option Addr) (dn dc : Nat) (xo : Option Addr) (xn xc : Nat) (bo : Option Addr) (bn bc : Nat) (t : TypeId) : C8 (w.alloc (.cells #[.int .i64 r, .int .i64 c, .slice ao mn cap, .int .i64 n, .slice lo ln lc, .slice dO dn dc, .slice xo xn xc, .slice bo bn bc] t)) w.heap.size r c ao mn cap n lo ln lc dO dn dc (.slice xo xn xc) (.slice bo bn bc) := by
  constructor <;> go_simp
set_option maxHeartbeats 1000000 in
theorem great14 (r c : Int) (ao : Option Addr) (mn cap : Nat) (w : World) : Calls Tryz.prog 7 #[mxV r c ao mn cap] w fun e w' => e = .returned (.bool (decide (100 < mn))) ∧ Below w.heap.size w w' := by
  have B0 := below_one w
  by_cases h : 100 < mn
  · have i1 : (100 : Int) < (mn : Int) := by omega
    rw [decide_eq_true h]
    go_enter Tryz.func7, Tryz.ntmps7
    go_wp2
    go_ret
    exact ⟨rfl, B0 _⟩
  · have i1 : ¬ (100 : Int) < (mn : Int) := by omega
    rw [decide_eq_false h]
    go_enter Tryz.func7, Tryz.ntmps7
    go_wp2
    go_ret
    exact ⟨rfl, B0 _⟩
end Go.Proofs.YtmbcmhncicbbjaaGreatDoor
