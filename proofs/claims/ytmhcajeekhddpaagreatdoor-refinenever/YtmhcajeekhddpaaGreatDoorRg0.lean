/- A case's box; great, left of the statements of layer 14; Pick of 12. -/
import Derived.Test.YtmhcajeekhddpaaGreatDoorRf8
namespace Go.Proofs.YtmhcajeekhddpaaGreatDoor
open Go.RowKit

/-- A case as a value. -/
abbrev csV (r c : Int) (ao : Option Addr) (mn cap : Nat) (n : Int) (lo : Option Addr) (ln lc : Nat) (dO : Option Addr) (dn dc : Nat) (xo : Option Addr) (xn xc : Nat) (bo : Option Addr) (bn bc : Nat) : Value := .agg #[.int .i64 r, .int .i64 c, .slice ao mn cap, .int .i64 n, .slice lo ln lc, .slice dO dn dc, .slice xo xn xc, .slice bo bn bc]
/-- A box that holds a case. -/
structure C8 (w : World) (p : Nat) (r c : Int) (ao : Option Addr) (mn cap : Nat) (n : Int) (lo : Option Addr) (ln lc : Nat) (dO : Option Addr) (dn dc : Nat) (x b : Value) : Prop where
  c0 : w.cell? ⟨p, 0, none⟩ = some (.int .i64 r)
  c1 : w.cell? ⟨p, 1, none⟩ = some (.int .i64 c)
  c2 : w.cell? ⟨p, 2, none⟩ = some (.slice ao mn cap)
  c3 : w.cell? ⟨p, 3, none⟩ = some (.int .i64 n)
  c4 : w.cell? ⟨p, 4, none⟩ = some (.slice lo ln lc)
  c5 : w.cell? ⟨p, 5, none⟩ = some (.slice dO dn dc)
  c6 : w.cell? ⟨p, 6, none⟩ = some x
  c7 : w.cell? ⟨p, 7, none⟩ = some b
theorem C8.below {w w1 : World} {p : Nat} {r c : Int} {ao : Option Addr} {mn cap : Nat} {n : Int} {lo : Option Addr} {ln lc : Nat} {dO : Option Addr} {dn dc : Nat} {x b : Value} (h : C8 w p r c ao mn cap n lo ln lc dO dn dc x b) (hb : Below w.heap.size w w1) : C8 w1 p r c ao mn cap n lo ln lc dO dn dc x b := by
  have hp := World.block_lt_of_cell? w _ h.c0
  have k := fun o => hb.cell (p := ⟨p, o, none⟩) hp
  exact ⟨(k 0).trans h.c0, (k 1).trans h.c1, (k 2).trans h.c2, (k 3).trans h.c3, (k 4).trans h.c4, (k 5).trans h.c5, (k 6).trans h.c6, (k 7).trans h.c7⟩
theorem C8.new (w : World) (r c : Int) (ao : Option Addr) (mn cap : Nat) (n : Int) (lo : Option Addr) (ln lc : Nat) (dO : Option Addr) (dn dc : Nat) (xo : Option Addr) (xn xc : Nat) (bo : Option Addr) (bn bc : Nat) (t : TypeId) : C8 (w.alloc (.cells #[.int .i64 r, .int .i64 c, .slice ao mn cap, .int .i64 n, .slice lo ln lc, .slice dO dn dc, .slice xo xn xc, .slice bo bn bc] t)) w.heap.size r c ao mn cap n lo ln lc dO dn dc (.slice xo xn xc) (.slice bo bn bc) := by
  constructor <;> go_simp
set_option maxHeartbeats 1000000 in
theorem great14 (r c : Int) (ao : Option Addr) (mn cap : Nat) (w : World) : Calls Tryz.prog 5 #[mxV r c ao mn cap] w fun e w' => e = .returned (.bool (decide (100 < mn))) ∧ Below w.heap.size w w' := by
  have B0 := below_one w
  by_cases h : 100 < mn
  · have i1 : (100 : Int) < (mn : Int) := by omega
    rw [decide_eq_true h]
    go_enter Tryz.func5, Tryz.ntmps5
    go_wp2
    go_ret
    exact ⟨rfl, B0 _⟩
  · have i1 : ¬ (100 : Int) < (mn : Int) := by omega
    rw [decide_eq_false h]
    go_enter Tryz.func5, Tryz.ntmps5
    go_wp2
    go_ret
    exact ⟨rfl, B0 _⟩
set_option maxHeartbeats 100000 in
theorem pick12 (x : Int) (w : World) : Calls Tryz.prog 6 #[.int .i64 x, .int .i64 12] w fun e w' => ∃ m : Nat, e = .returned (.int .i64 m) ∧ m ≤ 11 ∧ w' = w := by
  have b1 : x.tmod 12 < 12 := Int.tmod_lt_of_pos x (by omega)
  have b2 : -12 < x.tmod 12 := by
    have := Int.tmod_lt_of_pos (-x) (show (0 : Int) < 12 by omega)
    rw [Int.neg_tmod] at this
    omega
  by_cases h : x.tmod 12 < 0
  · generalize hy : x.tmod 12 = y at *
    clear b1
    go_enter Tryz.func6, Tryz.ntmps6
    go_wp2
    go_ret
    exact ⟨(y + 12).toNat, (by rw [Int.toNat_of_nonneg (by omega)]; rfl), by omega, rfl⟩
  · generalize hy : x.tmod 12 = y at *
    clear b2
    go_enter Tryz.func6, Tryz.ntmps6
    go_wp2
    go_ret
    exact ⟨y.toNat, (by rw [Int.toNat_of_nonneg (by omega)]; rfl), by omega, rfl⟩
set_option maxHeartbeats 1000000 in
theorem left14 (r c : Int) (ms : List Nat) (n : Int) (lo : Option Addr) (ln lc : Nat) (dO : Option Addr) (dn dc : Nat) (bs ys : List Nat) (ao bo yo xo : Option Addr) (cap bc yc xn xc : Nat) (w : World) (hT : TabW w) (hM : GRow w ao ms) (hB : GRow w bo bs) (hY : GRow w yo ys) (fM : FW ms) (fB : FW bs) (fY : FW ys) (lM : ms.length ≤ 1125899906842624) (lB : bs.length ≤ 1125899906842624) (lY : ys.length ≤ 1125899906842624) (hz : Shp ao cap) (hcap : ms.length ≤ cap) (l : List Nat) (hl : lfA r c ms ys bs = (l, 0)) :
    Calls Tryz.prog 9 #[csV r c ao ms.length cap n lo ln lc dO dn dc xo xn xc bo bs.length bc, .slice yo ys.length yc] w fun e w' => ∃ a, e = .returned (.tuple #[.float .f64 a, .bool true]) ∧ NR (nv l) a ∧ Below w.heap.size w w' := by
  have c1 := fun W h0 h1 h2 h3 => left_any r c ms ys bs ao yo bo cap yc bc W h0 h1 h2 h3 fM fY fB lM lY lB hz hcap
  have hlen := lfA_len r c ms ys bs
  rw [hl] at c1 hlen
  simp only at c1 hlen
  have B0 := below_one w (.cells #[.int .i64 r, .int .i64 c, .slice ao ms.length cap, .int .i64 n, .slice lo ln lc, .slice dO dn dc, .slice xo xn xc, .slice bo bs.length bc] 28)
  have cv := fun (o : Option Addr) (q : Nat) W h1 h2 => vnorm_any l o q W h1 h2 (by omega)
  clear hl
  go_enter Tryz.func9, Tryz.ntmps9
  go_wp2_with (first
    | (go_at_call 12; refine (c1 _ (tabW_below hT B0) (hM.below B0) (hY.below B0) (hB.below B0)).mono ?_; rintro e w1 ⟨zo, zc, rfl, k1, k2, k3, k4, b1⟩; have B1 := B0.trans (b1.mono B0.size))
    | (go_at_call 19; refine (cv _ _ _ k1 k2).mono ?_; rintro e w2 ⟨a, rfl, na, b2⟩))
  exact bodyPost_ret (v := .tuple #[.float .f64 a, .bool true]) (by simp [results, Tryz.results9, go_sem]) rfl ⟨a, rfl, na, B1.trans (b2.mono B1.size)⟩
end Go.Proofs.YtmhcajeekhddpaaGreatDoor
