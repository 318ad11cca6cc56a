/- What holds of layer 3's laws answers of finite floats: on which side of a float the exact answer lies. -/
import Derived.Test.YtfhejejfeffdcaaDoorJw
namespace Go.Proofs.YtfhejejfeffdcaaDoor
open Go.RowKit

/-- Turned, where s says so. -/
def tnI (s : Bool) (x : Int) : Int := if s then -x else x
/-- Cells and marks of a box of three, behind a call. -/
theorem Hd.six {w w1 : World} {p : Nat} {d : Dy} {ao : Option Addr} {cap : Nat} (h : Hd w p d ao cap) (hz : Fzr w p) (hb : Below w.heap.size w w1) : Hd w1 p d ao cap ∧ Fzr w1 p := ⟨h.below hb, hz.below (World.block_lt_of_cell? w _ h.c0) hb⟩
theorem fz_new (w : World) (a b c : Value) : Fzr (w.alloc (.cells #[a, b, c] 32)) w.heap.size := ⟨by go_simp, by go_simp, by go_simp⟩
theorem not_neg {x : Nat} (hx : x < 18446744073709551616) (fx : finB x = true) (h : sgn x = false ∨ rung x = 0) : (FloatKind.f64.format.order x 0 == some .lt) = false := by
  have hr := fin_rung fx
  have nb : nanB x = false := rung_nan (by omega)
  rw [zero_lt hx, nb]
  unfold place
  rcases h with h | h
  · rw [h]; simp
  · rw [h]; cases sgn x <;> simp
theorem sgI_wrap (x : Int) : wrap64 (sgI x) = sgI x := by
  obtain ⟨h1, h2⟩ := sgI_bd x
  generalize sgI x = y at *
  unfold wrap64
  omega
theorem sgI_wrapn (x : Int) : wrap64 (-sgI x) = -sgI x := by
  obtain ⟨h1, h2⟩ := sgI_bd x
  generalize sgI x = y at *
  unfold wrap64
  omega
theorem put3n {w : World} {p : Nat} {a : Option Addr} {c : Nat} {D E : Dy} {ao : Option Addr} {cap : Nat} (h : Hd w p D ao cap) (hr : LRow w a E.mag) (hf : ∀ b off, a = some ⟨b, off, none⟩ → E.mag.length ≠ 0 → b ≠ p) :
    Hd (((w.setCell ⟨p, 0, none⟩ (.bool E.neg)).setCell ⟨p, 1, none⟩ (.slice a E.mag.length c)).setCell ⟨p, 2, none⟩ (.int .i64 E.exp)) p E a c := by
  have s0 : (w.setCell ⟨p, 0, none⟩ (.bool E.neg)).cell? ⟨p, 0, none⟩ = some (.bool E.neg) := World.cell?_setCell_same w _ _ h.c0
  have s1 : (w.setCell ⟨p, 0, none⟩ (.bool E.neg)).cell? ⟨p, 1, none⟩ = some (.slice ao D.mag.length cap) := (World.cell?_setCell_other w _ _ _ (by simp)).trans h.c1
  have s2 : (w.setCell ⟨p, 0, none⟩ (.bool E.neg)).cell? ⟨p, 2, none⟩ = some (.int .i64 D.exp) := (World.cell?_setCell_other w _ _ _ (by simp)).trans h.c2
  have t0 := (World.cell?_setCell_other _ ⟨p, 1, none⟩ ⟨p, 0, none⟩ (.slice a E.mag.length c) (by simp)).trans s0
  have t1 := World.cell?_setCell_same _ _ (.slice a E.mag.length c) s1
  have t2 := (World.cell?_setCell_other _ ⟨p, 1, none⟩ ⟨p, 2, none⟩ (.slice a E.mag.length c) (by simp)).trans s2
  exact ⟨(World.cell?_setCell_other _ _ _ _ (by simp)).trans t0, (World.cell?_setCell_other _ _ _ _ (by simp)).trans t1, World.cell?_setCell_same _ _ _ t2, ((hr.setCell _ hf).setCell _ hf).setCell _ hf⟩
theorem row_lt {w : World} {o : Option Addr} {m : List Nat} (h : LRow w o m) : ∀ b off, o = some ⟨b, off, none⟩ → m.length ≠ 0 → b < w.heap.size := fun b off e h0 => by
  rcases h with h | ⟨b', off', e', hc⟩
  · exact absurd h h0
  · rw [e] at e'
    cases e'
    exact World.block_lt_of_cell? w _ (hc 0 (by omega))
/-- A box behind three stores into another. -/
theorem Hd.oth {w : World} {p q : Nat} {d : Dy} {ao : Option Addr} {cap : Nat} (h : Hd w p d ao cap) (hne : p ≠ q) (v0 v1 v2 : Value) (hr : LRow (((w.setCell ⟨q, 0, none⟩ v0).setCell ⟨q, 1, none⟩ v1).setCell ⟨q, 2, none⟩ v2) ao d.mag) : Hd (((w.setCell ⟨q, 0, none⟩ v0).setCell ⟨q, 1, none⟩ v1).setCell ⟨q, 2, none⟩ v2) p d ao cap := by
  have hadd : ∀ i j : Nat, (⟨q, j, none⟩ : Addr) ≠ ⟨p, i, none⟩ := fun i j e => hne (by injection e with e1; exact e1.symm)
  have k : ∀ (i : Nat) (x : Value), w.cell? ⟨p, i, none⟩ = some x → (((w.setCell ⟨q, 0, none⟩ v0).setCell ⟨q, 1, none⟩ v1).setCell ⟨q, 2, none⟩ v2).cell? ⟨p, i, none⟩ = some x := fun i x hx => by
    rw [World.cell?_setCell_other _ _ _ _ (hadd i 2), World.cell?_setCell_other _ _ _ _ (hadd i 1), World.cell?_setCell_other _ _ _ _ (hadd i 0)]
    exact hx
  exact ⟨k _ _ h.c0, k _ _ h.c1, k _ _ h.c2, hr⟩
theorem Fzr.set {w : World} {p : Nat} (h : Fzr w p) (q : Nat) (v0 v1 v2 : Value) : Fzr (((w.setCell ⟨q, 0, none⟩ v0).setCell ⟨q, 1, none⟩ v1).setCell ⟨q, 2, none⟩ v2) p := by
  obtain ⟨h0, h1, h2⟩ := h
  exact ⟨by go_simp, by go_simp, by go_simp⟩
theorem three_box3 {w : World} {X Y Z : Dy} {ax ay az : Option Addr} {cx cy cz : Nat} (rx : LRow w ax X.mag) (ry : LRow w ay Y.mag) (rz : LRow w az Z.mag) :
    let W := ((w.alloc (.cells #[.bool X.neg, .slice ax X.mag.length cx, .int .i64 X.exp] 32)).alloc (.cells #[.bool Y.neg, .slice ay Y.mag.length cy, .int .i64 Y.exp] 32)).alloc (.cells #[.bool Z.neg, .slice az Z.mag.length cz, .int .i64 Z.exp] 32)
    Hd W w.heap.size X ax cx ∧ Hd W (w.heap.size + 1) Y ay cy ∧ Hd W (w.heap.size + 1 + 1) Z az cz ∧ W.heap.size = w.heap.size + 3 ∧ Below w.heap.size w W := by
  have h1 := ((Hd.new (d := X) (cap := cx) rx).below (bal _ (.cells #[.bool Y.neg, .slice ay Y.mag.length cy, .int .i64 Y.exp] 32))).below (bal _ (.cells #[.bool Z.neg, .slice az Z.mag.length cz, .int .i64 Z.exp] 32))
  have h2 := (Hd.new (d := Y) (cap := cy) (ry.alloc (.cells #[.bool X.neg, .slice ax X.mag.length cx, .int .i64 X.exp] 32))).below (bal _ (.cells #[.bool Z.neg, .slice az Z.mag.length cz, .int .i64 Z.exp] 32))
  have h3 := Hd.new (d := Z) (cap := cz) ((rz.alloc (.cells #[.bool X.neg, .slice ax X.mag.length cx, .int .i64 X.exp] 32)).alloc (.cells #[.bool Y.neg, .slice ay Y.mag.length cy, .int .i64 Y.exp] 32))
  refine ⟨h1, ?_, ?_, by simp, bth3 (bth3 (bal _ _) (bal _ _)) (bal _ _)⟩
  · simpa using h2
  · simpa using h3
end Go.Proofs.YtfhejejfeffdcaaDoor
