/- What span's Hull answers of two spans, call by call. -/
import Derived.Test.YtmmfhhfnbggjmaaDoorUi
namespace Go.Proofs.YtmmfhhfnbggjmaaDoor
open Go.RowKit

theorem old5 {w w1 : World} {o p q r s : Obj} (hb : Below (((((w.alloc o).alloc p).alloc q).alloc r).alloc s).heap.size (((((w.alloc o).alloc p).alloc q).alloc r).alloc s) w1) : Below w.heap.size w w1 := old1 (old4' hb)
set_option maxHeartbeats 1600000 in
theorem shull_not (a b c d B : Nat) (hr : (sRt a b && sRt c d) = false) (w : World) (h0 : w.cell? ⟨B, 0, none⟩ = some (.float .f64 a)) (h1 : w.cell? ⟨B, 1, none⟩ = some (.float .f64 b)) (h2 : w.cell? ⟨B, 2, none⟩ = some (.float .f64 c)) (h3 : w.cell? ⟨B, 3, none⟩ = some (.float .f64 d)) (hB : B < w.heap.size) :
    Calls Tryd.prog 15 #[.slice (some ⟨B, 0, none⟩) 2 2] w fun e w' => e = .returned (.tuple #[spV 0 0, .int .i64 2]) ∧ Below w.heap.size w w' := by
  have hst := run_storef Tryd.prog
  go_enter Tryd.func15, Tryd.ntmps15
  go_wp2_with (go_at_call 26; refine (sall_two a b c d B _ (cell_al h0 _) (cell_al h1 _) (cell_al h2 _) (cell_al h3 _) (by simp; omega)).mono ?_; rw [hr]; rintro e v1 ⟨rfl, b1⟩; obtain ⟨c0, c1, f0, f1, _⟩ := (Bx.new _ _ _ _).below b1)
  exact bodyPost_ret (v := .tuple #[spV 0 0, .int .i64 2]) (by simp [results, Tryd.results15, go_sem, c0, c1]) rfl ⟨rfl, set2 (old1 b1) (Nat.le_refl _) _ _⟩
theorem hull_cell {w : World} {b p i : Nat} {z u v : Value} {o q r : Obj} (h : w.cell? ⟨b, i, none⟩ = some z) (hb : b ≠ p) : (((((w.alloc o).alloc q).setCell ⟨p, 0, none⟩ u).alloc r).setCell ⟨p, 1, none⟩ v).cell? ⟨b, i, none⟩ = some z := by
  have n : ∀ j k : Nat, (⟨b, j, none⟩ : Addr) ≠ ⟨p, k, none⟩ := fun j k e => hb (by cases e; rfl)
  have n' : ∀ j k : Nat, (⟨p, k, none⟩ : Addr) ≠ ⟨b, j, none⟩ := fun j k e => hb (by cases e; rfl)
  have e1 := cell_al (cell_al h o) q
  have e2 := (World.cell?_setCell_other ((w.alloc o).alloc q) ⟨p, 0, none⟩ ⟨b, i, none⟩ u (by first | exact n _ _ | exact n' _ _)).trans e1
  exact (World.cell?_setCell_other _ _ _ v (by first | exact n _ _ | exact n' _ _)).trans (cell_al e2 r)
theorem hull_mid {w : World} {p : Nat} {x y u : Value} (h : Bx w p x y) (o q r : Obj) : Bx ((((w.alloc o).alloc q).setCell ⟨p, 0, none⟩ u).alloc r) p u y := by
  obtain ⟨h1, h2, h3, h4, h5⟩ := (h.alloc o).alloc q
  have e1 : (((w.alloc o).alloc q).setCell ⟨p, 0, none⟩ u).cell? ⟨p, 0, none⟩ = some u := World.cell?_setCell_same _ _ u h1
  have e2 : (((w.alloc o).alloc q).setCell ⟨p, 0, none⟩ u).cell? ⟨p, 1, none⟩ = some y := (World.cell?_setCell_other _ _ _ u (by simp)).trans h2
  have s1 : (((w.alloc o).alloc q).setCell ⟨p, 0, none⟩ u).heap.size = ((w.alloc o).alloc q).heap.size := by simp [go_sem]
  have f1 : (((w.alloc o).alloc q).setCell ⟨p, 0, none⟩ u).frozen? ⟨p, 0, none⟩ = false := by simp [go_sem] at h3 ⊢; exact h3
  have f2 : (((w.alloc o).alloc q).setCell ⟨p, 0, none⟩ u).frozen? ⟨p, 1, none⟩ = false := by simp [go_sem] at h4 ⊢; exact h4
  have B1 : Bx (((w.alloc o).alloc q).setCell ⟨p, 0, none⟩ u) p u y := ⟨e1, e2, f1, f2, by rw [s1]; exact h5⟩
  exact B1.alloc r
theorem hull_box {w : World} {p : Nat} {x y u v : Value} {o q r : Obj} (h : Bx w p x y) : Bx (((((w.alloc o).alloc q).setCell ⟨p, 0, none⟩ u).alloc r).setCell ⟨p, 1, none⟩ v) p u v := by
  obtain ⟨g1, g2, g3, g4, g5⟩ := hull_mid (u := u) h o q r
  refine ⟨(World.cell?_setCell_other _ _ _ v (by simp)).trans g1, World.cell?_setCell_same _ _ v g2, ?_, ?_, ?_⟩
  · simp [go_sem] at g3 ⊢; exact g3
  · simp [go_sem] at g4 ⊢; exact g4
  · simp [go_sem] at g5 ⊢; exact g5
theorem hull_else {w : World} {b p : Nat} {x y u v : Value} {o q r : Obj} (h : Bx w b x y) (hb : b ≠ p) : Bx (((((w.alloc o).alloc q).setCell ⟨p, 0, none⟩ u).alloc r).setCell ⟨p, 1, none⟩ v) b x y := by
  obtain ⟨h1, h2, h3, h4, h5⟩ := (h.alloc o).alloc q
  have s1 : (((w.alloc o).alloc q).setCell ⟨p, 0, none⟩ u).heap.size = ((w.alloc o).alloc q).heap.size := by simp [go_sem]
  have n : ∀ j k : Nat, (⟨b, j, none⟩ : Addr) ≠ ⟨p, k, none⟩ := fun j k e => hb (by cases e; rfl)
  have n' : ∀ j k : Nat, (⟨p, k, none⟩ : Addr) ≠ ⟨b, j, none⟩ := fun j k e => hb (by cases e; rfl)
  have B1 : Bx (((w.alloc o).alloc q).setCell ⟨p, 0, none⟩ u) b x y := ⟨(World.cell?_setCell_other _ _ _ u (by first | exact n _ _ | exact n' _ _)).trans h1, (World.cell?_setCell_other _ _ _ u (by first | exact n _ _ | exact n' _ _)).trans h2, by simp [go_sem, h3], by simp [go_sem, h4], by rw [s1]; exact h5⟩
  obtain ⟨g1, g2, g3, g4, g5⟩ := B1.alloc r
  refine ⟨(World.cell?_setCell_other _ _ _ v (by first | exact n _ _ | exact n' _ _)).trans g1, (World.cell?_setCell_other _ _ _ v (by first | exact n _ _ | exact n' _ _)).trans g2, ?_, ?_, ?_⟩
  · simp [go_sem] at g3 ⊢; exact g3
  · simp [go_sem] at g4 ⊢; exact g4
  · simp [go_sem] at g5 ⊢; exact g5
theorem hull_below {w v : World} {p : Nat} {x y : Value} {o q r : Obj} (h : Below w.heap.size w v) (hp : w.heap.size ≤ p) : Below w.heap.size w (((((v.alloc o).alloc q).setCell ⟨p, 0, none⟩ x).alloc r).setCell ⟨p, 1, none⟩ y) := by
  have h2 := (h.alloc h.size o).alloc (by have := h.size; simp; omega) q
  have h3 := h2.setCell (show w.heap.size ≤ (⟨p, 0, none⟩ : Addr).block from hp) x
  exact (h3.alloc h3.size r).setCell (show w.heap.size ≤ (⟨p, 1, none⟩ : Addr).block from hp) y
set_option maxRecDepth 100000 in
set_option maxHeartbeats 4000000 in
theorem shull_yes (a b c d l g B : Nat) (el : Hid (l = lsF a c)) (eg : Hid (g = grF b d)) (ha : a < 18446744073709551616) (hb : b < 18446744073709551616) (hc : c < 18446744073709551616) (hd : d < 18446744073709551616) (hr : (sRt a b && sRt c d) = true) (w : World) (h0 : w.cell? ⟨B, 0, none⟩ = some (.float .f64 a)) (h1 : w.cell? ⟨B, 1, none⟩ = some (.float .f64 b)) (h2 : w.cell? ⟨B, 2, none⟩ = some (.float .f64 c)) (h3 : w.cell? ⟨B, 3, none⟩ = some (.float .f64 d)) (hB : B < w.heap.size) :
    Calls Tryd.prog 15 #[.slice (some ⟨B, 0, none⟩) 2 2] w fun e w' => e = .returned (.tuple #[spV l g, .int .i64 0]) ∧ Below w.heap.size w w' := by
  have hst := run_storef Tryd.prog
  have cl := fun B w h => sleast_one a c B ha hc w h
  have cg := fun B w h => sgreatest_one b d B hb hd w h
  rw [← eg.out] at cg
  rw [← el.out] at cl
  clear eg el
  go_enter Tryd.func15, Tryd.ntmps15
  go_upto_region 3 with (go_at_call 26; refine (sall_two a b c d B _ (cell_al h0 _) (cell_al h1 _) (cell_al h2 _) (cell_al h3 _) (by simp; omega)).mono ?_; rw [hr]; rintro e v1 ⟨rfl, b1⟩)
  have R1 := (Bx.new w (.float .f64 0) (.float .f64 0) 24).below b1
  have Z1 := old1 b1
  have q0 := ((oldc Z1).1 B 0 hB).trans h0
  have q1 := ((oldc Z1).1 B 1 hB).trans h1
  have q2 := ((oldc Z1).1 B 2 hB).trans h2
  have q3 := ((oldc Z1).1 B 3 hB).trans h3
  have hBv : B < v1.heap.size := Nat.lt_of_lt_of_le hB Z1.size
  clear b1 h0 h1 h2 h3
  go_wp2
  go_loopg [6, 22] 1 (fun G _ v wr => ∃ k : Nat, k ≤ 1 ∧ G = 1 - k ∧ v = .int .i64 k ∧ Below w.heap.size w wr ∧ Bx wr w.heap.size (.float .f64 0) (.float .f64 0) ∧ Bx wr v1.heap.size (.float .f64 (if k = 0 then a else l)) (.float .f64 (if k = 0 then b else g)) ∧ wr.cell? ⟨B, 2, none⟩ = some (.float .f64 c) ∧ wr.cell? ⟨B, 3, none⟩ = some (.float .f64 d) ∧ B < wr.heap.size)
  case atStart => exact ⟨0, by omega, rfl, rfl, Z1.alloc Z1.size _, R1.alloc _, Bx.new v1 _ _ _, cell_al q2 _, cell_al q3 _, by simp; omega⟩
  case round =>
    obtain ⟨k, hk, hg, rfl, Zr, Rr, Hr, e2, e3, hBr⟩ := hrel
    have HG : Hid (gk = 1 - k) := hg
    clear hg q0 q1 q2 q3
    rcases (show k = 0 ∨ k = 1 by omega) with rfl | rfl
    · simp only [if_true] at Hr
      have np : w.heap.size ≠ v1.heap.size := by have := R1.2.2.2.2; omega
      have nB : B ≠ v1.heap.size := by omega
      have hp : w.heap.size ≤ v1.heap.size := Z1.size
      generalize v1.heap.size = p at *
      have x0 : ∀ o q, ((wr.alloc o).alloc q).cell? ⟨p, 0, none⟩ = some (.float .f64 a) := fun o q => ((Hr.alloc o).alloc q).1
      have x1 : ∀ o q, ((wr.alloc o).alloc q).cell? ⟨p, 1, none⟩ = some (.float .f64 b) := fun o q => ((Hr.alloc o).alloc q).2.1
      have x2 : ∀ o q, ((wr.alloc o).alloc q).frozen? ⟨p, 0, none⟩ = false := fun o q => ((Hr.alloc o).alloc q).2.2.1
      have x3 : ∀ o q, ((wr.alloc o).alloc q).frozen? ⟨p, 1, none⟩ = false := fun o q => ((Hr.alloc o).alloc q).2.2.2.1
      have x4 : ∀ o, (wr.alloc o).cell? ⟨p, 0, none⟩ = some (.float .f64 a) := fun o => (Hr.alloc o).1
      have x5 : ∀ o, (wr.alloc o).cell? ⟨p, 1, none⟩ = some (.float .f64 b) := fun o => (Hr.alloc o).2.1
      have x6 : ∀ o q r, ((((wr.alloc o).alloc q).setCell ⟨p, 0, none⟩ (.float .f64 l)).alloc r).cell? ⟨p, 1, none⟩ = some (.float .f64 b) := fun o q r => (hull_mid Hr o q r).2.1
      have x7 : ∀ o q r, ((((wr.alloc o).alloc q).setCell ⟨p, 0, none⟩ (.float .f64 l)).alloc r).frozen? ⟨p, 1, none⟩ = false := fun o q r => (hull_mid Hr o q r).2.2.2.1
      have l5 := Hr.2.2.2.2
      have m1 : ¬ p = wr.heap.size := by omega
      have m2 : ¬ p = wr.heap.size + 1 := by omega
      have m3 : ¬ p = wr.heap.size + 1 + 1 := by omega
      have m4 : ¬ p = wr.heap.size + 2 := by omega
      have m5 : ¬ wr.heap.size = p := by omega
      clear l5
      go_wp2_with (first
        | (go_at_call 28; refine (cl _ _ (by go_simp)).mono ?_; rintro e w' ⟨rfl, rfl⟩)
        | (go_at_call 27; refine (cg _ _ (by go_simp)).mono ?_; rintro e w' ⟨rfl, rfl⟩))
      go_roundg 0
      case measure => rw [HG.out]; omega
      case rel => exact ⟨1, by omega, rfl, rfl, hull_below Zr hp, hull_else Rr np, hull_box Hr, hull_cell e2 nB, hull_cell e3 nB, by simp [go_sem]; omega⟩
    · simp only [Nat.one_ne_zero, if_false] at Hr
      obtain ⟨c0, c1, f0, f1, _⟩ := Rr
      obtain ⟨d0, d1, _⟩ := Hr
      go_wp2
      exact bodyPost_ret (v := .tuple #[spV l g, .int .i64 0]) (by simp [results, Tryd.results15, go_sem, c0, c1]) rfl ⟨rfl, set2 Zr (Nat.le_refl _) _ _⟩
end Go.Proofs.YtmmfhhfnbggjmaaDoor
