/- What span's Of, the document's finite, Right, Make, Of, and the law's told answer. -/
import Derived.Test.YtfipmopmpacdaaaGreatDoorZi
import Derived.Deep.DeepCutAuto
import Derived.Deep.LoopGhost
import Derived.Deep.RegionHeld3
import Derived.BigQuiet
import Derived.Deep.QuietTactic
import Derived.Test.YtfipmopmpacdaaaGreatDoorZg
namespace Go.Proofs.YtfipmopmpacdaaaGreatDoor
open Go.RowKit
def leF (a b : Nat) : Bool := FloatKind.f64.format.order a b == some .lt || FloatKind.f64.format.order a b == some .eq
def geF (a b : Nat) : Bool := FloatKind.f64.format.order a b == some .gt || FloatKind.f64.format.order a b == some .eq
def sRt (l h : Nat) : Bool := leF l h && leF l 9218868437227405311 && geF h 18442240474082181119
abbrev spV (l h : Nat) : Value := .agg #[.float .f64 l, .float .f64 h]
theorem ep_bool {a b : Bool} (h : a = b) : Ending.returned (.bool a) = .returned (.bool b) := by subst h; rfl
set_option maxHeartbeats 400000 in
theorem sfin_any (a : Nat) (ha : a < 18446744073709551616) (w : World) :
  Calls Tryz.prog 70 #[.float .f64 a] w fun e w' => e = .returned (.bool (finB a)) ∧ w' = w := by
 go_enter Tryz.func70, Tryz.ntmps70
 go_wp2_with (go_at_call 83; refine (abs_any _ (by assumption) _).mono ?_; rintro e w' ⟨rfl, rfl⟩)
 go_ret
 exact ⟨end_bool (fin_le a), rfl⟩
set_option maxHeartbeats 400000 in
theorem sright_any (l h : Nat) (w : World) :
    Calls Tryz.prog 81 #[spV l h] w fun e w' => e = .returned (.bool (sRt l h)) ∧ Below w.heap.size w w' := by
  have HE : Hid (sRt l h = (leF l h && leF l 9218868437227405311 && geF h 18442240474082181119)) := rfl
  have hend : ∀ o1, Below w.heap.size w (w.alloc o1) := fun o1 => (Below.refl _ _).alloc (Nat.le_refl _) o1
  have e1 : (FloatKind.f64.format.order l h == some .lt || FloatKind.f64.format.order l h == some .eq) = leF l h := rfl
  have e2 : (FloatKind.f64.format.order l 9218868437227405311 == some .lt || FloatKind.f64.format.order l 9218868437227405311 == some .eq) = leF l 9218868437227405311 := rfl
  have e3 : (FloatKind.f64.format.order h 18442240474082181119 == some .gt || FloatKind.f64.format.order h 18442240474082181119 == some .eq) = geF h 18442240474082181119 := rfl
  cases c1 : leF l h <;> cases c2 : leF l 9218868437227405311 <;> cases c3 : geF h 18442240474082181119 <;> rw [c1] at e1 <;> rw [c2] at e2 <;> rw [c3] at e3 <;>
    (go_enter Tryz.func81, Tryz.ntmps81
     go_wp2
     go_ret
     exact ⟨ep_bool (by rw [HE.out, c1, c2, c3]; rfl), hend _⟩)
def Bx (w : World) (b : Nat) (x y : Value) : Prop := w.cell? ⟨b, 0, none⟩ = some x ∧ w.cell? ⟨b, 1, none⟩ = some y ∧ w.frozen? ⟨b, 0, none⟩ = false ∧ w.frozen? ⟨b, 1, none⟩ = false ∧ b < w.heap.size
theorem Bx.below {w w1 : World} {b : Nat} {x y : Value} (h : Bx w b x y) (hb : Below w.heap.size w w1) : Bx w1 b x y := by
 obtain ⟨h1, h2, h3, h4, h5⟩ := h
 obtain ⟨hc, hf⟩ := oldc hb
 exact ⟨by rw [hc _ _ h5]; exact h1, by rw [hc _ _ h5]; exact h2, by rw [hf _ _ h5]; exact h3, by rw [hf _ _ h5]; exact h4, Nat.lt_of_lt_of_le h5 hb.size⟩
theorem Bx.alloc {w : World} {b : Nat} {x y : Value} (h : Bx w b x y) (o : Obj) : Bx (w.alloc o) b x y := h.below ((Below.refl _ _).alloc (Nat.le_refl _) o)
theorem Bx.drew {w : World} {b : Nat} {x y : Value} (h : Bx w b x y) : Bx w.drew b x y := h
theorem Bx.new (w : World) (x y : Value) (t : TypeId) : Bx (w.alloc (.cells #[x, y] t)) w.heap.size x y := by
 refine ⟨?_, ?_, ?_, ?_, ?_⟩ <;> go_simp
theorem Bx.new1 (w : World) (x y : Value) (o : Obj) (t : TypeId) : Bx ((w.alloc o).alloc (.cells #[x, y] t)) (w.heap.size + 1) x y := by
 have h := Bx.new (w.alloc o) x y t
 have e : (w.alloc o).heap.size = w.heap.size + 1 := by go_simp
 rw [e] at h
 exact h
theorem Bx.new2 (w : World) (x y : Value) (o p : Obj) (t : TypeId) : Bx (((w.alloc o).alloc p).alloc (.cells #[x, y] t)) (w.heap.size + 1 + 1) x y := by
 have h := Bx.new1 (w.alloc o) x y p t
 have e : (w.alloc o).heap.size = w.heap.size + 1 := by go_simp
 rw [e] at h
 exact h
theorem Bx.put {w : World} {b : Nat} {x y : Value} (h : Bx w b x y) (u v : Value) : Bx ((w.setCell ⟨b, 0, none⟩ u).setCell ⟨b, 1, none⟩ v) b u v := by
 obtain ⟨h1, h2, h3, h4, h5⟩ := h
 have e1 : (w.setCell ⟨b, 0, none⟩ u).cell? ⟨b, 0, none⟩ = some u := World.cell?_setCell_same w _ u h1
 have e2 : (w.setCell ⟨b, 0, none⟩ u).cell? ⟨b, 1, none⟩ = some y := (World.cell?_setCell_other w _ _ u (by simp)).trans h2
 refine ⟨(World.cell?_setCell_other _ _ _ v (by simp)).trans e1, World.cell?_setCell_same _ _ v e2, ?_, ?_, ?_⟩
 ·simp [go_sem, h3]
 ·simp [go_sem, h4]
 ·simp [go_sem]; exact h5
theorem Bx.other {w : World} {b c : Nat} {x y : Value} (h : Bx w b x y) (hc : b ≠ c) (u v : Value) : Bx ((w.setCell ⟨c, 0, none⟩ u).setCell ⟨c, 1, none⟩ v) b x y := by
 obtain ⟨h1, h2, h3, h4, h5⟩ := h
 have n : ∀ o p, (⟨b, o, none⟩ : Addr) ≠ ⟨c, p, none⟩ := fun o p e => hc (by cases e; rfl)
 have n' : ∀ o p, (⟨c, p, none⟩ : Addr) ≠ ⟨b, o, none⟩ := fun o p e => hc (by cases e; rfl)
 refine ⟨?_, ?_, ?_, ?_, ?_⟩
 ·exact (World.cell?_setCell_other _ _ _ v (by first | exact n _ _ | exact n' _ _)).trans ((World.cell?_setCell_other _ _ _ u (by first | exact n _ _ | exact n' _ _)).trans h1)
 ·exact (World.cell?_setCell_other _ _ _ v (by first | exact n _ _ | exact n' _ _)).trans ((World.cell?_setCell_other _ _ _ u (by first | exact n _ _ | exact n' _ _)).trans h2)
 ·simp [go_sem, h3]
 ·simp [go_sem, h4]
 ·simp [go_sem]; exact h5
theorem old1 {w w1 : World} {o : Obj} (hb : Below (w.alloc o).heap.size (w.alloc o) w1) : Below w.heap.size w w1 :=
 ((Below.refl _ _).alloc (Nat.le_refl _) o).trans (hb.mono (by go_simp))
theorem old2 {w w1 : World} {o p : Obj} (hb : Below ((w.alloc o).alloc p).heap.size ((w.alloc o).alloc p) w1) : Below w.heap.size w w1 := old1 (old1 hb)
theorem old3 {w w1 : World} {o p q : Obj} (hb : Below (((w.alloc o).alloc p).alloc q).heap.size (((w.alloc o).alloc p).alloc q) w1) : Below w.heap.size w w1 := old1 (old2 hb)
theorem set2 {w w1 : World} {b : Nat} (hb : Below w.heap.size w w1) (h : w.heap.size ≤ b) (x y : Value) : Below w.heap.size w ((w1.setCell ⟨b, 0, none⟩ x).setCell ⟨b, 1, none⟩ y) := (hb.setCell h _).setCell h _
theorem run_storef (P : Program) (a : Addr) (k : FloatKind) (b : Nat) (m : Mode) (w : World) : (store a (.float k b) m).run P w = stored P w a (.float k b) m := run_store P w a _ m rfl
set_option maxHeartbeats 800000 in
theorem shas_any (l h x : Nat) (hx : x < 18446744073709551616) (w : World) :
    Calls Tryz.prog 76 #[spV l h, .float .f64 x] w fun e w' => e = .returned (.bool (sRt l h && finB x && leF l x && leF x h)) ∧ Below w.heap.size w w' := by
  have hb := fun w => sright_any l h w
  have cf := sfin_any x hx
  have e1 : (FloatKind.f64.format.order l x == some .lt || FloatKind.f64.format.order l x == some .eq) = leF l x := rfl
  have e2 : (FloatKind.f64.format.order x h == some .lt || FloatKind.f64.format.order x h == some .eq) = leF x h := rfl
  cases c1 : sRt l h <;> rw [c1] at hb
  · go_enter Tryz.func76, Tryz.ntmps76
    go_wp2_with (first
      | (go_at_call 81; refine (hb _).mono ?_; rintro e w1 ⟨rfl, b1⟩; obtain ⟨c0, c1, f0, f1, _⟩ := (Bx.new _ _ _ _).below b1)
      | (go_at_call 70; refine (cf _).mono ?_; rintro e w' ⟨rfl, rfl⟩))
    go_ret
    exact ⟨rfl, old1 b1⟩
  · cases c2 : finB x <;> rw [c2] at cf <;> cases c3 : leF l x <;> rw [c3] at e1 <;> cases c4 : leF x h <;> rw [c4] at e2 <;>
      (go_enter Tryz.func76, Tryz.ntmps76
       go_wp2_with (first
         | (go_at_call 81; refine (hb _).mono ?_; rintro e w1 ⟨rfl, b1⟩; obtain ⟨c0, c1, f0, f1, _⟩ := (Bx.new _ _ _ _).below b1)
         | (go_at_call 70; refine (cf _).mono ?_; rintro e w' ⟨rfl, rfl⟩))
       go_ret
       exact ⟨rfl, old1 b1⟩)
set_option maxHeartbeats 2000000 in
theorem sall_two (a b c d B : Nat) (w : World) (h0 : w.cell? ⟨B, 0, none⟩ = some (.float .f64 a)) (h1 : w.cell? ⟨B, 1, none⟩ = some (.float .f64 b)) (h2 : w.cell? ⟨B, 2, none⟩ = some (.float .f64 c)) (h3 : w.cell? ⟨B, 3, none⟩ = some (.float .f64 d)) (hB : B < w.heap.size) :
    Calls Tryz.prog 71 #[.slice (some ⟨B, 0, none⟩) 2 2] w fun e w' => e = .returned (.bool (sRt a b && sRt c d)) ∧ Below w.heap.size w w' := by
  have r1 := fun w => sright_any a b w
  have r2 := fun w => sright_any c d w
  have hst := run_storef Tryz.prog
  cases q1 : sRt a b <;> rw [q1] at r1
  · go_enter Tryz.func71, Tryz.ntmps71
    go_wp2
    go_loopg [4, 7] 2 (fun g _ c wr => g = 2 ∧ c = .int .i64 0 ∧ wr = w)
    case atStart => exact ⟨rfl, rfl, rfl⟩
    case round =>
      obtain ⟨_, rfl, rfl⟩ := hrel
      go_wp2_with (go_at_call 81; refine (r1 _).mono ?_; rintro e w1 ⟨rfl, b1⟩)
      go_ret
      exact ⟨rfl, old1 b1⟩
  · cases q2 : sRt c d <;> rw [q2] at r2
    all_goals
      go_enter Tryz.func71, Tryz.ntmps71
      go_wp2
      go_loopg [4, 7] 2 (fun g _ v wr => ∃ k : Nat, k ≤ 2 ∧ g = 2 - k ∧ v = .int .i64 k ∧ (k = 2 → sRt c d = true) ∧ Below w.heap.size w wr)
      case atStart => exact ⟨0, by omega, rfl, rfl, fun h => by omega, Below.refl _ _⟩
      case round =>
        obtain ⟨k, hk, hg, rfl, hq, hbr⟩ := hrel
        obtain ⟨hc, _⟩ := oldc hbr
        have g0 := (hc _ 0 hB).trans h0
        have g1 := (hc _ 1 hB).trans h1
        have g2 := (hc _ 2 hB).trans h2
        have g3 := (hc _ 3 hB).trans h3
        have HG : Hid (gk = 2 - k) := hg
        clear hg hc
        rcases (show k = 0 ∨ k = 1 ∨ k = 2 by omega) with rfl | rfl | rfl
        · go_wp2_with (go_at_call 81; refine (r1 _).mono ?_; rintro e w1 ⟨rfl, b1⟩)
          go_roundg 1
          case measure => rw [HG.out]; omega
          case rel => exact ⟨1, by omega, rfl, rfl, fun h => by omega, hbr.trans ((old1 b1).mono hbr.size)⟩
        · go_wp2_with (go_at_call 81; refine (r2 _).mono ?_; rintro e w1 ⟨rfl, b1⟩)
          first
          | (go_ret
             exact ⟨rfl, hbr.trans ((old1 b1).mono hbr.size)⟩)
          | (go_roundg 0
             case measure => rw [HG.out]; omega
             case rel => exact ⟨2, by omega, rfl, rfl, fun _ => q2, hbr.trans ((old1 b1).mono hbr.size)⟩)
        · have hq2 := hq rfl
          first
          | (rw [q2] at hq2; cases hq2; done)
          | (go_wp2
             go_ret
             exact ⟨rfl, hbr⟩)
def lsF (a b : Nat) : Nat := if ordF b a < 0 then b else a
def grF (a b : Nat) : Nat := if 0 < ordF b a then b else a
theorem lsF_lt {a b : Nat} (ha : a < 18446744073709551616) (hb : b < 18446744073709551616) : lsF a b < 18446744073709551616 := by unfold lsF; split <;> assumption
theorem grF_lt {a b : Nat} (ha : a < 18446744073709551616) (hb : b < 18446744073709551616) : grF a b < 18446744073709551616 := by unfold grF; split <;> assumption
set_option maxHeartbeats 2000000 in
theorem sleast_walk (x y0 y1 y2 u1 u2 u3 B : Nat) (E1 : Hid (u1 = lsF x y0)) (E2 : Hid (u2 = lsF u1 y1)) (E3 : Hid (u3 = lsF u2 y2)) (hx : x < 18446744073709551616) (l0 : u1 < 18446744073709551616) (l1 : u2 < 18446744073709551616) (k0 : y0 < 18446744073709551616) (k1 : y1 < 18446744073709551616) (k2 : y2 < 18446744073709551616) (w : World) (h0 : w.cell? ⟨B, 0, none⟩ = some (.float .f64 y0)) (h1 : w.cell? ⟨B, 1, none⟩ = some (.float .f64 y1)) (h2 : w.cell? ⟨B, 2, none⟩ = some (.float .f64 y2)) :
  Calls Tryz.prog 101 #[.float .f64 x, .slice (some ⟨B, 0, none⟩) 3 3] w fun e w' => e = .returned (.float .f64 u3) ∧ w' = w := by
 go_enter Tryz.func101, Tryz.ntmps101
 go_wp2
 go_loopg [0, 6, 9] 3 (fun g u _ v wr => ∃ k : Nat, k ≤ 3 ∧ g = 3 - k ∧ v = .int .i64 k ∧ wr = w ∧ u = .float .f64 (if k = 0 then x else if k = 1 then u1 else if k = 2 then u2 else u3))
 case atStart => exact ⟨0, by omega, rfl, rfl, rfl, rfl⟩
 case round =>
  obtain ⟨k, hk, hg, rfl, rfl, rfl⟩ := hrel
  have HG : Hid (gk = 3 - k) := hg
  clear hg
  rcases (show k = 0 ∨ k = 1 ∨ k = 2 ∨ k = 3 by omega) with rfl | rfl | rfl | rfl
  ·skip
   have co := order_any y0 x k0 hx
   by_cases q : ordF y0 x < 0
   ·have hv : u1 = y0 := by rw [E1.out]; unfold lsF; rw [if_pos q]
    go_wp2_with (go_at_call 110; refine (co _).mono ?_; rintro e w' ⟨rfl, rfl⟩)
    go_roundg 2
    case measure => rw [HG.out]; omega
    case rel => exact ⟨1, by omega, rfl, rfl, rfl, by rw [← hv]; rfl⟩
   ·have hv : u1 = x := by rw [E1.out]; unfold lsF; rw [if_neg q]
    go_wp2_with (go_at_call 110; refine (co _).mono ?_; rintro e w' ⟨rfl, rfl⟩)
    go_roundg 2
    case measure => rw [HG.out]; omega
    case rel => exact ⟨1, by omega, rfl, rfl, rfl, by rw [← hv]; rfl⟩
  ·skip
   have co := order_any y1 u1 k1 l0
   by_cases q : ordF y1 u1 < 0
   ·have hv : u2 = y1 := by rw [E2.out]; unfold lsF; rw [if_pos q]
    go_wp2_with (go_at_call 110; refine (co _).mono ?_; rintro e w' ⟨rfl, rfl⟩)
    go_roundg 1
    case measure => rw [HG.out]; omega
    case rel => exact ⟨2, by omega, rfl, rfl, rfl, by rw [← hv]; rfl⟩
   ·have hv : u2 = u1 := by rw [E2.out]; unfold lsF; rw [if_neg q]
    go_wp2_with (go_at_call 110; refine (co _).mono ?_; rintro e w' ⟨rfl, rfl⟩)
    go_roundg 1
    case measure => rw [HG.out]; omega
    case rel => exact ⟨2, by omega, rfl, rfl, rfl, by rw [← hv]; rfl⟩
  ·skip
   have co := order_any y2 u2 k2 l1
   by_cases q : ordF y2 u2 < 0
   ·have hv : u3 = y2 := by rw [E3.out]; unfold lsF; rw [if_pos q]
    go_wp2_with (go_at_call 110; refine (co _).mono ?_; rintro e w' ⟨rfl, rfl⟩)
    go_roundg 0
    case measure => rw [HG.out]; omega
    case rel => exact ⟨3, by omega, rfl, rfl, rfl, by rw [← hv]; rfl⟩
   ·have hv : u3 = u2 := by rw [E3.out]; unfold lsF; rw [if_neg q]
    go_wp2_with (go_at_call 110; refine (co _).mono ?_; rintro e w' ⟨rfl, rfl⟩)
    go_roundg 0
    case measure => rw [HG.out]; omega
    case rel => exact ⟨3, by omega, rfl, rfl, rfl, by rw [← hv]; rfl⟩
  ·go_wp2
   go_ret
   exact ⟨rfl, rfl⟩
theorem sleast_four (x y0 y1 y2 B : Nat) (hx : x < 18446744073709551616) (k0 : y0 < 18446744073709551616) (k1 : y1 < 18446744073709551616) (k2 : y2 < 18446744073709551616) (w : World) (h0 : w.cell? ⟨B, 0, none⟩ = some (.float .f64 y0)) (h1 : w.cell? ⟨B, 1, none⟩ = some (.float .f64 y1)) (h2 : w.cell? ⟨B, 2, none⟩ = some (.float .f64 y2)) :
  Calls Tryz.prog 101 #[.float .f64 x, .slice (some ⟨B, 0, none⟩) 3 3] w fun e w' => e = .returned (.float .f64 (lsF (lsF (lsF x y0) y1) y2)) ∧ w' = w :=
 sleast_walk x y0 y1 y2 _ _ _ B rfl rfl rfl hx (lsF_lt hx k0) (lsF_lt (lsF_lt hx k0) k1) k0 k1 k2 w h0 h1 h2
set_option maxHeartbeats 2000000 in
theorem sgreatest_walk (x y0 y1 y2 u1 u2 u3 B : Nat) (E1 : Hid (u1 = grF x y0)) (E2 : Hid (u2 = grF u1 y1)) (E3 : Hid (u3 = grF u2 y2)) (hx : x < 18446744073709551616) (l0 : u1 < 18446744073709551616) (l1 : u2 < 18446744073709551616) (k0 : y0 < 18446744073709551616) (k1 : y1 < 18446744073709551616) (k2 : y2 < 18446744073709551616) (w : World) (h0 : w.cell? ⟨B, 0, none⟩ = some (.float .f64 y0)) (h1 : w.cell? ⟨B, 1, none⟩ = some (.float .f64 y1)) (h2 : w.cell? ⟨B, 2, none⟩ = some (.float .f64 y2)) :
  Calls Tryz.prog 102 #[.float .f64 x, .slice (some ⟨B, 0, none⟩) 3 3] w fun e w' => e = .returned (.float .f64 u3) ∧ w' = w := by
 go_enter Tryz.func102, Tryz.ntmps102
 go_wp2
 go_loopg [0, 6, 9] 3 (fun g u _ v wr => ∃ k : Nat, k ≤ 3 ∧ g = 3 - k ∧ v = .int .i64 k ∧ wr = w ∧ u = .float .f64 (if k = 0 then x else if k = 1 then u1 else if k = 2 then u2 else u3))
 case atStart => exact ⟨0, by omega, rfl, rfl, rfl, rfl⟩
 case round =>
  obtain ⟨k, hk, hg, rfl, rfl, rfl⟩ := hrel
  have HG : Hid (gk = 3 - k) := hg
  clear hg
  rcases (show k = 0 ∨ k = 1 ∨ k = 2 ∨ k = 3 by omega) with rfl | rfl | rfl | rfl
  ·skip
   have co := order_any y0 x k0 hx
   by_cases q : 0 < ordF y0 x
   ·have hv : u1 = y0 := by rw [E1.out]; unfold grF; rw [if_pos q]
    go_wp2_with (go_at_call 110; refine (co _).mono ?_; rintro e w' ⟨rfl, rfl⟩)
    go_roundg 2
    case measure => rw [HG.out]; omega
    case rel => exact ⟨1, by omega, rfl, rfl, rfl, by rw [← hv]; rfl⟩
   ·have hv : u1 = x := by rw [E1.out]; unfold grF; rw [if_neg q]
    go_wp2_with (go_at_call 110; refine (co _).mono ?_; rintro e w' ⟨rfl, rfl⟩)
    go_roundg 2
    case measure => rw [HG.out]; omega
    case rel => exact ⟨1, by omega, rfl, rfl, rfl, by rw [← hv]; rfl⟩
  ·skip
   have co := order_any y1 u1 k1 l0
   by_cases q : 0 < ordF y1 u1
   ·have hv : u2 = y1 := by rw [E2.out]; unfold grF; rw [if_pos q]
    go_wp2_with (go_at_call 110; refine (co _).mono ?_; rintro e w' ⟨rfl, rfl⟩)
    go_roundg 1
    case measure => rw [HG.out]; omega
    case rel => exact ⟨2, by omega, rfl, rfl, rfl, by rw [← hv]; rfl⟩
   ·have hv : u2 = u1 := by rw [E2.out]; unfold grF; rw [if_neg q]
    go_wp2_with (go_at_call 110; refine (co _).mono ?_; rintro e w' ⟨rfl, rfl⟩)
    go_roundg 1
    case measure => rw [HG.out]; omega
    case rel => exact ⟨2, by omega, rfl, rfl, rfl, by rw [← hv]; rfl⟩
  ·skip
   have co := order_any y2 u2 k2 l1
   by_cases q : 0 < ordF y2 u2
   ·have hv : u3 = y2 := by rw [E3.out]; unfold grF; rw [if_pos q]
    go_wp2_with (go_at_call 110; refine (co _).mono ?_; rintro e w' ⟨rfl, rfl⟩)
    go_roundg 0
    case measure => rw [HG.out]; omega
    case rel => exact ⟨3, by omega, rfl, rfl, rfl, by rw [← hv]; rfl⟩
   ·have hv : u3 = u2 := by rw [E3.out]; unfold grF; rw [if_neg q]
    go_wp2_with (go_at_call 110; refine (co _).mono ?_; rintro e w' ⟨rfl, rfl⟩)
    go_roundg 0
    case measure => rw [HG.out]; omega
    case rel => exact ⟨3, by omega, rfl, rfl, rfl, by rw [← hv]; rfl⟩
  ·go_wp2
   go_ret
   exact ⟨rfl, rfl⟩
theorem sgreatest_four (x y0 y1 y2 B : Nat) (hx : x < 18446744073709551616) (k0 : y0 < 18446744073709551616) (k1 : y1 < 18446744073709551616) (k2 : y2 < 18446744073709551616) (w : World) (h0 : w.cell? ⟨B, 0, none⟩ = some (.float .f64 y0)) (h1 : w.cell? ⟨B, 1, none⟩ = some (.float .f64 y1)) (h2 : w.cell? ⟨B, 2, none⟩ = some (.float .f64 y2)) :
  Calls Tryz.prog 102 #[.float .f64 x, .slice (some ⟨B, 0, none⟩) 3 3] w fun e w' => e = .returned (.float .f64 (grF (grF (grF x y0) y1) y2)) ∧ w' = w :=
 sgreatest_walk x y0 y1 y2 _ _ _ B rfl rfl rfl hx (grF_lt hx k0) (grF_lt (grF_lt hx k0) k1) k0 k1 k2 w h0 h1 h2
theorem cell_al {w : World} {a : Addr} {v : Value} (h : w.cell? a = some v) (o : Obj) : (w.alloc o).cell? a = some v := by
 rw [((Below.refl _ _).alloc (Nat.le_refl _) o).cell (World.block_lt_of_cell? w _ h)]; exact h
theorem Bx.new3 (w : World) (x y : Value) (o p q : Obj) (t : TypeId) : Bx ((((w.alloc o).alloc p).alloc q).alloc (.cells #[x, y] t)) (w.heap.size + 1 + 1 + 1) x y := by
 have h := Bx.new2 (w.alloc o) x y p q t
 have e : (w.alloc o).heap.size = w.heap.size + 1 := by go_simp
 rw [e] at h
 exact h
theorem old4 {w w1 : World} {o p q r : Obj} (hb : Below ((((w.alloc o).alloc p).alloc q).alloc r).heap.size ((((w.alloc o).alloc p).alloc q).alloc r) w1) : Below w.heap.size w w1 := old1 (old3 hb)
def lsC (R : Int → Nat → Nat → Nat) (a b c d : Nat) : Nat := lsF (lsF (lsF (R 1 a c) (R 1 a d)) (R 1 b c)) (R 1 b d)
def grC (R : Int → Nat → Nat → Nat) (a b c d : Nat) : Nat := grF (grF (grF (R 2 a c) (R 2 a d)) (R 2 b c)) (R 2 b d)
theorem leF_num {a b : Nat} (ha : a < 18446744073709551616) (hb : b < 18446744073709551616) (na : nanB a = false) (nb : nanB b = false) : leF a b = decide (place a ≤ place b) := by
 unfold leF
 rw [lt_num ha hb na nb, eq_num ha hb na nb, Bool.eq_iff_iff]; simp; omega
theorem geF_num {a b : Nat} (ha : a < 18446744073709551616) (hb : b < 18446744073709551616) (na : nanB a = false) (nb : nanB b = false) : geF a b = decide (place b ≤ place a) := by
 unfold geF
 rw [gt_num ha hb na nb, eq_num ha hb na nb, Bool.eq_iff_iff]; simp; omega
theorem leF_nan {a b : Nat} (ha : a < 18446744073709551616) (hb : b < 18446744073709551616) (h : nanB a = true ∨ nanB b = true) : leF a b = false := by
 unfold leF; rw [ord_nan ha hb h]; rfl
theorem sRt_doc {l h : Nat} (hl : l < 18446744073709551616) (hh : h < 18446744073709551616) (nl : nanB l = false) (nh : nanB h = false) :
  sRt l h = (!decide (place h < place l) && ((finB l || decide (place l < 0)) && (finB h || decide (0 < place h)))) := by
 unfold sRt
 rw [leF_num hl hh nl nh, leF_num hl (by omega) nl (by decide), geF_num hh (by omega) nh (by decide), show place 9218868437227405311 = 9218868437227405311 by decide, show place 18442240474082181119 = -9218868437227405311 by decide]
 have rl : rung l ≤ 9218868437227405312 := by unfold nanB at nl; simpa using nl
 have rh : rung h ≤ 9218868437227405312 := by unfold nanB at nh; simpa using nh
 unfold place finB
 rw [Bool.eq_iff_iff]
 cases sgn l <;> cases sgn h <;> simp <;> omega
theorem sRt_nan {l h : Nat} (hl : l < 18446744073709551616) (hh : h < 18446744073709551616) (hn : nanB l = true ∨ nanB h = true) : sRt l h = false := by
 unfold sRt; rw [leF_nan hl hh hn]; rfl
set_option maxHeartbeats 800000 in
theorem sof_any (x : Nat) (hx : x < 18446744073709551616) (w : World) :
  Calls Tryz.prog 54 #[.float .f64 x] w fun e w' => e = .returned (.tuple #[if finB x then spV x x else spV 0 0, .int .i64 (if finB x then 0 else 5)]) ∧ Below w.heap.size w w' := by
 have cf := sfin_any x hx
 have hst := run_storef Tryz.prog
 have ha1 : ∀ o, Below w.heap.size w (w.alloc o) := fun o => (Below.refl _ _).alloc (Nat.le_refl _) _
 cases hf : finB x <;> rw [hf] at cf
 ·go_enter Tryz.func54, Tryz.ntmps54
  go_wp2_with (go_at_call 70; refine (cf _).mono ?_; rintro e w' ⟨rfl, rfl⟩)
  exact bodyPost_ret (v := .tuple #[spV 0 0, .int .i64 5]) (by simp [results, Tryz.results54, go_sem]) rfl ⟨rfl, ha1 _⟩
 ·go_enter Tryz.func54, Tryz.ntmps54
  go_wp2_with (go_at_call 70; refine (cf _).mono ?_; rintro e w' ⟨rfl, rfl⟩)
  exact bodyPost_ret (v := .tuple #[spV x x, .int .i64 0]) (by simp [results, Tryz.results54, go_sem]) rfl ⟨rfl, ha1 _⟩
end Go.Proofs.YtfipmopmpacdaaaGreatDoor
