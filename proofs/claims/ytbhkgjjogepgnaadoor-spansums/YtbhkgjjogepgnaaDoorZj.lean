/- What span's Of, the document's finite, Right, Make, Of, and the law's told answer. -/
import Derived.Test.YtbhkgjjogepgnaaDoorSx
import Derived.Deep.DeepCutAuto
import Derived.Deep.LoopGhost
import Derived.Deep.RegionHeld3
import Derived.BigQuiet
import Derived.Deep.QuietTactic
import Derived.Test.YtbhkgjjogepgnaaDoorWj
namespace Go.Proofs.YtbhkgjjogepgnaaDoor
open Go.RowKit

def leF (a b : Nat) : Bool := FloatKind.f64.format.order a b == some .lt || FloatKind.f64.format.order a b == some .eq
def geF (a b : Nat) : Bool := FloatKind.f64.format.order a b == some .gt || FloatKind.f64.format.order a b == some .eq
/-- A right span. -/
def sRt (l h : Nat) : Bool := leF l h && leF l 9218868437227405311 && geF h 18442240474082181119
abbrev spV (l h : Nat) : Value := .agg #[.float .f64 l, .float .f64 h]
theorem ep_bool {a b : Bool} (h : a = b) : Ending.returned (.bool a) = .returned (.bool b) := by subst h; rfl
set_option maxHeartbeats 400000 in
theorem sfin_any (a : Nat) (ha : a < 18446744073709551616) (w : World) :
    Calls Tryd.prog 42 #[.float .f64 a] w fun e w' => e = .returned (.bool (finB a)) ∧ w' = w := by
  go_enter Tryd.func42, Tryd.ntmps42
  go_wp2_with (go_at_call 69; refine (abs_any _ (by assumption) _).mono ?_; rintro e w' ⟨rfl, rfl⟩)
  go_ret
  exact ⟨end_bool (fin_le a), rfl⟩
set_option maxHeartbeats 400000 in
theorem sright_any (l h : Nat) (w : World) :
    Calls Tryd.prog 14 #[spV l h] w fun e w' => e = .returned (.bool (sRt l h)) ∧ Below w.heap.size w w' := by
  have HE : Hid (sRt l h = (leF l h && leF l 9218868437227405311 && geF h 18442240474082181119)) := rfl
  have hend : ∀ o1, Below w.heap.size w (w.alloc o1) := fun o1 => (Below.refl _ _).alloc (Nat.le_refl _) o1
  have e1 : (FloatKind.f64.format.order l h == some .lt || FloatKind.f64.format.order l h == some .eq) = leF l h := rfl
  have e2 : (FloatKind.f64.format.order l 9218868437227405311 == some .lt || FloatKind.f64.format.order l 9218868437227405311 == some .eq) = leF l 9218868437227405311 := rfl
  have e3 : (FloatKind.f64.format.order h 18442240474082181119 == some .gt || FloatKind.f64.format.order h 18442240474082181119 == some .eq) = geF h 18442240474082181119 := rfl
  cases c1 : leF l h <;> cases c2 : leF l 9218868437227405311 <;> cases c3 : geF h 18442240474082181119 <;> rw [c1] at e1 <;> rw [c2] at e2 <;> rw [c3] at e3 <;>
    (go_enter Tryd.func14, Tryd.ntmps14
     go_wp2
     go_ret
     exact ⟨ep_bool (by rw [HE.out, c1, c2, c3]; rfl), hend _⟩)
/-- A box of two cells that may be written. -/
def Bx (w : World) (b : Nat) (x y : Value) : Prop := w.cell? ⟨b, 0, none⟩ = some x ∧ w.cell? ⟨b, 1, none⟩ = some y ∧ w.frozen? ⟨b, 0, none⟩ = false ∧ w.frozen? ⟨b, 1, none⟩ = false ∧ b < w.heap.size
theorem Bx.below {w w1 : World} {b : Nat} {x y : Value} (h : Bx w b x y) (hb : Below w.heap.size w w1) : Bx w1 b x y := by
  obtain ⟨h1, h2, h3, h4, h5⟩ := h
  obtain ⟨hc, hf⟩ := oldc hb
  exact ⟨by rw [hc _ _ h5]; exact h1, by rw [hc _ _ h5]; exact h2, by rw [hf _ _ h5]; exact h3, by rw [hf _ _ h5]; exact h4, Nat.lt_of_lt_of_le h5 hb.size⟩
theorem Bx.alloc {w : World} {b : Nat} {x y : Value} (h : Bx w b x y) (o : Obj) : Bx (w.alloc o) b x y := h.below ((Below.refl _ _).alloc (Nat.le_refl _) o)
theorem Bx.drew {w : World} {b : Nat} {x y : Value} (h : Bx w b x y) : Bx w.drew b x y := h
theorem Bx.new (w : World) (x y : Value) (t : TypeId) : Bx (w.alloc (.cells #[x, y] t)) w.heap.size x y := by
  refine ⟨?_, ?_, ?_, ?_, ?_⟩ <;> go_simp
theorem Bx.new1 (w : World) (x y : Value) (o : Obj) (t : TypeId) : Bx ((w.alloc o).alloc (.cells #[x, y] t)) (w.heap.size + 1) x y := by
  have h := Bx.new (w.alloc o) x y t
  have e : (w.alloc o).heap.size = w.heap.size + 1 := by go_simp
  rw [e] at h
  exact h
theorem Bx.new2 (w : World) (x y : Value) (o p : Obj) (t : TypeId) : Bx (((w.alloc o).alloc p).alloc (.cells #[x, y] t)) (w.heap.size + 1 + 1) x y := by
  have h := Bx.new1 (w.alloc o) x y p t
  have e : (w.alloc o).heap.size = w.heap.size + 1 := by go_simp
  rw [e] at h
  exact h
theorem Bx.put {w : World} {b : Nat} {x y : Value} (h : Bx w b x y) (u v : Value) : Bx ((w.setCell ⟨b, 0, none⟩ u).setCell ⟨b, 1, none⟩ v) b u v := by
  obtain ⟨h1, h2, h3, h4, h5⟩ := h
  have e1 : (w.setCell ⟨b, 0, none⟩ u).cell? ⟨b, 0, none⟩ = some u := World.cell?_setCell_same w _ u h1
  have e2 : (w.setCell ⟨b, 0, none⟩ u).cell? ⟨b, 1, none⟩ = some y := (World.cell?_setCell_other w _ _ u (by simp)).trans h2
  refine ⟨(World.cell?_setCell_other _ _ _ v (by simp)).trans e1, World.cell?_setCell_same _ _ v e2, ?_, ?_, ?_⟩
  · simp [go_sem, h3]
  · simp [go_sem, h4]
  · simp [go_sem]; exact h5
theorem Bx.other {w : World} {b c : Nat} {x y : Value} (h : Bx w b x y) (hc : b ≠ c) (u v : Value) : Bx ((w.setCell ⟨c, 0, none⟩ u).setCell ⟨c, 1, none⟩ v) b x y := by
  obtain ⟨h1, h2, h3, h4, h5⟩ := h
  have n : ∀ o p, (⟨b, o, none⟩ : Addr) ≠ ⟨c, p, none⟩ := fun o p e => hc (by cases e; rfl)
  have n' : ∀ o p, (⟨c, p, none⟩ : Addr) ≠ ⟨b, o, none⟩ := fun o p e => hc (by cases e; rfl)
  refine ⟨?_, ?_, ?_, ?_, ?_⟩
  · exact (World.cell?_setCell_other _ _ _ v (by first | exact n _ _ | exact n' _ _)).trans ((World.cell?_setCell_other _ _ _ u (by first | exact n _ _ | exact n' _ _)).trans h1)
  · exact (World.cell?_setCell_other _ _ _ v (by first | exact n _ _ | exact n' _ _)).trans ((World.cell?_setCell_other _ _ _ u (by first | exact n _ _ | exact n' _ _)).trans h2)
  · simp [go_sem, h3]
  · simp [go_sem, h4]
  · simp [go_sem]; exact h5
theorem old1 {w w1 : World} {o : Obj} (hb : Below (w.alloc o).heap.size (w.alloc o) w1) : Below w.heap.size w w1 :=
  ((Below.refl _ _).alloc (Nat.le_refl _) o).trans (hb.mono (by go_simp))
theorem old2 {w w1 : World} {o p : Obj} (hb : Below ((w.alloc o).alloc p).heap.size ((w.alloc o).alloc p) w1) : Below w.heap.size w w1 := old1 (old1 hb)
theorem old3 {w w1 : World} {o p q : Obj} (hb : Below (((w.alloc o).alloc p).alloc q).heap.size (((w.alloc o).alloc p).alloc q) w1) : Below w.heap.size w w1 := old1 (old2 hb)
theorem set2 {w w1 : World} {b : Nat} (hb : Below w.heap.size w w1) (h : w.heap.size ≤ b) (x y : Value) : Below w.heap.size w ((w1.setCell ⟨b, 0, none⟩ x).setCell ⟨b, 1, none⟩ y) := (hb.setCell h _).setCell h _
theorem ep_two {a b c d : Nat} {m n : Int} (h1 : a = c) (h2 : b = d) (h3 : m = n) : Ending.returned (.tuple #[spV a b, .int .i64 m]) = .returned (.tuple #[spV c d, .int .i64 n]) := by subst h1 h2 h3; rfl
/-- A float is stored. -/
theorem run_storef (P : Program) (a : Addr) (k : FloatKind) (b : Nat) (m : Mode) (w : World) : (store a (.float k b) m).run P w = stored P w a (.float k b) m := run_store P w a _ m rfl
set_option maxHeartbeats 800000 in
theorem smake_any (l u : Nat) (hl : l < 18446744073709551616) (hu : u < 18446744073709551616) (w : World) :
    Calls Tryd.prog 22 #[.float .f64 l, .float .f64 u] w fun e w' => e = .returned (.tuple #[if nanB l || nanB u then spV 0 0 else if sRt l u then spV l u else spV 0 0, .int .i64 (if nanB l || nanB u then 5 else if sRt l u then 0 else 2)]) ∧ Below w.heap.size w w' := by
  have ca := isnan_any l hl
  have cb := isnan_any u hu
  have hb := fun w => sright_any l u w
  have hst := run_storef Tryd.prog
  have hal : ∀ o p, Below w.heap.size w ((w.alloc o).alloc p) := fun o p => ((Below.refl _ _).alloc (Nat.le_refl _) _).alloc (by simp) _
  cases na : nanB l <;> rw [na] at ca
  · cases nb : nanB u <;> rw [nb] at cb
    · cases hr : sRt l u <;> rw [hr] at hb
      · go_enter Tryd.func22, Tryd.ntmps22
        go_wp2_with (first
          | (go_at_call_of 41 (Value.float FloatKind.f64 l); refine (ca _).mono ?_; rintro e w' ⟨rfl, rfl⟩)
          | (go_at_call_of 41 (Value.float FloatKind.f64 u); refine (cb _).mono ?_; rintro e w' ⟨rfl, rfl⟩)
          | (go_at_call 14; refine (hb _).mono ?_; rintro e w1 ⟨rfl, b1⟩; obtain ⟨c0, c1, f0, f1, _⟩ := ((Bx.new _ _ _ _).alloc _).below b1; obtain ⟨d0, d1, _⟩ := (Bx.new1 _ _ _ _ _).below b1))
        exact bodyPost_ret (v := .tuple #[spV 0 0, .int .i64 2]) (by simp [results, Tryd.results22, go_sem, c0, c1]) rfl ⟨rfl, set2 (old2 b1) (Nat.le_refl _) _ _⟩
      · go_enter Tryd.func22, Tryd.ntmps22
        go_wp2_with (first
          | (go_at_call_of 41 (Value.float FloatKind.f64 l); refine (ca _).mono ?_; rintro e w' ⟨rfl, rfl⟩)
          | (go_at_call_of 41 (Value.float FloatKind.f64 u); refine (cb _).mono ?_; rintro e w' ⟨rfl, rfl⟩)
          | (go_at_call 14; refine (hb _).mono ?_; rintro e w1 ⟨rfl, b1⟩; obtain ⟨c0, c1, f0, f1, _⟩ := ((Bx.new _ _ _ _).alloc _).below b1; obtain ⟨d0, d1, _⟩ := (Bx.new1 _ _ _ _ _).below b1))
        exact bodyPost_ret (v := .tuple #[spV l u, .int .i64 0]) (by simp [results, Tryd.results22, go_sem, c0, c1]) rfl ⟨rfl, set2 (old2 b1) (Nat.le_refl _) _ _⟩
    · go_enter Tryd.func22, Tryd.ntmps22
      go_wp2_with (first
        | (go_at_call_of 41 (Value.float FloatKind.f64 l); refine (ca _).mono ?_; rintro e w' ⟨rfl, rfl⟩)
        | (go_at_call_of 41 (Value.float FloatKind.f64 u); refine (cb _).mono ?_; rintro e w' ⟨rfl, rfl⟩))
      exact bodyPost_ret (v := .tuple #[spV 0 0, .int .i64 5]) (by simp [results, Tryd.results22, go_sem]) rfl ⟨rfl, hal _ _⟩
  · go_enter Tryd.func22, Tryd.ntmps22
    go_wp2_with (first
      | (go_at_call_of 41 (Value.float FloatKind.f64 l); refine (ca _).mono ?_; rintro e w' ⟨rfl, rfl⟩))
    exact bodyPost_ret (v := .tuple #[spV 0 0, .int .i64 5]) (by simp [results, Tryd.results22, go_sem]) rfl ⟨rfl, hal _ _⟩
set_option maxHeartbeats 800000 in
theorem shas_any (l h x : Nat) (hx : x < 18446744073709551616) (w : World) :
    Calls Tryd.prog 23 #[spV l h, .float .f64 x] w fun e w' => e = .returned (.bool (sRt l h && finB x && leF l x && leF x h)) ∧ Below w.heap.size w w' := by
  have hb := fun w => sright_any l h w
  have cf := sfin_any x hx
  have e1 : (FloatKind.f64.format.order l x == some .lt || FloatKind.f64.format.order l x == some .eq) = leF l x := rfl
  have e2 : (FloatKind.f64.format.order x h == some .lt || FloatKind.f64.format.order x h == some .eq) = leF x h := rfl
  cases c1 : sRt l h <;> rw [c1] at hb
  · go_enter Tryd.func23, Tryd.ntmps23
    go_wp2_with (first
      | (go_at_call 14; refine (hb _).mono ?_; rintro e w1 ⟨rfl, b1⟩; obtain ⟨c0, c1, f0, f1, _⟩ := (Bx.new _ _ _ _).below b1)
      | (go_at_call 42; refine (cf _).mono ?_; rintro e w' ⟨rfl, rfl⟩))
    go_ret
    exact ⟨rfl, old1 b1⟩
  · cases c2 : finB x <;> rw [c2] at cf <;> cases c3 : leF l x <;> rw [c3] at e1 <;> cases c4 : leF x h <;> rw [c4] at e2 <;>
      (go_enter Tryd.func23, Tryd.ntmps23
       go_wp2_with (first
         | (go_at_call 14; refine (hb _).mono ?_; rintro e w1 ⟨rfl, b1⟩; obtain ⟨c0, c1, f0, f1, _⟩ := (Bx.new _ _ _ _).below b1)
         | (go_at_call 42; refine (cf _).mono ?_; rintro e w' ⟨rfl, rfl⟩))
       go_ret
       exact ⟨rfl, old1 b1⟩)
/-- Two spans in a list. -/
def twoS (a b c d : Nat) : Obj := .cells #[.float .f64 a, .float .f64 b, .float .f64 c, .float .f64 d] 24
theorem two_cells (W : World) (a b c d : Nat) : (W.alloc (twoS a b c d)).cell? ⟨W.heap.size, 0, none⟩ = some (.float .f64 a) ∧ (W.alloc (twoS a b c d)).cell? ⟨W.heap.size, 1, none⟩ = some (.float .f64 b) ∧ (W.alloc (twoS a b c d)).cell? ⟨W.heap.size, 2, none⟩ = some (.float .f64 c) ∧ (W.alloc (twoS a b c d)).cell? ⟨W.heap.size, 3, none⟩ = some (.float .f64 d) := by
  refine ⟨?_, ?_, ?_, ?_⟩ <;> simp [twoS, go_sem]
set_option maxHeartbeats 2000000 in
theorem sall_two (a b c d B : Nat) (w : World) (h0 : w.cell? ⟨B, 0, none⟩ = some (.float .f64 a)) (h1 : w.cell? ⟨B, 1, none⟩ = some (.float .f64 b)) (h2 : w.cell? ⟨B, 2, none⟩ = some (.float .f64 c)) (h3 : w.cell? ⟨B, 3, none⟩ = some (.float .f64 d)) (hB : B < w.heap.size) :
    Calls Tryd.prog 24 #[.slice (some ⟨B, 0, none⟩) 2 2] w fun e w' => e = .returned (.bool (sRt a b && sRt c d)) ∧ Below w.heap.size w w' := by
  have r1 := fun w => sright_any a b w
  have r2 := fun w => sright_any c d w
  have hst := run_storef Tryd.prog
  cases q1 : sRt a b <;> rw [q1] at r1
  · go_enter Tryd.func24, Tryd.ntmps24
    go_wp2
    go_loopg [4, 7] 2 (fun g _ c wr => g = 2 ∧ c = .int .i64 0 ∧ wr = w)
    case atStart => exact ⟨rfl, rfl, rfl⟩
    case round =>
      obtain ⟨_, rfl, rfl⟩ := hrel
      go_wp2_with (go_at_call 14; refine (r1 _).mono ?_; rintro e w1 ⟨rfl, b1⟩)
      go_ret
      exact ⟨rfl, old1 b1⟩
  · cases q2 : sRt c d <;> rw [q2] at r2
    all_goals
      go_enter Tryd.func24, Tryd.ntmps24
      go_wp2
      go_loopg [4, 7] 2 (fun g _ v wr => ∃ k : Nat, k ≤ 2 ∧ g = 2 - k ∧ v = .int .i64 k ∧ (k = 2 → sRt c d = true) ∧ Below w.heap.size w wr)
      case atStart => exact ⟨0, by omega, rfl, rfl, fun h => by omega, Below.refl _ _⟩
      case round =>
        obtain ⟨k, hk, hg, rfl, hq, hbr⟩ := hrel
        obtain ⟨hc, _⟩ := oldc hbr
        have g0 := (hc _ 0 hB).trans h0
        have g1 := (hc _ 1 hB).trans h1
        have g2 := (hc _ 2 hB).trans h2
        have g3 := (hc _ 3 hB).trans h3
        have HG : Hid (gk = 2 - k) := hg
        clear hg hc
        rcases (show k = 0 ∨ k = 1 ∨ k = 2 by omega) with rfl | rfl | rfl
        · go_wp2_with (go_at_call 14; refine (r1 _).mono ?_; rintro e w1 ⟨rfl, b1⟩)
          go_roundg 1
          case measure => rw [HG.out]; omega
          case rel => exact ⟨1, by omega, rfl, rfl, fun h => by omega, hbr.trans ((old1 b1).mono hbr.size)⟩
        · go_wp2_with (go_at_call 14; refine (r2 _).mono ?_; rintro e w1 ⟨rfl, b1⟩)
          first
          | (go_ret
             exact ⟨rfl, hbr.trans ((old1 b1).mono hbr.size)⟩)
          | (go_roundg 0
             case measure => rw [HG.out]; omega
             case rel => exact ⟨2, by omega, rfl, rfl, fun _ => q2, hbr.trans ((old1 b1).mono hbr.size)⟩)
        · have hq2 := hq rfl
          first
          | (rw [q2] at hq2; cases hq2; done)
          | (go_wp2
             go_ret
             exact ⟨rfl, hbr⟩)
end Go.Proofs.YtbhkgjjogepgnaaDoor

namespace Go.Proofs.YtbhkgjjogepgnaaDoor
open Go.RowKit

/-- What round's calls answer, at known floats. -/
abbrev Tells3 (f : Nat) (x y : Nat) (m : Int) (r : Nat) : Prop := ∀ w, Calls Tryd.prog f #[.float .f64 x, .float .f64 y, .int .i8 m] w fun e w' => e = .returned (.float .f64 r) ∧ w' = w
theorem alls3 {w : World} {o p q : Obj} : Below w.heap.size w (((w.alloc o).alloc p).alloc q) := (((Below.refl _ _).alloc (Nat.le_refl _) _).alloc (by simp) _).alloc (by simp; omega) _
set_option maxHeartbeats 800000 in
theorem ssum_of (a b c d lo hi : Nat) (h1 : Tells3 44 a c 1 lo) (h2 : Tells3 44 b d 2 hi) (w : World) :
    Calls Tryd.prog 27 #[spV a b, spV c d] w fun e w' => e = .returned (spV lo hi) ∧ Below w.heap.size w w' := by
  have hst := run_storef Tryd.prog
  go_enter Tryd.func27, Tryd.ntmps27
  go_wp2
  go_region_held3 (fun w' => w'.cell? ⟨w.heap.size, 0, none⟩ = some (.float .f64 a) ∧ w'.cell? ⟨w.heap.size, 1, none⟩ = some (.float .f64 b) ∧ w'.cell? ⟨w.heap.size + 1, 0, none⟩ = some (.float .f64 c) ∧ w'.cell? ⟨w.heap.size + 1, 1, none⟩ = some (.float .f64 d)) (go_keep)
    (first | (go_at_call_of 44 (Value.int IntKind.i8 1); refine (h1 _).mono ?_; rintro e w' ⟨rfl, rfl⟩) | (go_at_call_of 44 (Value.int IntKind.i8 2); refine (h2 _).mono ?_; rintro e w' ⟨rfl, rfl⟩))
  go_wp2
  exact bodyPost_ret (v := spV lo hi) (by simp [results, Tryd.results27, go_sem]) rfl ⟨rfl, alls3.drew⟩
set_option maxHeartbeats 1600000 in
theorem sadd_of (a b c d lo hi : Nat) (ra : sRt a b = true) (rb : sRt c d = true) (h1 : Tells3 44 a c 1 lo) (h2 : Tells3 44 b d 2 hi) (w : World) :
    Calls Tryd.prog 8 #[spV a b, spV c d] w fun e w' => e = .returned (.tuple #[spV lo hi, .int .i64 0]) ∧ Below w.heap.size w w' := by
  have hst := run_storef Tryd.prog
  have hs := ssum_of a b c d lo hi h1 h2
  go_enter Tryd.func8, Tryd.ntmps8
  go_wp2_with (first
    | (go_at_call 24; refine (sall_two a b c d _ _ (by go_simp) (by go_simp) (by go_simp) (by go_simp) (by go_simp)).mono ?_; rw [ra, rb]; rintro e w1 ⟨rfl, b1⟩; obtain ⟨a0, a1, _⟩ := ((((Bx.new _ _ _ _).alloc _).alloc _).alloc _).below b1; obtain ⟨d0, d1, _⟩ := (((Bx.new1 _ _ _ _ _).alloc _).alloc _).below b1; have R1 := ((Bx.new2 _ _ _ _ _ _).alloc _).below b1)
    | (go_at_call 27; refine (hs _).mono ?_; rintro e w2 ⟨rfl, b2⟩; obtain ⟨c0, c1, f0, f1, _⟩ := R1.below b2))
  have b3 := old1 (old3 b1)
  exact bodyPost_ret (v := .tuple #[spV lo hi, .int .i64 0]) (by simp [results, Tryd.results8, go_sem, c0, c1]) rfl ⟨rfl, set2 (b3.trans (b2.mono b3.size)) (by omega) _ _⟩
/-- The lesser, the greater of two floats. -/
def lsF (a b : Nat) : Nat := if ordF b a < 0 then b else a
def grF (a b : Nat) : Nat := if 0 < ordF b a then b else a
theorem lsF_lt {a b : Nat} (ha : a < 18446744073709551616) (hb : b < 18446744073709551616) : lsF a b < 18446744073709551616 := by unfold lsF; split <;> assumption
theorem grF_lt {a b : Nat} (ha : a < 18446744073709551616) (hb : b < 18446744073709551616) : grF a b < 18446744073709551616 := by unfold grF; split <;> assumption
set_option maxHeartbeats 2000000 in
theorem sleast_walk (x y0 y1 y2 u1 u2 u3 B : Nat) (E1 : Hid (u1 = lsF x y0)) (E2 : Hid (u2 = lsF u1 y1)) (E3 : Hid (u3 = lsF u2 y2)) (hx : x < 18446744073709551616) (l0 : u1 < 18446744073709551616) (l1 : u2 < 18446744073709551616) (k0 : y0 < 18446744073709551616) (k1 : y1 < 18446744073709551616) (k2 : y2 < 18446744073709551616) (w : World) (h0 : w.cell? ⟨B, 0, none⟩ = some (.float .f64 y0)) (h1 : w.cell? ⟨B, 1, none⟩ = some (.float .f64 y1)) (h2 : w.cell? ⟨B, 2, none⟩ = some (.float .f64 y2)) :
    Calls Tryd.prog 26 #[.float .f64 x, .slice (some ⟨B, 0, none⟩) 3 3] w fun e w' => e = .returned (.float .f64 u3) ∧ w' = w := by
  go_enter Tryd.func26, Tryd.ntmps26
  go_wp2
  go_loopg [0, 6, 9] 3 (fun g u _ v wr => ∃ k : Nat, k ≤ 3 ∧ g = 3 - k ∧ v = .int .i64 k ∧ wr = w ∧ u = .float .f64 (if k = 0 then x else if k = 1 then u1 else if k = 2 then u2 else u3))
  case atStart => exact ⟨0, by omega, rfl, rfl, rfl, rfl⟩
  case round =>
    obtain ⟨k, hk, hg, rfl, rfl, rfl⟩ := hrel
    have HG : Hid (gk = 3 - k) := hg
    clear hg
    rcases (show k = 0 ∨ k = 1 ∨ k = 2 ∨ k = 3 by omega) with rfl | rfl | rfl | rfl
    · skip
      have co := order_any y0 x k0 hx
      by_cases q : ordF y0 x < 0
      · have hv : u1 = y0 := by rw [E1.out]; unfold lsF; rw [if_pos q]
        go_wp2_with (go_at_call 43; refine (co _).mono ?_; rintro e w' ⟨rfl, rfl⟩)
        go_roundg 2
        case measure => rw [HG.out]; omega
        case rel => exact ⟨1, by omega, rfl, rfl, rfl, by rw [← hv]; rfl⟩
      · have hv : u1 = x := by rw [E1.out]; unfold lsF; rw [if_neg q]
        go_wp2_with (go_at_call 43; refine (co _).mono ?_; rintro e w' ⟨rfl, rfl⟩)
        go_roundg 2
        case measure => rw [HG.out]; omega
        case rel => exact ⟨1, by omega, rfl, rfl, rfl, by rw [← hv]; rfl⟩
    · skip
      have co := order_any y1 u1 k1 l0
      by_cases q : ordF y1 u1 < 0
      · have hv : u2 = y1 := by rw [E2.out]; unfold lsF; rw [if_pos q]
        go_wp2_with (go_at_call 43; refine (co _).mono ?_; rintro e w' ⟨rfl, rfl⟩)
        go_roundg 1
        case measure => rw [HG.out]; omega
        case rel => exact ⟨2, by omega, rfl, rfl, rfl, by rw [← hv]; rfl⟩
      · have hv : u2 = u1 := by rw [E2.out]; unfold lsF; rw [if_neg q]
        go_wp2_with (go_at_call 43; refine (co _).mono ?_; rintro e w' ⟨rfl, rfl⟩)
        go_roundg 1
        case measure => rw [HG.out]; omega
        case rel => exact ⟨2, by omega, rfl, rfl, rfl, by rw [← hv]; rfl⟩
    · skip
      have co := order_any y2 u2 k2 l1
      by_cases q : ordF y2 u2 < 0
      · have hv : u3 = y2 := by rw [E3.out]; unfold lsF; rw [if_pos q]
        go_wp2_with (go_at_call 43; refine (co _).mono ?_; rintro e w' ⟨rfl, rfl⟩)
        go_roundg 0
        case measure => rw [HG.out]; omega
        case rel => exact ⟨3, by omega, rfl, rfl, rfl, by rw [← hv]; rfl⟩
      · have hv : u3 = u2 := by rw [E3.out]; unfold lsF; rw [if_neg q]
        go_wp2_with (go_at_call 43; refine (co _).mono ?_; rintro e w' ⟨rfl, rfl⟩)
        go_roundg 0
        case measure => rw [HG.out]; omega
        case rel => exact ⟨3, by omega, rfl, rfl, rfl, by rw [← hv]; rfl⟩
    · go_wp2
      go_ret
      exact ⟨rfl, rfl⟩
theorem sleast_four (x y0 y1 y2 B : Nat) (hx : x < 18446744073709551616) (k0 : y0 < 18446744073709551616) (k1 : y1 < 18446744073709551616) (k2 : y2 < 18446744073709551616) (w : World) (h0 : w.cell? ⟨B, 0, none⟩ = some (.float .f64 y0)) (h1 : w.cell? ⟨B, 1, none⟩ = some (.float .f64 y1)) (h2 : w.cell? ⟨B, 2, none⟩ = some (.float .f64 y2)) :
    Calls Tryd.prog 26 #[.float .f64 x, .slice (some ⟨B, 0, none⟩) 3 3] w fun e w' => e = .returned (.float .f64 (lsF (lsF (lsF x y0) y1) y2)) ∧ w' = w :=
  sleast_walk x y0 y1 y2 _ _ _ B rfl rfl rfl hx (lsF_lt hx k0) (lsF_lt (lsF_lt hx k0) k1) k0 k1 k2 w h0 h1 h2
set_option maxHeartbeats 2000000 in
theorem sgreatest_walk (x y0 y1 y2 u1 u2 u3 B : Nat) (E1 : Hid (u1 = grF x y0)) (E2 : Hid (u2 = grF u1 y1)) (E3 : Hid (u3 = grF u2 y2)) (hx : x < 18446744073709551616) (l0 : u1 < 18446744073709551616) (l1 : u2 < 18446744073709551616) (k0 : y0 < 18446744073709551616) (k1 : y1 < 18446744073709551616) (k2 : y2 < 18446744073709551616) (w : World) (h0 : w.cell? ⟨B, 0, none⟩ = some (.float .f64 y0)) (h1 : w.cell? ⟨B, 1, none⟩ = some (.float .f64 y1)) (h2 : w.cell? ⟨B, 2, none⟩ = some (.float .f64 y2)) :
    Calls Tryd.prog 25 #[.float .f64 x, .slice (some ⟨B, 0, none⟩) 3 3] w fun e w' => e = .returned (.float .f64 u3) ∧ w' = w := by
  go_enter Tryd.func25, Tryd.ntmps25
  go_wp2
  go_loopg [0, 6, 9] 3 (fun g u _ v wr => ∃ k : Nat, k ≤ 3 ∧ g = 3 - k ∧ v = .int .i64 k ∧ wr = w ∧ u = .float .f64 (if k = 0 then x else if k = 1 then u1 else if k = 2 then u2 else u3))
  case atStart => exact ⟨0, by omega, rfl, rfl, rfl, rfl⟩
  case round =>
    obtain ⟨k, hk, hg, rfl, rfl, rfl⟩ := hrel
    have HG : Hid (gk = 3 - k) := hg
    clear hg
    rcases (show k = 0 ∨ k = 1 ∨ k = 2 ∨ k = 3 by omega) with rfl | rfl | rfl | rfl
    · skip
      have co := order_any y0 x k0 hx
      by_cases q : 0 < ordF y0 x
      · have hv : u1 = y0 := by rw [E1.out]; unfold grF; rw [if_pos q]
        go_wp2_with (go_at_call 43; refine (co _).mono ?_; rintro e w' ⟨rfl, rfl⟩)
        go_roundg 2
        case measure => rw [HG.out]; omega
        case rel => exact ⟨1, by omega, rfl, rfl, rfl, by rw [← hv]; rfl⟩
      · have hv : u1 = x := by rw [E1.out]; unfold grF; rw [if_neg q]
        go_wp2_with (go_at_call 43; refine (co _).mono ?_; rintro e w' ⟨rfl, rfl⟩)
        go_roundg 2
        case measure => rw [HG.out]; omega
        case rel => exact ⟨1, by omega, rfl, rfl, rfl, by rw [← hv]; rfl⟩
    · skip
      have co := order_any y1 u1 k1 l0
      by_cases q : 0 < ordF y1 u1
      · have hv : u2 = y1 := by rw [E2.out]; unfold grF; rw [if_pos q]
        go_wp2_with (go_at_call 43; refine (co _).mono ?_; rintro e w' ⟨rfl, rfl⟩)
        go_roundg 1
        case measure => rw [HG.out]; omega
        case rel => exact ⟨2, by omega, rfl, rfl, rfl, by rw [← hv]; rfl⟩
      · have hv : u2 = u1 := by rw [E2.out]; unfold grF; rw [if_neg q]
        go_wp2_with (go_at_call 43; refine (co _).mono ?_; rintro e w' ⟨rfl, rfl⟩)
        go_roundg 1
        case measure => rw [HG.out]; omega
        case rel => exact ⟨2, by omega, rfl, rfl, rfl, by rw [← hv]; rfl⟩
    · skip
      have co := order_any y2 u2 k2 l1
      by_cases q : 0 < ordF y2 u2
      · have hv : u3 = y2 := by rw [E3.out]; unfold grF; rw [if_pos q]
        go_wp2_with (go_at_call 43; refine (co _).mono ?_; rintro e w' ⟨rfl, rfl⟩)
        go_roundg 0
        case measure => rw [HG.out]; omega
        case rel => exact ⟨3, by omega, rfl, rfl, rfl, by rw [← hv]; rfl⟩
      · have hv : u3 = u2 := by rw [E3.out]; unfold grF; rw [if_neg q]
        go_wp2_with (go_at_call 43; refine (co _).mono ?_; rintro e w' ⟨rfl, rfl⟩)
        go_roundg 0
        case measure => rw [HG.out]; omega
        case rel => exact ⟨3, by omega, rfl, rfl, rfl, by rw [← hv]; rfl⟩
    · go_wp2
      go_ret
      exact ⟨rfl, rfl⟩
theorem sgreatest_four (x y0 y1 y2 B : Nat) (hx : x < 18446744073709551616) (k0 : y0 < 18446744073709551616) (k1 : y1 < 18446744073709551616) (k2 : y2 < 18446744073709551616) (w : World) (h0 : w.cell? ⟨B, 0, none⟩ = some (.float .f64 y0)) (h1 : w.cell? ⟨B, 1, none⟩ = some (.float .f64 y1)) (h2 : w.cell? ⟨B, 2, none⟩ = some (.float .f64 y2)) :
    Calls Tryd.prog 25 #[.float .f64 x, .slice (some ⟨B, 0, none⟩) 3 3] w fun e w' => e = .returned (.float .f64 (grF (grF (grF x y0) y1) y2)) ∧ w' = w :=
  sgreatest_walk x y0 y1 y2 _ _ _ B rfl rfl rfl hx (grF_lt hx k0) (grF_lt (grF_lt hx k0) k1) k0 k1 k2 w h0 h1 h2
end Go.Proofs.YtbhkgjjogepgnaaDoor

namespace Go.Proofs.YtbhkgjjogepgnaaDoor
open Go.RowKit

set_option maxHeartbeats 800000 in
theorem sprod_in (x y r : Nat) (m : Int) (hx : x < 18446744073709551616) (hy : y < 18446744073709551616) (fx : finB x = true) (fy : finB y = true) (h : Tells3 32 x y m r) : Tells3 46 x y m r := by
  intro w
  have cx := sfin_any x hx
  have cy := sfin_any y hy
  rw [fx] at cx
  rw [fy] at cy
  have z1 := zero_eq hx
  have z2 := zero_eq hy
  cases q1 : (rung x == 0) <;> rw [q1] at z1 <;> cases q2 : (rung y == 0) <;> rw [q2] at z2 <;>
    (go_enter Tryd.func46, Tryd.ntmps46
     go_wp2_with (first
       | (go_at_call_of 42 (Value.float FloatKind.f64 x); refine (cx _).mono ?_; rintro e w' ⟨rfl, rfl⟩)
       | (go_at_call_of 42 (Value.float FloatKind.f64 y); refine (cy _).mono ?_; rintro e w' ⟨rfl, rfl⟩)
       | (go_at_call 32; refine (h _).mono ?_; rintro e w' ⟨rfl, rfl⟩))
     go_ret
     exact ⟨rfl, rfl⟩)
set_option maxHeartbeats 800000 in
theorem squot_in (x y r : Nat) (m : Int) (hx : x < 18446744073709551616) (fx : finB x = true) (h : Tells3 48 x y m r) : Tells3 47 x y m r := by
  intro w
  have cx := sfin_any x hx
  rw [fx] at cx
  go_enter Tryd.func47, Tryd.ntmps47
  go_wp2_with (first
    | (go_at_call 42; refine (cx _).mono ?_; rintro e w' ⟨rfl, rfl⟩)
    | (go_at_call 48; refine (h _).mono ?_; rintro e w' ⟨rfl, rfl⟩))
  go_ret
  exact ⟨rfl, rfl⟩
theorem cell_al {w : World} {a : Addr} {v : Value} (h : w.cell? a = some v) (o : Obj) : (w.alloc o).cell? a = some v := by
  rw [((Below.refl _ _).alloc (Nat.le_refl _) o).cell (World.block_lt_of_cell? w _ h)]; exact h
theorem Bx.new3 (w : World) (x y : Value) (o p q : Obj) (t : TypeId) : Bx ((((w.alloc o).alloc p).alloc q).alloc (.cells #[x, y] t)) (w.heap.size + 1 + 1 + 1) x y := by
  have h := Bx.new2 (w.alloc o) x y p q t
  have e : (w.alloc o).heap.size = w.heap.size + 1 := by go_simp
  rw [e] at h
  exact h
theorem old4 {w w1 : World} {o p q r : Obj} (hb : Below ((((w.alloc o).alloc p).alloc q).alloc r).heap.size ((((w.alloc o).alloc p).alloc q).alloc r) w1) : Below w.heap.size w w1 := old1 (old3 hb)
/-- The least, the greatest at four corners. -/
def lsC (R : Int → Nat → Nat → Nat) (a b c d : Nat) : Nat := lsF (lsF (lsF (R 1 a c) (R 1 a d)) (R 1 b c)) (R 1 b d)
def grC (R : Int → Nat → Nat → Nat) (a b c d : Nat) : Nat := grF (grF (grF (R 2 a c) (R 2 a d)) (R 2 b c)) (R 2 b d)
set_option maxHeartbeats 1600000 in
theorem sall4_p (a b c d D A C : Nat) (R : Nat → Nat → Nat) (m : Int) (h : ∀ x y, (x = a ∨ x = b) → (y = c ∨ y = d) → Tells3 46 x y m (R x y))
    (w : World) (cd : w.cell? ⟨D, 0, none⟩ = some (.func (.func 46) #[] #[])) (ca : w.cell? ⟨A, 0, none⟩ = some (.float .f64 a)) (cb : w.cell? ⟨A, 1, none⟩ = some (.float .f64 b)) (cc : w.cell? ⟨C, 0, none⟩ = some (.float .f64 c)) (ce : w.cell? ⟨C, 1, none⟩ = some (.float .f64 d)) :
    Calls Tryd.prog 76 #[.int .i8 m, .pointer (some ⟨D, 0, none⟩), .pointer (some ⟨A, 0, none⟩), .pointer (some ⟨C, 0, none⟩)] w fun e w' => e = .returned (.tuple #[.float .f64 (R a c), .float .f64 (R a d), .float .f64 (R b c), .float .f64 (R b d)]) ∧ Below w.heap.size w w' := by
  go_enter Tryd.func76, Tryd.ntmps76
  go_wp2
  go_quiet ((go_at_call 46; exact Calls.quiet_of_same (h _ _ (by first | exact Or.inl rfl | exact Or.inr rfl) (by first | exact Or.inl rfl | exact Or.inr rfl) _)))
  go_wp2
  exact bodyPost_ret (v := .tuple #[.float .f64 (R a c), .float .f64 (R a d), .float .f64 (R b c), .float .f64 (R b d)]) (by simp [results, Tryd.results76, go_sem]) rfl ⟨rfl, below_drewN (Below.refl _ _) _⟩
set_option maxHeartbeats 2000000 in
theorem scorn_p (a b c d : Nat) (R : Int → Nat → Nat → Nat) (h : ∀ m x y, (x = a ∨ x = b) → (y = c ∨ y = d) → Tells3 46 x y m (R m x y) ∧ R m x y < 18446744073709551616) (w : World) :
    Calls Tryd.prog 45 #[spV a b, spV c d, .func (.func 46) #[] #[]] w fun e w' => e = .returned (spV (lsC R a b c d) (grC R a b c d)) ∧ Below w.heap.size w w' := by
  have hst := run_storef Tryd.prog
  have h1 := fun x y p q => (h 1 x y p q).1
  have h2 := fun x y p q => (h 2 x y p q).1
  have hl := fun m x y p q => (h m x y p q).2
  have b11 := hl 1 a c (Or.inl rfl) (Or.inl rfl)
  have b12 := hl 1 a d (Or.inl rfl) (Or.inr rfl)
  have b13 := hl 1 b c (Or.inr rfl) (Or.inl rfl)
  have b14 := hl 1 b d (Or.inr rfl) (Or.inr rfl)
  have b21 := hl 2 a c (Or.inl rfl) (Or.inl rfl)
  have b22 := hl 2 a d (Or.inl rfl) (Or.inr rfl)
  have b23 := hl 2 b c (Or.inr rfl) (Or.inl rfl)
  have b24 := hl 2 b d (Or.inr rfl) (Or.inr rfl)
  have eL : Hid (lsC R a b c d = lsF (lsF (lsF (R 1 a c) (R 1 a d)) (R 1 b c)) (R 1 b d)) := rfl
  have eG : Hid (grC R a b c d = grF (grF (grF (R 2 a c) (R 2 a d)) (R 2 b c)) (R 2 b d)) := rfl
  clear h hl
  go_enter Tryd.func45, Tryd.ntmps45
  go_wp2_with (first
    | (go_at_call_of 76 (Value.int IntKind.i8 1); refine (sall4_p a b c d _ _ _ (R 1) 1 h1 _ (by go_simp) (by go_simp) (by go_simp) (by go_simp) (by go_simp)).mono ?_; rintro e w1 ⟨rfl, b1⟩; have A1 := ((((Bx.new _ _ _ _).alloc _).alloc _).alloc _).below b1; have C1 := (((Bx.new1 _ _ _ _ _).alloc _).alloc _).below b1; have R1 := (Bx.new3 _ _ _ _ _ _ _).below b1; have D1 : w1.cell? ⟨w.heap.size + 1 + 1, 0, none⟩ = some (.func (.func 46) #[] #[]) := ((oldc b1).1 (w.heap.size + 1 + 1) 0 (by go_simp)).trans (by go_simp); have B1 := old4 b1)
    | (go_at_call_of 76 (Value.int IntKind.i8 2); refine (sall4_p a b c d _ _ _ (R 2) 2 h2 _ (cell_al D1 _) (A1.alloc _).1 (A1.alloc _).2.1 (C1.alloc _).1 (C1.alloc _).2.1).mono ?_; rintro e w2 ⟨rfl, b2⟩; have R2 := (R1.alloc _).below b2; have B2 := old1 b2)
    | (go_at_call 26; refine (sleast_four _ _ _ _ _ b11 b12 b13 b14 _ (by go_simp) (by go_simp) (by go_simp)).mono ?_; rw [← eL.out]; rintro e w' ⟨rfl, rfl⟩)
    | (go_at_call 25; refine (sgreatest_four _ _ _ _ _ b21 b22 b23 b24 _ (by go_simp) (by go_simp) (by go_simp)).mono ?_; rw [← eG.out]; rintro e w' ⟨rfl, rfl⟩; obtain ⟨c0, c1, f0, f1, _⟩ := R2.alloc (.cells #[.float .f64 (R 2 a d), .float .f64 (R 2 b c), .float .f64 (R 2 b d)] 22)))
  have B3 := B1.trans (B2.mono B1.size)
  exact bodyPost_ret (v := spV (lsC R a b c d) (grC R a b c d)) (by simp [results, Tryd.results45, go_sem, c0, c1]) rfl ⟨rfl, set2 (B3.alloc B3.size _) (by omega) _ _⟩
set_option maxHeartbeats 800000 in
theorem sproduct_of (a b c d : Nat) (R : Int → Nat → Nat → Nat) (h : ∀ m x y, (x = a ∨ x = b) → (y = c ∨ y = d) → Tells3 46 x y m (R m x y) ∧ R m x y < 18446744073709551616) (w : World) :
    Calls Tryd.prog 28 #[spV a b, spV c d] w fun e w' => e = .returned (spV (lsC R a b c d) (grC R a b c d)) ∧ Below w.heap.size w w' := by
  have hst := run_storef Tryd.prog
  have hc := scorn_p a b c d R h
  clear h
  go_enter Tryd.func28, Tryd.ntmps28
  go_wp2_with (go_at_call 45; refine (hc _).mono ?_; rintro e w1 ⟨rfl, b1⟩; obtain ⟨c0, c1, f0, f1, _⟩ := (Bx.new2 _ _ _ _ _ _).below b1)
  exact bodyPost_ret (v := spV (lsC R a b c d) (grC R a b c d)) (by simp [results, Tryd.results28, go_sem, c0, c1]) rfl ⟨rfl, set2 (old3 b1) (by omega) _ _⟩
set_option maxHeartbeats 1600000 in
theorem sall4_q (a b c d D A C : Nat) (R : Nat → Nat → Nat) (m : Int) (h : ∀ x y, (x = a ∨ x = b) → (y = c ∨ y = d) → Tells3 47 x y m (R x y))
    (w : World) (cd : w.cell? ⟨D, 0, none⟩ = some (.func (.func 47) #[] #[])) (ca : w.cell? ⟨A, 0, none⟩ = some (.float .f64 a)) (cb : w.cell? ⟨A, 1, none⟩ = some (.float .f64 b)) (cc : w.cell? ⟨C, 0, none⟩ = some (.float .f64 c)) (ce : w.cell? ⟨C, 1, none⟩ = some (.float .f64 d)) :
    Calls Tryd.prog 76 #[.int .i8 m, .pointer (some ⟨D, 0, none⟩), .pointer (some ⟨A, 0, none⟩), .pointer (some ⟨C, 0, none⟩)] w fun e w' => e = .returned (.tuple #[.float .f64 (R a c), .float .f64 (R a d), .float .f64 (R b c), .float .f64 (R b d)]) ∧ Below w.heap.size w w' := by
  go_enter Tryd.func76, Tryd.ntmps76
  go_wp2
  go_quiet ((go_at_call 47; exact Calls.quiet_of_same (h _ _ (by first | exact Or.inl rfl | exact Or.inr rfl) (by first | exact Or.inl rfl | exact Or.inr rfl) _)))
  go_wp2
  exact bodyPost_ret (v := .tuple #[.float .f64 (R a c), .float .f64 (R a d), .float .f64 (R b c), .float .f64 (R b d)]) (by simp [results, Tryd.results76, go_sem]) rfl ⟨rfl, below_drewN (Below.refl _ _) _⟩
set_option maxHeartbeats 2000000 in
theorem scorn_q (a b c d : Nat) (R : Int → Nat → Nat → Nat) (h : ∀ m x y, (x = a ∨ x = b) → (y = c ∨ y = d) → Tells3 47 x y m (R m x y) ∧ R m x y < 18446744073709551616) (w : World) :
    Calls Tryd.prog 45 #[spV a b, spV c d, .func (.func 47) #[] #[]] w fun e w' => e = .returned (spV (lsC R a b c d) (grC R a b c d)) ∧ Below w.heap.size w w' := by
  have hst := run_storef Tryd.prog
  have h1 := fun x y p q => (h 1 x y p q).1
  have h2 := fun x y p q => (h 2 x y p q).1
  have hl := fun m x y p q => (h m x y p q).2
  have b11 := hl 1 a c (Or.inl rfl) (Or.inl rfl)
  have b12 := hl 1 a d (Or.inl rfl) (Or.inr rfl)
  have b13 := hl 1 b c (Or.inr rfl) (Or.inl rfl)
  have b14 := hl 1 b d (Or.inr rfl) (Or.inr rfl)
  have b21 := hl 2 a c (Or.inl rfl) (Or.inl rfl)
  have b22 := hl 2 a d (Or.inl rfl) (Or.inr rfl)
  have b23 := hl 2 b c (Or.inr rfl) (Or.inl rfl)
  have b24 := hl 2 b d (Or.inr rfl) (Or.inr rfl)
  have eL : Hid (lsC R a b c d = lsF (lsF (lsF (R 1 a c) (R 1 a d)) (R 1 b c)) (R 1 b d)) := rfl
  have eG : Hid (grC R a b c d = grF (grF (grF (R 2 a c) (R 2 a d)) (R 2 b c)) (R 2 b d)) := rfl
  clear h hl
  go_enter Tryd.func45, Tryd.ntmps45
  go_wp2_with (first
    | (go_at_call_of 76 (Value.int IntKind.i8 1); refine (sall4_q a b c d _ _ _ (R 1) 1 h1 _ (by go_simp) (by go_simp) (by go_simp) (by go_simp) (by go_simp)).mono ?_; rintro e w1 ⟨rfl, b1⟩; have A1 := ((((Bx.new _ _ _ _).alloc _).alloc _).alloc _).below b1; have C1 := (((Bx.new1 _ _ _ _ _).alloc _).alloc _).below b1; have R1 := (Bx.new3 _ _ _ _ _ _ _).below b1; have D1 : w1.cell? ⟨w.heap.size + 1 + 1, 0, none⟩ = some (.func (.func 47) #[] #[]) := ((oldc b1).1 (w.heap.size + 1 + 1) 0 (by go_simp)).trans (by go_simp); have B1 := old4 b1)
    | (go_at_call_of 76 (Value.int IntKind.i8 2); refine (sall4_q a b c d _ _ _ (R 2) 2 h2 _ (cell_al D1 _) (A1.alloc _).1 (A1.alloc _).2.1 (C1.alloc _).1 (C1.alloc _).2.1).mono ?_; rintro e w2 ⟨rfl, b2⟩; have R2 := (R1.alloc _).below b2; have B2 := old1 b2)
    | (go_at_call 26; refine (sleast_four _ _ _ _ _ b11 b12 b13 b14 _ (by go_simp) (by go_simp) (by go_simp)).mono ?_; rw [← eL.out]; rintro e w' ⟨rfl, rfl⟩)
    | (go_at_call 25; refine (sgreatest_four _ _ _ _ _ b21 b22 b23 b24 _ (by go_simp) (by go_simp) (by go_simp)).mono ?_; rw [← eG.out]; rintro e w' ⟨rfl, rfl⟩; obtain ⟨c0, c1, f0, f1, _⟩ := R2.alloc (.cells #[.float .f64 (R 2 a d), .float .f64 (R 2 b c), .float .f64 (R 2 b d)] 22)))
  have B3 := B1.trans (B2.mono B1.size)
  exact bodyPost_ret (v := spV (lsC R a b c d) (grC R a b c d)) (by simp [results, Tryd.results45, go_sem, c0, c1]) rfl ⟨rfl, set2 (B3.alloc B3.size _) (by omega) _ _⟩
set_option maxHeartbeats 800000 in
theorem squotient_of (a b c d : Nat) (R : Int → Nat → Nat → Nat) (h : ∀ m x y, (x = a ∨ x = b) → (y = c ∨ y = d) → Tells3 47 x y m (R m x y) ∧ R m x y < 18446744073709551616) (w : World) :
    Calls Tryd.prog 30 #[spV a b, spV c d] w fun e w' => e = .returned (spV (lsC R a b c d) (grC R a b c d)) ∧ Below w.heap.size w w' := by
  have hst := run_storef Tryd.prog
  have hc := scorn_q a b c d R h
  clear h
  go_enter Tryd.func30, Tryd.ntmps30
  go_wp2_with (go_at_call 45; refine (hc _).mono ?_; rintro e w1 ⟨rfl, b1⟩; obtain ⟨c0, c1, f0, f1, _⟩ := (Bx.new2 _ _ _ _ _ _).below b1)
  exact bodyPost_ret (v := spV (lsC R a b c d) (grC R a b c d)) (by simp [results, Tryd.results30, go_sem, c0, c1]) rfl ⟨rfl, set2 (old3 b1) (by omega) _ _⟩
end Go.Proofs.YtbhkgjjogepgnaaDoor

namespace Go.Proofs.YtbhkgjjogepgnaaDoor
open Go.RowKit

set_option maxHeartbeats 1600000 in
theorem smul_of (a b c d : Nat) (R : Int → Nat → Nat → Nat) (ra : sRt a b = true) (rb : sRt c d = true) (h : ∀ m x y, (x = a ∨ x = b) → (y = c ∨ y = d) → Tells3 46 x y m (R m x y) ∧ R m x y < 18446744073709551616) (w : World) :
    Calls Tryd.prog 9 #[spV a b, spV c d] w fun e w' => e = .returned (.tuple #[spV (lsC R a b c d) (grC R a b c d), .int .i64 0]) ∧ Below w.heap.size w w' := by
  have hst := run_storef Tryd.prog
  have hs := sproduct_of a b c d R h
  clear h
  go_enter Tryd.func9, Tryd.ntmps9
  go_wp2_with (first
    | (go_at_call 24; refine (sall_two a b c d _ _ (by go_simp) (by go_simp) (by go_simp) (by go_simp) (by go_simp)).mono ?_; rw [ra, rb]; rintro e w1 ⟨rfl, b1⟩; obtain ⟨a0, a1, _⟩ := ((((Bx.new _ _ _ _).alloc _).alloc _).alloc _).below b1; have D1 := (((Bx.new1 _ _ _ _ _).alloc _).alloc _).below b1; have A1 := ((((Bx.new _ _ _ _).alloc _).alloc _).alloc _).below b1; have d0 := D1.1; have d1 := D1.2.1; have R1 := ((Bx.new2 _ _ _ _ _ _).alloc _).below b1; have g0 := R1.1; have g1 := R1.2.1; have g2 := R1.2.2.1; have g3 := R1.2.2.2.1)
    | (go_at_call 28; refine (hs _).mono ?_; rintro e w2 ⟨rfl, b2⟩; obtain ⟨c0, c1, f0, f1, _⟩ := R1.below b2))
  have b3 := old1 (old3 b1)
  exact bodyPost_ret (v := .tuple #[spV (lsC R a b c d) (grC R a b c d), .int .i64 0]) (by simp [results, Tryd.results9, go_sem, c0, c1]) rfl ⟨rfl, set2 (b3.trans (b2.mono b3.size)) (by omega) _ _⟩
set_option maxHeartbeats 1600000 in
theorem sdiv_zero (a b c d : Nat) (ra : sRt a b = true) (rb : sRt c d = true) (h0 : (sRt c d && finB 0 && leF c 0 && leF 0 d) = true) (w : World) :
    Calls Tryd.prog 11 #[spV a b, spV c d] w fun e w' => e = .returned (.tuple #[spV 0 0, .int .i64 7]) ∧ Below w.heap.size w w' := by
  have hst := run_storef Tryd.prog
  have hh := fun w => shas_any c d 0 (by omega) w
  rw [h0] at hh
  clear h0
  go_enter Tryd.func11, Tryd.ntmps11
  go_wp2_with (first
    | (go_at_call 24; refine (sall_two a b c d _ _ (by go_simp) (by go_simp) (by go_simp) (by go_simp) (by go_simp)).mono ?_; rw [ra, rb]; rintro e w1 ⟨rfl, b1⟩; obtain ⟨a0, a1, _⟩ := ((((Bx.new _ _ _ _).alloc _).alloc _).alloc _).below b1; have D1 := (((Bx.new1 _ _ _ _ _).alloc _).alloc _).below b1; have A1 := ((((Bx.new _ _ _ _).alloc _).alloc _).alloc _).below b1; have d0 := D1.1; have d1 := D1.2.1; have R1 := ((Bx.new2 _ _ _ _ _ _).alloc _).below b1; have g0 := R1.1; have g1 := R1.2.1; have g2 := R1.2.2.1; have g3 := R1.2.2.2.1)
    | (go_at_call 23; refine (hh _).mono ?_; rintro e w2 ⟨rfl, b2⟩; obtain ⟨c0, c1, f0, f1, _⟩ := R1.below b2))
  have b3 := old1 (old3 b1)
  exact bodyPost_ret (v := .tuple #[spV 0 0, .int .i64 7]) (by simp [results, Tryd.results11, go_sem, c0, c1]) rfl ⟨rfl, set2 (b3.trans (b2.mono b3.size)) (by omega) _ _⟩
set_option maxHeartbeats 1600000 in
theorem sdiv_of (a b c d : Nat) (R : Int → Nat → Nat → Nat) (ra : sRt a b = true) (rb : sRt c d = true) (h0 : (sRt c d && finB 0 && leF c 0 && leF 0 d) = false) (h : ∀ m x y, (x = a ∨ x = b) → (y = c ∨ y = d) → Tells3 47 x y m (R m x y) ∧ R m x y < 18446744073709551616) (w : World) :
    Calls Tryd.prog 11 #[spV a b, spV c d] w fun e w' => e = .returned (.tuple #[spV (lsC R a b c d) (grC R a b c d), .int .i64 0]) ∧ Below w.heap.size w w' := by
  have hst := run_storef Tryd.prog
  have hs := squotient_of a b c d R h
  have hh := fun w => shas_any c d 0 (by omega) w
  rw [h0] at hh
  clear h h0
  go_enter Tryd.func11, Tryd.ntmps11
  go_wp2_with (first
    | (go_at_call 24; refine (sall_two a b c d _ _ (by go_simp) (by go_simp) (by go_simp) (by go_simp) (by go_simp)).mono ?_; rw [ra, rb]; rintro e w1 ⟨rfl, b1⟩; obtain ⟨a0, a1, _⟩ := ((((Bx.new _ _ _ _).alloc _).alloc _).alloc _).below b1; have D1 := (((Bx.new1 _ _ _ _ _).alloc _).alloc _).below b1; have A1 := ((((Bx.new _ _ _ _).alloc _).alloc _).alloc _).below b1; have d0 := D1.1; have d1 := D1.2.1; have R1 := ((Bx.new2 _ _ _ _ _ _).alloc _).below b1; have g0 := R1.1; have g1 := R1.2.1; have g2 := R1.2.2.1; have g3 := R1.2.2.2.1)
    | (go_at_call 23; refine (hh _).mono ?_; rintro e w2 ⟨rfl, b2⟩; obtain ⟨p0, p1, _⟩ := D1.below b2; obtain ⟨q0, q1, _⟩ := A1.below b2; have R2 := R1.below b2)
    | (go_at_call 30; refine (hs _).mono ?_; rintro e w3 ⟨rfl, b3⟩; obtain ⟨c0, c1, f0, f1, _⟩ := R2.below b3))
  have b4 := old1 (old3 b1)
  have b5 := b4.trans (b2.mono b4.size)
  exact bodyPost_ret (v := .tuple #[spV (lsC R a b c d) (grC R a b c d), .int .i64 0]) (by simp [results, Tryd.results11, go_sem, c0, c1]) rfl ⟨rfl, set2 (b5.trans (b3.mono b5.size)) (by omega) _ _⟩
end Go.Proofs.YtbhkgjjogepgnaaDoor

namespace Go.Proofs.YtbhkgjjogepgnaaDoor
open Go.RowKit

def mulQ (a b : Nat) : Nat := (floatBits .mul .f64 a b).getD 0
def mulE (a b : Nat) : Nat := (FloatKind.f64.format.fma a b (negW (mulQ a b))).getD 0
def mulR (m : Int) (a b : Nat) : Nat := stepF (mulQ a b) (signF (mulE a b)) m
def quoQ (a b : Nat) : Nat := (floatBits .quo .f64 a b).getD 0
def quoE (a b : Nat) : Nat := (FloatKind.f64.format.fma (negW (quoQ a b)) b a).getD 0
def quoR (m : Int) (a b : Nat) : Nat := stepF (quoQ a b) (signF (quoE a b)) m
theorem mul_at (a b : Nat) (m : Int) (ha : Nat.blt a 18446744073709551616 = true) (hb : Nat.blt b 18446744073709551616 = true) (sa : someB a = true) (sb : someB b = true) (hq : floatBits .mul .f64 a b = some (mulQ a b)) (hql : Nat.blt (mulQ a b) 18446744073709551616 = true)
    (hc : (FloatKind.f64.format.order (rung (negW (mulQ a b))) 553942754166571008 == some .lt) = false) (hf : FloatKind.f64.format.fma a b (negW (mulQ a b)) = some (mulE a b)) (hfl : Nat.blt (mulE a b) 18446744073709551616 = true) : Tells3 46 a b m (mulR m a b) ∧ mulR m a b < 18446744073709551616 := by
  have ha' : a < 18446744073709551616 := by simpa using ha
  have hb' : b < 18446744073709551616 := by simpa using hb
  have hq' : mulQ a b < 18446744073709551616 := by simpa using hql
  exact ⟨sprod_in a b _ m ha' hb' (some_rung sa).1 (some_rung sb).1 (fun w => rmul_great a b _ _ m ha' hb' sa sb hq hq' hc hf (by simpa using hfl) w), stepF_lt _ _ hq'⟩
theorem quo_at (a b : Nat) (m : Int) (ha : Nat.blt a 18446744073709551616 = true) (hb : Nat.blt b 18446744073709551616 = true) (sa : someB a = true) (sb : someB b = true) (hq : floatBits .quo .f64 a b = some (quoQ a b)) (hql : Nat.blt (quoQ a b) 18446744073709551616 = true)
    (hc : (FloatKind.f64.format.order (rung a) 553942754166571008 == some .lt) = false) (hf : FloatKind.f64.format.fma (negW (quoQ a b)) b a = some (quoE a b)) (hfl : Nat.blt (quoE a b) 18446744073709551616 = true) (hb0 : (FloatKind.f64.format.order b 0 == some .lt) = false) : Tells3 47 a b m (quoR m a b) ∧ quoR m a b < 18446744073709551616 := by
  have ha' : a < 18446744073709551616 := by simpa using ha
  have hb' : b < 18446744073709551616 := by simpa using hb
  have hq' : quoQ a b < 18446744073709551616 := by simpa using hql
  exact ⟨squot_in a b _ m ha' (some_rung sa).1 (fun w => rdiv_great a b _ _ m ha' hb' sa sb hq hq' hc hf (by simpa using hfl) hb0 w), stepF_lt _ _ hq'⟩
theorem bstep {w a b : World} {o : Obj} (h : Below w.heap.size w a) (hb : Below (a.alloc o).heap.size (a.alloc o) b) : Below w.heap.size w b := h.trans ((old1 hb).mono h.size)
theorem aw5_add (w : World) : Calls Tryd.prog 8 #[spV 4607182418800017408 4611686018427387904, spV 4591870180066957722 4591870180066957722] w fun e w' => e = .returned (.tuple #[spV 4607632778762754457 4611911198408756429, .int .i64 0]) ∧ Below w.heap.size w w' := by
  refine sadd_of _ _ _ _ _ _ (by kernel_rfl) (by kernel_rfl) (fun w => ?_) (fun w => ?_) w
  · have h := radd_gen 4607182418800017408 4591870180066957722 1 (by omega) (by omega) (by kernel_rfl) (by kernel_rfl) w
    rw [show addV 4607182418800017408 4591870180066957722 1 = 4607632778762754457 by kernel_rfl] at h
    exact h
  · have h := radd_gen 4611686018427387904 4591870180066957722 2 (by omega) (by omega) (by kernel_rfl) (by kernel_rfl) w
    rw [show addV 4611686018427387904 4591870180066957722 2 = 4611911198408756429 by kernel_rfl] at h
    exact h
theorem aw5_mul (w : World) : Calls Tryd.prog 9 #[spV 13830554455654793216 4611686018427387904, spV 4613937818241073152 4616189618054758400] w fun e w' => e = .returned (.tuple #[spV 13839561654909534208 4620693217682128896, .int .i64 0]) ∧ Below w.heap.size w w' := by
  have h := smul_of 13830554455654793216 4611686018427387904 4613937818241073152 4616189618054758400 mulR (by kernel_rfl) (by kernel_rfl) (fun m x y hx hy => by
    rcases hx with rfl | rfl <;> rcases hy with rfl | rfl <;> exact mul_at _ _ m (by kernel_rfl) (by kernel_rfl) (by kernel_rfl) (by kernel_rfl) (by kernel_rfl) (by kernel_rfl) (by kernel_rfl) (by kernel_rfl) (by kernel_rfl)) w
  rw [show lsC mulR 13830554455654793216 4611686018427387904 4613937818241073152 4616189618054758400 = 13839561654909534208 by kernel_rfl, show grC mulR 13830554455654793216 4611686018427387904 4613937818241073152 4616189618054758400 = 4620693217682128896 by kernel_rfl] at h
  exact h
theorem aw5_div (w : World) : Calls Tryd.prog 11 #[spV 4607182418800017408 4607182418800017408, spV 4613937818241073152 4613937818241073152] w fun e w' => e = .returned (.tuple #[spV 4599676419421066581 4599676419421066582, .int .i64 0]) ∧ Below w.heap.size w w' := by
  have h := sdiv_of 4607182418800017408 4607182418800017408 4613937818241073152 4613937818241073152 quoR (by kernel_rfl) (by kernel_rfl) (by kernel_rfl) (fun m x y hx hy => by
    have hx' : x = 4607182418800017408 := by rcases hx with h | h <;> exact h
    have hy' : y = 4613937818241073152 := by rcases hy with h | h <;> exact h
    subst hx' hy'
    exact quo_at _ _ m (by kernel_rfl) (by kernel_rfl) (by kernel_rfl) (by kernel_rfl) (by kernel_rfl) (by kernel_rfl) (by kernel_rfl) (by kernel_rfl) (by kernel_rfl) (by kernel_rfl)) w
  rw [show lsC quoR 4607182418800017408 4607182418800017408 4613937818241073152 4613937818241073152 = 4599676419421066581 by kernel_rfl, show grC quoR 4607182418800017408 4607182418800017408 4613937818241073152 4613937818241073152 = 4599676419421066582 by kernel_rfl] at h
  exact h
theorem aw5_eql (w : World) : (binOp .eql 24 (.agg #[.float .f64 13839561654909534208, .float .f64 4620693217682128896]) (.agg #[.float .f64 13839561654909534208, .float .f64 4620693217682128896])).run Tryd.prog w = .ok (.bool true) w := by
  kernel_rfl
set_option maxRecDepth 100000 in
set_option maxHeartbeats 400000 in
theorem sawake (w : World) :
    Calls Tryd.prog 5 #[] w fun e w' => e = .returned (.bool true) ∧ Below w.heap.size w w' := by
  have hst := run_storef Tryd.prog
  have heq := aw5_eql
  have mk := fun w => smake_any 4607182418800017408 4611686018427387904 (by omega) (by omega) w
  rw [show nanB 4607182418800017408 = false by decide, show nanB 4611686018427387904 = false by decide, show sRt 4607182418800017408 4611686018427387904 = true by kernel_rfl] at mk
  simp only [Bool.or_self, Bool.false_eq_true, if_false, if_true] at mk
  have dz := fun w => sdiv_zero 4607182418800017408 4611686018427387904 0 4607182418800017408 (by kernel_rfl) (by kernel_rfl) (by kernel_rfl) w
  have s2 := fun w => shas_any 4607182418800017408 4611686018427387904 4611686018427387904 (by omega) w
  rw [show (sRt 4607182418800017408 4611686018427387904 && finB 4611686018427387904 && leF 4607182418800017408 4611686018427387904 && leF 4611686018427387904 4611686018427387904) = true by kernel_rfl] at s2
  have s3 := fun w => shas_any 4607182418800017408 4611686018427387904 4613937818241073152 (by omega) w
  rw [show (sRt 4607182418800017408 4611686018427387904 && finB 4613937818241073152 && leF 4607182418800017408 4613937818241073152 && leF 4613937818241073152 4611686018427387904) = false by kernel_rfl] at s3
  have o1 : (FloatKind.f64.format.order 4607632778762754457 4607632778762754458 == some .lt || FloatKind.f64.format.order 4607632778762754457 4607632778762754458 == some .eq) = true := by kernel_rfl
  have o2 : (FloatKind.f64.format.order 4611911198408756429 4611911198408756429 == some .gt || FloatKind.f64.format.order 4611911198408756429 4611911198408756429 == some .eq) = true := by kernel_rfl
  have o3 : (FloatKind.f64.format.order 4599676419421066581 4599676419421066582 == some .lt) = true := by kernel_rfl
  have o4 : (FloatKind.f64.format.order 13839561654909534208 13839561654909534208 == some .eq) = true := by kernel_rfl
  have o5 : (FloatKind.f64.format.order 4620693217682128896 4620693217682128896 == some .eq) = true := by kernel_rfl
  go_enter Tryd.func5, Tryd.ntmps5
  go_upto_region 2 with (go_at_call 22; refine (mk _).mono ?_; rintro e w1 ⟨rfl, b1⟩)
  go_upto_region 3 with (go_at_call 8; refine (aw5_add _).mono ?_; rintro e w2 ⟨rfl, b2⟩; have A2 := (Bx.new w1 _ _ _).below b2)
  go_upto_region 4 with (go_at_call 9; refine (aw5_mul _).mono ?_; rintro e w3 ⟨rfl, b3⟩; have A3 := (A2.alloc _).below b3; have B3 := (Bx.new w2 _ _ _).below b3; obtain ⟨a0, a1, _⟩ := A3.alloc (.cells #[.float .f64 13839561654909534208, .float .f64 4620693217682128896] 24))
  go_upto_region 5 with (go_at_call 11; refine (dz _).mono ?_; rintro e w4 ⟨rfl, b4⟩; have A4 := (A3.alloc _).below b4; have B4 := (B3.alloc _).below b4; have C4 := (Bx.new w3 _ _ _).below b4)
  go_upto_region 6 with (go_at_call 11; refine (aw5_div _).mono ?_; rintro e w5 ⟨rfl, b5⟩; have A5 := (A4.alloc _).below b5; have B5 := (B4.alloc _).below b5; have C5 := (C4.alloc _).below b5)
  clear mk dz A2 A3 A4 B3 B4 C4 a0 a1
  obtain ⟨x0, x1, _⟩ := A5.alloc (.cells #[.float .f64 4599676419421066581, .float .f64 4599676419421066582] 24)
  obtain ⟨y0, y1, _⟩ := B5.alloc (.cells #[.float .f64 4599676419421066581, .float .f64 4599676419421066582] 24)
  obtain ⟨z0, z1, _⟩ := C5.alloc (.cells #[.float .f64 4599676419421066581, .float .f64 4599676419421066582] 24)
  go_wp2_with (first
    | (go_at_call_of 23 (Value.float FloatKind.f64 4613937818241073152); refine (s3 _).mono ?_; rintro e w7 ⟨rfl, b7⟩)
    | (go_at_call_of 23 (Value.float FloatKind.f64 4611686018427387904); refine (s2 _).mono ?_; rintro e w6 ⟨rfl, b6⟩; obtain ⟨u0, u1, _⟩ := (A5.alloc _).below b6))
  go_ret
  exact ⟨rfl, (bstep (bstep (bstep (bstep (bstep b1 b2) b3) b4) b5) b6).trans (b7.mono (bstep (bstep (bstep (bstep (bstep b1 b2) b3) b4) b5) b6).size)⟩
end Go.Proofs.YtbhkgjjogepgnaaDoor

namespace Go.Proofs.YtbhkgjjogepgnaaDoor
open Go.RowKit

theorem leF_num {a b : Nat} (ha : a < 18446744073709551616) (hb : b < 18446744073709551616) (na : nanB a = false) (nb : nanB b = false) : leF a b = decide (place a ≤ place b) := by
  unfold leF
  rw [lt_num ha hb na nb, eq_num ha hb na nb, Bool.eq_iff_iff]; simp; omega
theorem geF_num {a b : Nat} (ha : a < 18446744073709551616) (hb : b < 18446744073709551616) (na : nanB a = false) (nb : nanB b = false) : geF a b = decide (place b ≤ place a) := by
  unfold geF
  rw [gt_num ha hb na nb, eq_num ha hb na nb, Bool.eq_iff_iff]; simp; omega
theorem leF_nan {a b : Nat} (ha : a < 18446744073709551616) (hb : b < 18446744073709551616) (h : nanB a = true ∨ nanB b = true) : leF a b = false := by
  unfold leF; rw [ord_nan ha hb h]; rfl
/-- A right span, as the document says it. -/
theorem sRt_doc {l h : Nat} (hl : l < 18446744073709551616) (hh : h < 18446744073709551616) (nl : nanB l = false) (nh : nanB h = false) :
    sRt l h = (!decide (place h < place l) && ((finB l || decide (place l < 0)) && (finB h || decide (0 < place h)))) := by
  unfold sRt
  rw [leF_num hl hh nl nh, leF_num hl (by omega) nl (by decide), geF_num hh (by omega) nh (by decide), show place 9218868437227405311 = 9218868437227405311 by decide, show place 18442240474082181119 = -9218868437227405311 by decide]
  have rl : rung l ≤ 9218868437227405312 := by unfold nanB at nl; simpa using nl
  have rh : rung h ≤ 9218868437227405312 := by unfold nanB at nh; simpa using nh
  unfold place finB
  rw [Bool.eq_iff_iff]
  cases sgn l <;> cases sgn h <;> simp <;> omega
theorem sRt_nan {l h : Nat} (hl : l < 18446744073709551616) (hh : h < 18446744073709551616) (hn : nanB l = true ∨ nanB h = true) : sRt l h = false := by
  unfold sRt; rw [leF_nan hl hh hn]; rfl
end Go.Proofs.YtbhkgjjogepgnaaDoor
