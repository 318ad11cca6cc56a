/- What span's Right, finite, allRight (of two), Has, Make answer, call by call. -/
import Derived.Test.YtmgdkadkokpapaaDoorSx
import Derived.Deep.DeepCutAuto
import Derived.Deep.LoopGhost
namespace Go.Proofs.YtmgdkadkokpapaaDoor
open Go.RowKit

def leF (a b : Nat) : Bool := FloatKind.f64.format.order a b == some .lt || FloatKind.f64.format.order a b == some .eq
def geF (a b : Nat) : Bool := FloatKind.f64.format.order a b == some .gt || FloatKind.f64.format.order a b == some .eq
/-- A right span. -/
def sRt (l h : Nat) : Bool := leF l h && leF l 9218868437227405311 && geF h 18442240474082181119
abbrev spV (l h : Nat) : Value := .agg #[.float .f64 l, .float .f64 h]
theorem ep_bool {a b : Bool} (h : a = b) : Ending.returned (.bool a) = .returned (.bool b) := by subst h; rfl
set_option maxHeartbeats 400000 in
theorem sfin_any (a : Nat) (ha : a < 18446744073709551616) (w : World) :
    Calls Tryd.prog 29 #[.float .f64 a] w fun e w' => e = .returned (.bool (finB a)) ∧ w' = w := by
  go_enter Tryd.func29, Tryd.ntmps29
  go_wp2_with (go_at_call 50; refine (abs_any _ (by assumption) _).mono ?_; rintro e w' ⟨rfl, rfl⟩)
  go_ret
  exact ⟨end_bool (fin_le a), rfl⟩
set_option maxHeartbeats 400000 in
theorem sright_any (l h : Nat) (w : World) :
    Calls Tryd.prog 11 #[spV l h] w fun e w' => e = .returned (.bool (sRt l h)) ∧ Below w.heap.size w w' := by
  have HE : Hid (sRt l h = (leF l h && leF l 9218868437227405311 && geF h 18442240474082181119)) := rfl
  have hend : ∀ o1, Below w.heap.size w (w.alloc o1) := fun o1 => (Below.refl _ _).alloc (Nat.le_refl _) o1
  have e1 : (FloatKind.f64.format.order l h == some .lt || FloatKind.f64.format.order l h == some .eq) = leF l h := rfl
  have e2 : (FloatKind.f64.format.order l 9218868437227405311 == some .lt || FloatKind.f64.format.order l 9218868437227405311 == some .eq) = leF l 9218868437227405311 := rfl
  have e3 : (FloatKind.f64.format.order h 18442240474082181119 == some .gt || FloatKind.f64.format.order h 18442240474082181119 == some .eq) = geF h 18442240474082181119 := rfl
  cases c1 : leF l h <;> cases c2 : leF l 9218868437227405311 <;> cases c3 : geF h 18442240474082181119 <;> rw [c1] at e1 <;> rw [c2] at e2 <;> rw [c3] at e3 <;>
    (go_enter Tryd.func11, Tryd.ntmps11
     go_wp2
     go_ret
     exact ⟨ep_bool (by rw [HE.out, c1, c2, c3]; rfl), hend _⟩)
/-- A box of two cells that may be written. -/
def Bx (w : World) (b : Nat) (x y : Value) : Prop := w.cell? ⟨b, 0, none⟩ = some x ∧ w.cell? ⟨b, 1, none⟩ = some y ∧ w.frozen? ⟨b, 0, none⟩ = false ∧ w.frozen? ⟨b, 1, none⟩ = false ∧ b < w.heap.size
theorem Bx.below {w w1 : World} {b : Nat} {x y : Value} (h : Bx w b x y) (hb : Below w.heap.size w w1) : Bx w1 b x y := by
  obtain ⟨h1, h2, h3, h4, h5⟩ := h
  obtain ⟨hc, hf⟩ := oldc hb
  exact ⟨by rw [hc _ _ h5]; exact h1, by rw [hc _ _ h5]; exact h2, by rw [hf _ _ h5]; exact h3, by rw [hf _ _ h5]; exact h4, Nat.lt_of_lt_of_le h5 hb.size⟩
theorem Bx.alloc {w : World} {b : Nat} {x y : Value} (h : Bx w b x y) (o : Obj) : Bx (w.alloc o) b x y := h.below ((Below.refl _ _).alloc (Nat.le_refl _) o)
theorem Bx.drew {w : World} {b : Nat} {x y : Value} (h : Bx w b x y) : Bx w.drew b x y := h
theorem Bx.new (w : World) (x y : Value) (t : TypeId) : Bx (w.alloc (.cells #[x, y] t)) w.heap.size x y := by
  refine ⟨?_, ?_, ?_, ?_, ?_⟩ <;> go_simp
theorem Bx.new1 (w : World) (x y : Value) (o : Obj) (t : TypeId) : Bx ((w.alloc o).alloc (.cells #[x, y] t)) (w.heap.size + 1) x y := by
  have h := Bx.new (w.alloc o) x y t
  have e : (w.alloc o).heap.size = w.heap.size + 1 := by go_simp
  rw [e] at h
  exact h
theorem Bx.new2 (w : World) (x y : Value) (o p : Obj) (t : TypeId) : Bx (((w.alloc o).alloc p).alloc (.cells #[x, y] t)) (w.heap.size + 1 + 1) x y := by
  have h := Bx.new1 (w.alloc o) x y p t
  have e : (w.alloc o).heap.size = w.heap.size + 1 := by go_simp
  rw [e] at h
  exact h
theorem Bx.put {w : World} {b : Nat} {x y : Value} (h : Bx w b x y) (u v : Value) : Bx ((w.setCell ⟨b, 0, none⟩ u).setCell ⟨b, 1, none⟩ v) b u v := by
  obtain ⟨h1, h2, h3, h4, h5⟩ := h
  have e1 : (w.setCell ⟨b, 0, none⟩ u).cell? ⟨b, 0, none⟩ = some u := World.cell?_setCell_same w _ u h1
  have e2 : (w.setCell ⟨b, 0, none⟩ u).cell? ⟨b, 1, none⟩ = some y := (World.cell?_setCell_other w _ _ u (by simp)).trans h2
  refine ⟨(World.cell?_setCell_other _ _ _ v (by simp)).trans e1, World.cell?_setCell_same _ _ v e2, ?_, ?_, ?_⟩
  · simp [go_sem, h3]
  · simp [go_sem, h4]
  · simp [go_sem]; exact h5
theorem Bx.other {w : World} {b c : Nat} {x y : Value} (h : Bx w b x y) (hc : b ≠ c) (u v : Value) : Bx ((w.setCell ⟨c, 0, none⟩ u).setCell ⟨c, 1, none⟩ v) b x y := by
  obtain ⟨h1, h2, h3, h4, h5⟩ := h
  have n : ∀ o p, (⟨b, o, none⟩ : Addr) ≠ ⟨c, p, none⟩ := fun o p e => hc (by cases e; rfl)
  have n' : ∀ o p, (⟨c, p, none⟩ : Addr) ≠ ⟨b, o, none⟩ := fun o p e => hc (by cases e; rfl)
  refine ⟨?_, ?_, ?_, ?_, ?_⟩
  · exact (World.cell?_setCell_other _ _ _ v (by first | exact n _ _ | exact n' _ _)).trans ((World.cell?_setCell_other _ _ _ u (by first | exact n _ _ | exact n' _ _)).trans h1)
  · exact (World.cell?_setCell_other _ _ _ v (by first | exact n _ _ | exact n' _ _)).trans ((World.cell?_setCell_other _ _ _ u (by first | exact n _ _ | exact n' _ _)).trans h2)
  · simp [go_sem, h3]
  · simp [go_sem, h4]
  · simp [go_sem]; exact h5
theorem old1 {w w1 : World} {o : Obj} (hb : Below (w.alloc o).heap.size (w.alloc o) w1) : Below w.heap.size w w1 :=
  ((Below.refl _ _).alloc (Nat.le_refl _) o).trans (hb.mono (by go_simp))
theorem old2 {w w1 : World} {o p : Obj} (hb : Below ((w.alloc o).alloc p).heap.size ((w.alloc o).alloc p) w1) : Below w.heap.size w w1 := old1 (old1 hb)
theorem old3 {w w1 : World} {o p q : Obj} (hb : Below (((w.alloc o).alloc p).alloc q).heap.size (((w.alloc o).alloc p).alloc q) w1) : Below w.heap.size w w1 := old1 (old2 hb)
theorem set2 {w w1 : World} {b : Nat} (hb : Below w.heap.size w w1) (h : w.heap.size ≤ b) (x y : Value) : Below w.heap.size w ((w1.setCell ⟨b, 0, none⟩ x).setCell ⟨b, 1, none⟩ y) := (hb.setCell h _).setCell h _
theorem ep_two {a b c d : Nat} {m n : Int} (h1 : a = c) (h2 : b = d) (h3 : m = n) : Ending.returned (.tuple #[spV a b, .int .i64 m]) = .returned (.tuple #[spV c d, .int .i64 n]) := by subst h1 h2 h3; rfl
/-- A float is stored. -/
theorem run_storef (P : Program) (a : Addr) (k : FloatKind) (b : Nat) (m : Mode) (w : World) : (store a (.float k b) m).run P w = stored P w a (.float k b) m := run_store P w a _ m rfl
set_option maxHeartbeats 800000 in
theorem smake_any (l u : Nat) (hl : l < 18446744073709551616) (hu : u < 18446744073709551616) (w : World) :
    Calls Tryd.prog 6 #[.float .f64 l, .float .f64 u] w fun e w' => e = .returned (.tuple #[if nanB l || nanB u then spV 0 0 else if sRt l u then spV l u else spV 0 0, .int .i64 (if nanB l || nanB u then 5 else if sRt l u then 0 else 2)]) ∧ Below w.heap.size w w' := by
  have ca := isnan_any l hl
  have cb := isnan_any u hu
  have hb := fun w => sright_any l u w
  have hst := run_storef Tryd.prog
  have hal : ∀ o p, Below w.heap.size w ((w.alloc o).alloc p) := fun o p => ((Below.refl _ _).alloc (Nat.le_refl _) _).alloc (by simp) _
  cases na : nanB l <;> rw [na] at ca
  · cases nb : nanB u <;> rw [nb] at cb
    · cases hr : sRt l u <;> rw [hr] at hb
      · go_enter Tryd.func6, Tryd.ntmps6
        go_wp2_with (first
          | (go_at_call_of 28 (Value.float FloatKind.f64 l); refine (ca _).mono ?_; rintro e w' ⟨rfl, rfl⟩)
          | (go_at_call_of 28 (Value.float FloatKind.f64 u); refine (cb _).mono ?_; rintro e w' ⟨rfl, rfl⟩)
          | (go_at_call 11; refine (hb _).mono ?_; rintro e w1 ⟨rfl, b1⟩; obtain ⟨c0, c1, f0, f1, _⟩ := ((Bx.new _ _ _ _).alloc _).below b1; obtain ⟨d0, d1, _⟩ := (Bx.new1 _ _ _ _ _).below b1))
        exact bodyPost_ret (v := .tuple #[spV 0 0, .int .i64 2]) (by simp [results, Tryd.results6, go_sem, c0, c1]) rfl ⟨rfl, set2 (old2 b1) (Nat.le_refl _) _ _⟩
      · go_enter Tryd.func6, Tryd.ntmps6
        go_wp2_with (first
          | (go_at_call_of 28 (Value.float FloatKind.f64 l); refine (ca _).mono ?_; rintro e w' ⟨rfl, rfl⟩)
          | (go_at_call_of 28 (Value.float FloatKind.f64 u); refine (cb _).mono ?_; rintro e w' ⟨rfl, rfl⟩)
          | (go_at_call 11; refine (hb _).mono ?_; rintro e w1 ⟨rfl, b1⟩; obtain ⟨c0, c1, f0, f1, _⟩ := ((Bx.new _ _ _ _).alloc _).below b1; obtain ⟨d0, d1, _⟩ := (Bx.new1 _ _ _ _ _).below b1))
        exact bodyPost_ret (v := .tuple #[spV l u, .int .i64 0]) (by simp [results, Tryd.results6, go_sem, c0, c1]) rfl ⟨rfl, set2 (old2 b1) (Nat.le_refl _) _ _⟩
    · go_enter Tryd.func6, Tryd.ntmps6
      go_wp2_with (first
        | (go_at_call_of 28 (Value.float FloatKind.f64 l); refine (ca _).mono ?_; rintro e w' ⟨rfl, rfl⟩)
        | (go_at_call_of 28 (Value.float FloatKind.f64 u); refine (cb _).mono ?_; rintro e w' ⟨rfl, rfl⟩))
      exact bodyPost_ret (v := .tuple #[spV 0 0, .int .i64 5]) (by simp [results, Tryd.results6, go_sem]) rfl ⟨rfl, hal _ _⟩
  · go_enter Tryd.func6, Tryd.ntmps6
    go_wp2_with (first
      | (go_at_call_of 28 (Value.float FloatKind.f64 l); refine (ca _).mono ?_; rintro e w' ⟨rfl, rfl⟩))
    exact bodyPost_ret (v := .tuple #[spV 0 0, .int .i64 5]) (by simp [results, Tryd.results6, go_sem]) rfl ⟨rfl, hal _ _⟩
set_option maxHeartbeats 800000 in
theorem shas_any (l h x : Nat) (hx : x < 18446744073709551616) (w : World) :
    Calls Tryd.prog 24 #[spV l h, .float .f64 x] w fun e w' => e = .returned (.bool (sRt l h && finB x && leF l x && leF x h)) ∧ Below w.heap.size w w' := by
  have hb := fun w => sright_any l h w
  have cf := sfin_any x hx
  have e1 : (FloatKind.f64.format.order l x == some .lt || FloatKind.f64.format.order l x == some .eq) = leF l x := rfl
  have e2 : (FloatKind.f64.format.order x h == some .lt || FloatKind.f64.format.order x h == some .eq) = leF x h := rfl
  cases c1 : sRt l h <;> rw [c1] at hb
  · go_enter Tryd.func24, Tryd.ntmps24
    go_wp2_with (first
      | (go_at_call 11; refine (hb _).mono ?_; rintro e w1 ⟨rfl, b1⟩; obtain ⟨c0, c1, f0, f1, _⟩ := (Bx.new _ _ _ _).below b1)
      | (go_at_call 29; refine (cf _).mono ?_; rintro e w' ⟨rfl, rfl⟩))
    go_ret
    exact ⟨rfl, old1 b1⟩
  · cases c2 : finB x <;> rw [c2] at cf <;> cases c3 : leF l x <;> rw [c3] at e1 <;> cases c4 : leF x h <;> rw [c4] at e2 <;>
      (go_enter Tryd.func24, Tryd.ntmps24
       go_wp2_with (first
         | (go_at_call 11; refine (hb _).mono ?_; rintro e w1 ⟨rfl, b1⟩; obtain ⟨c0, c1, f0, f1, _⟩ := (Bx.new _ _ _ _).below b1)
         | (go_at_call 29; refine (cf _).mono ?_; rintro e w' ⟨rfl, rfl⟩))
       go_ret
       exact ⟨rfl, old1 b1⟩)
/-- Two spans in a list. -/
def twoS (a b c d : Nat) : Obj := .cells #[.float .f64 a, .float .f64 b, .float .f64 c, .float .f64 d] 25
theorem two_cells (W : World) (a b c d : Nat) : (W.alloc (twoS a b c d)).cell? ⟨W.heap.size, 0, none⟩ = some (.float .f64 a) ∧ (W.alloc (twoS a b c d)).cell? ⟨W.heap.size, 1, none⟩ = some (.float .f64 b) ∧ (W.alloc (twoS a b c d)).cell? ⟨W.heap.size, 2, none⟩ = some (.float .f64 c) ∧ (W.alloc (twoS a b c d)).cell? ⟨W.heap.size, 3, none⟩ = some (.float .f64 d) := by
  refine ⟨?_, ?_, ?_, ?_⟩ <;> simp [twoS, go_sem]
set_option maxHeartbeats 2000000 in
theorem sall_two (a b c d B : Nat) (w : World) (h0 : w.cell? ⟨B, 0, none⟩ = some (.float .f64 a)) (h1 : w.cell? ⟨B, 1, none⟩ = some (.float .f64 b)) (h2 : w.cell? ⟨B, 2, none⟩ = some (.float .f64 c)) (h3 : w.cell? ⟨B, 3, none⟩ = some (.float .f64 d)) (hB : B < w.heap.size) :
    Calls Tryd.prog 32 #[.slice (some ⟨B, 0, none⟩) 2 2] w fun e w' => e = .returned (.bool (sRt a b && sRt c d)) ∧ Below w.heap.size w w' := by
  have r1 := fun w => sright_any a b w
  have r2 := fun w => sright_any c d w
  have hst := run_storef Tryd.prog
  cases q1 : sRt a b <;> rw [q1] at r1
  · go_enter Tryd.func32, Tryd.ntmps32
    go_wp2
    go_loopg [4, 7] 2 (fun g _ c wr => g = 2 ∧ c = .int .i64 0 ∧ wr = w)
    case atStart => exact ⟨rfl, rfl, rfl⟩
    case round =>
      obtain ⟨_, rfl, rfl⟩ := hrel
      go_wp2_with (go_at_call 11; refine (r1 _).mono ?_; rintro e w1 ⟨rfl, b1⟩)
      go_ret
      exact ⟨rfl, old1 b1⟩
  · cases q2 : sRt c d <;> rw [q2] at r2
    all_goals
      go_enter Tryd.func32, Tryd.ntmps32
      go_wp2
      go_loopg [4, 7] 2 (fun g _ v wr => ∃ k : Nat, k ≤ 2 ∧ g = 2 - k ∧ v = .int .i64 k ∧ (k = 2 → sRt c d = true) ∧ Below w.heap.size w wr)
      case atStart => exact ⟨0, by omega, rfl, rfl, fun h => by omega, Below.refl _ _⟩
      case round =>
        obtain ⟨k, hk, hg, rfl, hq, hbr⟩ := hrel
        obtain ⟨hc, _⟩ := oldc hbr
        have g0 := (hc _ 0 hB).trans h0
        have g1 := (hc _ 1 hB).trans h1
        have g2 := (hc _ 2 hB).trans h2
        have g3 := (hc _ 3 hB).trans h3
        have HG : Hid (gk = 2 - k) := hg
        clear hg hc
        rcases (show k = 0 ∨ k = 1 ∨ k = 2 by omega) with rfl | rfl | rfl
        · go_wp2_with (go_at_call 11; refine (r1 _).mono ?_; rintro e w1 ⟨rfl, b1⟩)
          go_roundg 1
          case measure => rw [HG.out]; omega
          case rel => exact ⟨1, by omega, rfl, rfl, fun h => by omega, hbr.trans ((old1 b1).mono hbr.size)⟩
        · go_wp2_with (go_at_call 11; refine (r2 _).mono ?_; rintro e w1 ⟨rfl, b1⟩)
          first
          | (go_ret
             exact ⟨rfl, hbr.trans ((old1 b1).mono hbr.size)⟩)
          | (go_roundg 0
             case measure => rw [HG.out]; omega
             case rel => exact ⟨2, by omega, rfl, rfl, fun _ => q2, hbr.trans ((old1 b1).mono hbr.size)⟩)
        · have hq2 := hq rfl
          first
          | (rw [q2] at hq2; cases hq2; done)
          | (go_wp2
             go_ret
             exact ⟨rfl, hbr⟩)
end Go.Proofs.YtmgdkadkokpapaaDoor
