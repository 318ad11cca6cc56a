/- What span's Of, the document's finite, Right, Make, Of, and the law's told answer. -/
import Derived.Test.YtlhoidkfphellaaDoorSx
import Derived.Deep.DeepCutAuto
import Derived.Deep.LoopGhost
import Derived.Deep.RegionHeld3
import Derived.BigQuiet
import Derived.Deep.QuietTactic
import Derived.Test.YtlhoidkfphellaaDoorWj
namespace Go.Proofs.YtlhoidkfphellaaDoor
open Go.RowKit

def leF (a b : Nat) : Bool := FloatKind.f64.format.order a b == some .lt || FloatKind.f64.format.order a b == some .eq
def geF (a b : Nat) : Bool := FloatKind.f64.format.order a b == some .gt || FloatKind.f64.format.order a b == some .eq
/-- A right span. -/
def sRt (l h : Nat) : Bool := leF l h && leF l 9218868437227405311 && geF h 18442240474082181119
abbrev spV (l h : Nat) : Value := .agg #[.float .f64 l, .float .f64 h]
theorem ep_bool {a b : Bool} (h : a = b) : Ending.returned (.bool a) = .returned (.bool b) := by subst h; rfl
set_option maxHeartbeats 400000 in
theorem sright_any (l h : Nat) (w : World) :
    Calls Tryd.prog 54 #[spV l h] w fun e w' => e = .returned (.bool (sRt l h)) ∧ Below w.heap.size w w' := by
  have HE : Hid (sRt l h = (leF l h && leF l 9218868437227405311 && geF h 18442240474082181119)) := rfl
  have hend : ∀ o1, Below w.heap.size w (w.alloc o1) := fun o1 => (Below.refl _ _).alloc (Nat.le_refl _) o1
  have e1 : (FloatKind.f64.format.order l h == some .lt || FloatKind.f64.format.order l h == some .eq) = leF l h := rfl
  have e2 : (FloatKind.f64.format.order l 9218868437227405311 == some .lt || FloatKind.f64.format.order l 9218868437227405311 == some .eq) = leF l 9218868437227405311 := rfl
  have e3 : (FloatKind.f64.format.order h 18442240474082181119 == some .gt || FloatKind.f64.format.order h 18442240474082181119 == some .eq) = geF h 18442240474082181119 := rfl
  cases c1 : leF l h <;> cases c2 : leF l 9218868437227405311 <;> cases c3 : geF h 18442240474082181119 <;> rw [c1] at e1 <;> rw [c2] at e2 <;> rw [c3] at e3 <;>
    (go_enter Tryd.func54, Tryd.ntmps54
     go_wp2
     go_ret
     exact ⟨ep_bool (by rw [HE.out, c1, c2, c3]; rfl), hend _⟩)
/-- A box of two cells that may be written. -/
def Bx (w : World) (b : Nat) (x y : Value) : Prop := w.cell? ⟨b, 0, none⟩ = some x ∧ w.cell? ⟨b, 1, none⟩ = some y ∧ w.frozen? ⟨b, 0, none⟩ = false ∧ w.frozen? ⟨b, 1, none⟩ = false ∧ b < w.heap.size
theorem Bx.below {w w1 : World} {b : Nat} {x y : Value} (h : Bx w b x y) (hb : Below w.heap.size w w1) : Bx w1 b x y := by
  obtain ⟨h1, h2, h3, h4, h5⟩ := h
  obtain ⟨hc, hf⟩ := oldc hb
  exact ⟨by rw [hc _ _ h5]; exact h1, by rw [hc _ _ h5]; exact h2, by rw [hf _ _ h5]; exact h3, by rw [hf _ _ h5]; exact h4, Nat.lt_of_lt_of_le h5 hb.size⟩
theorem Bx.alloc {w : World} {b : Nat} {x y : Value} (h : Bx w b x y) (o : Obj) : Bx (w.alloc o) b x y := h.below ((Below.refl _ _).alloc (Nat.le_refl _) o)
theorem Bx.drew {w : World} {b : Nat} {x y : Value} (h : Bx w b x y) : Bx w.drew b x y := h
theorem Bx.new (w : World) (x y : Value) (t : TypeId) : Bx (w.alloc (.cells #[x, y] t)) w.heap.size x y := by
  refine ⟨?_, ?_, ?_, ?_, ?_⟩ <;> go_simp
theorem Bx.new1 (w : World) (x y : Value) (o : Obj) (t : TypeId) : Bx ((w.alloc o).alloc (.cells #[x, y] t)) (w.heap.size + 1) x y := by
  have h := Bx.new (w.alloc o) x y t
  have e : (w.alloc o).heap.size = w.heap.size + 1 := by go_simp
  rw [e] at h
  exact h
theorem Bx.new2 (w : World) (x y : Value) (o p : Obj) (t : TypeId) : Bx (((w.alloc o).alloc p).alloc (.cells #[x, y] t)) (w.heap.size + 1 + 1) x y := by
  have h := Bx.new1 (w.alloc o) x y p t
  have e : (w.alloc o).heap.size = w.heap.size + 1 := by go_simp
  rw [e] at h
  exact h
theorem Bx.put {w : World} {b : Nat} {x y : Value} (h : Bx w b x y) (u v : Value) : Bx ((w.setCell ⟨b, 0, none⟩ u).setCell ⟨b, 1, none⟩ v) b u v := by
  obtain ⟨h1, h2, h3, h4, h5⟩ := h
  have e1 : (w.setCell ⟨b, 0, none⟩ u).cell? ⟨b, 0, none⟩ = some u := World.cell?_setCell_same w _ u h1
  have e2 : (w.setCell ⟨b, 0, none⟩ u).cell? ⟨b, 1, none⟩ = some y := (World.cell?_setCell_other w _ _ u (by simp)).trans h2
  refine ⟨(World.cell?_setCell_other _ _ _ v (by simp)).trans e1, World.cell?_setCell_same _ _ v e2, ?_, ?_, ?_⟩
  · simp [go_sem, h3]
  · simp [go_sem, h4]
  · simp [go_sem]; exact h5
theorem Bx.other {w : World} {b c : Nat} {x y : Value} (h : Bx w b x y) (hc : b ≠ c) (u v : Value) : Bx ((w.setCell ⟨c, 0, none⟩ u).setCell ⟨c, 1, none⟩ v) b x y := by
  obtain ⟨h1, h2, h3, h4, h5⟩ := h
  have n : ∀ o p, (⟨b, o, none⟩ : Addr) ≠ ⟨c, p, none⟩ := fun o p e => hc (by cases e; rfl)
  have n' : ∀ o p, (⟨c, p, none⟩ : Addr) ≠ ⟨b, o, none⟩ := fun o p e => hc (by cases e; rfl)
  refine ⟨?_, ?_, ?_, ?_, ?_⟩
  · exact (World.cell?_setCell_other _ _ _ v (by first | exact n _ _ | exact n' _ _)).trans ((World.cell?_setCell_other _ _ _ u (by first | exact n _ _ | exact n' _ _)).trans h1)
  · exact (World.cell?_setCell_other _ _ _ v (by first | exact n _ _ | exact n' _ _)).trans ((World.cell?_setCell_other _ _ _ u (by first | exact n _ _ | exact n' _ _)).trans h2)
  · simp [go_sem, h3]
  · simp [go_sem, h4]
  · simp [go_sem]; exact h5
theorem old1 {w w1 : World} {o : Obj} (hb : Below (w.alloc o).heap.size (w.alloc o) w1) : Below w.heap.size w w1 :=
  ((Below.refl _ _).alloc (Nat.le_refl _) o).trans (hb.mono (by go_simp))
theorem old2 {w w1 : World} {o p : Obj} (hb : Below ((w.alloc o).alloc p).heap.size ((w.alloc o).alloc p) w1) : Below w.heap.size w w1 := old1 (old1 hb)
theorem old3 {w w1 : World} {o p q : Obj} (hb : Below (((w.alloc o).alloc p).alloc q).heap.size (((w.alloc o).alloc p).alloc q) w1) : Below w.heap.size w w1 := old1 (old2 hb)
theorem set2 {w w1 : World} {b : Nat} (hb : Below w.heap.size w w1) (h : w.heap.size ≤ b) (x y : Value) : Below w.heap.size w ((w1.setCell ⟨b, 0, none⟩ x).setCell ⟨b, 1, none⟩ y) := (hb.setCell h _).setCell h _
theorem ep_two {a b c d : Nat} {m n : Int} (h1 : a = c) (h2 : b = d) (h3 : m = n) : Ending.returned (.tuple #[spV a b, .int .i64 m]) = .returned (.tuple #[spV c d, .int .i64 n]) := by subst h1 h2 h3; rfl
/-- A float is stored. -/
theorem run_storef (P : Program) (a : Addr) (k : FloatKind) (b : Nat) (m : Mode) (w : World) : (store a (.float k b) m).run P w = stored P w a (.float k b) m := run_store P w a _ m rfl
/-- Two spans in a list. -/
def twoS (a b c d : Nat) : Obj := .cells #[.float .f64 a, .float .f64 b, .float .f64 c, .float .f64 d] 40
theorem two_cells (W : World) (a b c d : Nat) : (W.alloc (twoS a b c d)).cell? ⟨W.heap.size, 0, none⟩ = some (.float .f64 a) ∧ (W.alloc (twoS a b c d)).cell? ⟨W.heap.size, 1, none⟩ = some (.float .f64 b) ∧ (W.alloc (twoS a b c d)).cell? ⟨W.heap.size, 2, none⟩ = some (.float .f64 c) ∧ (W.alloc (twoS a b c d)).cell? ⟨W.heap.size, 3, none⟩ = some (.float .f64 d) := by
  refine ⟨?_, ?_, ?_, ?_⟩ <;> simp [twoS, go_sem]
end Go.Proofs.YtlhoidkfphellaaDoor

namespace Go.Proofs.YtlhoidkfphellaaDoor
open Go.RowKit

/-- What round's calls answer, at known floats. -/
abbrev Tells3 (f : Nat) (x y : Nat) (m : Int) (r : Nat) : Prop := ∀ w, Calls Tryd.prog f #[.float .f64 x, .float .f64 y, .int .i8 m] w fun e w' => e = .returned (.float .f64 r) ∧ w' = w
theorem alls3 {w : World} {o p q : Obj} : Below w.heap.size w (((w.alloc o).alloc p).alloc q) := (((Below.refl _ _).alloc (Nat.le_refl _) _).alloc (by simp) _).alloc (by simp; omega) _
/-- The lesser, the greater of two floats. -/
def lsF (a b : Nat) : Nat := if ordF b a < 0 then b else a
def grF (a b : Nat) : Nat := if 0 < ordF b a then b else a
theorem lsF_lt {a b : Nat} (ha : a < 18446744073709551616) (hb : b < 18446744073709551616) : lsF a b < 18446744073709551616 := by unfold lsF; split <;> assumption
theorem grF_lt {a b : Nat} (ha : a < 18446744073709551616) (hb : b < 18446744073709551616) : grF a b < 18446744073709551616 := by unfold grF; split <;> assumption
end Go.Proofs.YtlhoidkfphellaaDoor

namespace Go.Proofs.YtlhoidkfphellaaDoor
open Go.RowKit

theorem cell_al {w : World} {a : Addr} {v : Value} (h : w.cell? a = some v) (o : Obj) : (w.alloc o).cell? a = some v := by
  rw [((Below.refl _ _).alloc (Nat.le_refl _) o).cell (World.block_lt_of_cell? w _ h)]; exact h
theorem Bx.new3 (w : World) (x y : Value) (o p q : Obj) (t : TypeId) : Bx ((((w.alloc o).alloc p).alloc q).alloc (.cells #[x, y] t)) (w.heap.size + 1 + 1 + 1) x y := by
  have h := Bx.new2 (w.alloc o) x y p q t
  have e : (w.alloc o).heap.size = w.heap.size + 1 := by go_simp
  rw [e] at h
  exact h
theorem old4 {w w1 : World} {o p q r : Obj} (hb : Below ((((w.alloc o).alloc p).alloc q).alloc r).heap.size ((((w.alloc o).alloc p).alloc q).alloc r) w1) : Below w.heap.size w w1 := old1 (old3 hb)
/-- The least, the greatest at four corners. -/
def lsC (R : Int → Nat → Nat → Nat) (a b c d : Nat) : Nat := lsF (lsF (lsF (R 1 a c) (R 1 a d)) (R 1 b c)) (R 1 b d)
def grC (R : Int → Nat → Nat → Nat) (a b c d : Nat) : Nat := grF (grF (grF (R 2 a c) (R 2 a d)) (R 2 b c)) (R 2 b d)
end Go.Proofs.YtlhoidkfphellaaDoor

namespace Go.Proofs.YtlhoidkfphellaaDoor
open Go.RowKit

end Go.Proofs.YtlhoidkfphellaaDoor

namespace Go.Proofs.YtlhoidkfphellaaDoor
open Go.RowKit

def mulQ (a b : Nat) : Nat := (floatBits .mul .f64 a b).getD 0
def mulE (a b : Nat) : Nat := (FloatKind.f64.format.fma a b (negW (mulQ a b))).getD 0
def mulR (m : Int) (a b : Nat) : Nat := stepF (mulQ a b) (signF (mulE a b)) m
def quoQ (a b : Nat) : Nat := (floatBits .quo .f64 a b).getD 0
def quoE (a b : Nat) : Nat := (FloatKind.f64.format.fma (negW (quoQ a b)) b a).getD 0
def quoR (m : Int) (a b : Nat) : Nat := stepF (quoQ a b) (signF (quoE a b)) m
theorem bstep {w a b : World} {o : Obj} (h : Below w.heap.size w a) (hb : Below (a.alloc o).heap.size (a.alloc o) b) : Below w.heap.size w b := h.trans ((old1 hb).mono h.size)
theorem aw5_eql (w : World) : (binOp .eql 40 (.agg #[.float .f64 13839561654909534208, .float .f64 4620693217682128896]) (.agg #[.float .f64 13839561654909534208, .float .f64 4620693217682128896])).run Tryd.prog w = .ok (.bool true) w := by
  kernel_rfl
end Go.Proofs.YtlhoidkfphellaaDoor

namespace Go.Proofs.YtlhoidkfphellaaDoor
open Go.RowKit

theorem leF_num {a b : Nat} (ha : a < 18446744073709551616) (hb : b < 18446744073709551616) (na : nanB a = false) (nb : nanB b = false) : leF a b = decide (place a ≤ place b) := by
  unfold leF
  rw [lt_num ha hb na nb, eq_num ha hb na nb, Bool.eq_iff_iff]; simp; omega
theorem geF_num {a b : Nat} (ha : a < 18446744073709551616) (hb : b < 18446744073709551616) (na : nanB a = false) (nb : nanB b = false) : geF a b = decide (place b ≤ place a) := by
  unfold geF
  rw [gt_num ha hb na nb, eq_num ha hb na nb, Bool.eq_iff_iff]; simp; omega
theorem leF_nan {a b : Nat} (ha : a < 18446744073709551616) (hb : b < 18446744073709551616) (h : nanB a = true ∨ nanB b = true) : leF a b = false := by
  unfold leF; rw [ord_nan ha hb h]; rfl
/-- A right span, as the document says it. -/
theorem sRt_doc {l h : Nat} (hl : l < 18446744073709551616) (hh : h < 18446744073709551616) (nl : nanB l = false) (nh : nanB h = false) :
    sRt l h = (!decide (place h < place l) && ((finB l || decide (place l < 0)) && (finB h || decide (0 < place h)))) := by
  unfold sRt
  rw [leF_num hl hh nl nh, leF_num hl (by omega) nl (by decide), geF_num hh (by omega) nh (by decide), show place 9218868437227405311 = 9218868437227405311 by decide, show place 18442240474082181119 = -9218868437227405311 by decide]
  have rl : rung l ≤ 9218868437227405312 := by unfold nanB at nl; simpa using nl
  have rh : rung h ≤ 9218868437227405312 := by unfold nanB at nh; simpa using nh
  unfold place finB
  rw [Bool.eq_iff_iff]
  cases sgn l <;> cases sgn h <;> simp <;> omega
theorem sRt_nan {l h : Nat} (hl : l < 18446744073709551616) (hh : h < 18446744073709551616) (hn : nanB l = true ∨ nanB h = true) : sRt l h = false := by
  unfold sRt; rw [leF_nan hl hh hn]; rfl
end Go.Proofs.YtlhoidkfphellaaDoor
