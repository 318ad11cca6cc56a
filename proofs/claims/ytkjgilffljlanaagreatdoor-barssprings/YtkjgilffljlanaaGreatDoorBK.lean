/- The document's Springs of bars, of a plan that may be. -/
import Derived.Test.YtkjgilffljlanaaGreatDoorBE
import Derived.Test.YtkjgilffljlanaaGreatDoorBG
import Derived.Test.YtkjgilffljlanaaGreatDoorZu
import Derived.BigQuiet
import Derived.Test.YtkjgilffljlanaaGreatDoorBF
import Derived.Test.YtkjgilffljlanaaGreatDoorZK
import Derived.Deep.AppendLies
import Derived.Maps.AppendAt
namespace Go.Proofs.YtkjgilffljlanaaGreatDoor
open Go.RowKit
abbrev CS2 (F : Nat) (p q r : Nat × Nat) : Prop := ∀ w, TabW w → Calls Tryz.prog F #[spV p.1 p.2, spV q.1 q.2] w fun e w' => e = .returned (spV r.1 r.2) ∧ Below w.heap.size w w'
theorem below_al {w : World} (o : Obj) : Below w.heap.size w (w.alloc o) := (Below.refl _ _).alloc (Nat.le_refl _) _
theorem one19_any (x : Nat) (w : World) : Calls Tryz.prog 40 #[.float .f64 x] w fun e w' => e = .returned (spV x x) ∧ Below w.heap.size w w' := by
 have hst := run_storef Tryz.prog
 have hb0 := below_al (w := w) (.cells #[.float .f64 x, .float .f64 x] 52)
 go_enter Tryz.func40, Tryz.ntmps40
 go_wp2
 exact bodyPost_ret (v := .agg #[.float .f64 x, .float .f64 x]) (by simp [results, Tryz.results40, go_sem]) rfl ⟨rfl, hb0⟩
set_option maxHeartbeats 2000000 in
theorem mul19_any {p q r : Nat × Nat} (c : C2 68 p q r 0) : CS2 42 p q r := fun w hT => by
 have hst := run_storef Tryz.prog
 obtain ⟨p1, p2⟩ := p
 obtain ⟨q1, q2⟩ := q
 obtain ⟨r1, r2⟩ := r
 simp only at c ⊢
 obtain ⟨W0, eW⟩ : ∃ W0, ((w.alloc (.cells #[.float .f64 p1, .float .f64 p2] 52)).alloc (.cells #[.float .f64 q1, .float .f64 q2] 52)).alloc (.cells #[.float .f64 0, .float .f64 0] 52) = W0 := ⟨_, rfl⟩
 have hb0 : Below w.heap.size w W0 := by rw [← eW]; exact (((Below.refl _ _).alloc (Nat.le_refl _) _).alloc (by simp) _).alloc (by simp; omega) _
 have X0 : Bx W0 w.heap.size (.float .f64 p1) (.float .f64 p2) := by
  rw [← eW]
  exact ((Bx.new w _ _ _).below (below_al _)).below (below_al _)
 have X1 : Bx W0 (w.heap.size + 1) (.float .f64 q1) (.float .f64 q2) := by
  have := (Bx.new (w.alloc (.cells #[.float .f64 p1, .float .f64 p2] 52)) (.float .f64 q1) (.float .f64 q2) 52).below (below_al (.cells #[.float .f64 0, .float .f64 0] 52))
  rw [eW] at this
  simpa using this
 have X2 : Bx W0 (w.heap.size + 1 + 1) (.float .f64 0) (.float .f64 0) := by
  have := Bx.new ((w.alloc (.cells #[.float .f64 p1, .float .f64 p2] 52)).alloc (.cells #[.float .f64 q1, .float .f64 q2] 52)) (.float .f64 0) (.float .f64 0) 52
  rw [eW] at this
  simpa using this
 have T0 := tabW_below hT hb0
 obtain ⟨x0, x1, _, _, _⟩ := id X0
 obtain ⟨y0, y1, _, _, _⟩ := id X1
 go_enter Tryz.func42, Tryz.ntmps42
 go_upto_region 2 with (go_at_call 68; refine (c _ T0).mono ?_; rintro e w1 ⟨rfl, b1⟩)
 clear eW x0 x1 y0 y1
 have st := below_al (w := w1) (.cells #[.float .f64 r1, .float .f64 r2] 52)
 have b2 := b1.trans (st.mono b1.size)
 replace X2 := X2.below b2
 have B0 := Bx.new w1 (.float .f64 r1) (.float .f64 r2) 52
 have hb2 := hb0.trans (b2.mono hb0.size)
 generalize w1.alloc (.cells #[.float .f64 r1, .float .f64 r2] 52) = W1 at *
 obtain ⟨z0, z1, f0, f1, _⟩ := id X2
 obtain ⟨s0, s1, _, _, _⟩ := id B0
 go_wp2
 exact bodyPost_ret (v := .agg #[.float .f64 r1, .float .f64 r2]) (by simp [results, Tryz.results42, go_sem, z0, z1]) rfl ⟨rfl, below_two hb2 (by omega) _ _⟩
set_option maxHeartbeats 2000000 in
theorem div19_any {p q r : Nat × Nat} (c : C2 67 p q r 0) : CS2 41 p q r := fun w hT => by
 have hst := run_storef Tryz.prog
 obtain ⟨p1, p2⟩ := p
 obtain ⟨q1, q2⟩ := q
 obtain ⟨r1, r2⟩ := r
 simp only at c ⊢
 obtain ⟨W0, eW⟩ : ∃ W0, ((w.alloc (.cells #[.float .f64 p1, .float .f64 p2] 52)).alloc (.cells #[.float .f64 q1, .float .f64 q2] 52)).alloc (.cells #[.float .f64 0, .float .f64 0] 52) = W0 := ⟨_, rfl⟩
 have hb0 : Below w.heap.size w W0 := by rw [← eW]; exact (((Below.refl _ _).alloc (Nat.le_refl _) _).alloc (by simp) _).alloc (by simp; omega) _
 have X0 : Bx W0 w.heap.size (.float .f64 p1) (.float .f64 p2) := by
  rw [← eW]
  exact ((Bx.new w _ _ _).below (below_al _)).below (below_al _)
 have X1 : Bx W0 (w.heap.size + 1) (.float .f64 q1) (.float .f64 q2) := by
  have := (Bx.new (w.alloc (.cells #[.float .f64 p1, .float .f64 p2] 52)) (.float .f64 q1) (.float .f64 q2) 52).below (below_al (.cells #[.float .f64 0, .float .f64 0] 52))
  rw [eW] at this
  simpa using this
 have X2 : Bx W0 (w.heap.size + 1 + 1) (.float .f64 0) (.float .f64 0) := by
  have := Bx.new ((w.alloc (.cells #[.float .f64 p1, .float .f64 p2] 52)).alloc (.cells #[.float .f64 q1, .float .f64 q2] 52)) (.float .f64 0) (.float .f64 0) 52
  rw [eW] at this
  simpa using this
 have T0 := tabW_below hT hb0
 obtain ⟨x0, x1, _, _, _⟩ := id X0
 obtain ⟨y0, y1, _, _, _⟩ := id X1
 go_enter Tryz.func41, Tryz.ntmps41
 go_upto_region 2 with (go_at_call 67; refine (c _ T0).mono ?_; rintro e w1 ⟨rfl, b1⟩)
 clear eW x0 x1 y0 y1
 have st := below_al (w := w1) (.cells #[.float .f64 r1, .float .f64 r2] 52)
 have b2 := b1.trans (st.mono b1.size)
 replace X2 := X2.below b2
 have B0 := Bx.new w1 (.float .f64 r1) (.float .f64 r2) 52
 have hb2 := hb0.trans (b2.mono hb0.size)
 generalize w1.alloc (.cells #[.float .f64 r1, .float .f64 r2] 52) = W1 at *
 obtain ⟨z0, z1, f0, f1, _⟩ := id X2
 obtain ⟨s0, s1, _, _, _⟩ := id B0
 go_wp2
 exact bodyPost_ret (v := .agg #[.float .f64 r1, .float .f64 r2]) (by simp [results, Tryz.results41, go_sem, z0, z1]) rfl ⟨rfl, below_two hb2 (by omega) _ _⟩
def rwK (dx dy l2 : Int) (k : Nat) (back : Bool) : R6 :=
 if k = 1 then ⟨-dx, -dy, 0, dx, dy, 0⟩ else if k = 2 then ⟨-2 * dy, 2 * dx, l2, 2 * dy, -2 * dx, l2⟩ else if k = 3 then ⟨0, 0, 1, 0, 0, -1⟩
 else if back then ⟨-dy, dx, 0, dy, -dx, l2⟩ else ⟨-dy, dx, l2, dy, -dx, 0⟩
set_option maxHeartbeats 4000000 in
theorem row19_any (dx dy l2 : Int) (k : Nat) (back : Bool) (hx : -2097152 ≤ dx ∧ dx ≤ 2097152) (hy : -2097152 ≤ dy ∧ dy ≤ 2097152) (hk : k = 1 ∨ k = 2 ∨ k = 3 ∨ k = 4) (w : World) :
  Calls Tryz.prog 19 #[.int .i64 dx, .int .i64 dy, .int .i64 l2, .int .u8 k, .bool back] w fun e w' => e = .returned (r6V (rwK dx dy l2 k back)) ∧ Below w.heap.size w w' := by
 have a1 : IntKind.i64.wrap (-dx) = -dx := by rw [IntKind.wrap_i64]; omega
 have a2 : IntKind.i64.wrap (-dy) = -dy := by rw [IntKind.wrap_i64]; omega
 have a3 : IntKind.i64.wrap (-2 * dy) = -2 * dy := by rw [IntKind.wrap_i64]; omega
 have a4 : IntKind.i64.wrap (2 * dx) = 2 * dx := by rw [IntKind.wrap_i64]; omega
 have a5 : IntKind.i64.wrap (2 * dy) = 2 * dy := by rw [IntKind.wrap_i64]; omega
 have a6 : IntKind.i64.wrap (-2 * dx) = -2 * dx := by rw [IntKind.wrap_i64]; omega
 clear hx hy
 rcases hk with rfl | rfl | rfl | rfl
 ·have HR : Hid (rwK dx dy l2 1 back = ⟨-dx, -dy, 0, dx, dy, 0⟩) := (show _ = _ from rfl)
  have hb0 := below_al (w := w) (.cells #[.int .i64 (-dx), .int .i64 (-dy), .int .i64 0, .int .i64 dx, .int .i64 dy, .int .i64 0] 55)
  go_enter Tryz.func19, Tryz.ntmps19
  go_wp2
  exact bodyPost_ret (v := .agg #[.int .i64 (-dx), .int .i64 (-dy), .int .i64 0, .int .i64 dx, .int .i64 dy, .int .i64 0]) (by simp [results, Tryz.results19, go_sem]) rfl ⟨by rw [HR.out]; rfl, hb0⟩
 ·have HR : Hid (rwK dx dy l2 2 back = ⟨-2 * dy, 2 * dx, l2, 2 * dy, -2 * dx, l2⟩) := (show _ = _ from rfl)
  have hb0 := below_al (w := w) (.cells #[.int .i64 (-2 * dy), .int .i64 (2 * dx), .int .i64 l2, .int .i64 (2 * dy), .int .i64 (-2 * dx), .int .i64 l2] 55)
  go_enter Tryz.func19, Tryz.ntmps19
  go_wp2
  exact bodyPost_ret (v := .agg #[.int .i64 (-2 * dy), .int .i64 (2 * dx), .int .i64 l2, .int .i64 (2 * dy), .int .i64 (-2 * dx), .int .i64 l2]) (by simp [results, Tryz.results19, go_sem]) rfl ⟨by rw [HR.out]; rfl, hb0⟩
 ·have HR : Hid (rwK dx dy l2 3 back = ⟨0, 0, 1, 0, 0, -1⟩) := (show _ = _ from rfl)
  have hb0 := below_al (w := w) (.cells #[.int .i64 0, .int .i64 0, .int .i64 1, .int .i64 0, .int .i64 0, .int .i64 (-1)] 55)
  go_enter Tryz.func19, Tryz.ntmps19
  go_wp2
  exact bodyPost_ret (v := .agg #[.int .i64 0, .int .i64 0, .int .i64 1, .int .i64 0, .int .i64 0, .int .i64 (-1)]) (by simp [results, Tryz.results19, go_sem]) rfl ⟨by rw [HR.out]; rfl, hb0⟩
 ·cases back
  ·have HR : Hid (rwK dx dy l2 4 false = ⟨-dy, dx, l2, dy, -dx, 0⟩) := (show _ = _ from rfl)
   have hb0 := below_al (w := w) (.cells #[.int .i64 (-dy), .int .i64 dx, .int .i64 l2, .int .i64 dy, .int .i64 (-dx), .int .i64 0] 55)
   go_enter Tryz.func19, Tryz.ntmps19
   go_wp2
   exact bodyPost_ret (v := .agg #[.int .i64 (-dy), .int .i64 dx, .int .i64 l2, .int .i64 dy, .int .i64 (-dx), .int .i64 0]) (by simp [results, Tryz.results19, go_sem]) rfl ⟨by rw [HR.out]; rfl, hb0⟩
  ·have HR : Hid (rwK dx dy l2 4 true = ⟨-dy, dx, 0, dy, -dx, l2⟩) := (show _ = _ from rfl)
   have hb0 := below_al (w := w) (.cells #[.int .i64 (-dy), .int .i64 dx, .int .i64 0, .int .i64 dy, .int .i64 (-dx), .int .i64 l2] 55)
   go_enter Tryz.func19, Tryz.ntmps19
   go_wp2
   exact bodyPost_ret (v := .agg #[.int .i64 (-dy), .int .i64 dx, .int .i64 0, .int .i64 dy, .int .i64 (-dx), .int .i64 l2]) (by simp [results, Tryz.results19, go_sem]) rfl ⟨by rw [HR.out]; rfl, hb0⟩
def kdK (m : Mb) : List Nat := if m.kd = 1 ∨ (m.ha = true ∧ m.hb = true) then [1] else if m.ha = true ∨ m.hb = true then [1, 4] else [1, 2, 3]
def URow (w : World) (ao : Option Addr) (l : List Nat) : Prop := l.length = 0 ∨ ∃ b off, ao = some ⟨b, off, none⟩ ∧ ∀ k, k < l.length → w.cell? ⟨b, off + k, none⟩ = some (.int .u8 (l.getD k 0 : Nat))
theorem URow.below {w w' : World} {ao : Option Addr} {l : List Nat} (h : URow w ao l) (hb : Below w.heap.size w w') : URow w' ao l := by
 rcases h with h | ⟨b, off, rfl, hc⟩
 ·exact Or.inl h
 ·exact Or.inr ⟨b, off, rfl, fun k hk => by rw [hb.cell (World.block_lt_of_cell? w _ (hc k hk))]; exact hc k hk⟩
def KdGave (w : World) (l : List Nat) (e : Ending) (w' : World) : Prop := ∃ ao c, e = .returned (.slice ao l.length c) ∧ URow w' ao l ∧ Below w.heap.size w w' ∧ ∀ a, ao = some a → w.heap.size ≤ a.block
set_option maxHeartbeats 4000000 in
theorem kinds19_any (m : Mb) (w : World) : Calls Tryz.prog 17 #[mV m] w (KdGave w (kdK m)) := by
 have hst := run_storef Tryz.prog
 obtain ⟨ms, mk, ma, mb, ha, hb, me, mar, mi⟩ := m
 unfold mV
 simp only
 have MX := MBox.new w ⟨ms, mk, ma, mb, ha, hb, me, mar, mi⟩ 42
 have hb0 := below_al (w := w) (mO ⟨ms, mk, ma, mb, ha, hb, me, mar, mi⟩ 42)
 simp only [mO] at MX hb0
 go_enter Tryz.func17, Tryz.ntmps17
 go_upto_region 1 with fail
 clear hst
 generalize w.alloc (.cells #[.string ms, .int .u8 mk, .int .i64 ma, .int .i64 mb, .bool ha, .bool hb, .float .f64 me, .float .f64 mar, .float .f64 mi] 42) = W0 at *
 obtain ⟨x0, x1, x2, x3, x4, x5, x6, x7, x8⟩ := MX.at0
 simp only [Nat.zero_add] at x0 x1 x2 x3 x4 x5 x6 x7 x8
 by_cases hk : mk = 1
 ·subst hk
  have HK : Hid (kdK ⟨ms, 1, ma, mb, ha, hb, me, mar, mi⟩ = [1]) := (show _ = _ from by simp [kdK])
  go_wp2
  go_ret
  rw [HK.out]
  refine ⟨_, 1, rfl, Or.inr ⟨_, 0, rfl, fun k hk => ?_⟩, hb0.alloc hb0.size _, fun a e => by cases e; exact hb0.size⟩
  obtain rfl : k = 0 := by simp at hk; omega
  simp [go_sem]
 ·have j1 : ((mk : Int) == 1) = false := by simpa using (by omega : ¬ (mk : Int) = 1)
  cases ha <;> cases hb
  ·have HK : Hid (kdK ⟨ms, mk, ma, mb, false, false, me, mar, mi⟩ = [1, 2, 3]) := (show _ = _ from by simp [kdK, hk])
   go_wp2
   go_ret
   rw [HK.out]
   refine ⟨_, 3, rfl, Or.inr ⟨_, 0, rfl, fun k hk => ?_⟩, hb0.alloc hb0.size _, fun a e => by cases e; exact hb0.size⟩
   rcases (show k = 0 ∨ k = 1 ∨ k = 2 by simp at hk; omega) with rfl | rfl | rfl <;> simp [go_sem]
  ·have HK : Hid (kdK ⟨ms, mk, ma, mb, false, true, me, mar, mi⟩ = [1, 4]) := (show _ = _ from by simp [kdK, hk])
   go_wp2
   go_ret
   rw [HK.out]
   refine ⟨_, 2, rfl, Or.inr ⟨_, 0, rfl, fun k hk => ?_⟩, hb0.alloc hb0.size _, fun a e => by cases e; exact hb0.size⟩
   rcases (show k = 0 ∨ k = 1 by simp at hk; omega) with rfl | rfl <;> simp [go_sem]
  ·have HK : Hid (kdK ⟨ms, mk, ma, mb, true, false, me, mar, mi⟩ = [1, 4]) := (show _ = _ from by simp [kdK, hk])
   go_wp2
   go_ret
   rw [HK.out]
   refine ⟨_, 2, rfl, Or.inr ⟨_, 0, rfl, fun k hk => ?_⟩, hb0.alloc hb0.size _, fun a e => by cases e; exact hb0.size⟩
   rcases (show k = 0 ∨ k = 1 by simp at hk; omega) with rfl | rfl <;> simp [go_sem]
  ·have HK : Hid (kdK ⟨ms, mk, ma, mb, true, true, me, mar, mi⟩ = [1]) := (show _ = _ from by simp [kdK])
   go_wp2
   go_ret
   rw [HK.out]
   refine ⟨_, 1, rfl, Or.inr ⟨_, 0, rfl, fun k hk => ?_⟩, hb0.alloc hb0.size _, fun a e => by cases e; exact hb0.size⟩
   obtain rfl : k = 0 := by simp at hk; omega
   simp [go_sem]
set_option maxHeartbeats 4000000 in
theorem length19_any {l2 : Int} {x : Nat} (hF : floatOfInt .f64 l2 = x) (hx : x < 18446744073709551616) (sx : someB x = true) (gx : sgn x = false) (w : World) :
  Calls Tryz.prog 39 #[.int .i64 l2] w fun e w' => e = .returned (.tuple #[spV (sqB 1 x) (sqB 2 x), .float .f64 (sqB 0 x)]) ∧ Below w.heap.size w w' := by
 have e : ∀ m, sqB m x = stepF (tQ x) (tS x) m := fun m => by unfold sqB; rw [sx, gx]; rfl
 have c1 := fun w' => dsqrt_any x 1 hx sx gx w'
 have c2 := fun w' => dsqrt_any x 2 hx sx gx w'
 have c0 := fun w' => dsqrt_any x 0 hx sx gx w'
 rw [e, e, e]
 generalize stepF (tQ x) (tS x) 1 = lo at *
 generalize stepF (tQ x) (tS x) 2 = hi at *
 generalize stepF (tQ x) (tS x) 0 = nr at *
 clear e sx gx
 have hst := run_storef Tryz.prog
 have R0 := Bx.new w (.float .f64 0) (.float .f64 0) 52
 have hb0 := below_al (w := w) (.cells #[.float .f64 0, .float .f64 0] 52)
 go_enter Tryz.func39, Tryz.ntmps39
 go_upto_region 2 with fail
 generalize w.alloc (.cells #[.float .f64 0, .float .f64 0] 52) = W0 at *
 go_wp2_with (first
  | (go_at_call_of 66 (Value.int IntKind.i8 1); refine (c1 _).mono ?_; rintro e v1 ⟨rfl, d1⟩; have e1 := hb0.trans (d1.mono hb0.size))
  | (go_at_call_of 66 (Value.int IntKind.i8 2); refine (c2 _).mono ?_; rintro e v2 ⟨rfl, d2⟩; have e2 := e1.trans (d2.mono e1.size))
  | (go_at_call_of 66 (Value.int IntKind.i8 0); refine (c0 _).mono ?_; rintro e v3 ⟨rfl, d3⟩; have e3 := e2.trans (d3.mono e2.size); have R3 := ((R0.below d1).below d2).below d3; obtain ⟨u0, u1, u2, u3, _⟩ := id R3))
 exact bodyPost_ret (v := .tuple #[spV lo hi, .float .f64 nr]) (by simp [results, Tryz.results39, go_sem, u0, u1]) rfl ⟨rfl, below_two e3 (Nat.le_refl _) _ _⟩
set_option maxHeartbeats 8000000 in
theorem apart19_any (js : List Jn) (mo : Option Addr) (mc N : Nat) (m : Mb) (ao : Option Addr) (ac : Nat) (na nb : Nat) (ha : m.a = na) (hb : m.b = nb) (la : na < js.length) (lb : nb < js.length) (hab : aptB (js.getD na jz) (js.getD nb jz) = true) (w : World) (hr : JRow w ao js) :
  Calls Tryz.prog 16 #[.agg #[.slice ao js.length ac, .slice mo N mc], mV m] w fun e w' => e = .returned (.tuple #[.int .i64 (aptA (js.getD na jz) (js.getD nb jz)).1, .int .i64 (aptA (js.getD na jz) (js.getD nb jz)).2.1, .int .i64 (aptA (js.getD na jz) (js.getD nb jz)).2.2]) ∧ Below w.heap.size w w' := by
 have hst := run_storef Tryz.prog
 have HE : Hid (aptA (js.getD na jz) (js.getD nb jz) = ((js.getD nb jz).2.1 - (js.getD na jz).2.1, (js.getD nb jz).2.2.1 - (js.getD na jz).2.2.1, ((js.getD nb jz).2.1 - (js.getD na jz).2.1) * ((js.getD nb jz).2.1 - (js.getD na jz).2.1) + ((js.getD nb jz).2.2.1 - (js.getD na jz).2.2.1) * ((js.getD nb jz).2.2.1 - (js.getD na jz).2.2.1))) := (show _ = _ by unfold aptA; rw [if_pos hab])
 obtain ⟨A, hA⟩ : ∃ A, js.length = A := ⟨_, rfl⟩
 have hb0 := (below_al (w := w) (.cells #[.slice ao A ac, .slice mo N mc] 25)).alloc (by simp) (mO m 42)
 obtain ⟨b, off, rfl⟩ := hr.addr la
 have hr0 := hr.below hb0
 have ga := hr0.at la
 have gb := hr0.at lb
 unfold aptB at hab
 simp only [Bool.and_eq_true] at hab
 obtain ⟨⟨⟨k1, k2⟩, k3⟩, k4⟩ := hab
 replace k1 := kcr_le k1
 replace k2 := kcr_le k2
 replace k3 := kcr_le k3
 replace k4 := kcr_le k4
 generalize aptA (js.getD na jz) (js.getD nb jz) = ap at *
 obtain ⟨⟨s1, x, y, f1⟩, e1⟩ : ∃ j, js.getD na jz = j := ⟨_, rfl⟩
 obtain ⟨⟨s2, p, q, f2⟩, e2⟩ : ∃ j, js.getD nb jz = j := ⟨_, rfl⟩
 rw [e1] at ga k1 k2 HE
 rw [e2] at gb k3 k4 HE
 simp only at ga gb k1 k2 k3 k4 HE
 rw [hA] at la lb ⊢
 clear e1 e2 hr hr0 hA
 obtain ⟨_, a1, a2, _⟩ := ga
 obtain ⟨_, b1, b2, _⟩ := gb
 have i1 : (na : Int) < (A : Int) := by omega
 have i2 : (nb : Int) < (A : Int) := by omega
 have w1 : IntKind.i64.wrap (p - x) = p - x := by rw [IntKind.wrap_i64]; omega
 have w2 : IntKind.i64.wrap (q - y) = q - y := by rw [IntKind.wrap_i64]; omega
 have s1' := sq_le (x := p - x) (by omega)
 have s2' := sq_le (x := q - y) (by omega)
 obtain ⟨d1, hd1⟩ : ∃ d, p - x = d := ⟨_, rfl⟩
 obtain ⟨d2, hd2⟩ : ∃ d, q - y = d := ⟨_, rfl⟩
 obtain ⟨ms, mk, ma, mb, mha, mhb, me, mar, mi⟩ := m
 simp only at ha hb
 subst ha hb
 unfold mV
 simp only [mO] at *
 have MX : MBox ((w.alloc (.cells #[.slice (some ⟨b, off, none⟩) A ac, .slice mo N mc] 25)).alloc (mO ⟨ms, mk, na, nb, mha, mhb, me, mar, mi⟩ 42)) (w.heap.size + 1) ⟨ms, mk, na, nb, mha, mhb, me, mar, mi⟩ := by
  have := MBox.new (w.alloc (.cells #[.slice (some ⟨b, off, none⟩) A ac, .slice mo N mc] 25)) ⟨ms, mk, na, nb, mha, mhb, me, mar, mi⟩ 42
  simpa using this
 have PX := (PBox.new w (.slice (some ⟨b, off, none⟩) A ac) (.slice mo N mc) 25).alloc (mO ⟨ms, mk, na, nb, mha, mhb, me, mar, mi⟩ 42)
 simp only [mO] at MX PX
 go_enter Tryz.func16, Tryz.ntmps16
 go_upto_region 1 with fail
 clear hst
 generalize (w.alloc (.cells #[.slice (some ⟨b, off, none⟩) A ac, .slice mo N mc] 25)).alloc (.cells #[.string ms, .int .u8 mk, .int .i64 na, .int .i64 nb, .bool mha, .bool mhb, .float .f64 me, .float .f64 mar, .float .f64 mi] 42) = W0 at *
 obtain ⟨_, _, x2, x3, _, _, _, _, _⟩ := MX.at0
 simp only [Nat.zero_add] at x2 x3
 obtain ⟨p0, _, _, _, _⟩ := id PX
 go_quiet (fail)
 go_upto_region 2 with fail
 go_quiet (fail)
 rw [hd1] at s1'
 rw [hd2] at s2'
 have e3 : IntKind.i64.wrap (d1 * d1) = d1 * d1 := by rw [IntKind.wrap_i64]; omega
 have e4 : IntKind.i64.wrap (d2 * d2) = d2 * d2 := by rw [IntKind.wrap_i64]; omega
 have e5 : IntKind.i64.wrap (d1 * d1 + d2 * d2) = d1 * d1 + d2 * d2 := by rw [IntKind.wrap_i64]; omega
 go_wp2
 exact bodyPost_ret (v := .tuple #[.int .i64 d1, .int .i64 d2, .int .i64 (d1 * d1 + d2 * d2)]) (by simp [results, Tryz.results16]) rfl ⟨by rw [HE.out, hd1, hd2], below_drewN hb0 _⟩
abbrev C119 (x : Nat) : Prop := ∀ w, Calls Tryz.prog 40 #[.float .f64 x] w fun e w' => e = .returned (spV x x) ∧ Below w.heap.size w w'
def stK (m : Mb) (L : Am) (x : Nat) (k : Nat) : Am := if k = 1 then axA L x m.e m.ar else if k = 3 then enA L m.e m.i else acA L x m.e m.i
structure StC (m : Mb) (L : Am) (x : Nat) (k : Nat) (R : Am) : Prop where
 ax : k = 1 → ∃ (P SL : Nat × Nat) (o u : Nat), CS2 42 (m.e, m.e) (m.ar, m.ar) P ∧ CS2 42 (x, x) L.1 SL ∧ CS2 41 P SL R.1 ∧ floatBits .mul .f64 m.e m.ar = some o ∧ floatBits .mul .f64 x L.2 = some u ∧ floatBits .quo .f64 o u = some R.2
 en : k = 3 → ∃ (P : Nat × Nat) (o : Nat), CS2 42 (m.e, m.e) (m.i, m.i) P ∧ CS2 41 P L.1 R.1 ∧ floatBits .mul .f64 m.e m.i = some o ∧ floatBits .quo .f64 o L.2 = some R.2
 ac : k ≠ 1 → k ≠ 3 → ∃ (P B SS SL : Nat × Nat) (o o3 u v : Nat), CS2 42 (m.e, m.e) (m.i, m.i) P ∧ CS2 42 (4613937818241073152, 4613937818241073152) P B ∧ CS2 42 (x, x) (x, x) SS ∧ CS2 42 SS L.1 SL ∧ CS2 41 B SL R.1 ∧ floatBits .mul .f64 m.e m.i = some o ∧ floatBits .mul .f64 4613937818241073152 o = some o3 ∧ floatBits .mul .f64 x x = some u ∧ floatBits .mul .f64 u L.2 = some v ∧ floatBits .quo .f64 o3 v = some R.2
set_option maxRecDepth 100000 in
set_option maxHeartbeats 32000000 in
theorem stiff19_walk (m : Mb) (l2 : Int) (k : Nat) (x : Nat) (hF : floatOfInt .f64 l2 = x) (L R : Am)
  (cL : ∀ w, Calls Tryz.prog 39 #[.int .i64 l2] w fun e w' => e = .returned (.tuple #[spV L.1.1 L.1.2, .float .f64 L.2]) ∧ Below w.heap.size w w')
  (c1 : ∀ x, C119 x) (hC : StC m L x k R) (w : World) (hT : TabW w) :
  Calls Tryz.prog 18 #[mV m, .int .i64 l2, .int .u8 k] w fun e w' => e = .returned (.tuple #[spV R.1.1 R.1.2, .float .f64 R.2]) ∧ Below w.heap.size w w' := by
 have hst := run_storef Tryz.prog
 obtain ⟨ms, mk, ma, mb, ha, hb, me, mar, mi⟩ := m
 obtain ⟨⟨Ll, Lh⟩, Ln⟩ := L
 obtain ⟨⟨Rl, Rh⟩, Rn⟩ := R
 unfold mV
 simp only [C119] at *
 obtain ⟨W0, eW⟩ : ∃ W0, (w.alloc (mO ⟨ms, mk, ma, mb, ha, hb, me, mar, mi⟩ 42)).alloc (.cells #[.float .f64 0, .float .f64 0] 52) = W0 := ⟨_, rfl⟩
 have hb0 : Below w.heap.size w W0 := by rw [← eW]; exact ((Below.refl _ _).alloc (Nat.le_refl _) _).alloc (by simp) _
 have MX : MBox W0 w.heap.size ⟨ms, mk, ma, mb, ha, hb, me, mar, mi⟩ := by
  rw [← eW]
  exact (MBox.new w _ _).alloc _
 have R0 : Bx W0 (w.heap.size + 1) (.float .f64 0) (.float .f64 0) := by
  have := Bx.new (w.alloc (mO ⟨ms, mk, ma, mb, ha, hb, me, mar, mi⟩ 42)) (.float .f64 0) (.float .f64 0) 52
  rw [eW] at this
  simpa using this
 simp only [mO] at eW
 go_enter Tryz.func18, Tryz.ntmps18
 go_upto_region 3 with (go_at_call 39; refine (cL _).mono ?_; rintro e w1 ⟨rfl, b1⟩)
 clear eW cL
 have st := below_al (w := w1) (.cells #[.float .f64 Ll, .float .f64 Lh] 52)
 have b2 := b1.trans (st.mono b1.size)
 replace MX := MX.below b2
 replace R0 := R0.below b2
 have LB := Bx.new w1 (.float .f64 Ll) (.float .f64 Lh) 52
 have hb2 := hb0.trans (b2.mono hb0.size)
 clear st b1 b2 hb0
 generalize w1.alloc (.cells #[.float .f64 Ll, .float .f64 Lh] 52) = V0 at *
 generalize w1.heap.size = gl at *
 obtain ⟨x0, x1, x2, x3, x4, x5, x6, x7, x8⟩ := MX.at0
 simp only [Nat.zero_add] at x0 x1 x2 x3 x4 x5 x6 x7 x8
 obtain ⟨VAL, hVAL⟩ : ∃ fz : Nat → Value, fz = (fun j => match j with | 0 => .pointer (some ⟨w.heap.size, 6, none⟩) | 1 => .float .f64 me | 2 => .agg #[.float .f64 me, .float .f64 me] | 3 => .pointer (some ⟨w.heap.size, 7, none⟩) | 4 => .float .f64 mar | 5 => .agg #[.float .f64 mar, .float .f64 mar] | 6 => .pointer (some ⟨w.heap.size, 8, none⟩) | 7 => .float .f64 mi | 8 => .agg #[.float .f64 mi, .float .f64 mi] | _ => undef) := ⟨_, rfl⟩
 have V0 : VAL 0 = .pointer (some ⟨w.heap.size, 6, none⟩) := congrFun hVAL 0
 have V1 : VAL 1 = .float .f64 me := congrFun hVAL 1
 have V2 : VAL 2 = .agg #[.float .f64 me, .float .f64 me] := congrFun hVAL 2
 have V3 : VAL 3 = .pointer (some ⟨w.heap.size, 7, none⟩) := congrFun hVAL 3
 have V4 : VAL 4 = .float .f64 mar := congrFun hVAL 4
 have V5 : VAL 5 = .agg #[.float .f64 mar, .float .f64 mar] := congrFun hVAL 5
 have V6 : VAL 6 = .pointer (some ⟨w.heap.size, 8, none⟩) := congrFun hVAL 6
 have V7 : VAL 7 = .float .f64 mi := congrFun hVAL 7
 have V8 : VAL 8 = .agg #[.float .f64 mi, .float .f64 mi] := congrFun hVAL 8
 have V12 : VAL 12 = undef := congrFun hVAL 12
 have V13 : VAL 13 = undef := congrFun hVAL 13
 have V14 : VAL 14 = undef := congrFun hVAL 14
 clear hVAL
 refine region_rgN (by kernel_rfl) (fun vv => ⟨#[.agg #[.string ms, .int .u8 ↑mk, .int .i64 ma, .int .i64 mb, .bool ha, .bool hb, .float .f64 me, .float .f64 mar, .float .f64 mi], .int .i64 l2, .int .u8 ↑k, .pointer (some ⟨w.heap.size, 0, none⟩), undef, undef, .pointer (some ⟨w.heap.size + 1, 0, none⟩), .float .f64 0, .pointer (some ⟨gl, 0, none⟩), .float .f64 Ln, .float .f64 x, vv 9, vv 10, vv 11, undef, undef, undef, undef, undef, .tuple #[spV Ll Lh, .float .f64 Ln], .int .i64 l2, .tuple #[spV Ll Lh, .float .f64 Ln], spV Ll Lh, .float .f64 Ln, .int .i64 l2, .float .f64 x, vv 0, vv 1, vv 2, vv 3, vv 4, vv 5, vv 6, vv 7, vv 8, undef, undef, undef, undef, undef, undef, undef, undef, undef, undef, undef, undef, undef, undef, undef, undef, undef, undef, undef, undef, undef, undef, undef, undef, undef, undef, undef, undef, undef, undef, undef, undef, undef, undef, undef, undef, undef, undef, undef, undef, undef, undef, undef, undef, undef, undef, undef, undef, undef, undef, undef, undef, undef, undef, undef, undef, undef, undef, undef, undef, undef, undef, undef, undef], []⟩) 3 9 12 (fun j => match j with | 0 => (.float .f64 me, .float .f64 me) | 1 => (.float .f64 mar, .float .f64 mar) | 2 => (.float .f64 mi, .float .f64 mi) | _ => (undef, undef)) VAL (fun j => match j with  | _ => undef) rfl ?_ ?_
 ·intro Lq vv gq wq i hL hS hi
  obtain ⟨hr1, hr2, hr3⟩ := mem_ready hi
  have hr1 : i < 15 := hr1
  have hno := off_not (by rw [hL]; exact hr1) hr2
  try dsimp only
  have hcs : i = 0 ∨ i = 1 ∨ i = 2 ∨ i = 3 ∨ i = 4 ∨ i = 5 ∨ i = 6 ∨ i = 7 ∨ i = 8 ∨ i = 9 ∨ i = 10 ∨ i = 11 ∨ i = 12 ∨ i = 13 ∨ i = 14 := by omega
  have hB := hS.m
  clear hr1 hr2 hr3
  rcases hcs with rfl | rfl | rfl | rfl | rfl | rfl | rfl | rfl | rfl | rfl | rfl | rfl | rfl | rfl | rfl
  ·refine wpOp_of (fun K hK => ?_)
   unfold wpOp
   go_simp
   refine Or.inl ?_
   exact hK _ _ ⟨put9 vv 0 (.pointer (some ⟨w.heap.size, 6, none⟩)), gq, (by simp [put9]), hS.step hL hi (by decide) (by decide) (Below.refl _ _) V0.symm⟩
  ·have e0 : vv 0 = .pointer (some ⟨w.heap.size, 6, none⟩) := (hS.d 0 (by decide) (ready_dep hi 0 (by kernel_rfl))).trans V0
   have r6 := (hB.cell (p := ⟨w.heap.size, 6, none⟩) MX.lt).trans x6
   refine wpOp_of (fun K hK => ?_)
   unfold wpOp
   simp only [e0]
   go_simp
   refine Or.inl ?_
   exact hK _ _ ⟨put9 vv 1 (.float .f64 me), gq, (by simp [put9, e0]), hS.step hL hi (by decide) (by decide) (Below.refl _ _) V1.symm⟩
  ·have e1 : vv 1 = .float .f64 me := (hS.d 1 (by decide) (ready_dep hi 1 (by kernel_rfl))).trans V1
   refine wpOp_of (fun K hK => ?_)
   unfold wpOp
   simp only [e1]
   go_simp
   refine Or.inl ?_
   go_at_call 40
   refine (c1 _ _).mono ?_
   rintro e w1 ⟨rfl, bc⟩
   exact hK _ _ ⟨put9 vv 2 (.agg #[.float .f64 me, .float .f64 me]), gq, (by simp [put9, e1]), hS.step hL hi (by decide) (by decide) (bc) V2.symm⟩
  ·refine wpOp_of (fun K hK => ?_)
   unfold wpOp
   go_simp
   refine Or.inl ?_
   exact hK _ _ ⟨put9 vv 3 (.pointer (some ⟨w.heap.size, 7, none⟩)), gq, (by simp [put9]), hS.step hL hi (by decide) (by decide) (Below.refl _ _) V3.symm⟩
  ·have e3 : vv 3 = .pointer (some ⟨w.heap.size, 7, none⟩) := (hS.d 3 (by decide) (ready_dep hi 3 (by kernel_rfl))).trans V3
   have r7 := (hB.cell (p := ⟨w.heap.size, 7, none⟩) MX.lt).trans x7
   refine wpOp_of (fun K hK => ?_)
   unfold wpOp
   simp only [e3]
   go_simp
   refine Or.inl ?_
   exact hK _ _ ⟨put9 vv 4 (.float .f64 mar), gq, (by simp [put9, e3]), hS.step hL hi (by decide) (by decide) (Below.refl _ _) V4.symm⟩
  ·have e4 : vv 4 = .float .f64 mar := (hS.d 4 (by decide) (ready_dep hi 4 (by kernel_rfl))).trans V4
   refine wpOp_of (fun K hK => ?_)
   unfold wpOp
   simp only [e4]
   go_simp
   refine Or.inl ?_
   go_at_call 40
   refine (c1 _ _).mono ?_
   rintro e w1 ⟨rfl, bc⟩
   exact hK _ _ ⟨put9 vv 5 (.agg #[.float .f64 mar, .float .f64 mar]), gq, (by simp [put9, e4]), hS.step hL hi (by decide) (by decide) (bc) V5.symm⟩
  ·refine wpOp_of (fun K hK => ?_)
   unfold wpOp
   go_simp
   refine Or.inl ?_
   exact hK _ _ ⟨put9 vv 6 (.pointer (some ⟨w.heap.size, 8, none⟩)), gq, (by simp [put9]), hS.step hL hi (by decide) (by decide) (Below.refl _ _) V6.symm⟩
  ·have e6 : vv 6 = .pointer (some ⟨w.heap.size, 8, none⟩) := (hS.d 6 (by decide) (ready_dep hi 6 (by kernel_rfl))).trans V6
   have r8 := (hB.cell (p := ⟨w.heap.size, 8, none⟩) MX.lt).trans x8
   refine wpOp_of (fun K hK => ?_)
   unfold wpOp
   simp only [e6]
   go_simp
   refine Or.inl ?_
   exact hK _ _ ⟨put9 vv 7 (.float .f64 mi), gq, (by simp [put9, e6]), hS.step hL hi (by decide) (by decide) (Below.refl _ _) V7.symm⟩
  ·have e7 : vv 7 = .float .f64 mi := (hS.d 7 (by decide) (ready_dep hi 7 (by kernel_rfl))).trans V7
   refine wpOp_of (fun K hK => ?_)
   unfold wpOp
   simp only [e7]
   go_simp
   refine Or.inl ?_
   go_at_call 40
   refine (c1 _ _).mono ?_
   rintro e w1 ⟨rfl, bc⟩
   exact hK _ _ ⟨put9 vv 8 (.agg #[.float .f64 mi, .float .f64 mi]), gq, (by simp [put9, e7]), hS.step hL hi (by decide) (by decide) (bc) V8.symm⟩
  ·refine wpOp_of (fun K hK => ?_)
   unfold wpOp
   go_simp
   refine Or.inl ?_
   exact hK _ _ ⟨put9 vv 9 (.pointer (some ⟨wq.heap.size, 0, none⟩)), _, (by simp [put9]), hS.make (i := 0) hL (by decide) hi hno (by decide) (by kernel_rfl)⟩
  ·refine wpOp_of (fun K hK => ?_)
   unfold wpOp
   go_simp
   refine Or.inl ?_
   exact hK _ _ ⟨put9 vv 10 (.pointer (some ⟨wq.heap.size, 0, none⟩)), _, (by simp [put9]), hS.make (i := 1) hL (by decide) hi hno (by decide) (by kernel_rfl)⟩
  ·refine wpOp_of (fun K hK => ?_)
   unfold wpOp
   go_simp
   refine Or.inl ?_
   exact hK _ _ ⟨put9 vv 11 (.pointer (some ⟨wq.heap.size, 0, none⟩)), _, (by simp [put9]), hS.make (i := 2) hL (by decide) hi hno (by decide) (by kernel_rfl)⟩
  ·have e2 : vv 2 = .agg #[.float .f64 me, .float .f64 me] := (hS.d 2 (by decide) (ready_dep hi 2 (by kernel_rfl))).trans V2
   have ha := ready_dep hi 9 (by kernel_rfl)
   have e9 : vv 9 = .pointer (some ⟨gq 0, 0, none⟩) := (hS.p 0 (by decide) ha).1
   obtain ⟨q0, q1, q2, q3, _⟩ := hS.nb 0 (by decide) ha hno
   have hst := run_storef Tryz.prog
   refine wpOp_of (fun K hK => ?_)
   unfold wpOp
   simp only [e2, e9]
   go_simp
   refine Or.inl ?_
   exact hK _ _ ⟨put9 vv 12 undef, gq, (by simp [put9, e2, e9]), hS.store (i := 0) hL (by decide) hi hno (by decide) (fun j hj => by rcases (show j = 0 ∨ j = 1 ∨ j = 2 by omega) with rfl | rfl | rfl <;> kernel_rfl) V12.symm⟩
  ·have e5 : vv 5 = .agg #[.float .f64 mar, .float .f64 mar] := (hS.d 5 (by decide) (ready_dep hi 5 (by kernel_rfl))).trans V5
   have ha := ready_dep hi 10 (by kernel_rfl)
   have e10 : vv 10 = .pointer (some ⟨gq 1, 0, none⟩) := (hS.p 1 (by decide) ha).1
   obtain ⟨q0, q1, q2, q3, _⟩ := hS.nb 1 (by decide) ha hno
   have hst := run_storef Tryz.prog
   refine wpOp_of (fun K hK => ?_)
   unfold wpOp
   simp only [e5, e10]
   go_simp
   refine Or.inl ?_
   exact hK _ _ ⟨put9 vv 13 undef, gq, (by simp [put9, e5, e10]), hS.store (i := 1) hL (by decide) hi hno (by decide) (fun j hj => by rcases (show j = 0 ∨ j = 1 ∨ j = 2 by omega) with rfl | rfl | rfl <;> kernel_rfl) V13.symm⟩
  ·have e8 : vv 8 = .agg #[.float .f64 mi, .float .f64 mi] := (hS.d 8 (by decide) (ready_dep hi 8 (by kernel_rfl))).trans V8
   have ha := ready_dep hi 11 (by kernel_rfl)
   have e11 : vv 11 = .pointer (some ⟨gq 2, 0, none⟩) := (hS.p 2 (by decide) ha).1
   obtain ⟨q0, q1, q2, q3, _⟩ := hS.nb 2 (by decide) ha hno
   have hst := run_storef Tryz.prog
   refine wpOp_of (fun K hK => ?_)
   unfold wpOp
   simp only [e8, e11]
   go_simp
   refine Or.inl ?_
   exact hK _ _ ⟨put9 vv 14 undef, gq, (by simp [put9, e8, e11]), hS.store (i := 2) hL (by decide) hi hno (by decide) (fun j hj => by rcases (show j = 0 ∨ j = 1 ∨ j = 2 by omega) with rfl | rfl | rfl <;> kernel_rfl) V14.symm⟩
 ·intro Lq vv gq wq hL hS hr
  have on := all_done hL hr (by kernel_rfl)
  have B1 : Bx wq (gq 0) (.float .f64 me) (.float .f64 me) := hS.yb 0 (by decide) (on 12 (by decide))
  have B2 : Bx wq (gq 1) (.float .f64 mar) (.float .f64 mar) := hS.yb 1 (by decide) (on 13 (by decide))
  have B3 : Bx wq (gq 2) (.float .f64 mi) (.float .f64 mi) := hS.yb 2 (by decide) (on 14 (by decide))
  have q9 : vv 9 = .pointer (some ⟨gq 0, 0, none⟩) := (hS.p 0 (by decide) (on 9 (by decide))).1
  have q10 : vv 10 = .pointer (some ⟨gq 1, 0, none⟩) := (hS.p 1 (by decide) (on 10 (by decide))).1
  have q11 : vv 11 = .pointer (some ⟨gq 2, 0, none⟩) := (hS.p 2 (by decide) (on 11 (by decide))).1
  have bq := hS.m
  try dsimp only
  rw [q9, q10, q11]
  generalize vv 0 = y0 at *
  generalize vv 1 = y1 at *
  generalize vv 2 = y2 at *
  generalize vv 3 = y3 at *
  generalize vv 4 = y4 at *
  generalize vv 5 = y5 at *
  generalize vv 6 = y6 at *
  generalize vv 7 = y7 at *
  generalize vv 8 = y8 at *
  clear hS on hr VAL q9 q10 q11 vv hL Lq V0 V1 V2 V3 V4 V5 V6 V7 V8 V12 V13 V14
  generalize gq 0 = ge at *
  generalize gq 1 = gr at *
  generalize gq 2 = gi at *
  clear gq
  replace MX := MX.below bq
  replace R0 := R0.below bq
  replace LB := LB.below bq
  have hb3 := hb2.trans (bq.mono hb2.size)
  clear bq hb2 x0 x1 x2 x3 x4 x5 x6 x7 x8
  generalize wq = V1 at *
  obtain ⟨x0, x1, x2, x3, x4, x5, x6, x7, x8⟩ := MX.at0
  simp only [Nat.zero_add] at x0 x1 x2 x3 x4 x5 x6 x7 x8
  have T1 := tabW_below hT hb3
  by_cases k1 : k = 1
  ·subst k1
   obtain ⟨P, SL, fo, fu, d1, d2, d3, o1, o2, o3⟩ := hC.ax rfl
   simp only at d1 d2 d3 o1 o2 o3
   have h1 := fun w => run_float_arith (P := Tryz.prog) w .mul 40 .f64 _ _ _ o1
   have h2 := fun w => run_float_arith (P := Tryz.prog) w .mul 40 .f64 _ _ _ o2
   have h3 := fun w => run_float_arith (P := Tryz.prog) w .quo 40 .f64 _ _ _ o3
   clear hC
   go_upto_region 8 with fail
   obtain ⟨FL, hFL⟩ : ∃ f : Nat → Lz, f = (fun j => match j with | 0 => .is (.agg #[.float .f64 me, .float .f64 me]) | 1 => .is (.agg #[.float .f64 mar, .float .f64 mar]) | 2 => .is (.agg #[.float .f64 P.1, .float .f64 P.2]) | 3 => .is (.float .f64 x) | 4 => .is (.agg #[.float .f64 x, .float .f64 x]) | 5 => .is (.agg #[.float .f64 Ll, .float .f64 Lh]) | 6 => .is (.agg #[.float .f64 SL.1, .float .f64 SL.2]) | 7 => .is (.agg #[.float .f64 Rl, .float .f64 Rh]) | 8 => .is (.float .f64 fo) | 9 => .is (.float .f64 fu) | 10 => .is (.float .f64 Rn) | 11 => .tr | 12 => .is (.float .f64 Rn) | _ => .tr) := ⟨_, rfl⟩
   have F0 := congrFun hFL 0
   have F1 := congrFun hFL 1
   have F2 := congrFun hFL 2
   have F3 := congrFun hFL 3
   have F4 := congrFun hFL 4
   have F5 := congrFun hFL 5
   have F6 := congrFun hFL 6
   have F7 := congrFun hFL 7
   have F8 := congrFun hFL 8
   have F9 := congrFun hFL 9
   have F10 := congrFun hFL 10
   have F11 := congrFun hFL 11
   have F12 := congrFun hFL 12
   simp only at F0 F1 F2 F3 F4 F5 F6 F7 F8 F9 F10 F11 F12
   clear hFL
   refine region_rgU (by kernel_rfl) (fun v => ⟨#[.agg #[.string ms, .int .u8 ↑mk, .int .i64 ma, .int .i64 mb, .bool ha, .bool hb, .float .f64 me, .float .f64 mar, .float .f64 mi], .int .i64 l2, .int .u8 ↑1, .pointer (some ⟨w.heap.size, 0, none⟩), undef, undef, .pointer (some ⟨w.heap.size + 1, 0, none⟩), v 12, .pointer (some ⟨gl, 0, none⟩), .float .f64 Ln, .float .f64 x, .pointer (some ⟨ge, 0, none⟩), .pointer (some ⟨gr, 0, none⟩), .pointer (some ⟨gi, 0, none⟩), .float .f64 fo, .float .f64 fu, undef, undef, undef, .tuple #[spV Ll Lh, .float .f64 Ln], .int .i64 l2, .tuple #[spV Ll Lh, .float .f64 Ln], spV Ll Lh, .float .f64 Ln, .int .i64 l2, .float .f64 x, y0, y1, y2, y3, y4, y5, y6, y7, y8, .int .u8 ↑1, .bool true, .bool true, .pointer (some ⟨w.heap.size, 6, none⟩), .float .f64 me, .pointer (some ⟨w.heap.size, 7, none⟩), .float .f64 mar, .float .f64 fo, .float .f64 x, .float .f64 Ln, .float .f64 fu, v 0, v 1, v 2, v 3, v 4, v 5, v 6, v 7, v 8, v 9, v 10, undef, undef, undef, undef, undef, undef, undef, undef, undef, undef, undef, undef, undef, undef, undef, undef, undef, undef, undef, undef, undef, undef, undef, undef, undef, undef, undef, undef, undef, undef, undef, undef, undef, undef, undef, undef, undef, undef, undef, undef, undef, undef], []⟩) 11 (fun j => decide (j ≠ 8 ∧ j ≠ 9 ∧ j ≠ 10 ∧ j ≠ 11 ∧ j ≠ 12)) FL (fun wz => Bx wz (w.heap.size + 1) (.float .f64 Rl) (.float .f64 Rh) ∧ Below w.heap.size w wz) (fun j => match j with | 12 => Value.float FloatKind.f64 0 | _ => undef) rfl ?_ ?_
   ·intro L v w' i hL hS hi
    obtain ⟨hr1, hr2, hr3⟩ := mem_ready hi
    have hr1 : i < 13 := hr1
    try dsimp only
    have hcs : i = 0 ∨ i = 1 ∨ i = 2 ∨ i = 3 ∨ i = 4 ∨ i = 5 ∨ i = 6 ∨ i = 7 ∨ i = 8 ∨ i = 9 ∨ i = 10 ∨ i = 11 ∨ i = 12 := by omega
    clear hr1 hr2 hr3
    rcases hcs with rfl | rfl | rfl | rfl | rfl | rfl | rfl | rfl | rfl | rfl | rfl | rfl | rfl
    ·have hns := hS.open hL hi rfl
     have hB := hS.a hns
     have a0 := (hB.cell (p := ⟨ge, 0, none⟩) B1.2.2.2.2).trans B1.1
     have a1 := (hB.cell (p := ⟨ge, 1, none⟩) B1.2.2.2.2).trans B1.2.1
     refine wpOpT_of (fun K hK => ?_)
     unfold wpOp
     go_simp
     refine Or.inl ?_
     exact hK _ _ ⟨putT v 0 (.agg #[.float .f64 me, .float .f64 me]), (by simp [putT]), hS.step hL hi rfl (by decide) (Below.refl _ _) (Lz.toIs F0)⟩
    ·have hns := hS.open hL hi rfl
     have hB := hS.a hns
     have a0 := (hB.cell (p := ⟨gr, 0, none⟩) B2.2.2.2.2).trans B2.1
     have a1 := (hB.cell (p := ⟨gr, 1, none⟩) B2.2.2.2.2).trans B2.2.1
     refine wpOpT_of (fun K hK => ?_)
     unfold wpOp
     go_simp
     refine Or.inl ?_
     exact hK _ _ ⟨putT v 1 (.agg #[.float .f64 mar, .float .f64 mar]), (by simp [putT]), hS.step hL hi rfl (by decide) (Below.refl _ _) (Lz.toIs F1)⟩
    ·have hns := hS.open hL hi rfl
     have hB := hS.a hns
     have e0 := Lz.ofIs (hS.f hns 0 rfl (ready_dep hi 0 (by kernel_rfl))) F0
     have e1 := Lz.ofIs (hS.f hns 1 rfl (ready_dep hi 1 (by kernel_rfl))) F1
     refine wpOpT_of (fun K hK => ?_)
     unfold wpOp
     simp only [e0, e1]
     go_simp
     refine Or.inl ?_
     go_at_call 42
     refine (d1 _ (tabW_below T1 hB)).mono ?_
     rintro e w1 ⟨rfl, bc⟩
     exact hK _ _ ⟨putT v 2 (.agg #[.float .f64 P.1, .float .f64 P.2]), (by simp [putT, e0, e1]), hS.step hL hi rfl (by decide) (bc) (Lz.toIs F2)⟩
    ·have hns := hS.open hL hi rfl
     have hB := hS.a hns
     refine wpOpT_of (fun K hK => ?_)
     unfold wpOp
     go_simp
     refine Or.inl ?_
     exact hK _ _ ⟨putT v 3 (.float .f64 x), (by simp [putT]), hS.step hL hi rfl (by decide) (Below.refl _ _) (Lz.toIs F3)⟩
    ·have hns := hS.open hL hi rfl
     have hB := hS.a hns
     have e3 := Lz.ofIs (hS.f hns 3 rfl (ready_dep hi 3 (by kernel_rfl))) F3
     refine wpOpT_of (fun K hK => ?_)
     unfold wpOp
     simp only [e3]
     go_simp
     refine Or.inl ?_
     go_at_call 40
     refine (c1 _ _).mono ?_
     rintro e w1 ⟨rfl, bc⟩
     exact hK _ _ ⟨putT v 4 (.agg #[.float .f64 x, .float .f64 x]), (by simp [putT, e3]), hS.step hL hi rfl (by decide) (bc) (Lz.toIs F4)⟩
    ·have hns := hS.open hL hi rfl
     have hB := hS.a hns
     have a0 := (hB.cell (p := ⟨gl, 0, none⟩) LB.2.2.2.2).trans LB.1
     have a1 := (hB.cell (p := ⟨gl, 1, none⟩) LB.2.2.2.2).trans LB.2.1
     refine wpOpT_of (fun K hK => ?_)
     unfold wpOp
     go_simp
     refine Or.inl ?_
     exact hK _ _ ⟨putT v 5 (.agg #[.float .f64 Ll, .float .f64 Lh]), (by simp [putT]), hS.step hL hi rfl (by decide) (Below.refl _ _) (Lz.toIs F5)⟩
    ·have hns := hS.open hL hi rfl
     have hB := hS.a hns
     have e4 := Lz.ofIs (hS.f hns 4 rfl (ready_dep hi 4 (by kernel_rfl))) F4
     have e5 := Lz.ofIs (hS.f hns 5 rfl (ready_dep hi 5 (by kernel_rfl))) F5
     refine wpOpT_of (fun K hK => ?_)
     unfold wpOp
     simp only [e4, e5]
     go_simp
     refine Or.inl ?_
     go_at_call 42
     refine (d2 _ (tabW_below T1 hB)).mono ?_
     rintro e w1 ⟨rfl, bc⟩
     exact hK _ _ ⟨putT v 6 (.agg #[.float .f64 SL.1, .float .f64 SL.2]), (by simp [putT, e4, e5]), hS.step hL hi rfl (by decide) (bc) (Lz.toIs F6)⟩
    ·have hns := hS.open hL hi rfl
     have hB := hS.a hns
     have e2 := Lz.ofIs (hS.f hns 2 rfl (ready_dep hi 2 (by kernel_rfl))) F2
     have e6 := Lz.ofIs (hS.f hns 6 rfl (ready_dep hi 6 (by kernel_rfl))) F6
     refine wpOpT_of (fun K hK => ?_)
     unfold wpOp
     simp only [e2, e6]
     go_simp
     refine Or.inl ?_
     go_at_call 41
     refine (d3 _ (tabW_below T1 hB)).mono ?_
     rintro e w1 ⟨rfl, bc⟩
     exact hK _ _ ⟨putT v 7 (.agg #[.float .f64 Rl, .float .f64 Rh]), (by simp [putT, e2, e6]), hS.step hL hi rfl (by decide) (bc) (Lz.toIs F7)⟩
    ·refine wpOpT_of (fun K hK => ?_)
     unfold wpOp
     go_simp
     refine Or.inl ?_
     exact hK _ _ ⟨putT v 8 (.float .f64 fo), (by simp [putT]), hS.late hL hi rfl (by decide) (Lz.toFree F8)⟩
    ·refine wpOpT_of (fun K hK => ?_)
     unfold wpOp
     go_simp
     refine Or.inl ?_
     exact hK _ _ ⟨putT v 9 (.float .f64 fu), (by simp [putT]), hS.late hL hi rfl (by decide) (Lz.toFree F9)⟩
    ·have e8 := Lz.ofFree (hS.k 8 (by decide) (ready_dep hi 8 (by kernel_rfl))) F8
     have e9 := Lz.ofFree (hS.k 9 (by decide) (ready_dep hi 9 (by kernel_rfl))) F9
     refine wpOpT_of (fun K hK => ?_)
     unfold wpOp
     simp only [e8, e9]
     go_simp
     refine Or.inl ?_
     exact hK _ _ ⟨putT v 10 (.float .f64 Rn), (by simp [putT, e8, e9]), hS.late hL hi rfl (by decide) (Lz.toFree F10)⟩
    ·have hns := fun q => offT_not (by rw [hL]; exact (mem_ready hi).1) (mem_ready hi).2.1 q
     have hB := hS.a hns
     have e7 := Lz.ofIs (hS.f hns 7 rfl (ready_dep hi 7 (by kernel_rfl))) F7
     obtain ⟨z0, z1, f0, f1, _⟩ := R0.below hB
     have hst := run_storef Tryz.prog
     refine wpOpT_of (fun K hK => ?_)
     unfold wpOp
     simp only [e7]
     go_simp
     refine Or.inl ?_
     exact hK _ _ ⟨putT v 11 undef, (by simp [putT, e7]), hS.last hL hi (by kernel_rfl) (⟨(R0.below hB).put _ _, below_two (hb3.trans (hB.mono hb3.size)) (Nat.le_succ _) _ _⟩)⟩
    ·have e10 := Lz.ofFree (hS.k 10 (by decide) (ready_dep hi 10 (by kernel_rfl))) F10
     refine wpOpT_of (fun K hK => ?_)
     unfold wpOp
     simp only [e10]
     go_simp
     refine Or.inl ?_
     exact hK _ _ ⟨putT v 12 (.float .f64 Rn), (by simp [putT, e10]), hS.late hL hi rfl (by decide) (Lz.toFree F12)⟩
   ·intro L v w' hL hS hr
    have on := all_done hL hr (by kernel_rfl)
    obtain ⟨RZ, bz⟩ := hS.z (on 11 (by decide))
    have e12 := Lz.ofFree (hS.k 12 (by decide) (on 12 (by decide))) F12
    try dsimp only
    rw [e12]
    generalize v 0 = yy0 at *
    generalize v 1 = yy1 at *
    generalize v 2 = yy2 at *
    generalize v 3 = yy3 at *
    generalize v 4 = yy4 at *
    generalize v 5 = yy5 at *
    generalize v 6 = yy6 at *
    generalize v 7 = yy7 at *
    generalize v 8 = yy8 at *
    generalize v 9 = yy9 at *
    generalize v 10 = yy10 at *
    clear hS on hr v e12 F0 F1 F2 F3 F4 F5 F6 F7 F8 F9 F10 F11 F12 FL hL L
    generalize w' = V2 at *
    obtain ⟨z0, z1, _, _, _⟩ := RZ
    go_wp2
    exact bodyPost_ret (v := .tuple #[spV Rl Rh, .float .f64 Rn]) (by simp [results, Tryz.results18, go_sem, z0, z1]) rfl ⟨rfl, bz⟩
  ·have j1 : ((k : Int) == 1) = false := by simpa using (by omega : ¬ (k : Int) = 1)
   by_cases k3 : k = 3
   ·subst k3
    obtain ⟨P, fo, d1, d2, o1, o3⟩ := hC.en rfl
    simp only at d1 d2 o1 o3
    have h1 := fun w => run_float_arith (P := Tryz.prog) w .mul 40 .f64 _ _ _ o1
    have h3 := fun w => run_float_arith (P := Tryz.prog) w .quo 40 .f64 _ _ _ o3
    clear hC
    go_upto_region 11 with fail
    obtain ⟨FL, hFL⟩ : ∃ f : Nat → Lz, f = (fun j => match j with | 0 => .is (.agg #[.float .f64 me, .float .f64 me]) | 1 => .is (.agg #[.float .f64 mi, .float .f64 mi]) | 2 => .is (.agg #[.float .f64 P.1, .float .f64 P.2]) | 3 => .is (.agg #[.float .f64 Ll, .float .f64 Lh]) | 4 => .is (.agg #[.float .f64 Rl, .float .f64 Rh]) | 5 => .is (.float .f64 fo) | 6 => .is (.float .f64 Ln) | 7 => .is (.float .f64 Rn) | 8 => .tr | 9 => .is (.float .f64 Rn) | _ => .tr) := ⟨_, rfl⟩
    have F0 := congrFun hFL 0
    have F1 := congrFun hFL 1
    have F2 := congrFun hFL 2
    have F3 := congrFun hFL 3
    have F4 := congrFun hFL 4
    have F5 := congrFun hFL 5
    have F6 := congrFun hFL 6
    have F7 := congrFun hFL 7
    have F8 := congrFun hFL 8
    have F9 := congrFun hFL 9
    simp only at F0 F1 F2 F3 F4 F5 F6 F7 F8 F9
    clear hFL
    refine region_rgU (by kernel_rfl) (fun v => ⟨#[.agg #[.string ms, .int .u8 ↑mk, .int .i64 ma, .int .i64 mb, .bool ha, .bool hb, .float .f64 me, .float .f64 mar, .float .f64 mi], .int .i64 l2, .int .u8 ↑3, .pointer (some ⟨w.heap.size, 0, none⟩), undef, undef, .pointer (some ⟨w.heap.size + 1, 0, none⟩), v 9, .pointer (some ⟨gl, 0, none⟩), .float .f64 Ln, .float .f64 x, .pointer (some ⟨ge, 0, none⟩), .pointer (some ⟨gr, 0, none⟩), .pointer (some ⟨gi, 0, none⟩), undef, undef, .float .f64 fo, undef, undef, .tuple #[spV Ll Lh, .float .f64 Ln], .int .i64 l2, .tuple #[spV Ll Lh, .float .f64 Ln], spV Ll Lh, .float .f64 Ln, .int .i64 l2, .float .f64 x, y0, y1, y2, y3, y4, y5, y6, y7, y8, .int .u8 ↑3, .bool false, .bool false, undef, undef, undef, undef, undef, undef, undef, undef, undef, undef, undef, undef, undef, undef, undef, undef, undef, undef, undef, .bool true, .bool true, .pointer (some ⟨w.heap.size, 6, none⟩), .float .f64 me, .pointer (some ⟨w.heap.size, 8, none⟩), .float .f64 mi, .float .f64 fo, v 0, v 1, v 2, v 3, v 4, v 5, v 6, v 7, undef, undef, undef, undef, undef, undef, undef, undef, undef, undef, undef, undef, undef, undef, undef, undef, undef, undef, undef, undef, undef, undef, undef, undef, undef, undef, undef], []⟩) 8 (fun j => decide (j ≠ 5 ∧ j ≠ 6 ∧ j ≠ 7 ∧ j ≠ 8 ∧ j ≠ 9)) FL (fun wz => Bx wz (w.heap.size + 1) (.float .f64 Rl) (.float .f64 Rh) ∧ Below w.heap.size w wz) (fun j => match j with | 9 => Value.float FloatKind.f64 0 | _ => undef) rfl ?_ ?_
    ·intro L v w' i hL hS hi
     obtain ⟨hr1, hr2, hr3⟩ := mem_ready hi
     have hr1 : i < 10 := hr1
     try dsimp only
     have hcs : i = 0 ∨ i = 1 ∨ i = 2 ∨ i = 3 ∨ i = 4 ∨ i = 5 ∨ i = 6 ∨ i = 7 ∨ i = 8 ∨ i = 9 := by omega
     clear hr1 hr2 hr3
     rcases hcs with rfl | rfl | rfl | rfl | rfl | rfl | rfl | rfl | rfl | rfl
     ·have hns := hS.open hL hi rfl
      have hB := hS.a hns
      have a0 := (hB.cell (p := ⟨ge, 0, none⟩) B1.2.2.2.2).trans B1.1
      have a1 := (hB.cell (p := ⟨ge, 1, none⟩) B1.2.2.2.2).trans B1.2.1
      refine wpOpT_of (fun K hK => ?_)
      unfold wpOp
      go_simp
      refine Or.inl ?_
      exact hK _ _ ⟨putT v 0 (.agg #[.float .f64 me, .float .f64 me]), (by simp [putT]), hS.step hL hi rfl (by decide) (Below.refl _ _) (Lz.toIs F0)⟩
     ·have hns := hS.open hL hi rfl
      have hB := hS.a hns
      have a0 := (hB.cell (p := ⟨gi, 0, none⟩) B3.2.2.2.2).trans B3.1
      have a1 := (hB.cell (p := ⟨gi, 1, none⟩) B3.2.2.2.2).trans B3.2.1
      refine wpOpT_of (fun K hK => ?_)
      unfold wpOp
      go_simp
      refine Or.inl ?_
      exact hK _ _ ⟨putT v 1 (.agg #[.float .f64 mi, .float .f64 mi]), (by simp [putT]), hS.step hL hi rfl (by decide) (Below.refl _ _) (Lz.toIs F1)⟩
     ·have hns := hS.open hL hi rfl
      have hB := hS.a hns
      have e0 := Lz.ofIs (hS.f hns 0 rfl (ready_dep hi 0 (by kernel_rfl))) F0
      have e1 := Lz.ofIs (hS.f hns 1 rfl (ready_dep hi 1 (by kernel_rfl))) F1
      refine wpOpT_of (fun K hK => ?_)
      unfold wpOp
      simp only [e0, e1]
      go_simp
      refine Or.inl ?_
      go_at_call 42
      refine (d1 _ (tabW_below T1 hB)).mono ?_
      rintro e w1 ⟨rfl, bc⟩
      exact hK _ _ ⟨putT v 2 (.agg #[.float .f64 P.1, .float .f64 P.2]), (by simp [putT, e0, e1]), hS.step hL hi rfl (by decide) (bc) (Lz.toIs F2)⟩
     ·have hns := hS.open hL hi rfl
      have hB := hS.a hns
      have a0 := (hB.cell (p := ⟨gl, 0, none⟩) LB.2.2.2.2).trans LB.1
      have a1 := (hB.cell (p := ⟨gl, 1, none⟩) LB.2.2.2.2).trans LB.2.1
      refine wpOpT_of (fun K hK => ?_)
      unfold wpOp
      go_simp
      refine Or.inl ?_
      exact hK _ _ ⟨putT v 3 (.agg #[.float .f64 Ll, .float .f64 Lh]), (by simp [putT]), hS.step hL hi rfl (by decide) (Below.refl _ _) (Lz.toIs F3)⟩
     ·have hns := hS.open hL hi rfl
      have hB := hS.a hns
      have e2 := Lz.ofIs (hS.f hns 2 rfl (ready_dep hi 2 (by kernel_rfl))) F2
      have e3 := Lz.ofIs (hS.f hns 3 rfl (ready_dep hi 3 (by kernel_rfl))) F3
      refine wpOpT_of (fun K hK => ?_)
      unfold wpOp
      simp only [e2, e3]
      go_simp
      refine Or.inl ?_
      go_at_call 41
      refine (d2 _ (tabW_below T1 hB)).mono ?_
      rintro e w1 ⟨rfl, bc⟩
      exact hK _ _ ⟨putT v 4 (.agg #[.float .f64 Rl, .float .f64 Rh]), (by simp [putT, e2, e3]), hS.step hL hi rfl (by decide) (bc) (Lz.toIs F4)⟩
     ·refine wpOpT_of (fun K hK => ?_)
      unfold wpOp
      go_simp
      refine Or.inl ?_
      exact hK _ _ ⟨putT v 5 (.float .f64 fo), (by simp [putT]), hS.late hL hi rfl (by decide) (Lz.toFree F5)⟩
     ·refine wpOpT_of (fun K hK => ?_)
      unfold wpOp
      go_simp
      refine Or.inl ?_
      exact hK _ _ ⟨putT v 6 (.float .f64 Ln), (by simp [putT]), hS.late hL hi rfl (by decide) (Lz.toFree F6)⟩
     ·have e5 := Lz.ofFree (hS.k 5 (by decide) (ready_dep hi 5 (by kernel_rfl))) F5
      have e6 := Lz.ofFree (hS.k 6 (by decide) (ready_dep hi 6 (by kernel_rfl))) F6
      refine wpOpT_of (fun K hK => ?_)
      unfold wpOp
      simp only [e5, e6]
      go_simp
      refine Or.inl ?_
      exact hK _ _ ⟨putT v 7 (.float .f64 Rn), (by simp [putT, e5, e6]), hS.late hL hi rfl (by decide) (Lz.toFree F7)⟩
     ·have hns := fun q => offT_not (by rw [hL]; exact (mem_ready hi).1) (mem_ready hi).2.1 q
      have hB := hS.a hns
      have e4 := Lz.ofIs (hS.f hns 4 rfl (ready_dep hi 4 (by kernel_rfl))) F4
      obtain ⟨z0, z1, f0, f1, _⟩ := R0.below hB
      have hst := run_storef Tryz.prog
      refine wpOpT_of (fun K hK => ?_)
      unfold wpOp
      simp only [e4]
      go_simp
      refine Or.inl ?_
      exact hK _ _ ⟨putT v 8 undef, (by simp [putT, e4]), hS.last hL hi (by kernel_rfl) (⟨(R0.below hB).put _ _, below_two (hb3.trans (hB.mono hb3.size)) (Nat.le_succ _) _ _⟩)⟩
     ·have e7 := Lz.ofFree (hS.k 7 (by decide) (ready_dep hi 7 (by kernel_rfl))) F7
      refine wpOpT_of (fun K hK => ?_)
      unfold wpOp
      simp only [e7]
      go_simp
      refine Or.inl ?_
      exact hK _ _ ⟨putT v 9 (.float .f64 Rn), (by simp [putT, e7]), hS.late hL hi rfl (by decide) (Lz.toFree F9)⟩
    ·intro L v w' hL hS hr
     have on := all_done hL hr (by kernel_rfl)
     obtain ⟨RZ, bz⟩ := hS.z (on 8 (by decide))
     have e9 := Lz.ofFree (hS.k 9 (by decide) (on 9 (by decide))) F9
     try dsimp only
     rw [e9]
     generalize v 0 = yy0 at *
     generalize v 1 = yy1 at *
     generalize v 2 = yy2 at *
     generalize v 3 = yy3 at *
     generalize v 4 = yy4 at *
     generalize v 5 = yy5 at *
     generalize v 6 = yy6 at *
     generalize v 7 = yy7 at *
     clear hS on hr v e9 F0 F1 F2 F3 F4 F5 F6 F7 F8 F9 FL hL L
     generalize w' = V2 at *
     obtain ⟨z0, z1, _, _, _⟩ := RZ
     go_wp2
     exact bodyPost_ret (v := .tuple #[spV Rl Rh, .float .f64 Rn]) (by simp [results, Tryz.results18, go_sem, z0, z1]) rfl ⟨rfl, bz⟩
   ·have j3 : ((k : Int) == 3) = false := by simpa using (by omega : ¬ (k : Int) = 3)
    obtain ⟨P, B, SS, SL, fw, fo, fu, fv, d1, d2, d3, d4, d5, o1, o2, o3, o4, o5⟩ := hC.ac k1 k3
    simp only at d1 d2 d3 d4 d5 o1 o2 o3 o4 o5
    have h1 := fun w => run_float_arith (P := Tryz.prog) w .mul 40 .f64 _ _ _ o1
    have h2 := fun w => run_float_arith (P := Tryz.prog) w .mul 40 .f64 _ _ _ o2
    have h3 := fun w => run_float_arith (P := Tryz.prog) w .mul 40 .f64 _ _ _ o3
    have h4 := fun w => run_float_arith (P := Tryz.prog) w .mul 40 .f64 _ _ _ o4
    have h5 := fun w => run_float_arith (P := Tryz.prog) w .quo 40 .f64 _ _ _ o5
    clear hC
    go_upto_region 14 with fail
    obtain ⟨FL, hFL⟩ : ∃ f : Nat → Lz, f = (fun j => match j with | 0 => .is (.agg #[.float .f64 4613937818241073152, .float .f64 4613937818241073152]) | 1 => .is (.agg #[.float .f64 me, .float .f64 me]) | 2 => .is (.agg #[.float .f64 mi, .float .f64 mi]) | 3 => .is (.agg #[.float .f64 P.1, .float .f64 P.2]) | 4 => .is (.agg #[.float .f64 B.1, .float .f64 B.2]) | 5 => .is (.float .f64 x) | 6 => .is (.agg #[.float .f64 x, .float .f64 x]) | 7 => .is (.float .f64 x) | 8 => .is (.agg #[.float .f64 x, .float .f64 x]) | 9 => .is (.agg #[.float .f64 SS.1, .float .f64 SS.2]) | 10 => .is (.agg #[.float .f64 Ll, .float .f64 Lh]) | 11 => .is (.agg #[.float .f64 SL.1, .float .f64 SL.2]) | 12 => .is (.agg #[.float .f64 Rl, .float .f64 Rh]) | 13 => .is (.float .f64 fo) | 14 => .is (.float .f64 fv) | 15 => .is (.float .f64 Rn) | 16 => .tr | 17 => .is (.float .f64 Rn) | _ => .tr) := ⟨_, rfl⟩
    have F0 := congrFun hFL 0
    have F1 := congrFun hFL 1
    have F2 := congrFun hFL 2
    have F3 := congrFun hFL 3
    have F4 := congrFun hFL 4
    have F5 := congrFun hFL 5
    have F6 := congrFun hFL 6
    have F7 := congrFun hFL 7
    have F8 := congrFun hFL 8
    have F9 := congrFun hFL 9
    have F10 := congrFun hFL 10
    have F11 := congrFun hFL 11
    have F12 := congrFun hFL 12
    have F13 := congrFun hFL 13
    have F14 := congrFun hFL 14
    have F15 := congrFun hFL 15
    have F16 := congrFun hFL 16
    have F17 := congrFun hFL 17
    simp only at F0 F1 F2 F3 F4 F5 F6 F7 F8 F9 F10 F11 F12 F13 F14 F15 F16 F17
    clear hFL
    refine region_rgU (by kernel_rfl) (fun v => ⟨#[.agg #[.string ms, .int .u8 ↑mk, .int .i64 ma, .int .i64 mb, .bool ha, .bool hb, .float .f64 me, .float .f64 mar, .float .f64 mi], .int .i64 l2, .int .u8 ↑k, .pointer (some ⟨w.heap.size, 0, none⟩), undef, undef, .pointer (some ⟨w.heap.size + 1, 0, none⟩), v 17, .pointer (some ⟨gl, 0, none⟩), .float .f64 Ln, .float .f64 x, .pointer (some ⟨ge, 0, none⟩), .pointer (some ⟨gr, 0, none⟩), .pointer (some ⟨gi, 0, none⟩), undef, undef, undef, .float .f64 fo, .float .f64 fv, .tuple #[spV Ll Lh, .float .f64 Ln], .int .i64 l2, .tuple #[spV Ll Lh, .float .f64 Ln], spV Ll Lh, .float .f64 Ln, .int .i64 l2, .float .f64 x, y0, y1, y2, y3, y4, y5, y6, y7, y8, .int .u8 ↑k, .bool false, .bool false, undef, undef, undef, undef, undef, undef, undef, undef, undef, undef, undef, undef, undef, undef, undef, undef, undef, undef, undef, .bool false, .bool false, undef, undef, undef, undef, undef, undef, undef, undef, undef, undef, undef, undef, undef, .pointer (some ⟨w.heap.size, 6, none⟩), .float .f64 me, .pointer (some ⟨w.heap.size, 8, none⟩), .float .f64 mi, .float .f64 fw, .float .f64 fo, .float .f64 x, .float .f64 x, .float .f64 fu, .float .f64 Ln, .float .f64 fv, v 0, v 1, v 2, v 3, v 4, v 5, v 6, v 7, v 8, v 9, v 10, v 11, v 12, v 13, v 14, v 15], []⟩) 16 (fun j => decide (j ≠ 13 ∧ j ≠ 14 ∧ j ≠ 15 ∧ j ≠ 16 ∧ j ≠ 17)) FL (fun wz => Bx wz (w.heap.size + 1) (.float .f64 Rl) (.float .f64 Rh) ∧ Below w.heap.size w wz) (fun j => match j with | 17 => Value.float FloatKind.f64 0 | _ => undef) rfl ?_ ?_
    ·intro L v w' i hL hS hi
     obtain ⟨hr1, hr2, hr3⟩ := mem_ready hi
     have hr1 : i < 18 := hr1
     try dsimp only
     have hcs : i = 0 ∨ i = 1 ∨ i = 2 ∨ i = 3 ∨ i = 4 ∨ i = 5 ∨ i = 6 ∨ i = 7 ∨ i = 8 ∨ i = 9 ∨ i = 10 ∨ i = 11 ∨ i = 12 ∨ i = 13 ∨ i = 14 ∨ i = 15 ∨ i = 16 ∨ i = 17 := by omega
     clear hr1 hr2 hr3
     rcases hcs with rfl | rfl | rfl | rfl | rfl | rfl | rfl | rfl | rfl | rfl | rfl | rfl | rfl | rfl | rfl | rfl | rfl | rfl
     ·have hns := hS.open hL hi rfl
      have hB := hS.a hns
      refine wpOpT_of (fun K hK => ?_)
      unfold wpOp
      go_simp
      refine Or.inl ?_
      go_at_call 40
      refine (c1 _ _).mono ?_
      rintro e w1 ⟨rfl, bc⟩
      exact hK _ _ ⟨putT v 0 (.agg #[.float .f64 4613937818241073152, .float .f64 4613937818241073152]), (by simp [putT]), hS.step hL hi rfl (by decide) (bc) (Lz.toIs F0)⟩
     ·have hns := hS.open hL hi rfl
      have hB := hS.a hns
      have a0 := (hB.cell (p := ⟨ge, 0, none⟩) B1.2.2.2.2).trans B1.1
      have a1 := (hB.cell (p := ⟨ge, 1, none⟩) B1.2.2.2.2).trans B1.2.1
      refine wpOpT_of (fun K hK => ?_)
      unfold wpOp
      go_simp
      refine Or.inl ?_
      exact hK _ _ ⟨putT v 1 (.agg #[.float .f64 me, .float .f64 me]), (by simp [putT]), hS.step hL hi rfl (by decide) (Below.refl _ _) (Lz.toIs F1)⟩
     ·have hns := hS.open hL hi rfl
      have hB := hS.a hns
      have a0 := (hB.cell (p := ⟨gi, 0, none⟩) B3.2.2.2.2).trans B3.1
      have a1 := (hB.cell (p := ⟨gi, 1, none⟩) B3.2.2.2.2).trans B3.2.1
      refine wpOpT_of (fun K hK => ?_)
      unfold wpOp
      go_simp
      refine Or.inl ?_
      exact hK _ _ ⟨putT v 2 (.agg #[.float .f64 mi, .float .f64 mi]), (by simp [putT]), hS.step hL hi rfl (by decide) (Below.refl _ _) (Lz.toIs F2)⟩
     ·have hns := hS.open hL hi rfl
      have hB := hS.a hns
      have e1 := Lz.ofIs (hS.f hns 1 rfl (ready_dep hi 1 (by kernel_rfl))) F1
      have e2 := Lz.ofIs (hS.f hns 2 rfl (ready_dep hi 2 (by kernel_rfl))) F2
      refine wpOpT_of (fun K hK => ?_)
      unfold wpOp
      simp only [e1, e2]
      go_simp
      refine Or.inl ?_
      go_at_call 42
      refine (d1 _ (tabW_below T1 hB)).mono ?_
      rintro e w1 ⟨rfl, bc⟩
      exact hK _ _ ⟨putT v 3 (.agg #[.float .f64 P.1, .float .f64 P.2]), (by simp [putT, e1, e2]), hS.step hL hi rfl (by decide) (bc) (Lz.toIs F3)⟩
     ·have hns := hS.open hL hi rfl
      have hB := hS.a hns
      have e0 := Lz.ofIs (hS.f hns 0 rfl (ready_dep hi 0 (by kernel_rfl))) F0
      have e3 := Lz.ofIs (hS.f hns 3 rfl (ready_dep hi 3 (by kernel_rfl))) F3
      refine wpOpT_of (fun K hK => ?_)
      unfold wpOp
      simp only [e0, e3]
      go_simp
      refine Or.inl ?_
      go_at_call 42
      refine (d2 _ (tabW_below T1 hB)).mono ?_
      rintro e w1 ⟨rfl, bc⟩
      exact hK _ _ ⟨putT v 4 (.agg #[.float .f64 B.1, .float .f64 B.2]), (by simp [putT, e0, e3]), hS.step hL hi rfl (by decide) (bc) (Lz.toIs F4)⟩
     ·have hns := hS.open hL hi rfl
      have hB := hS.a hns
      refine wpOpT_of (fun K hK => ?_)
      unfold wpOp
      go_simp
      refine Or.inl ?_
      exact hK _ _ ⟨putT v 5 (.float .f64 x), (by simp [putT]), hS.step hL hi rfl (by decide) (Below.refl _ _) (Lz.toIs F5)⟩
     ·have hns := hS.open hL hi rfl
      have hB := hS.a hns
      have e5 := Lz.ofIs (hS.f hns 5 rfl (ready_dep hi 5 (by kernel_rfl))) F5
      refine wpOpT_of (fun K hK => ?_)
      unfold wpOp
      simp only [e5]
      go_simp
      refine Or.inl ?_
      go_at_call 40
      refine (c1 _ _).mono ?_
      rintro e w1 ⟨rfl, bc⟩
      exact hK _ _ ⟨putT v 6 (.agg #[.float .f64 x, .float .f64 x]), (by simp [putT, e5]), hS.step hL hi rfl (by decide) (bc) (Lz.toIs F6)⟩
     ·have hns := hS.open hL hi rfl
      have hB := hS.a hns
      refine wpOpT_of (fun K hK => ?_)
      unfold wpOp
      go_simp
      refine Or.inl ?_
      exact hK _ _ ⟨putT v 7 (.float .f64 x), (by simp [putT]), hS.step hL hi rfl (by decide) (Below.refl _ _) (Lz.toIs F7)⟩
     ·have hns := hS.open hL hi rfl
      have hB := hS.a hns
      have e7 := Lz.ofIs (hS.f hns 7 rfl (ready_dep hi 7 (by kernel_rfl))) F7
      refine wpOpT_of (fun K hK => ?_)
      unfold wpOp
      simp only [e7]
      go_simp
      refine Or.inl ?_
      go_at_call 40
      refine (c1 _ _).mono ?_
      rintro e w1 ⟨rfl, bc⟩
      exact hK _ _ ⟨putT v 8 (.agg #[.float .f64 x, .float .f64 x]), (by simp [putT, e7]), hS.step hL hi rfl (by decide) (bc) (Lz.toIs F8)⟩
     ·have hns := hS.open hL hi rfl
      have hB := hS.a hns
      have e6 := Lz.ofIs (hS.f hns 6 rfl (ready_dep hi 6 (by kernel_rfl))) F6
      have e8 := Lz.ofIs (hS.f hns 8 rfl (ready_dep hi 8 (by kernel_rfl))) F8
      refine wpOpT_of (fun K hK => ?_)
      unfold wpOp
      simp only [e6, e8]
      go_simp
      refine Or.inl ?_
      go_at_call 42
      refine (d3 _ (tabW_below T1 hB)).mono ?_
      rintro e w1 ⟨rfl, bc⟩
      exact hK _ _ ⟨putT v 9 (.agg #[.float .f64 SS.1, .float .f64 SS.2]), (by simp [putT, e6, e8]), hS.step hL hi rfl (by decide) (bc) (Lz.toIs F9)⟩
     ·have hns := hS.open hL hi rfl
      have hB := hS.a hns
      have a0 := (hB.cell (p := ⟨gl, 0, none⟩) LB.2.2.2.2).trans LB.1
      have a1 := (hB.cell (p := ⟨gl, 1, none⟩) LB.2.2.2.2).trans LB.2.1
      refine wpOpT_of (fun K hK => ?_)
      unfold wpOp
      go_simp
      refine Or.inl ?_
      exact hK _ _ ⟨putT v 10 (.agg #[.float .f64 Ll, .float .f64 Lh]), (by simp [putT]), hS.step hL hi rfl (by decide) (Below.refl _ _) (Lz.toIs F10)⟩
     ·have hns := hS.open hL hi rfl
      have hB := hS.a hns
      have e9 := Lz.ofIs (hS.f hns 9 rfl (ready_dep hi 9 (by kernel_rfl))) F9
      have e10 := Lz.ofIs (hS.f hns 10 rfl (ready_dep hi 10 (by kernel_rfl))) F10
      refine wpOpT_of (fun K hK => ?_)
      unfold wpOp
      simp only [e9, e10]
      go_simp
      refine Or.inl ?_
      go_at_call 42
      refine (d4 _ (tabW_below T1 hB)).mono ?_
      rintro e w1 ⟨rfl, bc⟩
      exact hK _ _ ⟨putT v 11 (.agg #[.float .f64 SL.1, .float .f64 SL.2]), (by simp [putT, e9, e10]), hS.step hL hi rfl (by decide) (bc) (Lz.toIs F11)⟩
     ·have hns := hS.open hL hi rfl
      have hB := hS.a hns
      have e4 := Lz.ofIs (hS.f hns 4 rfl (ready_dep hi 4 (by kernel_rfl))) F4
      have e11 := Lz.ofIs (hS.f hns 11 rfl (ready_dep hi 11 (by kernel_rfl))) F11
      refine wpOpT_of (fun K hK => ?_)
      unfold wpOp
      simp only [e4, e11]
      go_simp
      refine Or.inl ?_
      go_at_call 41
      refine (d5 _ (tabW_below T1 hB)).mono ?_
      rintro e w1 ⟨rfl, bc⟩
      exact hK _ _ ⟨putT v 12 (.agg #[.float .f64 Rl, .float .f64 Rh]), (by simp [putT, e4, e11]), hS.step hL hi rfl (by decide) (bc) (Lz.toIs F12)⟩
     ·refine wpOpT_of (fun K hK => ?_)
      unfold wpOp
      go_simp
      refine Or.inl ?_
      exact hK _ _ ⟨putT v 13 (.float .f64 fo), (by simp [putT]), hS.late hL hi rfl (by decide) (Lz.toFree F13)⟩
     ·refine wpOpT_of (fun K hK => ?_)
      unfold wpOp
      go_simp
      refine Or.inl ?_
      exact hK _ _ ⟨putT v 14 (.float .f64 fv), (by simp [putT]), hS.late hL hi rfl (by decide) (Lz.toFree F14)⟩
     ·have e13 := Lz.ofFree (hS.k 13 (by decide) (ready_dep hi 13 (by kernel_rfl))) F13
      have e14 := Lz.ofFree (hS.k 14 (by decide) (ready_dep hi 14 (by kernel_rfl))) F14
      refine wpOpT_of (fun K hK => ?_)
      unfold wpOp
      simp only [e13, e14]
      go_simp
      refine Or.inl ?_
      exact hK _ _ ⟨putT v 15 (.float .f64 Rn), (by simp [putT, e13, e14]), hS.late hL hi rfl (by decide) (Lz.toFree F15)⟩
     ·have hns := fun q => offT_not (by rw [hL]; exact (mem_ready hi).1) (mem_ready hi).2.1 q
      have hB := hS.a hns
      have e12 := Lz.ofIs (hS.f hns 12 rfl (ready_dep hi 12 (by kernel_rfl))) F12
      obtain ⟨z0, z1, f0, f1, _⟩ := R0.below hB
      have hst := run_storef Tryz.prog
      refine wpOpT_of (fun K hK => ?_)
      unfold wpOp
      simp only [e12]
      go_simp
      refine Or.inl ?_
      exact hK _ _ ⟨putT v 16 undef, (by simp [putT, e12]), hS.last hL hi (by kernel_rfl) (⟨(R0.below hB).put _ _, below_two (hb3.trans (hB.mono hb3.size)) (Nat.le_succ _) _ _⟩)⟩
     ·have e15 := Lz.ofFree (hS.k 15 (by decide) (ready_dep hi 15 (by kernel_rfl))) F15
      refine wpOpT_of (fun K hK => ?_)
      unfold wpOp
      simp only [e15]
      go_simp
      refine Or.inl ?_
      exact hK _ _ ⟨putT v 17 (.float .f64 Rn), (by simp [putT, e15]), hS.late hL hi rfl (by decide) (Lz.toFree F17)⟩
    ·intro L v w' hL hS hr
     have on := all_done hL hr (by kernel_rfl)
     obtain ⟨RZ, bz⟩ := hS.z (on 16 (by decide))
     have e17 := Lz.ofFree (hS.k 17 (by decide) (on 17 (by decide))) F17
     try dsimp only
     rw [e17]
     generalize v 0 = yy0 at *
     generalize v 1 = yy1 at *
     generalize v 2 = yy2 at *
     generalize v 3 = yy3 at *
     generalize v 4 = yy4 at *
     generalize v 5 = yy5 at *
     generalize v 6 = yy6 at *
     generalize v 7 = yy7 at *
     generalize v 8 = yy8 at *
     generalize v 9 = yy9 at *
     generalize v 10 = yy10 at *
     generalize v 11 = yy11 at *
     generalize v 12 = yy12 at *
     generalize v 13 = yy13 at *
     generalize v 14 = yy14 at *
     generalize v 15 = yy15 at *
     clear hS on hr v e17 F0 F1 F2 F3 F4 F5 F6 F7 F8 F9 F10 F11 F12 F13 F14 F15 F16 F17 FL hL L
     generalize w' = V2 at *
     obtain ⟨z0, z1, _, _, _⟩ := RZ
     go_wp2
     exact bodyPost_ret (v := .tuple #[spV Rl Rh, .float .f64 Rn]) (by simp [results, Tryz.results18, go_sem, z0, z1]) rfl ⟨rfl, bz⟩
theorem mulB_nr {x y : Nat} (h : (floatBits .mul .f64 x y).isSome = true) : floatBits .mul .f64 x y = some (mulB 0 x y) := by
 obtain ⟨v, hv⟩ := Option.isSome_iff_exists.1 h
 unfold mulB
 cases (someB x && someB y)
 ·rw [hv]; rfl
 ·rw [if_pos rfl, stepF_near]
  unfold pQ
  rw [hv]; rfl
theorem divB_nr {x y : Nat} (h : (floatBits .quo .f64 x y).isSome = true) : floatBits .quo .f64 x y = some (divB 0 x y) := by
 obtain ⟨v, hv⟩ := Option.isSome_iff_exists.1 h
 unfold divB
 cases (someB x && someB y)
 ·rw [hv]; rfl
 ·rw [if_pos rfl, stepF_near]
  unfold kQ
  rw [hv]; rfl
theorem m19_R {a b : Am} {K L : Nat × Nat} (ha : Amt a K) (hb : Amt b L) : CS2 42 a.1 b.1 (muP a.1 b.1) :=
 mul19_any fun w hT => rmul5_B a.1.1 a.1.2 b.1.1 b.1.2 _ _ tB (by unfold muP lsC; rw [lsF_assoc]) (by unfold muP grC; rw [grF_assoc]) ha.rt.1 ha.rt.2.1 hb.rt.1 hb.rt.2.1 ha.rt.2.2 hb.rt.2.2 (corn_mul ha.rt.1 ha.rt.2.1 hb.rt.1 hb.rt.2.1 ha.rt.2.2 hb.rt.2.2).2 w hT
theorem d19_R {a b : Am} {K L : Nat × Nat} (ha : Amt a K) (hb : Amt b L) (l : PosK L) : CS2 41 a.1 b.1 (diP a.1 b.1) :=
 div19_any fun w hT => rdiv5_B a.1.1 a.1.2 b.1.1 b.1.2 _ _ oB (by unfold diP lsC; rw [lsF_assoc]) (by unfold diP grC; rw [grF_assoc]) ha.rt.1 ha.rt.2.1 hb.rt.1 hb.rt.2.1 ha.rt.2.2 hb.rt.2.2 hb.rt.fn.2.2 (hb.pos l).mid (corn_div ha.rt.1 ha.rt.2.1 hb.rt.1 hb.rt.2.1 ha.rt.2.2 hb.rt.2.2 (hb.pos l).mid).2 w hT
theorem stC_of (m : Mb) (hm : MW m) (p q : Jn) (hl : (aptA p q).2.2 ≠ 0) (he : nbB m.e = true) (ha : nbB m.ar = true) (hi : m.kd ≠ 1 → nbB m.i = true) (k : Nat) (hk : m.kd = 1 → k = 1) :
  StC m (aR (l2F p q)) (l2F p q) k (stK m (aR (l2F p q)) (l2F p q) k) := by
 obtain ⟨aS, aL, fS, lS⟩ := amt_len rfl p q hl
 have aE := amt_num hm.e he
 have aA := amt_num hm.ar ha
 generalize l2F p q = x at *
 generalize aR x = L at *
 refine ⟨fun h => ?_, fun h => ?_, fun h1 h3 => ?_⟩
 ·obtain ⟨hP, oP⟩ := amt_mul aE aA pos_k60 pos_k60 is_kP
  obtain ⟨hSL, oS⟩ := amt_mul aS aL pos_kSq pos_kLn is_kSL
  have hD := amt_div hP hSL pos_kP pos_kSL is_kAx
  unfold stK
  rw [if_pos h]
  have c1 := m19_R aE aA
  have c2 := m19_R aS aL
  have c3 := d19_R hP hSL pos_kSL
  have f1 := mulB_nr oP
  have f2 := mulB_nr oS
  have f3 := divB_nr hD.2
  clear hD hSL hP oP oS aE aA aS aL
  exact ⟨(aM (aX m.e) (aX m.ar)).1, (aM (aX x) L).1, (aM (aX m.e) (aX m.ar)).2, (aM (aX x) L).2, c1, c2, c3, f1, f2, f3⟩
 ·have aI := amt_num hm.i (hi fun g => by rw [hk g] at h; exact absurd h (by decide))
  obtain ⟨hB, oB'⟩ := amt_mul aE aI pos_k60 pos_k60 is_kP
  have hD := amt_div hB aL pos_kP pos_kLn is_kEn
  unfold stK
  rw [if_neg (by omega), if_pos h]
  have c1 := m19_R aE aI
  have c2 := d19_R hB aL pos_kLn
  have f1 := mulB_nr oB'
  have f2 := divB_nr hD.2
  clear hD hB oB' aE aI aA aS aL
  exact ⟨(aM (aX m.e) (aX m.i)).1, (aM (aX m.e) (aX m.i)).2, c1, c2, f1, f2⟩
 ·have aI := amt_num hm.i (hi fun g => h1 (hk g))
  obtain ⟨hB, oB'⟩ := amt_mul aE aI pos_k60 pos_k60 is_kP
  obtain ⟨hB3, o3⟩ := amt_mul amt_three hB pos_k3 pos_kP is_kB3
  obtain ⟨hSS, oS⟩ := amt_mul aS aS pos_kSq pos_kSq is_kSS
  obtain ⟨hSSL, oL⟩ := amt_mul hSS aL pos_kSS pos_kLn is_kSSL
  have hD := amt_div hB3 hSSL pos_kB3 pos_kSSL is_kAc
  unfold stK
  rw [if_neg h1, if_neg h3]
  have c1 := m19_R aE aI
  have c2 := m19_R amt_three hB
  have c3 := m19_R aS aS
  have c4 := m19_R hSS aL
  have c5 := d19_R hB3 hSSL pos_kSSL
  have f1 := mulB_nr oB'
  have f2 := mulB_nr o3
  have f3 := mulB_nr oS
  have f4 := mulB_nr oL
  have f5 := divB_nr hD.2
  clear hD hB oB' aE aI aA aS aL hB3 o3 hSS oS hSSL oL
  exact ⟨(aM (aX m.e) (aX m.i)).1, (aM (aX 4613937818241073152) (aM (aX m.e) (aX m.i))).1, (aM (aX x) (aX x)).1, (aM (aM (aX x) (aX x)) L).1, (aM (aX m.e) (aX m.i)).2, (aM (aX 4613937818241073152) (aM (aX m.e) (aX m.i))).2, (aM (aX x) (aX x)).2, (aM (aM (aX x) (aX x)) L).2, c1, c2, c3, c4, c5, f1, f2, f3, f4, f5⟩
theorem stiff19_any (m : Mb) (hm : MW m) (p q : Jn) (hl : (aptA p q).2.2 ≠ 0) (he : nbB m.e = true) (ha : nbB m.ar = true) (hi : m.kd ≠ 1 → nbB m.i = true) (k : Nat) (hk : m.kd = 1 → k = 1) (w : World) (hT : TabW w) :
  Calls Tryz.prog 18 #[mV m, .int .i64 (aptA p q).2.2, .int .u8 k] w fun e w' => e = .returned (.tuple #[spV (stK m (aR (l2F p q)) (l2F p q) k).1.1 (stK m (aR (l2F p q)) (l2F p q) k).1.2, .float .f64 (stK m (aR (l2F p q)) (l2F p q) k).2]) ∧ Below w.heap.size w w' := by
 obtain ⟨aS, aL, fS, lS⟩ := amt_len rfl p q hl
 have hC := stC_of m hm p q hl he ha hi k hk
 have pp := (aS.pos pos_kSq).ends.1
 obtain ⟨_, z, g, _⟩ := pos_facts aS.fn pp.1 pp.2
 have so : someB (l2F p q) = true := by
  unfold someB
  rw [fS]
  unfold aX at z
  simp only at z
  rw [bne, z]
  rfl
 exact stiff19_walk m (aptA p q).2.2 k (l2F p q) rfl (aR (l2F p q)) _ (fun w => length19_any rfl lS so g w) (fun x w => one19_any x w) hC w hT
def sgK (m : Mb) (dx dy l2 : Int) (L : Am) (x : Nat) (k : Nat) : Sg := ⟨0, k, rwK dx dy l2 k m.ha, stK m L x k⟩
theorem spK_kds (m : Mb) (p q : Jn) : spK m p q = (kdK m).map (sgK m (aptA p q).1 (aptA p q).2.1 (aptA p q).2.2 (aR (l2F p q)) (l2F p q)) := by
 rw [spK_is]
 unfold spL kdK sgK rwK stK
 by_cases h : m.kd = 1 ∨ (m.ha = true ∧ m.hb = true)
 ·rw [if_pos h, if_pos h]; rfl
 ·rw [if_neg h, if_neg h]
  cases ha : m.ha <;> cases hb : m.hb <;> simp
theorem MBox.grown {w w' : World} {row : Option Nat} {b : Nat} {m : Mb} (h : MBox w b m) (hg : w.grownBy w' row) (hne : some b ≠ row) : MBox w' b m := by
 have k := fun i => hg.frozen_far ⟨b, i, none⟩ h.lt hne
 obtain ⟨⟨c0, c1, c2, c3, c4, c5, c6, c7, c8⟩, f0, f1, f2, f3, f4, f5, f6, f7, f8, lt⟩ := h
 exact ⟨⟨hg.cell c0 hne, hg.cell c1 hne, hg.cell c2 hne, hg.cell c3 hne, hg.cell c4 hne, hg.cell c5 hne, hg.cell c6 hne, hg.cell c7 hne, hg.cell c8 hne⟩, (k 0).trans f0, (k 1).trans f1, (k 2).trans f2, (k 3).trans f3, (k 4).trans f4, (k 5).trans f5, (k 6).trans f6, (k 7).trans f7, (k 8).trans f8, Nat.lt_of_lt_of_le lt hg.size⟩
set_option maxRecDepth 100000 in
set_option maxHeartbeats 32000000 in
theorem dsprings_any (js : List Jn) (ms : List Mb) (ao mo : Option Addr) (ac mc : Nat) (w : World) (hr : JRow w ao js) (hw : JWs js) (hn : js.length ≤ 1125899906842624) (mr : MRow w mo ms) (mw : MWs ms) (mn : ms.length ≤ 48) (hc : cpA js ms = (0, 0))
  (dxy : Nat → Int × Int × Int) (kd : Nat → List Nat) (sg : Nat → Nat → Sg) (hkq : ∀ k q, (sg k q).k = q) (hll : ∀ k, 1 ≤ (kd k).length ∧ (kd k).length ≤ 3)
  (hA : ∀ k, k < ms.length → ∀ W, Below w.heap.size w W → Calls Tryz.prog 16 #[.agg #[.slice ao js.length ac, .slice mo ms.length mc], mV (ms.getD k mz)] W fun e w' => e = .returned (.tuple #[.int .i64 (dxy k).1, .int .i64 (dxy k).2.1, .int .i64 (dxy k).2.2]) ∧ Below W.heap.size W w')
  (hK : ∀ k, k < ms.length → ∀ W, Calls Tryz.prog 17 #[mV (ms.getD k mz)] W (KdGave W (kd k)))
  (hS : ∀ k, k < ms.length → ∀ j, j < (kd k).length → ∀ W, TabW W → Calls Tryz.prog 18 #[mV (ms.getD k mz), .int .i64 (dxy k).2.2, .int .u8 ((kd k).getD j 0 : Nat)] W fun e w' => e = .returned (.tuple #[spV (sg k ((kd k).getD j 0)).a.1.1 (sg k ((kd k).getD j 0)).a.1.2, .float .f64 (sg k ((kd k).getD j 0)).a.2]) ∧ Below W.heap.size W w')
  (hR : ∀ k, k < ms.length → ∀ j, j < (kd k).length → ∀ W, Calls Tryz.prog 19 #[.int .i64 (dxy k).1, .int .i64 (dxy k).2.1, .int .i64 (dxy k).2.2, .int .u8 ((kd k).getD j 0 : Nat), .bool (ms.getD k mz).ha] W fun e w' => e = .returned (r6V (sg k ((kd k).getD j 0)).r) ∧ Below W.heap.size W w')
  (hT : TabW w) :
  Calls Tryz.prog 6 #[.agg #[.slice ao js.length ac, .slice mo ms.length mc]] w (SgsGave w (sgAll (fun k => (kd k).map (sg k)) ms.length)) := by
 have cc := fun w' (h : Below w.heap.size w w') => dbcheck_any js ms ao mo ac mc w' (hr.below h) hw hn (mr.below h) mw (by omega)
 rw [hc] at cc
 simp only at cc
 have HRM : ∀ W, Below w.heap.size w W → MRow W mo ms := fun W h => mr.below h
 obtain ⟨N, hN⟩ : ∃ N, ms.length = N := ⟨_, rfl⟩
 obtain ⟨A, hAA⟩ : ∃ A, js.length = A := ⟨_, rfl⟩
 have HN : Hid (ms.length = N) := hN
 rw [hN] at cc mn hA hK hS hR ⊢
 rw [hAA] at cc hn hA ⊢
 have HA : Hid (∀ k, k < N → ∀ W, Below w.heap.size w W → Calls Tryz.prog 16 #[.agg #[.slice ao A ac, .slice mo N mc], mV (ms.getD k mz)] W fun e w' => e = .returned (.tuple #[.int .i64 (dxy k).1, .int .i64 (dxy k).2.1, .int .i64 (dxy k).2.2]) ∧ Below W.heap.size W w') := hA
 have HK : Hid (∀ k, k < N → ∀ W, Calls Tryz.prog 17 #[mV (ms.getD k mz)] W (KdGave W (kd k))) := hK
 have HS : Hid (∀ k, k < N → ∀ j, j < (kd k).length → ∀ W, TabW W → Calls Tryz.prog 18 #[mV (ms.getD k mz), .int .i64 (dxy k).2.2, .int .u8 ((kd k).getD j 0 : Nat)] W fun e w' => e = .returned (.tuple #[spV (sg k ((kd k).getD j 0)).a.1.1 (sg k ((kd k).getD j 0)).a.1.2, .float .f64 (sg k ((kd k).getD j 0)).a.2]) ∧ Below W.heap.size W w') := hS
 have HR : Hid (∀ k, k < N → ∀ j, j < (kd k).length → ∀ W, Calls Tryz.prog 19 #[.int .i64 (dxy k).1, .int .i64 (dxy k).2.1, .int .i64 (dxy k).2.2, .int .u8 ((kd k).getD j 0 : Nat), .bool (ms.getD k mz).ha] W fun e w' => e = .returned (r6V (sg k ((kd k).getD j 0)).r) ∧ Below W.heap.size W w') := hR
 have HLL := sgAll_le (fun k => (kd k).map (sg k)) (fun k => by rw [List.length_map]; exact (hll k).2)
 have X0 := PBox.new w (.slice ao A ac) (.slice mo N mc) 25
 have hb0 : Below w.heap.size w (w.alloc (.cells #[.slice ao A ac, .slice mo N mc] 25)) := (Below.refl _ _).alloc (Nat.le_refl _) _
 clear hS hA hK hR hc hr mr hN hAA hn
 obtain ⟨i0, hi, hy0, hy1, hy2⟩ := info_span Tryz.infoSg
 go_enter Tryz.func6, Tryz.ntmps6
 go_upto_region 1 with fail
 generalize w.alloc (.cells #[.slice ao A ac, .slice mo N mc] 25) = W0 at *
 obtain ⟨x0, x1, _, _, _⟩ := id X0
 go_upto_region 2 with (go_at_call 15; refine (cc _ hb0).mono ?_; rintro e w1 ⟨rfl, b1⟩)
 replace X0 := X0.below b1
 have hb1 := hb0.trans (b1.mono hb0.size)
 clear x0 x1 b1 hb0 cc
 obtain ⟨x0, x1, _, _, _⟩ := id X0
 go_upto_region 6 with fail
 have hz0 : w.heap.size < w1.heap.size := X0.lt
 go_loopg [6, 7] N (fun g a v wr => ∃ (k : Nat) (lo : Option Addr) (lc : Nat), k ≤ N ∧ g = N - k ∧ a = .slice lo (sgAll (fun k => (kd k).map (sg k)) k).length lc ∧ v = .int .i64 k ∧ wr.ownsRow w1.heap.size 58 11 (.slice lo (sgAll (fun k => (kd k).map (sg k)) k).length lc) (sgAll (fun k => (kd k).map (sg k)) k).length (sgL (sgAll (fun k => (kd k).map (sg k)) k)) ∧ Below w1.heap.size w1 wr ∧ w1.heap.size ≤ wr.heap.size)
 case atStart => exact ⟨0, none, 0, by omega, rfl, rfl, rfl, World.ownsRow_nil _ _ _ _, Below.refl _ _, Nat.le_refl _⟩
 case round =>
  obtain ⟨k, la, lc, hk, hg, rfl, rfl, hO, hbr, hz⟩ := hrel
  have HG : Hid (gk = N - k) := hg
  clear hg
  have hbx := hb1.trans (hbr.mono (by omega : w.heap.size ≤ w1.heap.size))
  have XR := X0.below hbr
  have hle := HLL k
  by_cases hlt : k < N
  ·rcases HRM _ hbx with h | ⟨b, off, rfl, hc⟩
   ·exact absurd (HN.out ▸ h) (by omega)
   ·have gm := hc k (by rw [HN.out]; exact hlt)
    have cA := HA.out k hlt
    have cK := HK.out k hlt
    have cS := HS.out k hlt
    have cR := HR.out k hlt
    have hlk := hll k
    have cQ : ∀ q, (sg k q).k = q := hkq k
    obtain ⟨n0, hn0⟩ : ∃ n, (sgAll (fun k => (kd k).map (sg k)) k).length = n := ⟨_, rfl⟩
    have HN0 : Hid ((sgAll (fun k => (kd k).map (sg k)) k).length = n0) := hn0
    have HQ : Hid (sgAll (fun k => (kd k).map (sg k)) (k + 1) = sgAll (fun k => (kd k).map (sg k)) k ++ ((kd k).map (sg k)).map (sgM k)) := (show _ = _ from rfl)
    rw [hn0] at hO hle ⊢
    generalize sgAll (fun k => (kd k).map (sg k)) k = pre at *
    obtain ⟨n9, hn9⟩ : ∃ n, (kd k).length = n := ⟨_, rfl⟩
    have HN9 : Hid ((kd k).length = n9) := hn9
    unfold KdGave at cK
    rw [hn9] at cS cR hlk cK
    generalize kd k = kk at *
    generalize sg k = gg at *
    obtain ⟨m, ex⟩ : ∃ m, ms.getD k mz = m := ⟨_, rfl⟩
    rw [ex] at gm cA cK cS cR
    obtain ⟨⟨dx, dy, l2⟩, ed⟩ : ∃ d, dxy k = d := ⟨_, rfl⟩
    rw [ed] at cA cS cR
    simp only at cA cS cR
    clear ex ed hc hn0 hn9 hll HLL hkq
    have MX := MBox.new wr m 42
    have st : Below wr.heap.size wr (wr.alloc (mO m 42)) := (Below.refl _ _).alloc (Nat.le_refl _) _
    have HM : Hid (∀ V g, MBox V g m → MBox V g m) := fun _ _ h => h
    have XV := XR.below st
    have hO1 := jrown_below hO st
    have hbs := hbr.trans (st.mono hz)
    have hzs := Nat.le_trans hz st.size
    have hlo := fun a ha => (ownp_block hO a ha).2
    obtain ⟨ms', kd', xa, xb, ha, hb, xe, xr, xi⟩ := m
    unfold mV at cA cK cS
    unfold mO at MX st XV hO1 hbs hzs
    simp only at *
    obtain ⟨g0, g1, g2, g3, g4, g5, g6, g7, g8⟩ := gm
    simp only at g0 g1 g2 g3 g4 g5 g6 g7 g8
    have hbl : b < wr.heap.size := World.block_lt_of_cell? _ _ g0
    have n1 : b ≠ wr.heap.size := by omega
    have i1 : (k : Int) < (N : Int) := by omega
    have hst := run_storef Tryz.prog
    obtain ⟨x0, x1, _, _, xl⟩ := id XR
    go_upto_region 9 with fail
    clear hst g0 g1 g2 g3 g4 g5 g6 g7 g8 x0 x1 XR hO
    generalize wr.alloc (.cells #[.string ms', .int .u8 kd', .int .i64 xa, .int .i64 xb, .bool ha, .bool hb, .float .f64 xe, .float .f64 xr, .float .f64 xi] 42) = V1 at *
    obtain ⟨y0, y1, y2, y3, y4, y5, y6, y7, y8⟩ := MX.at0
    simp only [Nat.zero_add] at y0 y1 y2 y3 y4 y5 y6 y7 y8
    obtain ⟨x0, x1, _, _, _⟩ := id XV
    have hbw := hb1.trans (hbs.mono (by omega : w.heap.size ≤ w1.heap.size))
    have hgm : w1.heap.size ≤ wr.heap.size := hz
    have hgl : wr.heap.size < V1.heap.size := MX.lt
    go_upto_region 10 with (go_at_call 16; refine (cA _ hbw).mono ?_; rintro e V2 ⟨rfl, ba⟩)
    replace MX := MX.below ba
    clear y0 y1 y2 y3 y4 y5 y6 y7 y8 x0 x1
    obtain ⟨y0, y1, y2, y3, y4, y5, y6, y7, y8⟩ := MX.at0
    simp only [Nat.zero_add] at y0 y1 y2 y3 y4 y5 y6 y7 y8
    go_upto_region 11 with (go_at_call 17; refine (cK _).mono ?_; rintro e V3 ⟨ko, kc, rfl, hU, bk, hkg⟩)
    obtain ⟨kb, kf, rfl, hU2⟩ : ∃ b off, ko = some ⟨b, off, none⟩ ∧ ∀ q, q < kk.length → V3.cell? ⟨b, off + q, none⟩ = some (.int .u8 (kk.getD q 0 : Nat)) := hU.resolve_left (by rw [HN9.out]; omega)
    rw [HN9.out] at hU2
    clear hU
    replace hkg : V2.heap.size ≤ kb := hkg _ rfl
    have b13 := ba.trans (bk.mono ba.size)
    have hO3 := jrown_below hO1 b13
    have hb3 := hbs.trans (b13.mono hzs)
    have hz3 : w1.heap.size ≤ V3.heap.size := Nat.le_trans hzs b13.size
    have M3 := MX.below bk
    have hkl : kb < V3.heap.size := World.block_lt_of_cell? _ _ (hU2 0 (by omega))
    have hgk : wr.heap.size < kb := by have := ba.size; omega
    have hgw : wr.heap.size < V3.heap.size := by omega
    have hlo3 : ∀ a, la = some a → a.block ≠ wr.heap.size ∧ a.block ≠ kb := fun a ha => by have := hlo a ha; omega
    clear y0 y1 y2 y3 y4 y5 y6 y7 y8 MX XV hO1 hbs b13 ba bk hbw st hbr hbx cA cK hlo hgl hzs hkl n1 hbl xl x0 x1 hz
    have HT3 : Hid (∀ W, Below w1.heap.size w1 W → TabW W) := (show ∀ W, _ → _ from fun W h => tabW_below hT (hb1.trans (h.mono (by omega))))
    generalize wr.heap.size = gm at *
    have HJ : Hid (∀ j, j < n9 → sgL (pre ++ ((kk.map gg).map (sgM k)).take (j + 1)) = sgL (pre ++ ((kk.map gg).map (sgM k)).take j) ++ sgC (sgM k (gg (kk.getD j 0)))) := (show ∀ j, j < n9 → _ = _ from fun j hj => by
     have hl : j < (kk.map gg).length := by rw [List.length_map, HN9.out]; exact hj
     have hq : j < kk.length := by rw [HN9.out]; exact hj
     have e : (kk.map gg).getD j sgz = gg (kk.getD j 0) := by simp [List.getD, hq]
     rw [sgM_take hl, e, ← List.append_assoc, sgL_app_one])
    have HF : Hid (((kk.map gg).map (sgM k)).take n9 = (kk.map gg).map (sgM k)) := (show _ = _ from List.take_of_length_le (by simp [HN9.out]))
    have hO3' : V3.ownsRow w1.heap.size 58 11 (.slice la (n0 + 0) lc) (n0 + 0) (sgL (pre ++ ((kk.map gg).map (sgM k)).take 0)) := by simpa using hO3
    clear hO3
    go_upto_region 12 with fail
    go_loopg [6, 13] n9 (fun g a v wv => ∃ (j : Nat) (lo : Option Addr) (lc : Nat), j ≤ n9 ∧ g = n9 - j ∧ a = .slice lo (n0 + j : Nat) lc ∧ v = .int .i64 j ∧ wv.ownsRow w1.heap.size 58 11 (.slice lo (n0 + j) lc) (n0 + j) (sgL (pre ++ ((kk.map gg).map (sgM k)).take j)) ∧ (∀ a, lo = some a → a.block ≠ gm ∧ a.block ≠ kb) ∧ MBox wv gm ⟨ms', kd', xa, xb, ha, hb, xe, xr, xi⟩ ∧ (∀ q, q < n9 → wv.cell? ⟨kb, kf + q, none⟩ = some (.int .u8 (kk.getD q 0 : Nat))) ∧ Below w1.heap.size w1 wv ∧ w1.heap.size ≤ wv.heap.size)
    case atStart => exact ⟨0, la, lc, by omega, rfl, rfl, rfl, hO3', hlo3, M3, hU2, hb3, hz3⟩
    case round =>
     clear hO3' hlo3 M3 hU2 hb3 hz3
     obtain ⟨jx, lo, lc2, hj, hg2, rfl, rfl, hO, hno, MV, hU, hbv, hzv⟩ := hrel
     have HG2 : Hid (gk = n9 - jx) := hg2
     clear hg2
     by_cases hlj : jx < n9
     ·have cS1 := cS jx hlj
      have cR1 := cR jx hlj
      have u0 := hU jx hlj
      have HJ1 : Hid (sgL (pre ++ ((kk.map gg).map (sgM k)).take (jx + 1)) = sgL (pre ++ ((kk.map gg).map (sgM k)).take jx) ++ sgC (sgM k (gg (kk.getD jx 0)))) := HJ.out jx hlj
      generalize kk.getD jx 0 = kq at cS1 cR1 u0 HJ1
      obtain ⟨⟨sm, sk, sr, ⟨⟨sl, sh⟩, sn⟩⟩, es⟩ : ∃ s, gg kq = s := ⟨_, rfl⟩
      have eq1 := cQ kq
      rw [es] at cS1 cR1 HJ1 eq1
      simp only at cS1 cR1 eq1
      subst eq1
      obtain ⟨r0, r1, r2, r3, r4, r5⟩ := sr
      unfold r6V at cR1
      simp only [sgM, sgC] at cR1 HJ1
      generalize sgL (pre ++ ((kk.map gg).map (sgM k)).take jx) = xs at *
      have j1 : (jx : Int) < (n9 : Int) := by omega
      have T1 := HT3.out _ hbv
      obtain ⟨y0, y1, y2, y3, y4, y5, y6, y7, y8⟩ := MV.at0
      simp only [Nat.zero_add] at y0 y1 y2 y3 y4 y5 y6 y7 y8
      clear cS cR es cQ
      have hkv : kb < wr.heap.size := World.block_lt_of_cell? _ _ u0
      go_upto_region 14 with fail
      obtain ⟨VAL, hVAL⟩ : ∃ fz : Nat → Value, fz = (fun j => match j with | 0 => .agg #[.string ms', .int .u8 kd', .int .i64 xa, .int .i64 xb, .bool ha, .bool hb, .float .f64 xe, .float .f64 xr, .float .f64 xi] | 1 => .int .i64 l2 | 2 => .slice (some ⟨kb, kf, none⟩) n9 kc | 3 => .int .i64 jx | 4 => .pointer (some ⟨kb, kf + jx, none⟩) | 5 => .int .u8 sk | 6 => .tuple #[.agg #[.float .f64 sl, .float .f64 sh], .float .f64 sn] | 7 => .tuple #[.agg #[.float .f64 sl, .float .f64 sh], .float .f64 sn] | 8 => .agg #[.float .f64 sl, .float .f64 sh] | 9 => .float .f64 sn | 12 => .float .f64 sn | _ => undef) := ⟨_, rfl⟩
      have V0 : VAL 0 = .agg #[.string ms', .int .u8 kd', .int .i64 xa, .int .i64 xb, .bool ha, .bool hb, .float .f64 xe, .float .f64 xr, .float .f64 xi] := congrFun hVAL 0
      have V1 : VAL 1 = .int .i64 l2 := congrFun hVAL 1
      have V2 : VAL 2 = .slice (some ⟨kb, kf, none⟩) n9 kc := congrFun hVAL 2
      have V3 : VAL 3 = .int .i64 jx := congrFun hVAL 3
      have V4 : VAL 4 = .pointer (some ⟨kb, kf + jx, none⟩) := congrFun hVAL 4
      have V5 : VAL 5 = .int .u8 sk := congrFun hVAL 5
      have V6 : VAL 6 = .tuple #[.agg #[.float .f64 sl, .float .f64 sh], .float .f64 sn] := congrFun hVAL 6
      have V7 : VAL 7 = .tuple #[.agg #[.float .f64 sl, .float .f64 sh], .float .f64 sn] := congrFun hVAL 7
      have V8 : VAL 8 = .agg #[.float .f64 sl, .float .f64 sh] := congrFun hVAL 8
      have V9 : VAL 9 = .float .f64 sn := congrFun hVAL 9
      have V11 : VAL 11 = undef := congrFun hVAL 11
      have V12 : VAL 12 = .float .f64 sn := congrFun hVAL 12
      clear hVAL
      refine region_rgN (by kernel_rfl) (fun vv => ⟨#[.agg #[.slice ao A ac, .slice (some ⟨b, off, none⟩) N mc], .pointer (some ⟨w.heap.size, 0, none⟩), .slice none 0 0, .int .i64 0, .int .i64 0, .int .i64 0, .slice lo (n0 + jx) lc2, .int .i64 ↑k, .pointer (some ⟨gm, 0, none⟩), .int .i64 dx, .int .i64 dy, .int .i64 l2, .slice (some ⟨kb, kf, none⟩) n9 kc, .int .i64 ↑jx, vv 10, vv 12, .tuple #[.int .i64 0, .int .i64 0], .agg #[.slice ao A ac, .slice (some ⟨b, off, none⟩) N mc], .tuple #[.int .i64 0, .int .i64 0], .int .i64 0, .int .i64 0, .int .i64 0, .bool false, undef, .int .i64 ↑k, .pointer (some ⟨w.heap.size, 1, none⟩), .slice (some ⟨b, off, none⟩) N mc, .int .i64 ↑N, .bool true, u29, u30, .pointer (some ⟨w.heap.size, 1, none⟩), .slice (some ⟨b, off, none⟩) N mc, .int .i64 ↑k, .pointer (some ⟨b, off + k * 9, none⟩), .agg #[.string ms', .int .u8 ↑kd', .int .i64 xa, .int .i64 xb, .bool ha, .bool hb, .float .f64 xe, .float .f64 xr, .float .f64 xi], .tuple #[.int .i64 dx, .int .i64 dy, .int .i64 l2], .agg #[.slice ao A ac, .slice (some ⟨b, off, none⟩) N mc], .agg #[.string ms', .int .u8 ↑kd', .int .i64 xa, .int .i64 xb, .bool ha, .bool hb, .float .f64 xe, .float .f64 xr, .float .f64 xi], .tuple #[.int .i64 dx, .int .i64 dy, .int .i64 l2], .int .i64 dx, .int .i64 dy, .int .i64 l2, .agg #[.string ms', .int .u8 ↑kd', .int .i64 xa, .int .i64 xb, .bool ha, .bool hb, .float .f64 xe, .float .f64 xr, .float .f64 xi], .slice (some ⟨kb, kf, none⟩) n9 kc, .int .i64 ↑jx, .slice (some ⟨kb, kf, none⟩) n9 kc, .int .i64 ↑n9, .bool true, u49, u50, vv 7, vv 0, vv 1, vv 2, vv 3, vv 4, vv 5, vv 6, vv 8, vv 9, u61, u62, u63, u64, u65, u66, u67, u68, u69, u70, u71, u72, u73, u74, u75, u76, u77, u78, u79, u80, u81, undef], []⟩) 1 10 11 (fun j => match j with | 0 => (.float .f64 sl, .float .f64 sh) | _ => (undef, undef)) VAL (fun j => match j with | 0 => u52 | 1 => u53 | 2 => u54 | 3 => u55 | 4 => u56 | 5 => u57 | 6 => u58 | 7 => u51 | 8 => u59 | 9 => u60 | 10 => u14 | 12 => u15 | _ => undef) rfl ?_ ?_
      ·intro Lq vv gq wq i hL hS hi
       obtain ⟨hr1, hr2, hr3⟩ := mem_ready hi
       have hr1 : i < 13 := hr1
       have hno := off_not (by rw [hL]; exact hr1) hr2
       try dsimp only
       have hcs : i = 0 ∨ i = 1 ∨ i = 2 ∨ i = 3 ∨ i = 4 ∨ i = 5 ∨ i = 6 ∨ i = 7 ∨ i = 8 ∨ i = 9 ∨ i = 10 ∨ i = 11 ∨ i = 12 := by omega
       have hB := hS.m
       clear hr1 hr2 hr3
       rcases hcs with rfl | rfl | rfl | rfl | rfl | rfl | rfl | rfl | rfl | rfl | rfl | rfl | rfl
       ·have r0 := (hB.cell (p := ⟨gm, 0, none⟩) MV.lt).trans y0
        have r1 := (hB.cell (p := ⟨gm, 1, none⟩) MV.lt).trans y1
        have r2 := (hB.cell (p := ⟨gm, 2, none⟩) MV.lt).trans y2
        have r3 := (hB.cell (p := ⟨gm, 3, none⟩) MV.lt).trans y3
        have r4 := (hB.cell (p := ⟨gm, 4, none⟩) MV.lt).trans y4
        have r5 := (hB.cell (p := ⟨gm, 5, none⟩) MV.lt).trans y5
        have r6 := (hB.cell (p := ⟨gm, 6, none⟩) MV.lt).trans y6
        have r7 := (hB.cell (p := ⟨gm, 7, none⟩) MV.lt).trans y7
        have r8 := (hB.cell (p := ⟨gm, 8, none⟩) MV.lt).trans y8
        refine wpOp_of (fun K hK => ?_)
        unfold wpOp
        go_simp
        refine Or.inl ?_
        exact hK _ _ ⟨put9 vv 0 (.agg #[.string ms', .int .u8 kd', .int .i64 xa, .int .i64 xb, .bool ha, .bool hb, .float .f64 xe, .float .f64 xr, .float .f64 xi]), gq, (by simp [put9]), hS.step hL hi (by decide) (by decide) (Below.refl _ _) V0.symm⟩
       ·refine wpOp_of (fun K hK => ?_)
        unfold wpOp
        go_simp
        refine Or.inl ?_
        exact hK _ _ ⟨put9 vv 1 (.int .i64 l2), gq, (by simp [put9]), hS.step hL hi (by decide) (by decide) (Below.refl _ _) V1.symm⟩
       ·refine wpOp_of (fun K hK => ?_)
        unfold wpOp
        go_simp
        refine Or.inl ?_
        exact hK _ _ ⟨put9 vv 2 (.slice (some ⟨kb, kf, none⟩) n9 kc), gq, (by simp [put9]), hS.step hL hi (by decide) (by decide) (Below.refl _ _) V2.symm⟩
       ·refine wpOp_of (fun K hK => ?_)
        unfold wpOp
        go_simp
        refine Or.inl ?_
        exact hK _ _ ⟨put9 vv 3 (.int .i64 jx), gq, (by simp [put9]), hS.step hL hi (by decide) (by decide) (Below.refl _ _) V3.symm⟩
       ·have e2 : vv 2 = .slice (some ⟨kb, kf, none⟩) n9 kc := (hS.d 2 (by decide) (ready_dep hi 2 (by kernel_rfl))).trans V2
        have e3 : vv 3 = .int .i64 jx := (hS.d 3 (by decide) (ready_dep hi 3 (by kernel_rfl))).trans V3
        refine wpOp_of (fun K hK => ?_)
        unfold wpOp
        simp only [e2, e3]
        go_simp
        refine Or.inl ?_
        exact hK _ _ ⟨put9 vv 4 (.pointer (some ⟨kb, kf + jx, none⟩)), gq, (by simp [put9, e2, e3]), hS.step hL hi (by decide) (by decide) (Below.refl _ _) V4.symm⟩
       ·have e4 : vv 4 = .pointer (some ⟨kb, kf + jx, none⟩) := (hS.d 4 (by decide) (ready_dep hi 4 (by kernel_rfl))).trans V4
        have r0 := (hB.cell (p := ⟨kb, kf + jx, none⟩) hkv).trans u0
        refine wpOp_of (fun K hK => ?_)
        unfold wpOp
        simp only [e4]
        go_simp
        refine Or.inl ?_
        exact hK _ _ ⟨put9 vv 5 (.int .u8 sk), gq, (by simp [put9, e4]), hS.step hL hi (by decide) (by decide) (Below.refl _ _) V5.symm⟩
       ·have e0 : vv 0 = .agg #[.string ms', .int .u8 kd', .int .i64 xa, .int .i64 xb, .bool ha, .bool hb, .float .f64 xe, .float .f64 xr, .float .f64 xi] := (hS.d 0 (by decide) (ready_dep hi 0 (by kernel_rfl))).trans V0
        have e1 : vv 1 = .int .i64 l2 := (hS.d 1 (by decide) (ready_dep hi 1 (by kernel_rfl))).trans V1
        have e5 : vv 5 = .int .u8 sk := (hS.d 5 (by decide) (ready_dep hi 5 (by kernel_rfl))).trans V5
        refine wpOp_of (fun K hK => ?_)
        unfold wpOp
        simp only [e0, e1, e5]
        go_simp
        refine Or.inl ?_
        go_at_call 18
        refine (cS1 _ (tabW_below T1 hB)).mono ?_
        rintro e wz ⟨rfl, bc⟩
        exact hK _ _ ⟨put9 vv 6 (.tuple #[.agg #[.float .f64 sl, .float .f64 sh], .float .f64 sn]), gq, (by simp [put9, e0, e1, e5]), hS.step hL hi (by decide) (by decide) (bc) V6.symm⟩
       ·have e6 : vv 6 = .tuple #[.agg #[.float .f64 sl, .float .f64 sh], .float .f64 sn] := (hS.d 6 (by decide) (ready_dep hi 6 (by kernel_rfl))).trans V6
        refine wpOp_of (fun K hK => ?_)
        unfold wpOp
        simp only [e6]
        go_simp
        refine Or.inl ?_
        exact hK _ _ ⟨put9 vv 7 (.tuple #[.agg #[.float .f64 sl, .float .f64 sh], .float .f64 sn]), gq, (by simp [put9, e6]), hS.step hL hi (by decide) (by decide) (Below.refl _ _) V7.symm⟩
       ·have e7 : vv 7 = .tuple #[.agg #[.float .f64 sl, .float .f64 sh], .float .f64 sn] := (hS.d 7 (by decide) (ready_dep hi 7 (by kernel_rfl))).trans V7
        refine wpOp_of (fun K hK => ?_)
        unfold wpOp
        simp only [e7]
        go_simp
        refine Or.inl ?_
        exact hK _ _ ⟨put9 vv 8 (.agg #[.float .f64 sl, .float .f64 sh]), gq, (by simp [put9, e7]), hS.step hL hi (by decide) (by decide) (Below.refl _ _) V8.symm⟩
       ·have e7 : vv 7 = .tuple #[.agg #[.float .f64 sl, .float .f64 sh], .float .f64 sn] := (hS.d 7 (by decide) (ready_dep hi 7 (by kernel_rfl))).trans V7
        refine wpOp_of (fun K hK => ?_)
        unfold wpOp
        simp only [e7]
        go_simp
        refine Or.inl ?_
        exact hK _ _ ⟨put9 vv 9 (.float .f64 sn), gq, (by simp [put9, e7]), hS.step hL hi (by decide) (by decide) (Below.refl _ _) V9.symm⟩
       ·refine wpOp_of (fun K hK => ?_)
        unfold wpOp
        go_simp
        refine Or.inl ?_
        exact hK _ _ ⟨put9 vv 10 (.pointer (some ⟨wq.heap.size, 0, none⟩)), _, (by simp [put9]), hS.make (i := 0) hL (by decide) hi hno (by decide) (by kernel_rfl)⟩
       ·have e8 : vv 8 = .agg #[.float .f64 sl, .float .f64 sh] := (hS.d 8 (by decide) (ready_dep hi 8 (by kernel_rfl))).trans V8
        have ha := ready_dep hi 10 (by kernel_rfl)
        have e10 : vv 10 = .pointer (some ⟨gq 0, 0, none⟩) := (hS.p 0 (by decide) ha).1
        obtain ⟨q0, q1, q2, q3, _⟩ := hS.nb 0 (by decide) ha hno
        have hst := run_storef Tryz.prog
        refine wpOp_of (fun K hK => ?_)
        unfold wpOp
        simp only [e8, e10]
        go_simp
        refine Or.inl ?_
        exact hK _ _ ⟨put9 vv 11 undef, gq, (by simp [put9, e8, e10]), hS.store (i := 0) hL (by decide) hi hno (by decide) (fun j hj => by rcases (show j = 0 by omega) with rfl <;> kernel_rfl) V11.symm⟩
       ·have e9 : vv 9 = .float .f64 sn := (hS.d 9 (by decide) (ready_dep hi 9 (by kernel_rfl))).trans V9
        refine wpOp_of (fun K hK => ?_)
        unfold wpOp
        simp only [e9]
        go_simp
        refine Or.inl ?_
        exact hK _ _ ⟨put9 vv 12 (.float .f64 sn), gq, (by simp [put9, e9]), hS.step hL hi (by decide) (by decide) (Below.refl _ _) V12.symm⟩
      ·intro Lq vv gq wq hL hS hr
       have on := all_done hL hr (by kernel_rfl)
       have B1 : Bx wq (gq 0) (.float .f64 sl) (.float .f64 sh) := hS.yb 0 (by decide) (on 11 (by decide))
       have q10 : vv 10 = .pointer (some ⟨gq 0, 0, none⟩) := (hS.p 0 (by decide) (on 10 (by decide))).1
       have hgq : wr.heap.size ≤ gq 0 := (hS.p 0 (by decide) (on 10 (by decide))).2
       have q12 : vv 12 = .float .f64 sn := (hS.d 12 (by decide) (on 12 (by decide))).trans V12
       have bq := hS.m
       try dsimp only
       rw [q10, q12]
       generalize vv 0 = z0 at *
       generalize vv 1 = z1 at *
       generalize vv 2 = z2 at *
       generalize vv 3 = z3 at *
       generalize vv 4 = z4 at *
       generalize vv 5 = z5 at *
       generalize vv 6 = z6 at *
       generalize vv 7 = z7 at *
       generalize vv 8 = z8 at *
       generalize vv 9 = z9 at *
       generalize vv 11 = z11 at *
       clear hS on hr VAL q10 q12 vv hL Lq V0 V1 V2 V3 V4 V5 V6 V7 V8 V9 V11 V12
       generalize gq 0 = gs at *
       clear gq
       have p0 := (bq.cell (p := ⟨kb, kf + jx, none⟩) hkv).trans u0
       have p1 := (bq.cell (p := ⟨gm, 4, none⟩) MV.lt).trans y4
       obtain ⟨p2, p3, _⟩ := id B1
       have D1 := (Below.refl wq.heap.size wq).drew
       have hOq := jrown_below (jrown_below hO bq) D1
       have hq3 := hbv.trans (bq.mono hzv)
       have hzq : w1.heap.size ≤ wq.heap.size := Nat.le_trans hzv bq.size
       have MQ := MV.below bq
       have hUq : ∀ q, q < n9 → wq.cell? ⟨kb, kf + q, none⟩ = some (.int .u8 (kk.getD q 0 : Nat)) := fun q hq => (bq.cell (p := ⟨kb, kf + q, none⟩) hkv).trans (hU q hq)
       have hkq2 : kb < wq.heap.size := Nat.lt_of_lt_of_le hkv bq.size
       have hgl2 : gm < wq.heap.size := MQ.lt
       have hgs2 : gs < wq.heap.size := B1.2.2.2.2
       have neB : ∀ q, (Value.slice lo (n0 + jx) lc2).ownBlock = some q → q < wr.heap.size ∧ q ≠ gm ∧ q ≠ kb ∧ w1.heap.size ≤ q := fun q hq => by
        cases lo with
        | none => cases hq
        | some a =>
         obtain rfl : a.block = q := Option.some.inj hq
         have := ownp_block hO a rfl
         exact ⟨this.2, (hno a rfl).1, (hno a rfl).2, this.1⟩
       have neK : some kb ≠ (Value.slice lo (n0 + jx) lc2).ownBlock := fun e => (neB _ e.symm).2.2.1 rfl
       have neM : some gm ≠ (Value.slice lo (n0 + jx) lc2).ownBlock := fun e => (neB _ e.symm).2.1 rfl
       have neS : some gs ≠ (Value.slice lo (n0 + jx) lc2).ownBlock := fun e => by have := (neB _ e.symm).1; omega
       have hsz3 := bq.size
       clear y0 y1 y2 y3 y4 y5 y6 y7 y8 u0 hU MV cS1 T1 HT3 bq hO hbv hzv hkv hgq B1
       go_upto_region 15 with fail
       go_region_held3 (fun w' => w'.cell? ⟨kb, kf + jx, none⟩ = some (.int .u8 sk) ∧ w'.cell? ⟨gm, 4, none⟩ = some (.bool ha) ∧ w'.cell? ⟨gs, 0, none⟩ = some (.float .f64 sl) ∧ w'.cell? ⟨gs, 1, none⟩ = some (.float .f64 sh)) (go_keep)
        (first
        | (go_at_call 19; refine (cR1 _).mono ?_; rintro e w3 ⟨rfl, b3⟩; have b13 := D1.trans b3; have hO3 := jrown_below hOq b3; have hz3 : w1.heap.size ≤ w3.heap.size := Nat.le_trans hzq b13.size; have hz4 : w1.heap.size ≤ (w3.alloc (.cells #[.int .i64 k, .int .u8 sk, .int .i64 r0, .int .i64 r1, .int .i64 r2, .int .i64 r3, .int .i64 r4, .int .i64 r5, .float .f64 sl, .float .f64 sh, .float .f64 sn] 58)).heap.size := (by simp; omega); have st3 : Below w3.heap.size w3 (w3.alloc (.cells #[.int .i64 k, .int .u8 sk, .int .i64 r0, .int .i64 r1, .int .i64 r2, .int .i64 r3, .int .i64 r4, .int .i64 r5, .float .f64 sl, .float .f64 sh, .float .f64 sn] 58)) := (Below.refl _ _).alloc (Nat.le_refl _) _; have l13 := b13.size; have ka0 := (b13.cell (p := ⟨kb, kf + jx, none⟩) hkq2).trans p0; have ka1 := (b13.cell (p := ⟨gm, 4, none⟩) hgl2).trans p1; have ka2 := (b13.cell (p := ⟨gs, 0, none⟩) hgs2).trans p2; have ka3 := (b13.cell (p := ⟨gs, 1, none⟩) hgs2).trans p3)
        | (refine step_append_lies _ (by rfl) _ _ _ (by rfl) w1.heap.size 58 i0 (.agg #[.int .i64 0, .int .u8 0, .int .i64 0, .int .i64 0, .int .i64 0, .int .i64 0, .int .i64 0, .int .i64 0, .float .f64 0, .float .f64 0, .float .f64 0]) 11 88 Tryz.underlying27 hi hy0 hy1 hy2 rfl (by decide) (.slice lo (n0 + jx) lc2) (n0 + jx) xs (by rfl) (World.ownsRow.alloc hO3 _) _ 1 1 [.int .i64 k, .int .u8 sk, .int .i64 r0, .int .i64 r1, .int .i64 r2, .int .i64 r3, .int .i64 r4, .int .i64 r5, .float .f64 sl, .float .f64 sh, .float .f64 sn] (by rfl) rfl (World.news_of_block (cs := #[.int .i64 k, .int .u8 sk, .int .i64 r0, .int .i64 r1, .int .i64 r2, .int .i64 r3, .int .i64 r4, .int .i64 r5, .float .f64 sl, .float .f64 sh, .float .f64 sn]) (t := 58) (fr := (0, 0)) (heap_alloc_new _ _)) (by simp [Value.oneCell']) (by decide) (by unfold maxLen; omega) (by omega) hz4 _ rfl ?_; intro g5 cap5 w5 hown5 hgrow hat hlt5; have kb0 := hgrow.cell ((st3.cell (p := ⟨kb, kf + jx, none⟩) (Nat.lt_of_lt_of_le hkq2 l13)).trans ka0) neK; have kb1 := hgrow.cell ((st3.cell (p := ⟨gm, 4, none⟩) (Nat.lt_of_lt_of_le hgl2 l13)).trans ka1) neM; have kb2 := hgrow.cell ((st3.cell (p := ⟨gs, 0, none⟩) (Nat.lt_of_lt_of_le hgs2 l13)).trans ka2) neS; have kb3 := hgrow.cell ((st3.cell (p := ⟨gs, 1, none⟩) (Nat.lt_of_lt_of_le hgs2 l13)).trans ka3) neS))
       have M5 : MBox w5 gm ⟨ms', kd', xa, xb, ha, hb, xe, xr, xi⟩ := ((MQ.below b13).below st3).grown hgrow neM
       have U5 : ∀ q, q < n9 → w5.cell? ⟨kb, kf + q, none⟩ = some (.int .u8 (kk.getD q 0 : Nat)) := fun q hq => hgrow.cell ((st3.cell (p := ⟨kb, kf + q, none⟩) (Nat.lt_of_lt_of_le hkq2 l13)).trans ((b13.cell (p := ⟨kb, kf + q, none⟩) hkq2).trans (hUq q hq))) neK
       have b5 : Below w1.heap.size w1 w5 := ((hq3.trans (b13.mono hzq)).trans (st3.mono hz3)).grown hgrow hz4 (fun j hj => (neB j hj).2.2.2)
       have hz5 := Nat.le_trans hz4 hgrow.size
       have l34 := st3.size
       have hn5 : ∀ a, some (⟨g5, 0, none⟩ : Addr) = some a → a.block ≠ gm ∧ a.block ≠ kb := fun a ha => by
        cases ha
        rcases hat with h | h
        ·exact ⟨(neB _ h).2.1, (neB _ h).2.2.1⟩
        ·exact ⟨by show g5 ≠ gm; omega, by show g5 ≠ kb; omega⟩
       clear hgrow hat hlt5 ka0 ka1 ka2 ka3 kb0 kb1 kb2 kb3 p0 p1 p2 p3 MQ hUq hOq hO3 b3 b13 st3 neB neK neM neS hq3 hzq hz3 hz4 l13 l34 D1 hno
       go_wp2
       go_roundg (n9 - (jx + 1))
       case measure => rw [HG2.out]; omega
       case rel => exact ⟨jx + 1, some ⟨g5, 0, none⟩, cap5, by omega, rfl, rfl, by go_num, by rw [HJ1.out]; exact hown5, hn5, M5, U5, b5, hz5⟩
     ·have ej : jx = n9 := by omega
      subst ej
      have j1 : ¬ (jx : Int) < (jx : Int) := by omega
      rw [HF.out] at hO
      have HL1 : Hid ((sgAll (fun k => (kd k).map (sg k)) (k + 1)).length = n0 + jx) := (show _ = _ by rw [HQ.out]; simp [HN0.out, HN9.out])
      clear HJ HF cS cR MV hU hno
      go_wp2
      go_roundg (N - (k + 1))
      case measure => rw [HG.out]; omega
      case rel => exact ⟨k + 1, lo, lc2, by omega, rfl, by rw [HL1.out], by go_num, by rw [HL1.out, HQ.out]; exact hO, hbv, hzv⟩
  ·have e : k = N := by omega
   subst e
   have i1 : ¬ (k : Int) < (k : Int) := by omega
   obtain ⟨x0, x1, _, _, xl⟩ := id XR
   go_wp2
   exact bodyPost_ret (v := .tuple #[.slice la (sgAll (fun k => (kd k).map (sg k)) k).length lc, .int .i64 0]) (by simp [results, Tryz.results6]) rfl ⟨la, lc, rfl, sg_own hO rfl, hbx⟩
end Go.Proofs.YtkjgilffljlanaaGreatDoor
