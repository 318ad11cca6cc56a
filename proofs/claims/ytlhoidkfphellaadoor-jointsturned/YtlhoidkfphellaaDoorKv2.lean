/- JointsTurned: the walk. -/
import Derived.Test.YtlhoidkfphellaaDoorJT
namespace Go.Proofs.YtlhoidkfphellaaDoor
open Go.RowKit

theorem run_storefn (P : Program) (n : Nat) (a : Addr) (m : Mode) (w : World) : (store a (.func (.func n) #[] #[]) m).run P w = stored P w a (.func (.func n) #[] #[]) m := run_store P w a _ m rfl
theorem region_quiet18 {P : Program} {id : Nat} {Q : Exit → Act → World → Prop} {a : Act} {w : World} {l : List Oper} (hm : P.follows .mixedOrders = true) (hB : Region.lexB .any l.toArray = true) (hT : TabW w)
    (h : ∀ O : Array Oper, (∀ j : Nat, O[j]? = l.toArray[j]?) → wpQuiet P O (fun w' => ∃ u : QOf w, w' = u.val) (fun a' => ∀ w', (∃ u : QOf w, w' = u.val) → Q .normal a' w') l a) : (Code.region id l.toArray true).wp P Q a w :=
  region_quietB hm hB hT (h _ (fun _ => rfl))
set_option maxRecDepth 100000 in
set_option maxHeartbeats 16000000 in
theorem turned_law (x y p q au av : Int) (w : World) (hT : TabW w) :
    Calls Tryd.prog 6 #[.int .i64 x, .int .i64 y, .int .i64 p, .int .i64 q, .int .i64 au, .int .i64 av] w fun e w' => e = .returned (.bool true) ∧ Below w.heap.size w w' := by
  have hst := run_storef Tryd.prog
  have hsf := run_storefn Tryd.prog 22
  have ca := jawake_any w hT
  have cp := fun w' => point_any x y w'
  have cq := fun w' => point_any p q w'
  have cr := fun w' => point_any au av w'
  unfold jV at cp cq cr
  simp only at cp cq cr
  go_enter Tryd.func6, Tryd.ntmps6
  go_upto_region 3 with (go_at_call 11; refine ca.mono ?_; rintro e w1 ⟨rfl, b1⟩)
  go_upto_region 4 with (first | (go_at_call_of 14 (Value.int IntKind.i64 x); refine (cp _).mono ?_; rintro e w2 ⟨X1, Y1, rfl, hX1, hY1, b2⟩) | (go_at_call_of 14 (Value.int IntKind.i64 p); refine (cq _).mono ?_; rintro e w3 ⟨X2, Y2, rfl, hX2, hY2, b3⟩) | (go_at_call 14; refine (cr _).mono ?_; rintro e w4 ⟨X3, Y3, rfl, hX3, hY3, b4⟩))
  clear ca cp cq cr
  have hb4 := ((b1.trans (b2.mono b1.size)).trans (b3.mono (Nat.le_trans b1.size b2.size))).trans (b4.mono (Nat.le_trans (Nat.le_trans b1.size b2.size) b3.size))
  have J1 := ((JBox.new w4 (.string pN) (.int .i32 X1) (.int .i32 Y1) (.int .u8 0) 33).alloc (.cells #[.string pN, .int .i32 X2, .int .i32 Y2, .int .u8 0] 33)).alloc (.cells #[.string pN, .int .i32 X3, .int .i32 Y3, .int .u8 0] 33)
  have J2 := (JBox.new (w4.alloc (.cells #[.string pN, .int .i32 X1, .int .i32 Y1, .int .u8 0] 33)) (.string pN) (.int .i32 X2) (.int .i32 Y2) (.int .u8 0) 33).alloc (.cells #[.string pN, .int .i32 X3, .int .i32 Y3, .int .u8 0] 33)
  have J3 := JBox.new ((w4.alloc (.cells #[.string pN, .int .i32 X1, .int .i32 Y1, .int .u8 0] 33)).alloc (.cells #[.string pN, .int .i32 X2, .int .i32 Y2, .int .u8 0] 33)) (.string pN) (.int .i32 X3) (.int .i32 Y3) (.int .u8 0) 33
  have hs1 : (w4.alloc (.cells #[.string pN, .int .i32 X1, .int .i32 Y1, .int .u8 0] 33)).heap.size = w4.heap.size + 1 := by simp
  have hs2 : ((w4.alloc (.cells #[.string pN, .int .i32 X1, .int .i32 Y1, .int .u8 0] 33)).alloc (.cells #[.string pN, .int .i32 X2, .int .i32 Y2, .int .u8 0] 33)).heap.size = w4.heap.size + 1 + 1 := by simp
  rw [hs1] at J2
  rw [hs2] at J3
  have hz4 := hb4.size
  have hb5 := ((hb4.alloc hb4.size (.cells #[.string pN, .int .i32 X1, .int .i32 Y1, .int .u8 0] 33)).alloc (by rw [hs1]; omega) (.cells #[.string pN, .int .i32 X2, .int .i32 Y2, .int .u8 0] 33)).alloc (by rw [hs2]; omega) (.cells #[.string pN, .int .i32 X3, .int .i32 Y3, .int .u8 0] 33)
  clear hs1 hs2 b1 b2 b3 b4 hb4 hz4
  generalize ((w4.alloc (.cells #[.string pN, .int .i32 X1, .int .i32 Y1, .int .u8 0] 33)).alloc (.cells #[.string pN, .int .i32 X2, .int .i32 Y2, .int .u8 0] 33)).alloc (.cells #[.string pN, .int .i32 X3, .int .i32 Y3, .int .u8 0] 33) = W0 at *
  generalize w4.heap.size = P at *
  have cA := fun w' => apart_any (pN, X1, Y1, 0) (pN, X2, Y2, 0) w'
  have cL := fun w' (t : TabW w') => length_any (pN, X1, Y1, 0) (pN, X2, Y2, 0) w' t
  have eA := apt_in (a := (pN, X1, Y1, 0)) (b := (pN, X2, Y2, 0)) hX1 hY1 hX2 hY2
  obtain ⟨xl, xh, xn, n, hn, hn2, e1, e2, e0, hR⟩ := length_rts (pN, X1, Y1, 0) (pN, X2, Y2, 0)
  rw [e1, e2, e0] at cL
  have hnA := hn.symm
  rw [eA] at cA hn
  unfold jV at cA cL
  simp only at cA cL hn
  rw [← hn] at cA
  have HN : Hid _ := hn
  have HNA : Hid ((aptA (pN, X1, Y1, 0) (pN, X2, Y2, 0)).2.2 = (n : Int)) := hnA
  have HE1 : Hid _ := e1
  have HE2 : Hid _ := e2
  have HE0 : Hid _ := e0
  have HR : Hid _ := hR
  clear hn hnA e1 e2 e0 eA hR
  obtain ⟨x0, x1, x2, x3, _, _, _, _, _⟩ := id J1
  obtain ⟨y0, y1, y2, y3, _, _, _, _, _⟩ := id J2
  go_upto_region 5 with (go_at_call 15; refine (cA _).mono ?_; rintro e v1 ⟨rfl, c1⟩)
  replace J1 := J1.below c1
  replace J2 := J2.below c1
  replace J3 := J3.below c1
  have hb6 := hb5.trans (c1.mono hb5.size)
  have T6 := tabW_below hT hb6
  clear cA c1 hb5 x0 x1 x2 x3 y0 y1 y2 y3
  obtain ⟨x0, x1, x2, x3, _, _, _, _, _⟩ := id J1
  obtain ⟨y0, y1, y2, y3, _, _, _, _, _⟩ := id J2
  go_upto_region 6 with (go_at_call 16; refine (cL _ T6).mono ?_; rintro e v2 ⟨rfl, c2⟩)
  have hb7 := hb6.trans (c2.mono hb6.size)
  replace hb7 := hb7.alloc hb7.size (.cells #[.float .f64 xl, .float .f64 xh] 40)
  replace J1 := (J1.below c2).alloc (.cells #[.float .f64 xl, .float .f64 xh] 40)
  replace J2 := (J2.below c2).alloc (.cells #[.float .f64 xl, .float .f64 xh] 40)
  replace J3 := (J3.below c2).alloc (.cells #[.float .f64 xl, .float .f64 xh] 40)
  have S1 := Bx.new v2 (.float .f64 xl) (.float .f64 xh) 40
  generalize v2.alloc (.cells #[.float .f64 xl, .float .f64 xh] 40) = Wa1 at *
  generalize v2.heap.size = G at *
  clear cL c2 hb6 T6 x0 x1 x2 x3 y0 y1 y2 y3
  go_upto_region 7 with fail
  have hC : (Wa1.alloc (.cells #[.func (.func 22) #[] #[]] 54)).cell? ⟨Wa1.heap.size, 0, none⟩ = some (.func (.func 22) #[] #[]) := by simp [go_sem]
  have hb8 := hb7.alloc hb7.size (.cells #[.func (.func 22) #[] #[]] 54)
  replace J1 := J1.alloc (.cells #[.func (.func 22) #[] #[]] 54)
  replace J2 := J2.alloc (.cells #[.func (.func 22) #[] #[]] 54)
  replace J3 := J3.alloc (.cells #[.func (.func 22) #[] #[]] 54)
  replace S1 := S1.alloc (.cells #[.func (.func 22) #[] #[]] 54)
  generalize Wa1.alloc (.cells #[.func (.func 22) #[] #[]] 54) = Wa2 at *
  generalize Wa1.heap.size = C at *
  have T8 := tabW_below hT hb8
  have k1 := khalf_bd hX1
  have k2 := khalf_bd hY1
  have k3 := khalf_bd hX2
  have k4 := khalf_bd hY2
  have ch1 := fun w' => half_any pN X1 Y1 0 hX1 hY1 w'
  have ch2 := fun w' => half_any pN X2 Y2 0 hX2 hY2 w'
  have cAh := fun w' => apart_any (noN, X1.tdiv 2, Y1.tdiv 2, 0) (noN, X2.tdiv 2, Y2.tdiv 2, 0) w'
  rw [apt_in (a := (noN, X1.tdiv 2, Y1.tdiv 2, 0)) (b := (noN, X2.tdiv 2, Y2.tdiv 2, 0)) (by simp only; omega) (by simp only; omega) (by simp only; omega) (by simp only; omega)] at cAh
  unfold jV at cAh
  simp only at cAh ch1 ch2
  obtain ⟨x0, x1, x2, x3, _, _, _, _, _⟩ := id J1
  obtain ⟨y0, y1, y2, y3, _, _, _, _, _⟩ := id J2
  have hne : Nonempty (QOf Wa2) := QOf.any T8
  have q0 : ∀ u : QOf Wa2, u.val.cell? ⟨C, 0, none⟩ = some (.func (.func 22) #[] #[]) := fun u => u.cell hC
  have q1 : ∀ u : QOf Wa2, u.val.cell? ⟨P, 0, none⟩ = some (.string pN) := fun u => u.cell x0
  have q2 : ∀ u : QOf Wa2, u.val.cell? ⟨P, 1, none⟩ = some (.int .i32 X1) := fun u => u.cell x1
  have q3 : ∀ u : QOf Wa2, u.val.cell? ⟨P, 2, none⟩ = some (.int .i32 Y1) := fun u => u.cell x2
  have q4 : ∀ u : QOf Wa2, u.val.cell? ⟨P, 3, none⟩ = some (.int .u8 0) := fun u => u.cell x3
  have q5 : ∀ u : QOf Wa2, u.val.cell? ⟨P + 1, 0, none⟩ = some (.string pN) := fun u => u.cell y0
  have q6 : ∀ u : QOf Wa2, u.val.cell? ⟨P + 1, 1, none⟩ = some (.int .i32 X2) := fun u => u.cell y1
  have q7 : ∀ u : QOf Wa2, u.val.cell? ⟨P + 1, 2, none⟩ = some (.int .i32 Y2) := fun u => u.cell y2
  have q8 : ∀ u : QOf Wa2, u.val.cell? ⟨P + 1, 3, none⟩ = some (.int .u8 0) := fun u => u.cell y3
  refine region_quiet18 (by kernel_rfl) (by kernel_rfl) T8 (fun O hO => ?_)
  repeat (quiet_step (first
    | (go_at_call_of 22 (Value.agg #[Value.string pN, Value.int IntKind.i32 X1, Value.int IntKind.i32 Y1, Value.int IntKind.u8 0]); with_reducible exact quietB_of (ch1 _))
    | (go_at_call 22; with_reducible exact quietB_of (ch2 _))
    | (go_at_call 15; with_reducible exact quietB_of (cAh _))))
  refine wpQuiet_nil ?_
  intro w' hw'
  obtain ⟨u2, rfl⟩ := hw'
  clear hO
  have d8 := u2.below
  have hb9 := hb8.trans (d8.mono hb8.size)
  replace J1 := J1.below d8
  replace J2 := J2.below d8
  replace J3 := J3.below d8
  replace S1 := S1.below d8
  replace hC := (d8.cell (World.block_lt_of_cell? Wa2 _ hC)).trans hC
  generalize u2.val = Wa3 at *
  clear q0 q1 q2 q3 q4 q5 q6 q7 q8 x0 x1 x2 x3 y0 y1 y2 y3 ch1 ch2 cAh hne d8 hb8 T8 u2 O
  have T9 := tabW_below hT hb9
  have k5 := khalf_bd hX3
  have k6 := khalf_bd hY3
  go_upto_region 9 with fail
  have cAm := fun w' => apart_any (⟨#[113]⟩, X1.tdiv 2 + X3.tdiv 2, Y1.tdiv 2 + Y3.tdiv 2, 3) (⟨#[113]⟩, X2.tdiv 2 + X3.tdiv 2, Y2.tdiv 2 + Y3.tdiv 2, 3) w'
  rw [apt_in (a := (⟨#[113]⟩, X1.tdiv 2 + X3.tdiv 2, Y1.tdiv 2 + Y3.tdiv 2, 3)) (b := (⟨#[113]⟩, X2.tdiv 2 + X3.tdiv 2, Y2.tdiv 2 + Y3.tdiv 2, 3)) (by simp only; omega) (by simp only; omega) (by simp only; omega) (by simp only; omega)] at cAm
  unfold jV at cAm
  simp only at cAm
  rw [show X2.tdiv 2 + X3.tdiv 2 - (X1.tdiv 2 + X3.tdiv 2) = X2.tdiv 2 - X1.tdiv 2 by omega, show Y2.tdiv 2 + Y3.tdiv 2 - (Y1.tdiv 2 + Y3.tdiv 2) = Y2.tdiv 2 - Y1.tdiv 2 by omega] at cAm
  have cm1 := fun w' h => move_any pN X1 Y1 0 hX1 hY1 pN X3 Y3 0 hX3 hY3 C w' h
  have cm2 := fun w' h => move_any pN X2 Y2 0 hX2 hY2 pN X3 Y3 0 hX3 hY3 C w' h
  have e00 : ((0 : Nat) : Int) = 0 := rfl
  simp only [e00] at cm1 cm2
  obtain ⟨x0, x1, x2, x3, _, _, _, _, _⟩ := id J1
  obtain ⟨y0, y1, y2, y3, _, _, _, _, _⟩ := id J2
  obtain ⟨z0, z1, z2, z3, _, _, _, _, _⟩ := id J3
  have hne : Nonempty (QOf Wa3) := QOf.any T9
  have q0 : ∀ u : QOf Wa3, u.val.cell? ⟨C, 0, none⟩ = some (.func (.func 22) #[] #[]) := fun u => u.cell hC
  have q1 : ∀ u : QOf Wa3, u.val.cell? ⟨P, 0, none⟩ = some (.string pN) := fun u => u.cell x0
  have q2 : ∀ u : QOf Wa3, u.val.cell? ⟨P, 1, none⟩ = some (.int .i32 X1) := fun u => u.cell x1
  have q3 : ∀ u : QOf Wa3, u.val.cell? ⟨P, 2, none⟩ = some (.int .i32 Y1) := fun u => u.cell x2
  have q4 : ∀ u : QOf Wa3, u.val.cell? ⟨P, 3, none⟩ = some (.int .u8 0) := fun u => u.cell x3
  have q5 : ∀ u : QOf Wa3, u.val.cell? ⟨P + 1, 0, none⟩ = some (.string pN) := fun u => u.cell y0
  have q6 : ∀ u : QOf Wa3, u.val.cell? ⟨P + 1, 1, none⟩ = some (.int .i32 X2) := fun u => u.cell y1
  have q7 : ∀ u : QOf Wa3, u.val.cell? ⟨P + 1, 2, none⟩ = some (.int .i32 Y2) := fun u => u.cell y2
  have q8 : ∀ u : QOf Wa3, u.val.cell? ⟨P + 1, 3, none⟩ = some (.int .u8 0) := fun u => u.cell y3
  have r1 : ∀ u : QOf Wa3, u.val.cell? ⟨P + 1 + 1, 0, none⟩ = some (.string pN) := fun u => u.cell z0
  have r2 : ∀ u : QOf Wa3, u.val.cell? ⟨P + 1 + 1, 1, none⟩ = some (.int .i32 X3) := fun u => u.cell z1
  have r3 : ∀ u : QOf Wa3, u.val.cell? ⟨P + 1 + 1, 2, none⟩ = some (.int .i32 Y3) := fun u => u.cell z2
  have r4 : ∀ u : QOf Wa3, u.val.cell? ⟨P + 1 + 1, 3, none⟩ = some (.int .u8 0) := fun u => u.cell z3
  refine region_quiet18 (by kernel_rfl) (by kernel_rfl) T9 (fun O hO => ?_)
  repeat (quiet_step (first
    | (go_at_call_of 23 (Value.agg #[Value.string pN, Value.int IntKind.i32 X1, Value.int IntKind.i32 Y1, Value.int IntKind.u8 0]); with_reducible exact quietB_of (cm1 _ (q0 _)))
    | (go_at_call 23; with_reducible exact quietB_of (cm2 _ (q0 _)))
    | (go_at_call 15; with_reducible exact quietB_of (cAm _))))
  refine wpQuiet_nil ?_
  intro w' hw'
  obtain ⟨u2, rfl⟩ := hw'
  clear hO
  have d9 := u2.below
  have hb10 := hb9.trans (d9.mono hb9.size)
  replace J1 := J1.below d9
  replace J2 := J2.below d9
  replace J3 := J3.below d9
  replace S1 := S1.below d9
  generalize u2.val = Wa4 at *
  clear q0 q1 q2 q3 q4 q5 q6 q7 q8 r1 r2 r3 r4 x0 x1 x2 x3 y0 y1 y2 y3 z0 z1 z2 z3 cm1 cm2 cAm hne d9 hb9 T9 u2 O hC
  generalize X2.tdiv 2 - X1.tdiv 2 = dh at *
  generalize Y2.tdiv 2 - Y1.tdiv 2 = eh at *
  have t1 : (dh != dh) = false := by simp
  have t2 : (eh != eh) = false := by simp
  have t3 : (dh * dh + eh * eh != dh * dh + eh * eh) = false := by simp
  go_upto_region 15 with fail
  have tf0 : ((Wa4.alloc (.cells #[.func (.func 24) #[] #[], .func (.func 25) #[] #[], .func (.func 26) #[] #[], .func (.func 27) #[] #[]] 54)).alloc (.cells #[.int .i64 (-(X2 - X1)), .int .i64 (Y2 - Y1), .int .i64 (Y2 - Y1), .int .i64 (X2 - X1), .int .i64 (-(Y2 - Y1)), .int .i64 (X2 - X1), .int .i64 (-(X2 - X1)), .int .i64 (-(Y2 - Y1))] 57)).cell? ⟨Wa4.heap.size, 0, none⟩ = some (.func (.func 24) #[] #[]) := by simp [go_sem]
  have tf1 : ((Wa4.alloc (.cells #[.func (.func 24) #[] #[], .func (.func 25) #[] #[], .func (.func 26) #[] #[], .func (.func 27) #[] #[]] 54)).alloc (.cells #[.int .i64 (-(X2 - X1)), .int .i64 (Y2 - Y1), .int .i64 (Y2 - Y1), .int .i64 (X2 - X1), .int .i64 (-(Y2 - Y1)), .int .i64 (X2 - X1), .int .i64 (-(X2 - X1)), .int .i64 (-(Y2 - Y1))] 57)).cell? ⟨Wa4.heap.size, 1, none⟩ = some (.func (.func 25) #[] #[]) := by simp [go_sem]
  have tf2 : ((Wa4.alloc (.cells #[.func (.func 24) #[] #[], .func (.func 25) #[] #[], .func (.func 26) #[] #[], .func (.func 27) #[] #[]] 54)).alloc (.cells #[.int .i64 (-(X2 - X1)), .int .i64 (Y2 - Y1), .int .i64 (Y2 - Y1), .int .i64 (X2 - X1), .int .i64 (-(Y2 - Y1)), .int .i64 (X2 - X1), .int .i64 (-(X2 - X1)), .int .i64 (-(Y2 - Y1))] 57)).cell? ⟨Wa4.heap.size, 2, none⟩ = some (.func (.func 26) #[] #[]) := by simp [go_sem]
  have tf3 : ((Wa4.alloc (.cells #[.func (.func 24) #[] #[], .func (.func 25) #[] #[], .func (.func 26) #[] #[], .func (.func 27) #[] #[]] 54)).alloc (.cells #[.int .i64 (-(X2 - X1)), .int .i64 (Y2 - Y1), .int .i64 (Y2 - Y1), .int .i64 (X2 - X1), .int .i64 (-(Y2 - Y1)), .int .i64 (X2 - X1), .int .i64 (-(X2 - X1)), .int .i64 (-(Y2 - Y1))] 57)).cell? ⟨Wa4.heap.size, 3, none⟩ = some (.func (.func 27) #[] #[]) := by simp [go_sem]
  have tw0 : ((Wa4.alloc (.cells #[.func (.func 24) #[] #[], .func (.func 25) #[] #[], .func (.func 26) #[] #[], .func (.func 27) #[] #[]] 54)).alloc (.cells #[.int .i64 (-(X2 - X1)), .int .i64 (Y2 - Y1), .int .i64 (Y2 - Y1), .int .i64 (X2 - X1), .int .i64 (-(Y2 - Y1)), .int .i64 (X2 - X1), .int .i64 (-(X2 - X1)), .int .i64 (-(Y2 - Y1))] 57)).cell? ⟨Wa4.heap.size + 1, 0, none⟩ = some (.int .i64 (-(X2 - X1))) := by simp [go_sem]
  have tw1 : ((Wa4.alloc (.cells #[.func (.func 24) #[] #[], .func (.func 25) #[] #[], .func (.func 26) #[] #[], .func (.func 27) #[] #[]] 54)).alloc (.cells #[.int .i64 (-(X2 - X1)), .int .i64 (Y2 - Y1), .int .i64 (Y2 - Y1), .int .i64 (X2 - X1), .int .i64 (-(Y2 - Y1)), .int .i64 (X2 - X1), .int .i64 (-(X2 - X1)), .int .i64 (-(Y2 - Y1))] 57)).cell? ⟨Wa4.heap.size + 1, 1, none⟩ = some (.int .i64 (Y2 - Y1)) := by simp [go_sem]
  have tw2 : ((Wa4.alloc (.cells #[.func (.func 24) #[] #[], .func (.func 25) #[] #[], .func (.func 26) #[] #[], .func (.func 27) #[] #[]] 54)).alloc (.cells #[.int .i64 (-(X2 - X1)), .int .i64 (Y2 - Y1), .int .i64 (Y2 - Y1), .int .i64 (X2 - X1), .int .i64 (-(Y2 - Y1)), .int .i64 (X2 - X1), .int .i64 (-(X2 - X1)), .int .i64 (-(Y2 - Y1))] 57)).cell? ⟨Wa4.heap.size + 1, 2, none⟩ = some (.int .i64 (Y2 - Y1)) := by simp [go_sem]
  have tw3 : ((Wa4.alloc (.cells #[.func (.func 24) #[] #[], .func (.func 25) #[] #[], .func (.func 26) #[] #[], .func (.func 27) #[] #[]] 54)).alloc (.cells #[.int .i64 (-(X2 - X1)), .int .i64 (Y2 - Y1), .int .i64 (Y2 - Y1), .int .i64 (X2 - X1), .int .i64 (-(Y2 - Y1)), .int .i64 (X2 - X1), .int .i64 (-(X2 - X1)), .int .i64 (-(Y2 - Y1))] 57)).cell? ⟨Wa4.heap.size + 1, 3, none⟩ = some (.int .i64 (X2 - X1)) := by simp [go_sem]
  have tw4 : ((Wa4.alloc (.cells #[.func (.func 24) #[] #[], .func (.func 25) #[] #[], .func (.func 26) #[] #[], .func (.func 27) #[] #[]] 54)).alloc (.cells #[.int .i64 (-(X2 - X1)), .int .i64 (Y2 - Y1), .int .i64 (Y2 - Y1), .int .i64 (X2 - X1), .int .i64 (-(Y2 - Y1)), .int .i64 (X2 - X1), .int .i64 (-(X2 - X1)), .int .i64 (-(Y2 - Y1))] 57)).cell? ⟨Wa4.heap.size + 1, 4, none⟩ = some (.int .i64 (-(Y2 - Y1))) := by simp [go_sem]
  have tw5 : ((Wa4.alloc (.cells #[.func (.func 24) #[] #[], .func (.func 25) #[] #[], .func (.func 26) #[] #[], .func (.func 27) #[] #[]] 54)).alloc (.cells #[.int .i64 (-(X2 - X1)), .int .i64 (Y2 - Y1), .int .i64 (Y2 - Y1), .int .i64 (X2 - X1), .int .i64 (-(Y2 - Y1)), .int .i64 (X2 - X1), .int .i64 (-(X2 - X1)), .int .i64 (-(Y2 - Y1))] 57)).cell? ⟨Wa4.heap.size + 1, 5, none⟩ = some (.int .i64 (X2 - X1)) := by simp [go_sem]
  have tw6 : ((Wa4.alloc (.cells #[.func (.func 24) #[] #[], .func (.func 25) #[] #[], .func (.func 26) #[] #[], .func (.func 27) #[] #[]] 54)).alloc (.cells #[.int .i64 (-(X2 - X1)), .int .i64 (Y2 - Y1), .int .i64 (Y2 - Y1), .int .i64 (X2 - X1), .int .i64 (-(Y2 - Y1)), .int .i64 (X2 - X1), .int .i64 (-(X2 - X1)), .int .i64 (-(Y2 - Y1))] 57)).cell? ⟨Wa4.heap.size + 1, 6, none⟩ = some (.int .i64 (-(X2 - X1))) := by simp [go_sem]
  have tw7 : ((Wa4.alloc (.cells #[.func (.func 24) #[] #[], .func (.func 25) #[] #[], .func (.func 26) #[] #[], .func (.func 27) #[] #[]] 54)).alloc (.cells #[.int .i64 (-(X2 - X1)), .int .i64 (Y2 - Y1), .int .i64 (Y2 - Y1), .int .i64 (X2 - X1), .int .i64 (-(Y2 - Y1)), .int .i64 (X2 - X1), .int .i64 (-(X2 - X1)), .int .i64 (-(Y2 - Y1))] 57)).cell? ⟨Wa4.heap.size + 1, 7, none⟩ = some (.int .i64 (-(Y2 - Y1))) := by simp [go_sem]
  have hb11 := (hb10.alloc hb10.size (.cells #[.func (.func 24) #[] #[], .func (.func 25) #[] #[], .func (.func 26) #[] #[], .func (.func 27) #[] #[]] 54)).alloc (by have := hb10.size; simp; omega) (.cells #[.int .i64 (-(X2 - X1)), .int .i64 (Y2 - Y1), .int .i64 (Y2 - Y1), .int .i64 (X2 - X1), .int .i64 (-(Y2 - Y1)), .int .i64 (X2 - X1), .int .i64 (-(X2 - X1)), .int .i64 (-(Y2 - Y1))] 57)
  replace J1 := (J1.alloc (.cells #[.func (.func 24) #[] #[], .func (.func 25) #[] #[], .func (.func 26) #[] #[], .func (.func 27) #[] #[]] 54)).alloc (.cells #[.int .i64 (-(X2 - X1)), .int .i64 (Y2 - Y1), .int .i64 (Y2 - Y1), .int .i64 (X2 - X1), .int .i64 (-(Y2 - Y1)), .int .i64 (X2 - X1), .int .i64 (-(X2 - X1)), .int .i64 (-(Y2 - Y1))] 57)
  replace J2 := (J2.alloc (.cells #[.func (.func 24) #[] #[], .func (.func 25) #[] #[], .func (.func 26) #[] #[], .func (.func 27) #[] #[]] 54)).alloc (.cells #[.int .i64 (-(X2 - X1)), .int .i64 (Y2 - Y1), .int .i64 (Y2 - Y1), .int .i64 (X2 - X1), .int .i64 (-(Y2 - Y1)), .int .i64 (X2 - X1), .int .i64 (-(X2 - X1)), .int .i64 (-(Y2 - Y1))] 57)
  replace J3 := (J3.alloc (.cells #[.func (.func 24) #[] #[], .func (.func 25) #[] #[], .func (.func 26) #[] #[], .func (.func 27) #[] #[]] 54)).alloc (.cells #[.int .i64 (-(X2 - X1)), .int .i64 (Y2 - Y1), .int .i64 (Y2 - Y1), .int .i64 (X2 - X1), .int .i64 (-(Y2 - Y1)), .int .i64 (X2 - X1), .int .i64 (-(X2 - X1)), .int .i64 (-(Y2 - Y1))] 57)
  replace S1 := (S1.alloc (.cells #[.func (.func 24) #[] #[], .func (.func 25) #[] #[], .func (.func 26) #[] #[], .func (.func 27) #[] #[]] 54)).alloc (.cells #[.int .i64 (-(X2 - X1)), .int .i64 (Y2 - Y1), .int .i64 (Y2 - Y1), .int .i64 (X2 - X1), .int .i64 (-(Y2 - Y1)), .int .i64 (X2 - X1), .int .i64 (-(X2 - X1)), .int .i64 (-(Y2 - Y1))] 57)
  generalize (Wa4.alloc (.cells #[.func (.func 24) #[] #[], .func (.func 25) #[] #[], .func (.func 26) #[] #[], .func (.func 27) #[] #[]] 54)).alloc (.cells #[.int .i64 (-(X2 - X1)), .int .i64 (Y2 - Y1), .int .i64 (Y2 - Y1), .int .i64 (X2 - X1), .int .i64 (-(Y2 - Y1)), .int .i64 (X2 - X1), .int .i64 (-(X2 - X1)), .int .i64 (-(Y2 - Y1))] 57) = Wa5 at *
  generalize Wa4.heap.size = F at *
  clear hb10 t1 t2 t3
  go_loopg [31] 4 (fun g i wr => ∃ k : Nat, k ≤ 4 ∧ g = 4 - k ∧ i = .int .i64 k ∧ Below Wa5.heap.size Wa5 wr)
  case atStart => exact ⟨0, by omega, rfl, rfl, Below.refl _ _⟩
  case round =>
    obtain ⟨k, hk, hg, rfl, hbk⟩ := hrel
    have HG : Hid (gk = 4 - k) := hg
    clear hg
    have hbw := hb11.trans (hbk.mono hb11.size)
    replace J1 := J1.below hbk
    replace J2 := J2.below hbk
    replace J3 := J3.below hbk
    replace S1 := S1.below hbk
    have Tr := tabW_below hT hbw
    rcases (show k = 0 ∨ k = 1 ∨ k = 2 ∨ k = 3 ∨ k = 4 by omega) with rfl | rfl | rfl | rfl | rfl
    · have g0 := (hbk.cell (World.block_lt_of_cell? Wa5 _ tf0)).trans tf0
      have g1 := (hbk.cell (World.block_lt_of_cell? Wa5 _ tw0)).trans tw0
      have g2 := (hbk.cell (World.block_lt_of_cell? Wa5 _ tw1)).trans tw1
      clear tf0 tf1 tf2 tf3 tw0 tw1 tw2 tw3 tw4 tw5 tw6 tw7
      have ct1 := fun w' => turn3_any pN X1 Y1 0 hX1 hY1 w'
      have ct2 := fun w' => turn3_any pN X2 Y2 0 hX2 hY2 w'
      simp only [e00] at ct1 ct2
      have eT := apt_in (a := (noN, -X1, Y1, 0)) (b := (noN, -X2, Y2, 0)) (by simp only; omega) (by simp only; omega) (by simp only; omega) (by simp only; omega)
      simp only at eT
      have eN : (aptA (noN, -X1, Y1, 0) (noN, -X2, Y2, 0)).2.2 = (n : Int) := by
        rw [eT, HN.out]
        simp only
        grind
      have eQ : aptA (noN, -X1, Y1, 0) (noN, -X2, Y2, 0) = (-(X2 - X1), Y2 - Y1, (n : Int)) := by
        rw [← eN, eT]
        all_goals simp only [Prod.mk.injEq, and_true]
        all_goals first | done | omega | (constructor <;> omega)
      have cAt := fun w' => apart_any (noN, -X1, Y1, 0) (noN, -X2, Y2, 0) w'
      rw [eQ] at cAt
      have eL : l2F (noN, -X1, Y1, 0) (noN, -X2, Y2, 0) = l2F (pN, X1, Y1, 0) (pN, X2, Y2, 0) := by
        unfold l2F
        rw [eN, HNA.out]
      have cLt := fun w' (t : TabW w') => length_any (noN, -X1, Y1, 0) (noN, -X2, Y2, 0) w' t
      rw [eL, HE1.out, HE2.out, HE0.out] at cLt
      unfold jV at cAt cLt
      simp only at cAt cLt
      clear eT eN eQ eL
      obtain ⟨x0, x1, x2, x3, _, _, _, _, _⟩ := id J1
      obtain ⟨y0, y1, y2, y3, _, _, _, _, _⟩ := id J2
      go_upto_region 17 with fail
      have hne : Nonempty (QOf wr) := QOf.any Tr
      have q0 : ∀ u : QOf wr, u.val.cell? ⟨F, 0, none⟩ = some (.func (.func 24) #[] #[]) := fun u => u.cell g0
      have q1 : ∀ u : QOf wr, u.val.cell? ⟨P, 0, none⟩ = some (.string pN) := fun u => u.cell x0
      have q2 : ∀ u : QOf wr, u.val.cell? ⟨P, 1, none⟩ = some (.int .i32 X1) := fun u => u.cell x1
      have q3 : ∀ u : QOf wr, u.val.cell? ⟨P, 2, none⟩ = some (.int .i32 Y1) := fun u => u.cell x2
      have q4 : ∀ u : QOf wr, u.val.cell? ⟨P, 3, none⟩ = some (.int .u8 0) := fun u => u.cell x3
      have q5 : ∀ u : QOf wr, u.val.cell? ⟨P + 1, 0, none⟩ = some (.string pN) := fun u => u.cell y0
      have q6 : ∀ u : QOf wr, u.val.cell? ⟨P + 1, 1, none⟩ = some (.int .i32 X2) := fun u => u.cell y1
      have q7 : ∀ u : QOf wr, u.val.cell? ⟨P + 1, 2, none⟩ = some (.int .i32 Y2) := fun u => u.cell y2
      have q8 : ∀ u : QOf wr, u.val.cell? ⟨P + 1, 3, none⟩ = some (.int .u8 0) := fun u => u.cell y3
      refine region_quiet18 (by kernel_rfl) (by kernel_rfl) Tr (fun O hO => ?_)
      repeat (quiet_step (first
        | (go_at_call_of 24 (Value.agg #[Value.string pN, Value.int IntKind.i32 X1, Value.int IntKind.i32 Y1, Value.int IntKind.u8 0]); with_reducible exact quietB_of (ct1 _))
        | (go_at_call 24; with_reducible exact quietB_of (ct2 _))
        | (go_at_call 15; with_reducible exact quietB_of (cAt _))))
      refine wpQuiet_nil ?_
      intro w' hw'
      obtain ⟨u2, rfl⟩ := hw'
      clear hO
      have d9 := u2.below
      have hbv := hbw.trans (d9.mono hbw.size)
      have hbl := hbk.trans (d9.mono hbk.size)
      replace J1 := J1.below d9
      replace J2 := J2.below d9
      replace S1 := S1.below d9
      replace g0 := (d9.cell (World.block_lt_of_cell? wr _ g0)).trans g0
      replace g1 := (d9.cell (World.block_lt_of_cell? wr _ g1)).trans g1
      replace g2 := (d9.cell (World.block_lt_of_cell? wr _ g2)).trans g2
      generalize u2.val = Wb at *
      clear q0 q1 q2 q3 q4 q5 q6 q7 q8 x0 x1 x2 x3 y0 y1 y2 y3 cAt hne d9 Tr u2 O
      go_upto_region 18 with fail
      have Tb := tabW_below hT hbv
      unfold spV at cLt
      simp only [e00] at cLt
      obtain ⟨x0, x1, x2, x3, _, _, _, _, _⟩ := id J1
      obtain ⟨y0, y1, y2, y3, _, _, _, _, _⟩ := id J2
      have M0 : (fun v : World => Below Wb.heap.size Wb v) Wb.drew := (Below.refl _ _).drew
      have hM : ∀ w w1, (fun v : World => Below Wb.heap.size Wb v) w → Below w.heap.size w w1 → (fun v : World => Below Wb.heap.size Wb v) w1 := fun _ _ m b => m.trans (b.mono m.size)
      obtain ⟨VAL, hVAL⟩ : ∃ V : Nat → Value, V = (fun j => match j with | 0 => Value.slice (some ⟨F, 0, none⟩) 4 4 | 1 => Value.int IntKind.i64 (0) | 2 => Value.pointer (some ⟨F, 0, none⟩) | 3 => Value.func (.func 24) #[] #[] | 4 => Value.agg #[Value.string pN, Value.int IntKind.i32 (X1), Value.int IntKind.i32 (Y1), Value.int IntKind.u8 0] | 5 => Value.agg #[Value.string noN, Value.int IntKind.i32 (-X1), Value.int IntKind.i32 (Y1), Value.int IntKind.u8 0] | 6 => Value.slice (some ⟨F, 0, none⟩) 4 4 | 7 => Value.int IntKind.i64 (0) | 8 => Value.pointer (some ⟨F, 0, none⟩) | 9 => Value.func (.func 24) #[] #[] | 10 => Value.agg #[Value.string pN, Value.int IntKind.i32 (X2), Value.int IntKind.i32 (Y2), Value.int IntKind.u8 0] | 11 => Value.agg #[Value.string noN, Value.int IntKind.i32 (-X2), Value.int IntKind.i32 (Y2), Value.int IntKind.u8 0] | 12 => Value.tuple #[Value.agg #[Value.float .f64 xl, Value.float .f64 xh], Value.float .f64 xn] | 13 => Value.tuple #[Value.agg #[Value.float .f64 xl, Value.float .f64 xh], Value.float .f64 xn] | 14 => Value.agg #[Value.float .f64 xl, Value.float .f64 xh] | 15 => Value.float .f64 xn | 16 => undef | 17 => undef | 18 => Value.float .f64 xn | _ => undef) := ⟨_, rfl⟩
      have V0 : VAL 0 = Value.slice (some ⟨F, 0, none⟩) 4 4 := congrFun hVAL 0
      have V1 : VAL 1 = Value.int IntKind.i64 (0) := congrFun hVAL 1
      have V2 : VAL 2 = Value.pointer (some ⟨F, 0, none⟩) := congrFun hVAL 2
      have V3 : VAL 3 = Value.func (.func 24) #[] #[] := congrFun hVAL 3
      have V4 : VAL 4 = Value.agg #[Value.string pN, Value.int IntKind.i32 (X1), Value.int IntKind.i32 (Y1), Value.int IntKind.u8 0] := congrFun hVAL 4
      have V5 : VAL 5 = Value.agg #[Value.string noN, Value.int IntKind.i32 (-X1), Value.int IntKind.i32 (Y1), Value.int IntKind.u8 0] := congrFun hVAL 5
      have V6 : VAL 6 = Value.slice (some ⟨F, 0, none⟩) 4 4 := congrFun hVAL 6
      have V7 : VAL 7 = Value.int IntKind.i64 (0) := congrFun hVAL 7
      have V8 : VAL 8 = Value.pointer (some ⟨F, 0, none⟩) := congrFun hVAL 8
      have V9 : VAL 9 = Value.func (.func 24) #[] #[] := congrFun hVAL 9
      have V10 : VAL 10 = Value.agg #[Value.string pN, Value.int IntKind.i32 (X2), Value.int IntKind.i32 (Y2), Value.int IntKind.u8 0] := congrFun hVAL 10
      have V11 : VAL 11 = Value.agg #[Value.string noN, Value.int IntKind.i32 (-X2), Value.int IntKind.i32 (Y2), Value.int IntKind.u8 0] := congrFun hVAL 11
      have V12 : VAL 12 = Value.tuple #[Value.agg #[Value.float .f64 xl, Value.float .f64 xh], Value.float .f64 xn] := congrFun hVAL 12
      have V13 : VAL 13 = Value.tuple #[Value.agg #[Value.float .f64 xl, Value.float .f64 xh], Value.float .f64 xn] := congrFun hVAL 13
      have V14 : VAL 14 = Value.agg #[Value.float .f64 xl, Value.float .f64 xh] := congrFun hVAL 14
      have V15 : VAL 15 = Value.float .f64 xn := congrFun hVAL 15
      have V16 : VAL 16 = undef := congrFun hVAL 16
      have V17 : VAL 17 = undef := congrFun hVAL 17
      have V18 : VAL 18 = Value.float .f64 xn := congrFun hVAL 18
      refine region_rgA (by kernel_rfl) (fun v => ⟨#[Value.int IntKind.i64 x, Value.int IntKind.i64 y, Value.int IntKind.i64 p, Value.int IntKind.i64 q, Value.int IntKind.i64 au, Value.int IntKind.i64 av, undef, undef, undef, undef, undef, undef, u12, Value.pointer (some ⟨P, 0, none⟩), Value.pointer (some ⟨P + 1, 0, none⟩), Value.pointer (some ⟨P + 1 + 1, 0, none⟩), Value.int IntKind.i64 (X2 - X1), Value.int IntKind.i64 (Y2 - Y1), Value.int IntKind.i64 (n : Int), Value.pointer (some ⟨G, 0, none⟩), Value.float FloatKind.f64 xn, Value.pointer (some ⟨C, 0, none⟩), Value.int IntKind.i64 dh, Value.int IntKind.i64 eh, Value.int IntKind.i64 (dh * dh + eh * eh), Value.func (.func 23) #[] #[Value.pointer (some ⟨C, 0, none⟩)], Value.int IntKind.i64 dh, Value.int IntKind.i64 eh, Value.int IntKind.i64 (dh * dh + eh * eh), Value.slice (some ⟨F, 0, none⟩) 4 4, Value.slice (some ⟨F + 1, 0, none⟩) 4 4, Value.int IntKind.i64 (0), Value.int IntKind.i64 (-(X2 - X1)), Value.int IntKind.i64 (Y2 - Y1), Value.int IntKind.i64 (n : Int), v 16, v 18, undef, undef, undef, undef, undef, undef, Value.bool true, Value.bool false, Value.int IntKind.i64 x, Value.int IntKind.i64 y, Value.agg #[Value.string pN, Value.int IntKind.i32 X1, Value.int IntKind.i32 Y1, Value.int IntKind.u8 0], Value.int IntKind.i64 p, Value.int IntKind.i64 q, Value.agg #[Value.string pN, Value.int IntKind.i32 X2, Value.int IntKind.i32 Y2, Value.int IntKind.u8 0], Value.int IntKind.i64 au, Value.int IntKind.i64 av, Value.agg #[Value.string pN, Value.int IntKind.i32 X3, Value.int IntKind.i32 Y3, Value.int IntKind.u8 0], Value.tuple #[Value.int IntKind.i64 (X2 - X1), Value.int IntKind.i64 (Y2 - Y1), Value.int IntKind.i64 (n : Int)], Value.agg #[Value.string pN, Value.int IntKind.i32 X1, Value.int IntKind.i32 Y1, Value.int IntKind.u8 0], Value.agg #[Value.string pN, Value.int IntKind.i32 X2, Value.int IntKind.i32 Y2, Value.int IntKind.u8 0], Value.tuple #[Value.int IntKind.i64 (X2 - X1), Value.int IntKind.i64 (Y2 - Y1), Value.int IntKind.i64 (n : Int)], Value.int IntKind.i64 (X2 - X1), Value.int IntKind.i64 (Y2 - Y1), Value.int IntKind.i64 (n : Int), Value.tuple #[spV xl xh, Value.float FloatKind.f64 xn], Value.agg #[Value.string pN, Value.int IntKind.i32 X1, Value.int IntKind.i32 Y1, Value.int IntKind.u8 0], Value.agg #[Value.string pN, Value.int IntKind.i32 X2, Value.int IntKind.i32 Y2, Value.int IntKind.u8 0], Value.tuple #[spV xl xh, Value.float FloatKind.f64 xn], spV xl xh, Value.float FloatKind.f64 xn, Value.tuple #[Value.int IntKind.i64 dh, Value.int IntKind.i64 eh, Value.int IntKind.i64 (dh * dh + eh * eh)], Value.func (.func 22) #[] #[], Value.agg #[Value.string pN, Value.int IntKind.i32 X1, Value.int IntKind.i32 Y1, Value.int IntKind.u8 0], Value.agg #[Value.string noN, Value.int IntKind.i32 (X1.tdiv 2), Value.int IntKind.i32 (Y1.tdiv 2), Value.int IntKind.u8 0], Value.func (.func 22) #[] #[], Value.agg #[Value.string pN, Value.int IntKind.i32 X2, Value.int IntKind.i32 Y2, Value.int IntKind.u8 0], Value.agg #[Value.string noN, Value.int IntKind.i32 (X2.tdiv 2), Value.int IntKind.i32 (Y2.tdiv 2), Value.int IntKind.u8 0], Value.tuple #[Value.int IntKind.i64 dh, Value.int IntKind.i64 eh, Value.int IntKind.i64 (dh * dh + eh * eh)], Value.int IntKind.i64 dh, Value.int IntKind.i64 eh, Value.int IntKind.i64 (dh * dh + eh * eh), Value.func (.func 23) #[] #[Value.pointer (some ⟨C, 0, none⟩)], Value.tuple #[Value.int IntKind.i64 dh, Value.int IntKind.i64 eh, Value.int IntKind.i64 (dh * dh + eh * eh)], Value.func (.func 23) #[] #[Value.pointer (some ⟨C, 0, none⟩)], Value.agg #[Value.string pN, Value.int IntKind.i32 X1, Value.int IntKind.i32 Y1, Value.int IntKind.u8 0], Value.agg #[Value.string pN, Value.int IntKind.i32 X3, Value.int IntKind.i32 Y3, Value.int IntKind.u8 0], Value.agg #[Value.string ⟨#[113]⟩, Value.int IntKind.i32 (X1.tdiv 2 + X3.tdiv 2), Value.int IntKind.i32 (Y1.tdiv 2 + Y3.tdiv 2), Value.int IntKind.u8 3], Value.func (.func 23) #[] #[Value.pointer (some ⟨C, 0, none⟩)], Value.agg #[Value.string pN, Value.int IntKind.i32 X2, Value.int IntKind.i32 Y2, Value.int IntKind.u8 0], Value.agg #[Value.string pN, Value.int IntKind.i32 X3, Value.int IntKind.i32 Y3, Value.int IntKind.u8 0], Value.agg #[Value.string ⟨#[113]⟩, Value.int IntKind.i32 (X2.tdiv 2 + X3.tdiv 2), Value.int IntKind.i32 (Y2.tdiv 2 + Y3.tdiv 2), Value.int IntKind.u8 3], Value.tuple #[Value.int IntKind.i64 dh, Value.int IntKind.i64 eh, Value.int IntKind.i64 (dh * dh + eh * eh)], Value.int IntKind.i64 dh, Value.int IntKind.i64 eh, Value.int IntKind.i64 (dh * dh + eh * eh), Value.int IntKind.i64 dh, Value.int IntKind.i64 dh, Value.bool false, Value.bool false, Value.int IntKind.i64 eh, Value.int IntKind.i64 eh, Value.bool false, Value.bool false, Value.bool false, Value.int IntKind.i64 (dh * dh + eh * eh), Value.int IntKind.i64 (dh * dh + eh * eh), Value.bool false, Value.bool false, Value.slice (some ⟨F, 0, none⟩) 4 4, Value.int IntKind.i64 (X2 - X1), Value.int IntKind.i64 (-(X2 - X1)), Value.int IntKind.i64 (Y2 - Y1), Value.agg #[Value.int IntKind.i64 (-(X2 - X1)), Value.int IntKind.i64 (Y2 - Y1)], Value.int IntKind.i64 (Y2 - Y1), Value.int IntKind.i64 (X2 - X1), Value.agg #[Value.int IntKind.i64 (Y2 - Y1), Value.int IntKind.i64 (X2 - X1)], Value.int IntKind.i64 (Y2 - Y1), Value.int IntKind.i64 (-(Y2 - Y1)), Value.int IntKind.i64 (X2 - X1), Value.agg #[Value.int IntKind.i64 (-(Y2 - Y1)), Value.int IntKind.i64 (X2 - X1)], Value.int IntKind.i64 (X2 - X1), Value.int IntKind.i64 (-(X2 - X1)), Value.int IntKind.i64 (Y2 - Y1), Value.int IntKind.i64 (-(Y2 - Y1)), Value.agg #[Value.int IntKind.i64 (-(X2 - X1)), Value.int IntKind.i64 (-(Y2 - Y1))], Value.slice (some ⟨F + 1, 0, none⟩) 4 4, Value.int IntKind.i64 (0), Value.slice (some ⟨F, 0, none⟩) 4 4, Value.int IntKind.i64 4, Value.bool true, u127, u128, Value.tuple #[Value.int IntKind.i64 (-(X2 - X1)), Value.int IntKind.i64 (Y2 - Y1), Value.int IntKind.i64 (n : Int)], Value.slice (some ⟨F, 0, none⟩) 4 4, Value.int IntKind.i64 (0), Value.pointer (some ⟨F, 0, none⟩), Value.func (.func 24) #[] #[], Value.agg #[Value.string pN, Value.int IntKind.i32 (X1), Value.int IntKind.i32 (Y1), Value.int IntKind.u8 0], Value.agg #[Value.string noN, Value.int IntKind.i32 (-X1), Value.int IntKind.i32 (Y1), Value.int IntKind.u8 0], Value.slice (some ⟨F, 0, none⟩) 4 4, Value.int IntKind.i64 (0), Value.pointer (some ⟨F, 0, none⟩), Value.func (.func 24) #[] #[], Value.agg #[Value.string pN, Value.int IntKind.i32 (X2), Value.int IntKind.i32 (Y2), Value.int IntKind.u8 0], Value.agg #[Value.string noN, Value.int IntKind.i32 (-X2), Value.int IntKind.i32 (Y2), Value.int IntKind.u8 0], Value.tuple #[Value.int IntKind.i64 (-(X2 - X1)), Value.int IntKind.i64 (Y2 - Y1), Value.int IntKind.i64 (n : Int)], Value.int IntKind.i64 (-(X2 - X1)), Value.int IntKind.i64 (Y2 - Y1), Value.int IntKind.i64 (n : Int), v 13, v 0, v 1, v 2, v 3, v 4, v 5, v 6, v 7, v 8, v 9, v 10, v 11, v 12, v 14, v 15, u162, u163, u164, u165, u166, u167, u168, u169, u170, u171, u172, u173, u174, u175, u176, u177, u178, u179, u180, u181, u182, u183, u184, u185, u186, u187, u188, u189, u190, u191, u192, undef, undef, undef, undef, undef, undef, undef, undef, undef, undef, undef, undef, undef, undef, undef, undef, undef, undef, undef, undef, undef, undef, undef, undef, undef, undef, undef, undef, undef, undef, undef, undef, undef, undef, undef, undef, undef, undef, undef, undef, undef, undef, undef, undef, undef, undef, undef, undef, undef, undef, undef, undef, undef], []⟩) (fun v : World => Below Wb.heap.size Wb v) (Wb.heap.size) 16 17 (.float .f64 0) (.float .f64 0) (.float .f64 xl) (.float .f64 xh) VAL (fun j => match j with | 0 => u147 | 1 => u148 | 2 => u149 | 3 => u150 | 4 => u151 | 5 => u152 | 6 => u153 | 7 => u154 | 8 => u155 | 9 => u156 | 10 => u157 | 11 => u158 | 12 => u159 | 13 => u146 | 14 => u160 | 15 => u161 | 16 => u35 | 17 => undef | _ => u36) rfl M0 ?_ ?_
      · intro L v g w' i hL hS hi
        obtain ⟨h1, h2, h3⟩ := mem_ready hi
        have h1 : i < 19 := h1
        try dsimp only
        have hno := off_not (by rw [hL]; exact h1) h2
        have m := hS.m
        have hcs : i = 0 ∨ i = 1 ∨ i = 2 ∨ i = 3 ∨ i = 4 ∨ i = 5 ∨ i = 6 ∨ i = 7 ∨ i = 8 ∨ i = 9 ∨ i = 10 ∨ i = 11 ∨ i = 12 ∨ i = 13 ∨ i = 14 ∨ i = 15 ∨ i = 16 ∨ i = 17 ∨ i = 18 := by omega
        rcases hcs with rfl | rfl | rfl | rfl | rfl | rfl | rfl | rfl | rfl | rfl | rfl | rfl | rfl | rfl | rfl | rfl | rfl | rfl | rfl
        · refine wpOp_of (fun K hK => ?_)
          unfold wpOp
          go_simp
          refine Or.inl ?_
          exact hK _ _ ⟨put9 v 0 (Value.slice (some ⟨F, 0, none⟩) 4 4), g, (by simp [put9]), hS.step hM hL hi (by decide) (by decide) (Below.refl _ _) V0.symm⟩
        · refine wpOp_of (fun K hK => ?_)
          unfold wpOp
          go_simp
          refine Or.inl ?_
          exact hK _ _ ⟨put9 v 1 (Value.int IntKind.i64 (0)), g, (by simp [put9]), hS.step hM hL hi (by decide) (by decide) (Below.refl _ _) V1.symm⟩
        · have e0 : v 0 = Value.slice (some ⟨F, 0, none⟩) 4 4 := (hS.d 0 (by decide) (ready_dep hi 0 (by kernel_rfl))).trans V0
          have e1 : v 1 = Value.int IntKind.i64 (0) := (hS.d 1 (by decide) (ready_dep hi 1 (by kernel_rfl))).trans V1
          refine wpOp_of (fun K hK => ?_)
          unfold wpOp
          simp only [e0, e1]
          go_simp
          refine Or.inl ?_
          exact hK _ _ ⟨put9 v 2 (Value.pointer (some ⟨F, 0, none⟩)), g, (by simp [put9, e0, e1]), hS.step hM hL hi (by decide) (by decide) (Below.refl _ _) V2.symm⟩
        · have e2 : v 2 = Value.pointer (some ⟨F, 0, none⟩) := (hS.d 2 (by decide) (ready_dep hi 2 (by kernel_rfl))).trans V2
          have q0 := (m.cell (World.block_lt_of_cell? Wb _ g0)).trans g0
          refine wpOp_of (fun K hK => ?_)
          unfold wpOp
          simp only [e2]
          go_simp
          refine Or.inl ?_
          exact hK _ _ ⟨put9 v 3 (Value.func (.func 24) #[] #[]), g, (by simp [put9, e2]), hS.step hM hL hi (by decide) (by decide) (Below.refl _ _) V3.symm⟩
        · have q0 := (m.cell (World.block_lt_of_cell? Wb _ x0)).trans x0
          have q1 := (m.cell (World.block_lt_of_cell? Wb _ x1)).trans x1
          have q2 := (m.cell (World.block_lt_of_cell? Wb _ x2)).trans x2
          have q3 := (m.cell (World.block_lt_of_cell? Wb _ x3)).trans x3
          refine wpOp_of (fun K hK => ?_)
          unfold wpOp
          go_simp
          refine Or.inl ?_
          exact hK _ _ ⟨put9 v 4 (Value.agg #[Value.string pN, Value.int IntKind.i32 (X1), Value.int IntKind.i32 (Y1), Value.int IntKind.u8 0]), g, (by simp [put9]), hS.step hM hL hi (by decide) (by decide) (Below.refl _ _) V4.symm⟩
        · have e3 : v 3 = Value.func (.func 24) #[] #[] := (hS.d 3 (by decide) (ready_dep hi 3 (by kernel_rfl))).trans V3
          have e4 : v 4 = Value.agg #[Value.string pN, Value.int IntKind.i32 (X1), Value.int IntKind.i32 (Y1), Value.int IntKind.u8 0] := (hS.d 4 (by decide) (ready_dep hi 4 (by kernel_rfl))).trans V4
          refine wpOp_of (fun K hK => ?_)
          unfold wpOp
          simp only [e3, e4]
          go_simp
          refine Or.inl ?_
          refine (ct1 _).mono ?_
          rintro e w1 ⟨rfl, bc⟩
          exact hK _ _ ⟨put9 v 5 (Value.agg #[Value.string noN, Value.int IntKind.i32 (-X1), Value.int IntKind.i32 (Y1), Value.int IntKind.u8 0]), g, (by simp [put9, e3, e4]), hS.step hM hL hi (by decide) (by decide) bc V5.symm⟩
        · refine wpOp_of (fun K hK => ?_)
          unfold wpOp
          go_simp
          refine Or.inl ?_
          exact hK _ _ ⟨put9 v 6 (Value.slice (some ⟨F, 0, none⟩) 4 4), g, (by simp [put9]), hS.step hM hL hi (by decide) (by decide) (Below.refl _ _) V6.symm⟩
        · refine wpOp_of (fun K hK => ?_)
          unfold wpOp
          go_simp
          refine Or.inl ?_
          exact hK _ _ ⟨put9 v 7 (Value.int IntKind.i64 (0)), g, (by simp [put9]), hS.step hM hL hi (by decide) (by decide) (Below.refl _ _) V7.symm⟩
        · have e6 : v 6 = Value.slice (some ⟨F, 0, none⟩) 4 4 := (hS.d 6 (by decide) (ready_dep hi 6 (by kernel_rfl))).trans V6
          have e7 : v 7 = Value.int IntKind.i64 (0) := (hS.d 7 (by decide) (ready_dep hi 7 (by kernel_rfl))).trans V7
          refine wpOp_of (fun K hK => ?_)
          unfold wpOp
          simp only [e6, e7]
          go_simp
          refine Or.inl ?_
          exact hK _ _ ⟨put9 v 8 (Value.pointer (some ⟨F, 0, none⟩)), g, (by simp [put9, e6, e7]), hS.step hM hL hi (by decide) (by decide) (Below.refl _ _) V8.symm⟩
        · have e8 : v 8 = Value.pointer (some ⟨F, 0, none⟩) := (hS.d 8 (by decide) (ready_dep hi 8 (by kernel_rfl))).trans V8
          have q0 := (m.cell (World.block_lt_of_cell? Wb _ g0)).trans g0
          refine wpOp_of (fun K hK => ?_)
          unfold wpOp
          simp only [e8]
          go_simp
          refine Or.inl ?_
          exact hK _ _ ⟨put9 v 9 (Value.func (.func 24) #[] #[]), g, (by simp [put9, e8]), hS.step hM hL hi (by decide) (by decide) (Below.refl _ _) V9.symm⟩
        · have q0 := (m.cell (World.block_lt_of_cell? Wb _ y0)).trans y0
          have q1 := (m.cell (World.block_lt_of_cell? Wb _ y1)).trans y1
          have q2 := (m.cell (World.block_lt_of_cell? Wb _ y2)).trans y2
          have q3 := (m.cell (World.block_lt_of_cell? Wb _ y3)).trans y3
          refine wpOp_of (fun K hK => ?_)
          unfold wpOp
          go_simp
          refine Or.inl ?_
          exact hK _ _ ⟨put9 v 10 (Value.agg #[Value.string pN, Value.int IntKind.i32 (X2), Value.int IntKind.i32 (Y2), Value.int IntKind.u8 0]), g, (by simp [put9]), hS.step hM hL hi (by decide) (by decide) (Below.refl _ _) V10.symm⟩
        · have e9 : v 9 = Value.func (.func 24) #[] #[] := (hS.d 9 (by decide) (ready_dep hi 9 (by kernel_rfl))).trans V9
          have e10 : v 10 = Value.agg #[Value.string pN, Value.int IntKind.i32 (X2), Value.int IntKind.i32 (Y2), Value.int IntKind.u8 0] := (hS.d 10 (by decide) (ready_dep hi 10 (by kernel_rfl))).trans V10
          refine wpOp_of (fun K hK => ?_)
          unfold wpOp
          simp only [e9, e10]
          go_simp
          refine Or.inl ?_
          refine (ct2 _).mono ?_
          rintro e w1 ⟨rfl, bc⟩
          exact hK _ _ ⟨put9 v 11 (Value.agg #[Value.string noN, Value.int IntKind.i32 (-X2), Value.int IntKind.i32 (Y2), Value.int IntKind.u8 0]), g, (by simp [put9, e9, e10]), hS.step hM hL hi (by decide) (by decide) bc V11.symm⟩
        · have e5 : v 5 = Value.agg #[Value.string noN, Value.int IntKind.i32 (-X1), Value.int IntKind.i32 (Y1), Value.int IntKind.u8 0] := (hS.d 5 (by decide) (ready_dep hi 5 (by kernel_rfl))).trans V5
          have e11 : v 11 = Value.agg #[Value.string noN, Value.int IntKind.i32 (-X2), Value.int IntKind.i32 (Y2), Value.int IntKind.u8 0] := (hS.d 11 (by decide) (ready_dep hi 11 (by kernel_rfl))).trans V11
          refine wpOp_of (fun K hK => ?_)
          unfold wpOp
          simp only [e5, e11]
          go_simp
          refine Or.inl ?_
          refine (cLt _ (tabW_below Tb m)).mono ?_
          rintro e w1 ⟨rfl, bc⟩
          exact hK _ _ ⟨put9 v 12 (Value.tuple #[Value.agg #[Value.float .f64 xl, Value.float .f64 xh], Value.float .f64 xn]), g, (by simp [put9, e5, e11]), hS.step hM hL hi (by decide) (by decide) bc V12.symm⟩
        · have e12 : v 12 = Value.tuple #[Value.agg #[Value.float .f64 xl, Value.float .f64 xh], Value.float .f64 xn] := (hS.d 12 (by decide) (ready_dep hi 12 (by kernel_rfl))).trans V12
          refine wpOp_of (fun K hK => ?_)
          unfold wpOp
          simp only [e12]
          go_simp
          refine Or.inl ?_
          exact hK _ _ ⟨put9 v 13 (Value.tuple #[Value.agg #[Value.float .f64 xl, Value.float .f64 xh], Value.float .f64 xn]), g, (by simp [put9, e12]), hS.step hM hL hi (by decide) (by decide) (Below.refl _ _) V13.symm⟩
        · have e13 : v 13 = Value.tuple #[Value.agg #[Value.float .f64 xl, Value.float .f64 xh], Value.float .f64 xn] := (hS.d 13 (by decide) (ready_dep hi 13 (by kernel_rfl))).trans V13
          refine wpOp_of (fun K hK => ?_)
          unfold wpOp
          simp only [e13]
          go_simp
          refine Or.inl ?_
          exact hK _ _ ⟨put9 v 14 (Value.agg #[Value.float .f64 xl, Value.float .f64 xh]), g, (by simp [put9, e13]), hS.step hM hL hi (by decide) (by decide) (Below.refl _ _) V14.symm⟩
        · have e13 : v 13 = Value.tuple #[Value.agg #[Value.float .f64 xl, Value.float .f64 xh], Value.float .f64 xn] := (hS.d 13 (by decide) (ready_dep hi 13 (by kernel_rfl))).trans V13
          refine wpOp_of (fun K hK => ?_)
          unfold wpOp
          simp only [e13]
          go_simp
          refine Or.inl ?_
          exact hK _ _ ⟨put9 v 15 (Value.float .f64 xn), g, (by simp [put9, e13]), hS.step hM hL hi (by decide) (by decide) (Below.refl _ _) V15.symm⟩
        · have hBw : Wb.heap.size ≤ w'.heap.size := m.size
          refine wpOp_of (fun K hK => ?_)
          unfold wpOp
          go_simp
          refine Or.inl ?_
          exact hK _ _ ⟨put9 v 16 (.pointer (some ⟨w'.heap.size, 0, none⟩)), w'.heap.size, (by simp [put9]), hS.make hM hL hi hno (by decide) hBw (by kernel_rfl)⟩
        · have e14 : v 14 = Value.agg #[Value.float .f64 xl, Value.float .f64 xh] := (hS.d 14 (by decide) (ready_dep hi 14 (by kernel_rfl))).trans V14
          obtain ⟨e16, hBg⟩ := hS.p (ready_dep hi 16 (by kernel_rfl))
          obtain ⟨q0, q1, q2, q3, _⟩ := hS.n (ready_dep hi 16 (by kernel_rfl)) hno
          refine wpOp_of (fun K hK => ?_)
          unfold wpOp
          simp only [e14, e16]
          go_simp
          refine Or.inl ?_
          exact hK _ _ ⟨put9 v 17 undef, g, (by simp [put9, e14, e16]), hS.store (fun w1 m1 => set2 m1 hBg _ _) hL hi hno (by decide) (by kernel_rfl) V17.symm⟩
        · have e15 : v 15 = Value.float .f64 xn := (hS.d 15 (by decide) (ready_dep hi 15 (by kernel_rfl))).trans V15
          refine wpOp_of (fun K hK => ?_)
          unfold wpOp
          simp only [e15]
          go_simp
          refine Or.inl ?_
          exact hK _ _ ⟨put9 v 18 (Value.float .f64 xn), g, (by simp [put9, e15]), hS.step hM hL hi (by decide) (by decide) (Below.refl _ _) V18.symm⟩
      · intro L v g w' hL hS hr
        have on := all_done hL hr (by kernel_rfl)
        have m := hS.m
        have G5 := hS.y (on 17 (by decide))
        obtain ⟨eP, hBg⟩ := hS.p (on 16 (by decide))
        try dsimp only
        rw [hS.d 0 (by decide) (on 0 (by decide)), V0]
        rw [hS.d 1 (by decide) (on 1 (by decide)), V1]
        rw [hS.d 2 (by decide) (on 2 (by decide)), V2]
        rw [hS.d 3 (by decide) (on 3 (by decide)), V3]
        rw [hS.d 4 (by decide) (on 4 (by decide)), V4]
        rw [hS.d 5 (by decide) (on 5 (by decide)), V5]
        rw [hS.d 6 (by decide) (on 6 (by decide)), V6]
        rw [hS.d 7 (by decide) (on 7 (by decide)), V7]
        rw [hS.d 8 (by decide) (on 8 (by decide)), V8]
        rw [hS.d 9 (by decide) (on 9 (by decide)), V9]
        rw [hS.d 10 (by decide) (on 10 (by decide)), V10]
        rw [hS.d 11 (by decide) (on 11 (by decide)), V11]
        rw [hS.d 12 (by decide) (on 12 (by decide)), V12]
        rw [hS.d 13 (by decide) (on 13 (by decide)), V13]
        rw [hS.d 14 (by decide) (on 14 (by decide)), V14]
        rw [hS.d 15 (by decide) (on 15 (by decide)), V15]
        rw [eP]
        rw [hS.d 18 (by decide) (on 18 (by decide)), V18]
        clear hS on hr eP
        have S5 := S1.below m
        have hbz := hbl.trans (m.mono hbl.size)
        have h1 := (m.cell (World.block_lt_of_cell? Wb _ g1)).trans g1
        have h2 := (m.cell (World.block_lt_of_cell? Wb _ g2)).trans g2
        obtain ⟨s0, s1, _⟩ := id S5
        obtain ⟨p0, p1, _⟩ := id G5
        obtain ⟨z1, z2, z3⟩ := eq3_run HR.out
        have z4 : (FloatKind.f64.format.order xn xn != some .eq) = false := by rw [bne, z3]; rfl
        go_wp2
        go_roundg (4 - 1)
        case measure => rw [HG.out]; omega
        case rel => exact ⟨1, by omega, rfl, by first | rfl | go_num, hbz⟩
    · have g0 := (hbk.cell (World.block_lt_of_cell? Wa5 _ tf1)).trans tf1
      have g1 := (hbk.cell (World.block_lt_of_cell? Wa5 _ tw2)).trans tw2
      have g2 := (hbk.cell (World.block_lt_of_cell? Wa5 _ tw3)).trans tw3
      clear tf0 tf1 tf2 tf3 tw0 tw1 tw2 tw3 tw4 tw5 tw6 tw7
      have ct1 := fun w' => turn4_any pN X1 Y1 0 hX1 hY1 w'
      have ct2 := fun w' => turn4_any pN X2 Y2 0 hX2 hY2 w'
      simp only [e00] at ct1 ct2
      have eT := apt_in (a := (noN, Y1, X1, 0)) (b := (noN, Y2, X2, 0)) (by simp only; omega) (by simp only; omega) (by simp only; omega) (by simp only; omega)
      simp only at eT
      have eN : (aptA (noN, Y1, X1, 0) (noN, Y2, X2, 0)).2.2 = (n : Int) := by
        rw [eT, HN.out]
        simp only
        grind
      have eQ : aptA (noN, Y1, X1, 0) (noN, Y2, X2, 0) = (Y2 - Y1, X2 - X1, (n : Int)) := by
        rw [← eN, eT]
        all_goals simp only [Prod.mk.injEq, and_true]
        all_goals first | done | omega | (constructor <;> omega)
      have cAt := fun w' => apart_any (noN, Y1, X1, 0) (noN, Y2, X2, 0) w'
      rw [eQ] at cAt
      have eL : l2F (noN, Y1, X1, 0) (noN, Y2, X2, 0) = l2F (pN, X1, Y1, 0) (pN, X2, Y2, 0) := by
        unfold l2F
        rw [eN, HNA.out]
      have cLt := fun w' (t : TabW w') => length_any (noN, Y1, X1, 0) (noN, Y2, X2, 0) w' t
      rw [eL, HE1.out, HE2.out, HE0.out] at cLt
      unfold jV at cAt cLt
      simp only at cAt cLt
      clear eT eN eQ eL
      obtain ⟨x0, x1, x2, x3, _, _, _, _, _⟩ := id J1
      obtain ⟨y0, y1, y2, y3, _, _, _, _, _⟩ := id J2
      go_upto_region 17 with fail
      have hne : Nonempty (QOf wr) := QOf.any Tr
      have q0 : ∀ u : QOf wr, u.val.cell? ⟨F, 1, none⟩ = some (.func (.func 25) #[] #[]) := fun u => u.cell g0
      have q1 : ∀ u : QOf wr, u.val.cell? ⟨P, 0, none⟩ = some (.string pN) := fun u => u.cell x0
      have q2 : ∀ u : QOf wr, u.val.cell? ⟨P, 1, none⟩ = some (.int .i32 X1) := fun u => u.cell x1
      have q3 : ∀ u : QOf wr, u.val.cell? ⟨P, 2, none⟩ = some (.int .i32 Y1) := fun u => u.cell x2
      have q4 : ∀ u : QOf wr, u.val.cell? ⟨P, 3, none⟩ = some (.int .u8 0) := fun u => u.cell x3
      have q5 : ∀ u : QOf wr, u.val.cell? ⟨P + 1, 0, none⟩ = some (.string pN) := fun u => u.cell y0
      have q6 : ∀ u : QOf wr, u.val.cell? ⟨P + 1, 1, none⟩ = some (.int .i32 X2) := fun u => u.cell y1
      have q7 : ∀ u : QOf wr, u.val.cell? ⟨P + 1, 2, none⟩ = some (.int .i32 Y2) := fun u => u.cell y2
      have q8 : ∀ u : QOf wr, u.val.cell? ⟨P + 1, 3, none⟩ = some (.int .u8 0) := fun u => u.cell y3
      refine region_quiet18 (by kernel_rfl) (by kernel_rfl) Tr (fun O hO => ?_)
      repeat (quiet_step (first
        | (go_at_call_of 25 (Value.agg #[Value.string pN, Value.int IntKind.i32 X1, Value.int IntKind.i32 Y1, Value.int IntKind.u8 0]); with_reducible exact quietB_of (ct1 _))
        | (go_at_call 25; with_reducible exact quietB_of (ct2 _))
        | (go_at_call 15; with_reducible exact quietB_of (cAt _))))
      refine wpQuiet_nil ?_
      intro w' hw'
      obtain ⟨u2, rfl⟩ := hw'
      clear hO
      have d9 := u2.below
      have hbv := hbw.trans (d9.mono hbw.size)
      have hbl := hbk.trans (d9.mono hbk.size)
      replace J1 := J1.below d9
      replace J2 := J2.below d9
      replace S1 := S1.below d9
      replace g0 := (d9.cell (World.block_lt_of_cell? wr _ g0)).trans g0
      replace g1 := (d9.cell (World.block_lt_of_cell? wr _ g1)).trans g1
      replace g2 := (d9.cell (World.block_lt_of_cell? wr _ g2)).trans g2
      generalize u2.val = Wb at *
      clear q0 q1 q2 q3 q4 q5 q6 q7 q8 x0 x1 x2 x3 y0 y1 y2 y3 cAt hne d9 Tr u2 O
      go_upto_region 18 with fail
      have Tb := tabW_below hT hbv
      unfold spV at cLt
      simp only [e00] at cLt
      obtain ⟨x0, x1, x2, x3, _, _, _, _, _⟩ := id J1
      obtain ⟨y0, y1, y2, y3, _, _, _, _, _⟩ := id J2
      have M0 : (fun v : World => Below Wb.heap.size Wb v) Wb.drew := (Below.refl _ _).drew
      have hM : ∀ w w1, (fun v : World => Below Wb.heap.size Wb v) w → Below w.heap.size w w1 → (fun v : World => Below Wb.heap.size Wb v) w1 := fun _ _ m b => m.trans (b.mono m.size)
      obtain ⟨VAL, hVAL⟩ : ∃ V : Nat → Value, V = (fun j => match j with | 0 => Value.slice (some ⟨F, 0, none⟩) 4 4 | 1 => Value.int IntKind.i64 (1) | 2 => Value.pointer (some ⟨F, 1, none⟩) | 3 => Value.func (.func 25) #[] #[] | 4 => Value.agg #[Value.string pN, Value.int IntKind.i32 (X1), Value.int IntKind.i32 (Y1), Value.int IntKind.u8 0] | 5 => Value.agg #[Value.string noN, Value.int IntKind.i32 (Y1), Value.int IntKind.i32 (X1), Value.int IntKind.u8 0] | 6 => Value.slice (some ⟨F, 0, none⟩) 4 4 | 7 => Value.int IntKind.i64 (1) | 8 => Value.pointer (some ⟨F, 1, none⟩) | 9 => Value.func (.func 25) #[] #[] | 10 => Value.agg #[Value.string pN, Value.int IntKind.i32 (X2), Value.int IntKind.i32 (Y2), Value.int IntKind.u8 0] | 11 => Value.agg #[Value.string noN, Value.int IntKind.i32 (Y2), Value.int IntKind.i32 (X2), Value.int IntKind.u8 0] | 12 => Value.tuple #[Value.agg #[Value.float .f64 xl, Value.float .f64 xh], Value.float .f64 xn] | 13 => Value.tuple #[Value.agg #[Value.float .f64 xl, Value.float .f64 xh], Value.float .f64 xn] | 14 => Value.agg #[Value.float .f64 xl, Value.float .f64 xh] | 15 => Value.float .f64 xn | 16 => undef | 17 => undef | 18 => Value.float .f64 xn | _ => undef) := ⟨_, rfl⟩
      have V0 : VAL 0 = Value.slice (some ⟨F, 0, none⟩) 4 4 := congrFun hVAL 0
      have V1 : VAL 1 = Value.int IntKind.i64 (1) := congrFun hVAL 1
      have V2 : VAL 2 = Value.pointer (some ⟨F, 1, none⟩) := congrFun hVAL 2
      have V3 : VAL 3 = Value.func (.func 25) #[] #[] := congrFun hVAL 3
      have V4 : VAL 4 = Value.agg #[Value.string pN, Value.int IntKind.i32 (X1), Value.int IntKind.i32 (Y1), Value.int IntKind.u8 0] := congrFun hVAL 4
      have V5 : VAL 5 = Value.agg #[Value.string noN, Value.int IntKind.i32 (Y1), Value.int IntKind.i32 (X1), Value.int IntKind.u8 0] := congrFun hVAL 5
      have V6 : VAL 6 = Value.slice (some ⟨F, 0, none⟩) 4 4 := congrFun hVAL 6
      have V7 : VAL 7 = Value.int IntKind.i64 (1) := congrFun hVAL 7
      have V8 : VAL 8 = Value.pointer (some ⟨F, 1, none⟩) := congrFun hVAL 8
      have V9 : VAL 9 = Value.func (.func 25) #[] #[] := congrFun hVAL 9
      have V10 : VAL 10 = Value.agg #[Value.string pN, Value.int IntKind.i32 (X2), Value.int IntKind.i32 (Y2), Value.int IntKind.u8 0] := congrFun hVAL 10
      have V11 : VAL 11 = Value.agg #[Value.string noN, Value.int IntKind.i32 (Y2), Value.int IntKind.i32 (X2), Value.int IntKind.u8 0] := congrFun hVAL 11
      have V12 : VAL 12 = Value.tuple #[Value.agg #[Value.float .f64 xl, Value.float .f64 xh], Value.float .f64 xn] := congrFun hVAL 12
      have V13 : VAL 13 = Value.tuple #[Value.agg #[Value.float .f64 xl, Value.float .f64 xh], Value.float .f64 xn] := congrFun hVAL 13
      have V14 : VAL 14 = Value.agg #[Value.float .f64 xl, Value.float .f64 xh] := congrFun hVAL 14
      have V15 : VAL 15 = Value.float .f64 xn := congrFun hVAL 15
      have V16 : VAL 16 = undef := congrFun hVAL 16
      have V17 : VAL 17 = undef := congrFun hVAL 17
      have V18 : VAL 18 = Value.float .f64 xn := congrFun hVAL 18
      refine region_rgA (by kernel_rfl) (fun v => ⟨#[Value.int IntKind.i64 x, Value.int IntKind.i64 y, Value.int IntKind.i64 p, Value.int IntKind.i64 q, Value.int IntKind.i64 au, Value.int IntKind.i64 av, undef, undef, undef, undef, undef, undef, u12, Value.pointer (some ⟨P, 0, none⟩), Value.pointer (some ⟨P + 1, 0, none⟩), Value.pointer (some ⟨P + 1 + 1, 0, none⟩), Value.int IntKind.i64 (X2 - X1), Value.int IntKind.i64 (Y2 - Y1), Value.int IntKind.i64 (n : Int), Value.pointer (some ⟨G, 0, none⟩), Value.float FloatKind.f64 xn, Value.pointer (some ⟨C, 0, none⟩), Value.int IntKind.i64 dh, Value.int IntKind.i64 eh, Value.int IntKind.i64 (dh * dh + eh * eh), Value.func (.func 23) #[] #[Value.pointer (some ⟨C, 0, none⟩)], Value.int IntKind.i64 dh, Value.int IntKind.i64 eh, Value.int IntKind.i64 (dh * dh + eh * eh), Value.slice (some ⟨F, 0, none⟩) 4 4, Value.slice (some ⟨F + 1, 0, none⟩) 4 4, Value.int IntKind.i64 (1), Value.int IntKind.i64 (Y2 - Y1), Value.int IntKind.i64 (X2 - X1), Value.int IntKind.i64 (n : Int), v 16, v 18, undef, undef, undef, undef, undef, undef, Value.bool true, Value.bool false, Value.int IntKind.i64 x, Value.int IntKind.i64 y, Value.agg #[Value.string pN, Value.int IntKind.i32 X1, Value.int IntKind.i32 Y1, Value.int IntKind.u8 0], Value.int IntKind.i64 p, Value.int IntKind.i64 q, Value.agg #[Value.string pN, Value.int IntKind.i32 X2, Value.int IntKind.i32 Y2, Value.int IntKind.u8 0], Value.int IntKind.i64 au, Value.int IntKind.i64 av, Value.agg #[Value.string pN, Value.int IntKind.i32 X3, Value.int IntKind.i32 Y3, Value.int IntKind.u8 0], Value.tuple #[Value.int IntKind.i64 (X2 - X1), Value.int IntKind.i64 (Y2 - Y1), Value.int IntKind.i64 (n : Int)], Value.agg #[Value.string pN, Value.int IntKind.i32 X1, Value.int IntKind.i32 Y1, Value.int IntKind.u8 0], Value.agg #[Value.string pN, Value.int IntKind.i32 X2, Value.int IntKind.i32 Y2, Value.int IntKind.u8 0], Value.tuple #[Value.int IntKind.i64 (X2 - X1), Value.int IntKind.i64 (Y2 - Y1), Value.int IntKind.i64 (n : Int)], Value.int IntKind.i64 (X2 - X1), Value.int IntKind.i64 (Y2 - Y1), Value.int IntKind.i64 (n : Int), Value.tuple #[spV xl xh, Value.float FloatKind.f64 xn], Value.agg #[Value.string pN, Value.int IntKind.i32 X1, Value.int IntKind.i32 Y1, Value.int IntKind.u8 0], Value.agg #[Value.string pN, Value.int IntKind.i32 X2, Value.int IntKind.i32 Y2, Value.int IntKind.u8 0], Value.tuple #[spV xl xh, Value.float FloatKind.f64 xn], spV xl xh, Value.float FloatKind.f64 xn, Value.tuple #[Value.int IntKind.i64 dh, Value.int IntKind.i64 eh, Value.int IntKind.i64 (dh * dh + eh * eh)], Value.func (.func 22) #[] #[], Value.agg #[Value.string pN, Value.int IntKind.i32 X1, Value.int IntKind.i32 Y1, Value.int IntKind.u8 0], Value.agg #[Value.string noN, Value.int IntKind.i32 (X1.tdiv 2), Value.int IntKind.i32 (Y1.tdiv 2), Value.int IntKind.u8 0], Value.func (.func 22) #[] #[], Value.agg #[Value.string pN, Value.int IntKind.i32 X2, Value.int IntKind.i32 Y2, Value.int IntKind.u8 0], Value.agg #[Value.string noN, Value.int IntKind.i32 (X2.tdiv 2), Value.int IntKind.i32 (Y2.tdiv 2), Value.int IntKind.u8 0], Value.tuple #[Value.int IntKind.i64 dh, Value.int IntKind.i64 eh, Value.int IntKind.i64 (dh * dh + eh * eh)], Value.int IntKind.i64 dh, Value.int IntKind.i64 eh, Value.int IntKind.i64 (dh * dh + eh * eh), Value.func (.func 23) #[] #[Value.pointer (some ⟨C, 0, none⟩)], Value.tuple #[Value.int IntKind.i64 dh, Value.int IntKind.i64 eh, Value.int IntKind.i64 (dh * dh + eh * eh)], Value.func (.func 23) #[] #[Value.pointer (some ⟨C, 0, none⟩)], Value.agg #[Value.string pN, Value.int IntKind.i32 X1, Value.int IntKind.i32 Y1, Value.int IntKind.u8 0], Value.agg #[Value.string pN, Value.int IntKind.i32 X3, Value.int IntKind.i32 Y3, Value.int IntKind.u8 0], Value.agg #[Value.string ⟨#[113]⟩, Value.int IntKind.i32 (X1.tdiv 2 + X3.tdiv 2), Value.int IntKind.i32 (Y1.tdiv 2 + Y3.tdiv 2), Value.int IntKind.u8 3], Value.func (.func 23) #[] #[Value.pointer (some ⟨C, 0, none⟩)], Value.agg #[Value.string pN, Value.int IntKind.i32 X2, Value.int IntKind.i32 Y2, Value.int IntKind.u8 0], Value.agg #[Value.string pN, Value.int IntKind.i32 X3, Value.int IntKind.i32 Y3, Value.int IntKind.u8 0], Value.agg #[Value.string ⟨#[113]⟩, Value.int IntKind.i32 (X2.tdiv 2 + X3.tdiv 2), Value.int IntKind.i32 (Y2.tdiv 2 + Y3.tdiv 2), Value.int IntKind.u8 3], Value.tuple #[Value.int IntKind.i64 dh, Value.int IntKind.i64 eh, Value.int IntKind.i64 (dh * dh + eh * eh)], Value.int IntKind.i64 dh, Value.int IntKind.i64 eh, Value.int IntKind.i64 (dh * dh + eh * eh), Value.int IntKind.i64 dh, Value.int IntKind.i64 dh, Value.bool false, Value.bool false, Value.int IntKind.i64 eh, Value.int IntKind.i64 eh, Value.bool false, Value.bool false, Value.bool false, Value.int IntKind.i64 (dh * dh + eh * eh), Value.int IntKind.i64 (dh * dh + eh * eh), Value.bool false, Value.bool false, Value.slice (some ⟨F, 0, none⟩) 4 4, Value.int IntKind.i64 (X2 - X1), Value.int IntKind.i64 (-(X2 - X1)), Value.int IntKind.i64 (Y2 - Y1), Value.agg #[Value.int IntKind.i64 (-(X2 - X1)), Value.int IntKind.i64 (Y2 - Y1)], Value.int IntKind.i64 (Y2 - Y1), Value.int IntKind.i64 (X2 - X1), Value.agg #[Value.int IntKind.i64 (Y2 - Y1), Value.int IntKind.i64 (X2 - X1)], Value.int IntKind.i64 (Y2 - Y1), Value.int IntKind.i64 (-(Y2 - Y1)), Value.int IntKind.i64 (X2 - X1), Value.agg #[Value.int IntKind.i64 (-(Y2 - Y1)), Value.int IntKind.i64 (X2 - X1)], Value.int IntKind.i64 (X2 - X1), Value.int IntKind.i64 (-(X2 - X1)), Value.int IntKind.i64 (Y2 - Y1), Value.int IntKind.i64 (-(Y2 - Y1)), Value.agg #[Value.int IntKind.i64 (-(X2 - X1)), Value.int IntKind.i64 (-(Y2 - Y1))], Value.slice (some ⟨F + 1, 0, none⟩) 4 4, Value.int IntKind.i64 (1), Value.slice (some ⟨F, 0, none⟩) 4 4, Value.int IntKind.i64 4, Value.bool true, u127, u128, Value.tuple #[Value.int IntKind.i64 (Y2 - Y1), Value.int IntKind.i64 (X2 - X1), Value.int IntKind.i64 (n : Int)], Value.slice (some ⟨F, 0, none⟩) 4 4, Value.int IntKind.i64 (1), Value.pointer (some ⟨F, 1, none⟩), Value.func (.func 25) #[] #[], Value.agg #[Value.string pN, Value.int IntKind.i32 (X1), Value.int IntKind.i32 (Y1), Value.int IntKind.u8 0], Value.agg #[Value.string noN, Value.int IntKind.i32 (Y1), Value.int IntKind.i32 (X1), Value.int IntKind.u8 0], Value.slice (some ⟨F, 0, none⟩) 4 4, Value.int IntKind.i64 (1), Value.pointer (some ⟨F, 1, none⟩), Value.func (.func 25) #[] #[], Value.agg #[Value.string pN, Value.int IntKind.i32 (X2), Value.int IntKind.i32 (Y2), Value.int IntKind.u8 0], Value.agg #[Value.string noN, Value.int IntKind.i32 (Y2), Value.int IntKind.i32 (X2), Value.int IntKind.u8 0], Value.tuple #[Value.int IntKind.i64 (Y2 - Y1), Value.int IntKind.i64 (X2 - X1), Value.int IntKind.i64 (n : Int)], Value.int IntKind.i64 (Y2 - Y1), Value.int IntKind.i64 (X2 - X1), Value.int IntKind.i64 (n : Int), v 13, v 0, v 1, v 2, v 3, v 4, v 5, v 6, v 7, v 8, v 9, v 10, v 11, v 12, v 14, v 15, u162, u163, u164, u165, u166, u167, u168, u169, u170, u171, u172, u173, u174, u175, u176, u177, u178, u179, u180, u181, u182, u183, u184, u185, u186, u187, u188, u189, u190, u191, u192, undef, undef, undef, undef, undef, undef, undef, undef, undef, undef, undef, undef, undef, undef, undef, undef, undef, undef, undef, undef, undef, undef, undef, undef, undef, undef, undef, undef, undef, undef, undef, undef, undef, undef, undef, undef, undef, undef, undef, undef, undef, undef, undef, undef, undef, undef, undef, undef, undef, undef, undef, undef, undef], []⟩) (fun v : World => Below Wb.heap.size Wb v) (Wb.heap.size) 16 17 (.float .f64 0) (.float .f64 0) (.float .f64 xl) (.float .f64 xh) VAL (fun j => match j with | 0 => u147 | 1 => u148 | 2 => u149 | 3 => u150 | 4 => u151 | 5 => u152 | 6 => u153 | 7 => u154 | 8 => u155 | 9 => u156 | 10 => u157 | 11 => u158 | 12 => u159 | 13 => u146 | 14 => u160 | 15 => u161 | 16 => u35 | 17 => undef | _ => u36) rfl M0 ?_ ?_
      · intro L v g w' i hL hS hi
        obtain ⟨h1, h2, h3⟩ := mem_ready hi
        have h1 : i < 19 := h1
        try dsimp only
        have hno := off_not (by rw [hL]; exact h1) h2
        have m := hS.m
        have hcs : i = 0 ∨ i = 1 ∨ i = 2 ∨ i = 3 ∨ i = 4 ∨ i = 5 ∨ i = 6 ∨ i = 7 ∨ i = 8 ∨ i = 9 ∨ i = 10 ∨ i = 11 ∨ i = 12 ∨ i = 13 ∨ i = 14 ∨ i = 15 ∨ i = 16 ∨ i = 17 ∨ i = 18 := by omega
        rcases hcs with rfl | rfl | rfl | rfl | rfl | rfl | rfl | rfl | rfl | rfl | rfl | rfl | rfl | rfl | rfl | rfl | rfl | rfl | rfl
        · refine wpOp_of (fun K hK => ?_)
          unfold wpOp
          go_simp
          refine Or.inl ?_
          exact hK _ _ ⟨put9 v 0 (Value.slice (some ⟨F, 0, none⟩) 4 4), g, (by simp [put9]), hS.step hM hL hi (by decide) (by decide) (Below.refl _ _) V0.symm⟩
        · refine wpOp_of (fun K hK => ?_)
          unfold wpOp
          go_simp
          refine Or.inl ?_
          exact hK _ _ ⟨put9 v 1 (Value.int IntKind.i64 (1)), g, (by simp [put9]), hS.step hM hL hi (by decide) (by decide) (Below.refl _ _) V1.symm⟩
        · have e0 : v 0 = Value.slice (some ⟨F, 0, none⟩) 4 4 := (hS.d 0 (by decide) (ready_dep hi 0 (by kernel_rfl))).trans V0
          have e1 : v 1 = Value.int IntKind.i64 (1) := (hS.d 1 (by decide) (ready_dep hi 1 (by kernel_rfl))).trans V1
          refine wpOp_of (fun K hK => ?_)
          unfold wpOp
          simp only [e0, e1]
          go_simp
          refine Or.inl ?_
          exact hK _ _ ⟨put9 v 2 (Value.pointer (some ⟨F, 1, none⟩)), g, (by simp [put9, e0, e1]), hS.step hM hL hi (by decide) (by decide) (Below.refl _ _) V2.symm⟩
        · have e2 : v 2 = Value.pointer (some ⟨F, 1, none⟩) := (hS.d 2 (by decide) (ready_dep hi 2 (by kernel_rfl))).trans V2
          have q0 := (m.cell (World.block_lt_of_cell? Wb _ g0)).trans g0
          refine wpOp_of (fun K hK => ?_)
          unfold wpOp
          simp only [e2]
          go_simp
          refine Or.inl ?_
          exact hK _ _ ⟨put9 v 3 (Value.func (.func 25) #[] #[]), g, (by simp [put9, e2]), hS.step hM hL hi (by decide) (by decide) (Below.refl _ _) V3.symm⟩
        · have q0 := (m.cell (World.block_lt_of_cell? Wb _ x0)).trans x0
          have q1 := (m.cell (World.block_lt_of_cell? Wb _ x1)).trans x1
          have q2 := (m.cell (World.block_lt_of_cell? Wb _ x2)).trans x2
          have q3 := (m.cell (World.block_lt_of_cell? Wb _ x3)).trans x3
          refine wpOp_of (fun K hK => ?_)
          unfold wpOp
          go_simp
          refine Or.inl ?_
          exact hK _ _ ⟨put9 v 4 (Value.agg #[Value.string pN, Value.int IntKind.i32 (X1), Value.int IntKind.i32 (Y1), Value.int IntKind.u8 0]), g, (by simp [put9]), hS.step hM hL hi (by decide) (by decide) (Below.refl _ _) V4.symm⟩
        · have e3 : v 3 = Value.func (.func 25) #[] #[] := (hS.d 3 (by decide) (ready_dep hi 3 (by kernel_rfl))).trans V3
          have e4 : v 4 = Value.agg #[Value.string pN, Value.int IntKind.i32 (X1), Value.int IntKind.i32 (Y1), Value.int IntKind.u8 0] := (hS.d 4 (by decide) (ready_dep hi 4 (by kernel_rfl))).trans V4
          refine wpOp_of (fun K hK => ?_)
          unfold wpOp
          simp only [e3, e4]
          go_simp
          refine Or.inl ?_
          refine (ct1 _).mono ?_
          rintro e w1 ⟨rfl, bc⟩
          exact hK _ _ ⟨put9 v 5 (Value.agg #[Value.string noN, Value.int IntKind.i32 (Y1), Value.int IntKind.i32 (X1), Value.int IntKind.u8 0]), g, (by simp [put9, e3, e4]), hS.step hM hL hi (by decide) (by decide) bc V5.symm⟩
        · refine wpOp_of (fun K hK => ?_)
          unfold wpOp
          go_simp
          refine Or.inl ?_
          exact hK _ _ ⟨put9 v 6 (Value.slice (some ⟨F, 0, none⟩) 4 4), g, (by simp [put9]), hS.step hM hL hi (by decide) (by decide) (Below.refl _ _) V6.symm⟩
        · refine wpOp_of (fun K hK => ?_)
          unfold wpOp
          go_simp
          refine Or.inl ?_
          exact hK _ _ ⟨put9 v 7 (Value.int IntKind.i64 (1)), g, (by simp [put9]), hS.step hM hL hi (by decide) (by decide) (Below.refl _ _) V7.symm⟩
        · have e6 : v 6 = Value.slice (some ⟨F, 0, none⟩) 4 4 := (hS.d 6 (by decide) (ready_dep hi 6 (by kernel_rfl))).trans V6
          have e7 : v 7 = Value.int IntKind.i64 (1) := (hS.d 7 (by decide) (ready_dep hi 7 (by kernel_rfl))).trans V7
          refine wpOp_of (fun K hK => ?_)
          unfold wpOp
          simp only [e6, e7]
          go_simp
          refine Or.inl ?_
          exact hK _ _ ⟨put9 v 8 (Value.pointer (some ⟨F, 1, none⟩)), g, (by simp [put9, e6, e7]), hS.step hM hL hi (by decide) (by decide) (Below.refl _ _) V8.symm⟩
        · have e8 : v 8 = Value.pointer (some ⟨F, 1, none⟩) := (hS.d 8 (by decide) (ready_dep hi 8 (by kernel_rfl))).trans V8
          have q0 := (m.cell (World.block_lt_of_cell? Wb _ g0)).trans g0
          refine wpOp_of (fun K hK => ?_)
          unfold wpOp
          simp only [e8]
          go_simp
          refine Or.inl ?_
          exact hK _ _ ⟨put9 v 9 (Value.func (.func 25) #[] #[]), g, (by simp [put9, e8]), hS.step hM hL hi (by decide) (by decide) (Below.refl _ _) V9.symm⟩
        · have q0 := (m.cell (World.block_lt_of_cell? Wb _ y0)).trans y0
          have q1 := (m.cell (World.block_lt_of_cell? Wb _ y1)).trans y1
          have q2 := (m.cell (World.block_lt_of_cell? Wb _ y2)).trans y2
          have q3 := (m.cell (World.block_lt_of_cell? Wb _ y3)).trans y3
          refine wpOp_of (fun K hK => ?_)
          unfold wpOp
          go_simp
          refine Or.inl ?_
          exact hK _ _ ⟨put9 v 10 (Value.agg #[Value.string pN, Value.int IntKind.i32 (X2), Value.int IntKind.i32 (Y2), Value.int IntKind.u8 0]), g, (by simp [put9]), hS.step hM hL hi (by decide) (by decide) (Below.refl _ _) V10.symm⟩
        · have e9 : v 9 = Value.func (.func 25) #[] #[] := (hS.d 9 (by decide) (ready_dep hi 9 (by kernel_rfl))).trans V9
          have e10 : v 10 = Value.agg #[Value.string pN, Value.int IntKind.i32 (X2), Value.int IntKind.i32 (Y2), Value.int IntKind.u8 0] := (hS.d 10 (by decide) (ready_dep hi 10 (by kernel_rfl))).trans V10
          refine wpOp_of (fun K hK => ?_)
          unfold wpOp
          simp only [e9, e10]
          go_simp
          refine Or.inl ?_
          refine (ct2 _).mono ?_
          rintro e w1 ⟨rfl, bc⟩
          exact hK _ _ ⟨put9 v 11 (Value.agg #[Value.string noN, Value.int IntKind.i32 (Y2), Value.int IntKind.i32 (X2), Value.int IntKind.u8 0]), g, (by simp [put9, e9, e10]), hS.step hM hL hi (by decide) (by decide) bc V11.symm⟩
        · have e5 : v 5 = Value.agg #[Value.string noN, Value.int IntKind.i32 (Y1), Value.int IntKind.i32 (X1), Value.int IntKind.u8 0] := (hS.d 5 (by decide) (ready_dep hi 5 (by kernel_rfl))).trans V5
          have e11 : v 11 = Value.agg #[Value.string noN, Value.int IntKind.i32 (Y2), Value.int IntKind.i32 (X2), Value.int IntKind.u8 0] := (hS.d 11 (by decide) (ready_dep hi 11 (by kernel_rfl))).trans V11
          refine wpOp_of (fun K hK => ?_)
          unfold wpOp
          simp only [e5, e11]
          go_simp
          refine Or.inl ?_
          refine (cLt _ (tabW_below Tb m)).mono ?_
          rintro e w1 ⟨rfl, bc⟩
          exact hK _ _ ⟨put9 v 12 (Value.tuple #[Value.agg #[Value.float .f64 xl, Value.float .f64 xh], Value.float .f64 xn]), g, (by simp [put9, e5, e11]), hS.step hM hL hi (by decide) (by decide) bc V12.symm⟩
        · have e12 : v 12 = Value.tuple #[Value.agg #[Value.float .f64 xl, Value.float .f64 xh], Value.float .f64 xn] := (hS.d 12 (by decide) (ready_dep hi 12 (by kernel_rfl))).trans V12
          refine wpOp_of (fun K hK => ?_)
          unfold wpOp
          simp only [e12]
          go_simp
          refine Or.inl ?_
          exact hK _ _ ⟨put9 v 13 (Value.tuple #[Value.agg #[Value.float .f64 xl, Value.float .f64 xh], Value.float .f64 xn]), g, (by simp [put9, e12]), hS.step hM hL hi (by decide) (by decide) (Below.refl _ _) V13.symm⟩
        · have e13 : v 13 = Value.tuple #[Value.agg #[Value.float .f64 xl, Value.float .f64 xh], Value.float .f64 xn] := (hS.d 13 (by decide) (ready_dep hi 13 (by kernel_rfl))).trans V13
          refine wpOp_of (fun K hK => ?_)
          unfold wpOp
          simp only [e13]
          go_simp
          refine Or.inl ?_
          exact hK _ _ ⟨put9 v 14 (Value.agg #[Value.float .f64 xl, Value.float .f64 xh]), g, (by simp [put9, e13]), hS.step hM hL hi (by decide) (by decide) (Below.refl _ _) V14.symm⟩
        · have e13 : v 13 = Value.tuple #[Value.agg #[Value.float .f64 xl, Value.float .f64 xh], Value.float .f64 xn] := (hS.d 13 (by decide) (ready_dep hi 13 (by kernel_rfl))).trans V13
          refine wpOp_of (fun K hK => ?_)
          unfold wpOp
          simp only [e13]
          go_simp
          refine Or.inl ?_
          exact hK _ _ ⟨put9 v 15 (Value.float .f64 xn), g, (by simp [put9, e13]), hS.step hM hL hi (by decide) (by decide) (Below.refl _ _) V15.symm⟩
        · have hBw : Wb.heap.size ≤ w'.heap.size := m.size
          refine wpOp_of (fun K hK => ?_)
          unfold wpOp
          go_simp
          refine Or.inl ?_
          exact hK _ _ ⟨put9 v 16 (.pointer (some ⟨w'.heap.size, 0, none⟩)), w'.heap.size, (by simp [put9]), hS.make hM hL hi hno (by decide) hBw (by kernel_rfl)⟩
        · have e14 : v 14 = Value.agg #[Value.float .f64 xl, Value.float .f64 xh] := (hS.d 14 (by decide) (ready_dep hi 14 (by kernel_rfl))).trans V14
          obtain ⟨e16, hBg⟩ := hS.p (ready_dep hi 16 (by kernel_rfl))
          obtain ⟨q0, q1, q2, q3, _⟩ := hS.n (ready_dep hi 16 (by kernel_rfl)) hno
          refine wpOp_of (fun K hK => ?_)
          unfold wpOp
          simp only [e14, e16]
          go_simp
          refine Or.inl ?_
          exact hK _ _ ⟨put9 v 17 undef, g, (by simp [put9, e14, e16]), hS.store (fun w1 m1 => set2 m1 hBg _ _) hL hi hno (by decide) (by kernel_rfl) V17.symm⟩
        · have e15 : v 15 = Value.float .f64 xn := (hS.d 15 (by decide) (ready_dep hi 15 (by kernel_rfl))).trans V15
          refine wpOp_of (fun K hK => ?_)
          unfold wpOp
          simp only [e15]
          go_simp
          refine Or.inl ?_
          exact hK _ _ ⟨put9 v 18 (Value.float .f64 xn), g, (by simp [put9, e15]), hS.step hM hL hi (by decide) (by decide) (Below.refl _ _) V18.symm⟩
      · intro L v g w' hL hS hr
        have on := all_done hL hr (by kernel_rfl)
        have m := hS.m
        have G5 := hS.y (on 17 (by decide))
        obtain ⟨eP, hBg⟩ := hS.p (on 16 (by decide))
        try dsimp only
        rw [hS.d 0 (by decide) (on 0 (by decide)), V0]
        rw [hS.d 1 (by decide) (on 1 (by decide)), V1]
        rw [hS.d 2 (by decide) (on 2 (by decide)), V2]
        rw [hS.d 3 (by decide) (on 3 (by decide)), V3]
        rw [hS.d 4 (by decide) (on 4 (by decide)), V4]
        rw [hS.d 5 (by decide) (on 5 (by decide)), V5]
        rw [hS.d 6 (by decide) (on 6 (by decide)), V6]
        rw [hS.d 7 (by decide) (on 7 (by decide)), V7]
        rw [hS.d 8 (by decide) (on 8 (by decide)), V8]
        rw [hS.d 9 (by decide) (on 9 (by decide)), V9]
        rw [hS.d 10 (by decide) (on 10 (by decide)), V10]
        rw [hS.d 11 (by decide) (on 11 (by decide)), V11]
        rw [hS.d 12 (by decide) (on 12 (by decide)), V12]
        rw [hS.d 13 (by decide) (on 13 (by decide)), V13]
        rw [hS.d 14 (by decide) (on 14 (by decide)), V14]
        rw [hS.d 15 (by decide) (on 15 (by decide)), V15]
        rw [eP]
        rw [hS.d 18 (by decide) (on 18 (by decide)), V18]
        clear hS on hr eP
        have S5 := S1.below m
        have hbz := hbl.trans (m.mono hbl.size)
        have h1 := (m.cell (World.block_lt_of_cell? Wb _ g1)).trans g1
        have h2 := (m.cell (World.block_lt_of_cell? Wb _ g2)).trans g2
        obtain ⟨s0, s1, _⟩ := id S5
        obtain ⟨p0, p1, _⟩ := id G5
        obtain ⟨z1, z2, z3⟩ := eq3_run HR.out
        have z4 : (FloatKind.f64.format.order xn xn != some .eq) = false := by rw [bne, z3]; rfl
        go_wp2
        go_roundg (4 - 2)
        case measure => rw [HG.out]; omega
        case rel => exact ⟨2, by omega, rfl, by first | rfl | go_num, hbz⟩
    · have g0 := (hbk.cell (World.block_lt_of_cell? Wa5 _ tf2)).trans tf2
      have g1 := (hbk.cell (World.block_lt_of_cell? Wa5 _ tw4)).trans tw4
      have g2 := (hbk.cell (World.block_lt_of_cell? Wa5 _ tw5)).trans tw5
      clear tf0 tf1 tf2 tf3 tw0 tw1 tw2 tw3 tw4 tw5 tw6 tw7
      have ct1 := fun w' => turn5_any pN X1 Y1 0 hX1 hY1 w'
      have ct2 := fun w' => turn5_any pN X2 Y2 0 hX2 hY2 w'
      simp only [e00] at ct1 ct2
      have eT := apt_in (a := (noN, -Y1, X1, 0)) (b := (noN, -Y2, X2, 0)) (by simp only; omega) (by simp only; omega) (by simp only; omega) (by simp only; omega)
      simp only at eT
      have eN : (aptA (noN, -Y1, X1, 0) (noN, -Y2, X2, 0)).2.2 = (n : Int) := by
        rw [eT, HN.out]
        simp only
        grind
      have eQ : aptA (noN, -Y1, X1, 0) (noN, -Y2, X2, 0) = (-(Y2 - Y1), X2 - X1, (n : Int)) := by
        rw [← eN, eT]
        all_goals simp only [Prod.mk.injEq, and_true]
        all_goals first | done | omega | (constructor <;> omega)
      have cAt := fun w' => apart_any (noN, -Y1, X1, 0) (noN, -Y2, X2, 0) w'
      rw [eQ] at cAt
      have eL : l2F (noN, -Y1, X1, 0) (noN, -Y2, X2, 0) = l2F (pN, X1, Y1, 0) (pN, X2, Y2, 0) := by
        unfold l2F
        rw [eN, HNA.out]
      have cLt := fun w' (t : TabW w') => length_any (noN, -Y1, X1, 0) (noN, -Y2, X2, 0) w' t
      rw [eL, HE1.out, HE2.out, HE0.out] at cLt
      unfold jV at cAt cLt
      simp only at cAt cLt
      clear eT eN eQ eL
      obtain ⟨x0, x1, x2, x3, _, _, _, _, _⟩ := id J1
      obtain ⟨y0, y1, y2, y3, _, _, _, _, _⟩ := id J2
      go_upto_region 17 with fail
      have hne : Nonempty (QOf wr) := QOf.any Tr
      have q0 : ∀ u : QOf wr, u.val.cell? ⟨F, 2, none⟩ = some (.func (.func 26) #[] #[]) := fun u => u.cell g0
      have q1 : ∀ u : QOf wr, u.val.cell? ⟨P, 0, none⟩ = some (.string pN) := fun u => u.cell x0
      have q2 : ∀ u : QOf wr, u.val.cell? ⟨P, 1, none⟩ = some (.int .i32 X1) := fun u => u.cell x1
      have q3 : ∀ u : QOf wr, u.val.cell? ⟨P, 2, none⟩ = some (.int .i32 Y1) := fun u => u.cell x2
      have q4 : ∀ u : QOf wr, u.val.cell? ⟨P, 3, none⟩ = some (.int .u8 0) := fun u => u.cell x3
      have q5 : ∀ u : QOf wr, u.val.cell? ⟨P + 1, 0, none⟩ = some (.string pN) := fun u => u.cell y0
      have q6 : ∀ u : QOf wr, u.val.cell? ⟨P + 1, 1, none⟩ = some (.int .i32 X2) := fun u => u.cell y1
      have q7 : ∀ u : QOf wr, u.val.cell? ⟨P + 1, 2, none⟩ = some (.int .i32 Y2) := fun u => u.cell y2
      have q8 : ∀ u : QOf wr, u.val.cell? ⟨P + 1, 3, none⟩ = some (.int .u8 0) := fun u => u.cell y3
      refine region_quiet18 (by kernel_rfl) (by kernel_rfl) Tr (fun O hO => ?_)
      repeat (quiet_step (first
        | (go_at_call_of 26 (Value.agg #[Value.string pN, Value.int IntKind.i32 X1, Value.int IntKind.i32 Y1, Value.int IntKind.u8 0]); with_reducible exact quietB_of (ct1 _))
        | (go_at_call 26; with_reducible exact quietB_of (ct2 _))
        | (go_at_call 15; with_reducible exact quietB_of (cAt _))))
      refine wpQuiet_nil ?_
      intro w' hw'
      obtain ⟨u2, rfl⟩ := hw'
      clear hO
      have d9 := u2.below
      have hbv := hbw.trans (d9.mono hbw.size)
      have hbl := hbk.trans (d9.mono hbk.size)
      replace J1 := J1.below d9
      replace J2 := J2.below d9
      replace S1 := S1.below d9
      replace g0 := (d9.cell (World.block_lt_of_cell? wr _ g0)).trans g0
      replace g1 := (d9.cell (World.block_lt_of_cell? wr _ g1)).trans g1
      replace g2 := (d9.cell (World.block_lt_of_cell? wr _ g2)).trans g2
      generalize u2.val = Wb at *
      clear q0 q1 q2 q3 q4 q5 q6 q7 q8 x0 x1 x2 x3 y0 y1 y2 y3 cAt hne d9 Tr u2 O
      go_upto_region 18 with fail
      have Tb := tabW_below hT hbv
      unfold spV at cLt
      simp only [e00] at cLt
      obtain ⟨x0, x1, x2, x3, _, _, _, _, _⟩ := id J1
      obtain ⟨y0, y1, y2, y3, _, _, _, _, _⟩ := id J2
      have M0 : (fun v : World => Below Wb.heap.size Wb v) Wb.drew := (Below.refl _ _).drew
      have hM : ∀ w w1, (fun v : World => Below Wb.heap.size Wb v) w → Below w.heap.size w w1 → (fun v : World => Below Wb.heap.size Wb v) w1 := fun _ _ m b => m.trans (b.mono m.size)
      obtain ⟨VAL, hVAL⟩ : ∃ V : Nat → Value, V = (fun j => match j with | 0 => Value.slice (some ⟨F, 0, none⟩) 4 4 | 1 => Value.int IntKind.i64 (2) | 2 => Value.pointer (some ⟨F, 2, none⟩) | 3 => Value.func (.func 26) #[] #[] | 4 => Value.agg #[Value.string pN, Value.int IntKind.i32 (X1), Value.int IntKind.i32 (Y1), Value.int IntKind.u8 0] | 5 => Value.agg #[Value.string noN, Value.int IntKind.i32 (-Y1), Value.int IntKind.i32 (X1), Value.int IntKind.u8 0] | 6 => Value.slice (some ⟨F, 0, none⟩) 4 4 | 7 => Value.int IntKind.i64 (2) | 8 => Value.pointer (some ⟨F, 2, none⟩) | 9 => Value.func (.func 26) #[] #[] | 10 => Value.agg #[Value.string pN, Value.int IntKind.i32 (X2), Value.int IntKind.i32 (Y2), Value.int IntKind.u8 0] | 11 => Value.agg #[Value.string noN, Value.int IntKind.i32 (-Y2), Value.int IntKind.i32 (X2), Value.int IntKind.u8 0] | 12 => Value.tuple #[Value.agg #[Value.float .f64 xl, Value.float .f64 xh], Value.float .f64 xn] | 13 => Value.tuple #[Value.agg #[Value.float .f64 xl, Value.float .f64 xh], Value.float .f64 xn] | 14 => Value.agg #[Value.float .f64 xl, Value.float .f64 xh] | 15 => Value.float .f64 xn | 16 => undef | 17 => undef | 18 => Value.float .f64 xn | _ => undef) := ⟨_, rfl⟩
      have V0 : VAL 0 = Value.slice (some ⟨F, 0, none⟩) 4 4 := congrFun hVAL 0
      have V1 : VAL 1 = Value.int IntKind.i64 (2) := congrFun hVAL 1
      have V2 : VAL 2 = Value.pointer (some ⟨F, 2, none⟩) := congrFun hVAL 2
      have V3 : VAL 3 = Value.func (.func 26) #[] #[] := congrFun hVAL 3
      have V4 : VAL 4 = Value.agg #[Value.string pN, Value.int IntKind.i32 (X1), Value.int IntKind.i32 (Y1), Value.int IntKind.u8 0] := congrFun hVAL 4
      have V5 : VAL 5 = Value.agg #[Value.string noN, Value.int IntKind.i32 (-Y1), Value.int IntKind.i32 (X1), Value.int IntKind.u8 0] := congrFun hVAL 5
      have V6 : VAL 6 = Value.slice (some ⟨F, 0, none⟩) 4 4 := congrFun hVAL 6
      have V7 : VAL 7 = Value.int IntKind.i64 (2) := congrFun hVAL 7
      have V8 : VAL 8 = Value.pointer (some ⟨F, 2, none⟩) := congrFun hVAL 8
      have V9 : VAL 9 = Value.func (.func 26) #[] #[] := congrFun hVAL 9
      have V10 : VAL 10 = Value.agg #[Value.string pN, Value.int IntKind.i32 (X2), Value.int IntKind.i32 (Y2), Value.int IntKind.u8 0] := congrFun hVAL 10
      have V11 : VAL 11 = Value.agg #[Value.string noN, Value.int IntKind.i32 (-Y2), Value.int IntKind.i32 (X2), Value.int IntKind.u8 0] := congrFun hVAL 11
      have V12 : VAL 12 = Value.tuple #[Value.agg #[Value.float .f64 xl, Value.float .f64 xh], Value.float .f64 xn] := congrFun hVAL 12
      have V13 : VAL 13 = Value.tuple #[Value.agg #[Value.float .f64 xl, Value.float .f64 xh], Value.float .f64 xn] := congrFun hVAL 13
      have V14 : VAL 14 = Value.agg #[Value.float .f64 xl, Value.float .f64 xh] := congrFun hVAL 14
      have V15 : VAL 15 = Value.float .f64 xn := congrFun hVAL 15
      have V16 : VAL 16 = undef := congrFun hVAL 16
      have V17 : VAL 17 = undef := congrFun hVAL 17
      have V18 : VAL 18 = Value.float .f64 xn := congrFun hVAL 18
      refine region_rgA (by kernel_rfl) (fun v => ⟨#[Value.int IntKind.i64 x, Value.int IntKind.i64 y, Value.int IntKind.i64 p, Value.int IntKind.i64 q, Value.int IntKind.i64 au, Value.int IntKind.i64 av, undef, undef, undef, undef, undef, undef, u12, Value.pointer (some ⟨P, 0, none⟩), Value.pointer (some ⟨P + 1, 0, none⟩), Value.pointer (some ⟨P + 1 + 1, 0, none⟩), Value.int IntKind.i64 (X2 - X1), Value.int IntKind.i64 (Y2 - Y1), Value.int IntKind.i64 (n : Int), Value.pointer (some ⟨G, 0, none⟩), Value.float FloatKind.f64 xn, Value.pointer (some ⟨C, 0, none⟩), Value.int IntKind.i64 dh, Value.int IntKind.i64 eh, Value.int IntKind.i64 (dh * dh + eh * eh), Value.func (.func 23) #[] #[Value.pointer (some ⟨C, 0, none⟩)], Value.int IntKind.i64 dh, Value.int IntKind.i64 eh, Value.int IntKind.i64 (dh * dh + eh * eh), Value.slice (some ⟨F, 0, none⟩) 4 4, Value.slice (some ⟨F + 1, 0, none⟩) 4 4, Value.int IntKind.i64 (2), Value.int IntKind.i64 (-(Y2 - Y1)), Value.int IntKind.i64 (X2 - X1), Value.int IntKind.i64 (n : Int), v 16, v 18, undef, undef, undef, undef, undef, undef, Value.bool true, Value.bool false, Value.int IntKind.i64 x, Value.int IntKind.i64 y, Value.agg #[Value.string pN, Value.int IntKind.i32 X1, Value.int IntKind.i32 Y1, Value.int IntKind.u8 0], Value.int IntKind.i64 p, Value.int IntKind.i64 q, Value.agg #[Value.string pN, Value.int IntKind.i32 X2, Value.int IntKind.i32 Y2, Value.int IntKind.u8 0], Value.int IntKind.i64 au, Value.int IntKind.i64 av, Value.agg #[Value.string pN, Value.int IntKind.i32 X3, Value.int IntKind.i32 Y3, Value.int IntKind.u8 0], Value.tuple #[Value.int IntKind.i64 (X2 - X1), Value.int IntKind.i64 (Y2 - Y1), Value.int IntKind.i64 (n : Int)], Value.agg #[Value.string pN, Value.int IntKind.i32 X1, Value.int IntKind.i32 Y1, Value.int IntKind.u8 0], Value.agg #[Value.string pN, Value.int IntKind.i32 X2, Value.int IntKind.i32 Y2, Value.int IntKind.u8 0], Value.tuple #[Value.int IntKind.i64 (X2 - X1), Value.int IntKind.i64 (Y2 - Y1), Value.int IntKind.i64 (n : Int)], Value.int IntKind.i64 (X2 - X1), Value.int IntKind.i64 (Y2 - Y1), Value.int IntKind.i64 (n : Int), Value.tuple #[spV xl xh, Value.float FloatKind.f64 xn], Value.agg #[Value.string pN, Value.int IntKind.i32 X1, Value.int IntKind.i32 Y1, Value.int IntKind.u8 0], Value.agg #[Value.string pN, Value.int IntKind.i32 X2, Value.int IntKind.i32 Y2, Value.int IntKind.u8 0], Value.tuple #[spV xl xh, Value.float FloatKind.f64 xn], spV xl xh, Value.float FloatKind.f64 xn, Value.tuple #[Value.int IntKind.i64 dh, Value.int IntKind.i64 eh, Value.int IntKind.i64 (dh * dh + eh * eh)], Value.func (.func 22) #[] #[], Value.agg #[Value.string pN, Value.int IntKind.i32 X1, Value.int IntKind.i32 Y1, Value.int IntKind.u8 0], Value.agg #[Value.string noN, Value.int IntKind.i32 (X1.tdiv 2), Value.int IntKind.i32 (Y1.tdiv 2), Value.int IntKind.u8 0], Value.func (.func 22) #[] #[], Value.agg #[Value.string pN, Value.int IntKind.i32 X2, Value.int IntKind.i32 Y2, Value.int IntKind.u8 0], Value.agg #[Value.string noN, Value.int IntKind.i32 (X2.tdiv 2), Value.int IntKind.i32 (Y2.tdiv 2), Value.int IntKind.u8 0], Value.tuple #[Value.int IntKind.i64 dh, Value.int IntKind.i64 eh, Value.int IntKind.i64 (dh * dh + eh * eh)], Value.int IntKind.i64 dh, Value.int IntKind.i64 eh, Value.int IntKind.i64 (dh * dh + eh * eh), Value.func (.func 23) #[] #[Value.pointer (some ⟨C, 0, none⟩)], Value.tuple #[Value.int IntKind.i64 dh, Value.int IntKind.i64 eh, Value.int IntKind.i64 (dh * dh + eh * eh)], Value.func (.func 23) #[] #[Value.pointer (some ⟨C, 0, none⟩)], Value.agg #[Value.string pN, Value.int IntKind.i32 X1, Value.int IntKind.i32 Y1, Value.int IntKind.u8 0], Value.agg #[Value.string pN, Value.int IntKind.i32 X3, Value.int IntKind.i32 Y3, Value.int IntKind.u8 0], Value.agg #[Value.string ⟨#[113]⟩, Value.int IntKind.i32 (X1.tdiv 2 + X3.tdiv 2), Value.int IntKind.i32 (Y1.tdiv 2 + Y3.tdiv 2), Value.int IntKind.u8 3], Value.func (.func 23) #[] #[Value.pointer (some ⟨C, 0, none⟩)], Value.agg #[Value.string pN, Value.int IntKind.i32 X2, Value.int IntKind.i32 Y2, Value.int IntKind.u8 0], Value.agg #[Value.string pN, Value.int IntKind.i32 X3, Value.int IntKind.i32 Y3, Value.int IntKind.u8 0], Value.agg #[Value.string ⟨#[113]⟩, Value.int IntKind.i32 (X2.tdiv 2 + X3.tdiv 2), Value.int IntKind.i32 (Y2.tdiv 2 + Y3.tdiv 2), Value.int IntKind.u8 3], Value.tuple #[Value.int IntKind.i64 dh, Value.int IntKind.i64 eh, Value.int IntKind.i64 (dh * dh + eh * eh)], Value.int IntKind.i64 dh, Value.int IntKind.i64 eh, Value.int IntKind.i64 (dh * dh + eh * eh), Value.int IntKind.i64 dh, Value.int IntKind.i64 dh, Value.bool false, Value.bool false, Value.int IntKind.i64 eh, Value.int IntKind.i64 eh, Value.bool false, Value.bool false, Value.bool false, Value.int IntKind.i64 (dh * dh + eh * eh), Value.int IntKind.i64 (dh * dh + eh * eh), Value.bool false, Value.bool false, Value.slice (some ⟨F, 0, none⟩) 4 4, Value.int IntKind.i64 (X2 - X1), Value.int IntKind.i64 (-(X2 - X1)), Value.int IntKind.i64 (Y2 - Y1), Value.agg #[Value.int IntKind.i64 (-(X2 - X1)), Value.int IntKind.i64 (Y2 - Y1)], Value.int IntKind.i64 (Y2 - Y1), Value.int IntKind.i64 (X2 - X1), Value.agg #[Value.int IntKind.i64 (Y2 - Y1), Value.int IntKind.i64 (X2 - X1)], Value.int IntKind.i64 (Y2 - Y1), Value.int IntKind.i64 (-(Y2 - Y1)), Value.int IntKind.i64 (X2 - X1), Value.agg #[Value.int IntKind.i64 (-(Y2 - Y1)), Value.int IntKind.i64 (X2 - X1)], Value.int IntKind.i64 (X2 - X1), Value.int IntKind.i64 (-(X2 - X1)), Value.int IntKind.i64 (Y2 - Y1), Value.int IntKind.i64 (-(Y2 - Y1)), Value.agg #[Value.int IntKind.i64 (-(X2 - X1)), Value.int IntKind.i64 (-(Y2 - Y1))], Value.slice (some ⟨F + 1, 0, none⟩) 4 4, Value.int IntKind.i64 (2), Value.slice (some ⟨F, 0, none⟩) 4 4, Value.int IntKind.i64 4, Value.bool true, u127, u128, Value.tuple #[Value.int IntKind.i64 (-(Y2 - Y1)), Value.int IntKind.i64 (X2 - X1), Value.int IntKind.i64 (n : Int)], Value.slice (some ⟨F, 0, none⟩) 4 4, Value.int IntKind.i64 (2), Value.pointer (some ⟨F, 2, none⟩), Value.func (.func 26) #[] #[], Value.agg #[Value.string pN, Value.int IntKind.i32 (X1), Value.int IntKind.i32 (Y1), Value.int IntKind.u8 0], Value.agg #[Value.string noN, Value.int IntKind.i32 (-Y1), Value.int IntKind.i32 (X1), Value.int IntKind.u8 0], Value.slice (some ⟨F, 0, none⟩) 4 4, Value.int IntKind.i64 (2), Value.pointer (some ⟨F, 2, none⟩), Value.func (.func 26) #[] #[], Value.agg #[Value.string pN, Value.int IntKind.i32 (X2), Value.int IntKind.i32 (Y2), Value.int IntKind.u8 0], Value.agg #[Value.string noN, Value.int IntKind.i32 (-Y2), Value.int IntKind.i32 (X2), Value.int IntKind.u8 0], Value.tuple #[Value.int IntKind.i64 (-(Y2 - Y1)), Value.int IntKind.i64 (X2 - X1), Value.int IntKind.i64 (n : Int)], Value.int IntKind.i64 (-(Y2 - Y1)), Value.int IntKind.i64 (X2 - X1), Value.int IntKind.i64 (n : Int), v 13, v 0, v 1, v 2, v 3, v 4, v 5, v 6, v 7, v 8, v 9, v 10, v 11, v 12, v 14, v 15, u162, u163, u164, u165, u166, u167, u168, u169, u170, u171, u172, u173, u174, u175, u176, u177, u178, u179, u180, u181, u182, u183, u184, u185, u186, u187, u188, u189, u190, u191, u192, undef, undef, undef, undef, undef, undef, undef, undef, undef, undef, undef, undef, undef, undef, undef, undef, undef, undef, undef, undef, undef, undef, undef, undef, undef, undef, undef, undef, undef, undef, undef, undef, undef, undef, undef, undef, undef, undef, undef, undef, undef, undef, undef, undef, undef, undef, undef, undef, undef, undef, undef, undef, undef], []⟩) (fun v : World => Below Wb.heap.size Wb v) (Wb.heap.size) 16 17 (.float .f64 0) (.float .f64 0) (.float .f64 xl) (.float .f64 xh) VAL (fun j => match j with | 0 => u147 | 1 => u148 | 2 => u149 | 3 => u150 | 4 => u151 | 5 => u152 | 6 => u153 | 7 => u154 | 8 => u155 | 9 => u156 | 10 => u157 | 11 => u158 | 12 => u159 | 13 => u146 | 14 => u160 | 15 => u161 | 16 => u35 | 17 => undef | _ => u36) rfl M0 ?_ ?_
      · intro L v g w' i hL hS hi
        obtain ⟨h1, h2, h3⟩ := mem_ready hi
        have h1 : i < 19 := h1
        try dsimp only
        have hno := off_not (by rw [hL]; exact h1) h2
        have m := hS.m
        have hcs : i = 0 ∨ i = 1 ∨ i = 2 ∨ i = 3 ∨ i = 4 ∨ i = 5 ∨ i = 6 ∨ i = 7 ∨ i = 8 ∨ i = 9 ∨ i = 10 ∨ i = 11 ∨ i = 12 ∨ i = 13 ∨ i = 14 ∨ i = 15 ∨ i = 16 ∨ i = 17 ∨ i = 18 := by omega
        rcases hcs with rfl | rfl | rfl | rfl | rfl | rfl | rfl | rfl | rfl | rfl | rfl | rfl | rfl | rfl | rfl | rfl | rfl | rfl | rfl
        · refine wpOp_of (fun K hK => ?_)
          unfold wpOp
          go_simp
          refine Or.inl ?_
          exact hK _ _ ⟨put9 v 0 (Value.slice (some ⟨F, 0, none⟩) 4 4), g, (by simp [put9]), hS.step hM hL hi (by decide) (by decide) (Below.refl _ _) V0.symm⟩
        · refine wpOp_of (fun K hK => ?_)
          unfold wpOp
          go_simp
          refine Or.inl ?_
          exact hK _ _ ⟨put9 v 1 (Value.int IntKind.i64 (2)), g, (by simp [put9]), hS.step hM hL hi (by decide) (by decide) (Below.refl _ _) V1.symm⟩
        · have e0 : v 0 = Value.slice (some ⟨F, 0, none⟩) 4 4 := (hS.d 0 (by decide) (ready_dep hi 0 (by kernel_rfl))).trans V0
          have e1 : v 1 = Value.int IntKind.i64 (2) := (hS.d 1 (by decide) (ready_dep hi 1 (by kernel_rfl))).trans V1
          refine wpOp_of (fun K hK => ?_)
          unfold wpOp
          simp only [e0, e1]
          go_simp
          refine Or.inl ?_
          exact hK _ _ ⟨put9 v 2 (Value.pointer (some ⟨F, 2, none⟩)), g, (by simp [put9, e0, e1]), hS.step hM hL hi (by decide) (by decide) (Below.refl _ _) V2.symm⟩
        · have e2 : v 2 = Value.pointer (some ⟨F, 2, none⟩) := (hS.d 2 (by decide) (ready_dep hi 2 (by kernel_rfl))).trans V2
          have q0 := (m.cell (World.block_lt_of_cell? Wb _ g0)).trans g0
          refine wpOp_of (fun K hK => ?_)
          unfold wpOp
          simp only [e2]
          go_simp
          refine Or.inl ?_
          exact hK _ _ ⟨put9 v 3 (Value.func (.func 26) #[] #[]), g, (by simp [put9, e2]), hS.step hM hL hi (by decide) (by decide) (Below.refl _ _) V3.symm⟩
        · have q0 := (m.cell (World.block_lt_of_cell? Wb _ x0)).trans x0
          have q1 := (m.cell (World.block_lt_of_cell? Wb _ x1)).trans x1
          have q2 := (m.cell (World.block_lt_of_cell? Wb _ x2)).trans x2
          have q3 := (m.cell (World.block_lt_of_cell? Wb _ x3)).trans x3
          refine wpOp_of (fun K hK => ?_)
          unfold wpOp
          go_simp
          refine Or.inl ?_
          exact hK _ _ ⟨put9 v 4 (Value.agg #[Value.string pN, Value.int IntKind.i32 (X1), Value.int IntKind.i32 (Y1), Value.int IntKind.u8 0]), g, (by simp [put9]), hS.step hM hL hi (by decide) (by decide) (Below.refl _ _) V4.symm⟩
        · have e3 : v 3 = Value.func (.func 26) #[] #[] := (hS.d 3 (by decide) (ready_dep hi 3 (by kernel_rfl))).trans V3
          have e4 : v 4 = Value.agg #[Value.string pN, Value.int IntKind.i32 (X1), Value.int IntKind.i32 (Y1), Value.int IntKind.u8 0] := (hS.d 4 (by decide) (ready_dep hi 4 (by kernel_rfl))).trans V4
          refine wpOp_of (fun K hK => ?_)
          unfold wpOp
          simp only [e3, e4]
          go_simp
          refine Or.inl ?_
          refine (ct1 _).mono ?_
          rintro e w1 ⟨rfl, bc⟩
          exact hK _ _ ⟨put9 v 5 (Value.agg #[Value.string noN, Value.int IntKind.i32 (-Y1), Value.int IntKind.i32 (X1), Value.int IntKind.u8 0]), g, (by simp [put9, e3, e4]), hS.step hM hL hi (by decide) (by decide) bc V5.symm⟩
        · refine wpOp_of (fun K hK => ?_)
          unfold wpOp
          go_simp
          refine Or.inl ?_
          exact hK _ _ ⟨put9 v 6 (Value.slice (some ⟨F, 0, none⟩) 4 4), g, (by simp [put9]), hS.step hM hL hi (by decide) (by decide) (Below.refl _ _) V6.symm⟩
        · refine wpOp_of (fun K hK => ?_)
          unfold wpOp
          go_simp
          refine Or.inl ?_
          exact hK _ _ ⟨put9 v 7 (Value.int IntKind.i64 (2)), g, (by simp [put9]), hS.step hM hL hi (by decide) (by decide) (Below.refl _ _) V7.symm⟩
        · have e6 : v 6 = Value.slice (some ⟨F, 0, none⟩) 4 4 := (hS.d 6 (by decide) (ready_dep hi 6 (by kernel_rfl))).trans V6
          have e7 : v 7 = Value.int IntKind.i64 (2) := (hS.d 7 (by decide) (ready_dep hi 7 (by kernel_rfl))).trans V7
          refine wpOp_of (fun K hK => ?_)
          unfold wpOp
          simp only [e6, e7]
          go_simp
          refine Or.inl ?_
          exact hK _ _ ⟨put9 v 8 (Value.pointer (some ⟨F, 2, none⟩)), g, (by simp [put9, e6, e7]), hS.step hM hL hi (by decide) (by decide) (Below.refl _ _) V8.symm⟩
        · have e8 : v 8 = Value.pointer (some ⟨F, 2, none⟩) := (hS.d 8 (by decide) (ready_dep hi 8 (by kernel_rfl))).trans V8
          have q0 := (m.cell (World.block_lt_of_cell? Wb _ g0)).trans g0
          refine wpOp_of (fun K hK => ?_)
          unfold wpOp
          simp only [e8]
          go_simp
          refine Or.inl ?_
          exact hK _ _ ⟨put9 v 9 (Value.func (.func 26) #[] #[]), g, (by simp [put9, e8]), hS.step hM hL hi (by decide) (by decide) (Below.refl _ _) V9.symm⟩
        · have q0 := (m.cell (World.block_lt_of_cell? Wb _ y0)).trans y0
          have q1 := (m.cell (World.block_lt_of_cell? Wb _ y1)).trans y1
          have q2 := (m.cell (World.block_lt_of_cell? Wb _ y2)).trans y2
          have q3 := (m.cell (World.block_lt_of_cell? Wb _ y3)).trans y3
          refine wpOp_of (fun K hK => ?_)
          unfold wpOp
          go_simp
          refine Or.inl ?_
          exact hK _ _ ⟨put9 v 10 (Value.agg #[Value.string pN, Value.int IntKind.i32 (X2), Value.int IntKind.i32 (Y2), Value.int IntKind.u8 0]), g, (by simp [put9]), hS.step hM hL hi (by decide) (by decide) (Below.refl _ _) V10.symm⟩
        · have e9 : v 9 = Value.func (.func 26) #[] #[] := (hS.d 9 (by decide) (ready_dep hi 9 (by kernel_rfl))).trans V9
          have e10 : v 10 = Value.agg #[Value.string pN, Value.int IntKind.i32 (X2), Value.int IntKind.i32 (Y2), Value.int IntKind.u8 0] := (hS.d 10 (by decide) (ready_dep hi 10 (by kernel_rfl))).trans V10
          refine wpOp_of (fun K hK => ?_)
          unfold wpOp
          simp only [e9, e10]
          go_simp
          refine Or.inl ?_
          refine (ct2 _).mono ?_
          rintro e w1 ⟨rfl, bc⟩
          exact hK _ _ ⟨put9 v 11 (Value.agg #[Value.string noN, Value.int IntKind.i32 (-Y2), Value.int IntKind.i32 (X2), Value.int IntKind.u8 0]), g, (by simp [put9, e9, e10]), hS.step hM hL hi (by decide) (by decide) bc V11.symm⟩
        · have e5 : v 5 = Value.agg #[Value.string noN, Value.int IntKind.i32 (-Y1), Value.int IntKind.i32 (X1), Value.int IntKind.u8 0] := (hS.d 5 (by decide) (ready_dep hi 5 (by kernel_rfl))).trans V5
          have e11 : v 11 = Value.agg #[Value.string noN, Value.int IntKind.i32 (-Y2), Value.int IntKind.i32 (X2), Value.int IntKind.u8 0] := (hS.d 11 (by decide) (ready_dep hi 11 (by kernel_rfl))).trans V11
          refine wpOp_of (fun K hK => ?_)
          unfold wpOp
          simp only [e5, e11]
          go_simp
          refine Or.inl ?_
          refine (cLt _ (tabW_below Tb m)).mono ?_
          rintro e w1 ⟨rfl, bc⟩
          exact hK _ _ ⟨put9 v 12 (Value.tuple #[Value.agg #[Value.float .f64 xl, Value.float .f64 xh], Value.float .f64 xn]), g, (by simp [put9, e5, e11]), hS.step hM hL hi (by decide) (by decide) bc V12.symm⟩
        · have e12 : v 12 = Value.tuple #[Value.agg #[Value.float .f64 xl, Value.float .f64 xh], Value.float .f64 xn] := (hS.d 12 (by decide) (ready_dep hi 12 (by kernel_rfl))).trans V12
          refine wpOp_of (fun K hK => ?_)
          unfold wpOp
          simp only [e12]
          go_simp
          refine Or.inl ?_
          exact hK _ _ ⟨put9 v 13 (Value.tuple #[Value.agg #[Value.float .f64 xl, Value.float .f64 xh], Value.float .f64 xn]), g, (by simp [put9, e12]), hS.step hM hL hi (by decide) (by decide) (Below.refl _ _) V13.symm⟩
        · have e13 : v 13 = Value.tuple #[Value.agg #[Value.float .f64 xl, Value.float .f64 xh], Value.float .f64 xn] := (hS.d 13 (by decide) (ready_dep hi 13 (by kernel_rfl))).trans V13
          refine wpOp_of (fun K hK => ?_)
          unfold wpOp
          simp only [e13]
          go_simp
          refine Or.inl ?_
          exact hK _ _ ⟨put9 v 14 (Value.agg #[Value.float .f64 xl, Value.float .f64 xh]), g, (by simp [put9, e13]), hS.step hM hL hi (by decide) (by decide) (Below.refl _ _) V14.symm⟩
        · have e13 : v 13 = Value.tuple #[Value.agg #[Value.float .f64 xl, Value.float .f64 xh], Value.float .f64 xn] := (hS.d 13 (by decide) (ready_dep hi 13 (by kernel_rfl))).trans V13
          refine wpOp_of (fun K hK => ?_)
          unfold wpOp
          simp only [e13]
          go_simp
          refine Or.inl ?_
          exact hK _ _ ⟨put9 v 15 (Value.float .f64 xn), g, (by simp [put9, e13]), hS.step hM hL hi (by decide) (by decide) (Below.refl _ _) V15.symm⟩
        · have hBw : Wb.heap.size ≤ w'.heap.size := m.size
          refine wpOp_of (fun K hK => ?_)
          unfold wpOp
          go_simp
          refine Or.inl ?_
          exact hK _ _ ⟨put9 v 16 (.pointer (some ⟨w'.heap.size, 0, none⟩)), w'.heap.size, (by simp [put9]), hS.make hM hL hi hno (by decide) hBw (by kernel_rfl)⟩
        · have e14 : v 14 = Value.agg #[Value.float .f64 xl, Value.float .f64 xh] := (hS.d 14 (by decide) (ready_dep hi 14 (by kernel_rfl))).trans V14
          obtain ⟨e16, hBg⟩ := hS.p (ready_dep hi 16 (by kernel_rfl))
          obtain ⟨q0, q1, q2, q3, _⟩ := hS.n (ready_dep hi 16 (by kernel_rfl)) hno
          refine wpOp_of (fun K hK => ?_)
          unfold wpOp
          simp only [e14, e16]
          go_simp
          refine Or.inl ?_
          exact hK _ _ ⟨put9 v 17 undef, g, (by simp [put9, e14, e16]), hS.store (fun w1 m1 => set2 m1 hBg _ _) hL hi hno (by decide) (by kernel_rfl) V17.symm⟩
        · have e15 : v 15 = Value.float .f64 xn := (hS.d 15 (by decide) (ready_dep hi 15 (by kernel_rfl))).trans V15
          refine wpOp_of (fun K hK => ?_)
          unfold wpOp
          simp only [e15]
          go_simp
          refine Or.inl ?_
          exact hK _ _ ⟨put9 v 18 (Value.float .f64 xn), g, (by simp [put9, e15]), hS.step hM hL hi (by decide) (by decide) (Below.refl _ _) V18.symm⟩
      · intro L v g w' hL hS hr
        have on := all_done hL hr (by kernel_rfl)
        have m := hS.m
        have G5 := hS.y (on 17 (by decide))
        obtain ⟨eP, hBg⟩ := hS.p (on 16 (by decide))
        try dsimp only
        rw [hS.d 0 (by decide) (on 0 (by decide)), V0]
        rw [hS.d 1 (by decide) (on 1 (by decide)), V1]
        rw [hS.d 2 (by decide) (on 2 (by decide)), V2]
        rw [hS.d 3 (by decide) (on 3 (by decide)), V3]
        rw [hS.d 4 (by decide) (on 4 (by decide)), V4]
        rw [hS.d 5 (by decide) (on 5 (by decide)), V5]
        rw [hS.d 6 (by decide) (on 6 (by decide)), V6]
        rw [hS.d 7 (by decide) (on 7 (by decide)), V7]
        rw [hS.d 8 (by decide) (on 8 (by decide)), V8]
        rw [hS.d 9 (by decide) (on 9 (by decide)), V9]
        rw [hS.d 10 (by decide) (on 10 (by decide)), V10]
        rw [hS.d 11 (by decide) (on 11 (by decide)), V11]
        rw [hS.d 12 (by decide) (on 12 (by decide)), V12]
        rw [hS.d 13 (by decide) (on 13 (by decide)), V13]
        rw [hS.d 14 (by decide) (on 14 (by decide)), V14]
        rw [hS.d 15 (by decide) (on 15 (by decide)), V15]
        rw [eP]
        rw [hS.d 18 (by decide) (on 18 (by decide)), V18]
        clear hS on hr eP
        have S5 := S1.below m
        have hbz := hbl.trans (m.mono hbl.size)
        have h1 := (m.cell (World.block_lt_of_cell? Wb _ g1)).trans g1
        have h2 := (m.cell (World.block_lt_of_cell? Wb _ g2)).trans g2
        obtain ⟨s0, s1, _⟩ := id S5
        obtain ⟨p0, p1, _⟩ := id G5
        obtain ⟨z1, z2, z3⟩ := eq3_run HR.out
        have z4 : (FloatKind.f64.format.order xn xn != some .eq) = false := by rw [bne, z3]; rfl
        go_wp2
        go_roundg (4 - 3)
        case measure => rw [HG.out]; omega
        case rel => exact ⟨3, by omega, rfl, by first | rfl | go_num, hbz⟩
    · have g0 := (hbk.cell (World.block_lt_of_cell? Wa5 _ tf3)).trans tf3
      have g1 := (hbk.cell (World.block_lt_of_cell? Wa5 _ tw6)).trans tw6
      have g2 := (hbk.cell (World.block_lt_of_cell? Wa5 _ tw7)).trans tw7
      clear tf0 tf1 tf2 tf3 tw0 tw1 tw2 tw3 tw4 tw5 tw6 tw7
      have ct1 := fun w' => turn6_any pN X1 Y1 0 hX1 hY1 w'
      have ct2 := fun w' => turn6_any pN X2 Y2 0 hX2 hY2 w'
      simp only [e00] at ct1 ct2
      have eT := apt_in (a := (noN, -X1, -Y1, 0)) (b := (noN, -X2, -Y2, 0)) (by simp only; omega) (by simp only; omega) (by simp only; omega) (by simp only; omega)
      simp only at eT
      have eN : (aptA (noN, -X1, -Y1, 0) (noN, -X2, -Y2, 0)).2.2 = (n : Int) := by
        rw [eT, HN.out]
        simp only
        grind
      have eQ : aptA (noN, -X1, -Y1, 0) (noN, -X2, -Y2, 0) = (-(X2 - X1), -(Y2 - Y1), (n : Int)) := by
        rw [← eN, eT]
        all_goals simp only [Prod.mk.injEq, and_true]
        all_goals first | done | omega | (constructor <;> omega)
      have cAt := fun w' => apart_any (noN, -X1, -Y1, 0) (noN, -X2, -Y2, 0) w'
      rw [eQ] at cAt
      have eL : l2F (noN, -X1, -Y1, 0) (noN, -X2, -Y2, 0) = l2F (pN, X1, Y1, 0) (pN, X2, Y2, 0) := by
        unfold l2F
        rw [eN, HNA.out]
      have cLt := fun w' (t : TabW w') => length_any (noN, -X1, -Y1, 0) (noN, -X2, -Y2, 0) w' t
      rw [eL, HE1.out, HE2.out, HE0.out] at cLt
      unfold jV at cAt cLt
      simp only at cAt cLt
      clear eT eN eQ eL
      obtain ⟨x0, x1, x2, x3, _, _, _, _, _⟩ := id J1
      obtain ⟨y0, y1, y2, y3, _, _, _, _, _⟩ := id J2
      go_upto_region 17 with fail
      have hne : Nonempty (QOf wr) := QOf.any Tr
      have q0 : ∀ u : QOf wr, u.val.cell? ⟨F, 3, none⟩ = some (.func (.func 27) #[] #[]) := fun u => u.cell g0
      have q1 : ∀ u : QOf wr, u.val.cell? ⟨P, 0, none⟩ = some (.string pN) := fun u => u.cell x0
      have q2 : ∀ u : QOf wr, u.val.cell? ⟨P, 1, none⟩ = some (.int .i32 X1) := fun u => u.cell x1
      have q3 : ∀ u : QOf wr, u.val.cell? ⟨P, 2, none⟩ = some (.int .i32 Y1) := fun u => u.cell x2
      have q4 : ∀ u : QOf wr, u.val.cell? ⟨P, 3, none⟩ = some (.int .u8 0) := fun u => u.cell x3
      have q5 : ∀ u : QOf wr, u.val.cell? ⟨P + 1, 0, none⟩ = some (.string pN) := fun u => u.cell y0
      have q6 : ∀ u : QOf wr, u.val.cell? ⟨P + 1, 1, none⟩ = some (.int .i32 X2) := fun u => u.cell y1
      have q7 : ∀ u : QOf wr, u.val.cell? ⟨P + 1, 2, none⟩ = some (.int .i32 Y2) := fun u => u.cell y2
      have q8 : ∀ u : QOf wr, u.val.cell? ⟨P + 1, 3, none⟩ = some (.int .u8 0) := fun u => u.cell y3
      refine region_quiet18 (by kernel_rfl) (by kernel_rfl) Tr (fun O hO => ?_)
      repeat (quiet_step (first
        | (go_at_call_of 27 (Value.agg #[Value.string pN, Value.int IntKind.i32 X1, Value.int IntKind.i32 Y1, Value.int IntKind.u8 0]); with_reducible exact quietB_of (ct1 _))
        | (go_at_call 27; with_reducible exact quietB_of (ct2 _))
        | (go_at_call 15; with_reducible exact quietB_of (cAt _))))
      refine wpQuiet_nil ?_
      intro w' hw'
      obtain ⟨u2, rfl⟩ := hw'
      clear hO
      have d9 := u2.below
      have hbv := hbw.trans (d9.mono hbw.size)
      have hbl := hbk.trans (d9.mono hbk.size)
      replace J1 := J1.below d9
      replace J2 := J2.below d9
      replace S1 := S1.below d9
      replace g0 := (d9.cell (World.block_lt_of_cell? wr _ g0)).trans g0
      replace g1 := (d9.cell (World.block_lt_of_cell? wr _ g1)).trans g1
      replace g2 := (d9.cell (World.block_lt_of_cell? wr _ g2)).trans g2
      generalize u2.val = Wb at *
      clear q0 q1 q2 q3 q4 q5 q6 q7 q8 x0 x1 x2 x3 y0 y1 y2 y3 cAt hne d9 Tr u2 O
      go_upto_region 18 with fail
      have Tb := tabW_below hT hbv
      unfold spV at cLt
      simp only [e00] at cLt
      obtain ⟨x0, x1, x2, x3, _, _, _, _, _⟩ := id J1
      obtain ⟨y0, y1, y2, y3, _, _, _, _, _⟩ := id J2
      have M0 : (fun v : World => Below Wb.heap.size Wb v) Wb.drew := (Below.refl _ _).drew
      have hM : ∀ w w1, (fun v : World => Below Wb.heap.size Wb v) w → Below w.heap.size w w1 → (fun v : World => Below Wb.heap.size Wb v) w1 := fun _ _ m b => m.trans (b.mono m.size)
      obtain ⟨VAL, hVAL⟩ : ∃ V : Nat → Value, V = (fun j => match j with | 0 => Value.slice (some ⟨F, 0, none⟩) 4 4 | 1 => Value.int IntKind.i64 (3) | 2 => Value.pointer (some ⟨F, 3, none⟩) | 3 => Value.func (.func 27) #[] #[] | 4 => Value.agg #[Value.string pN, Value.int IntKind.i32 (X1), Value.int IntKind.i32 (Y1), Value.int IntKind.u8 0] | 5 => Value.agg #[Value.string noN, Value.int IntKind.i32 (-X1), Value.int IntKind.i32 (-Y1), Value.int IntKind.u8 0] | 6 => Value.slice (some ⟨F, 0, none⟩) 4 4 | 7 => Value.int IntKind.i64 (3) | 8 => Value.pointer (some ⟨F, 3, none⟩) | 9 => Value.func (.func 27) #[] #[] | 10 => Value.agg #[Value.string pN, Value.int IntKind.i32 (X2), Value.int IntKind.i32 (Y2), Value.int IntKind.u8 0] | 11 => Value.agg #[Value.string noN, Value.int IntKind.i32 (-X2), Value.int IntKind.i32 (-Y2), Value.int IntKind.u8 0] | 12 => Value.tuple #[Value.agg #[Value.float .f64 xl, Value.float .f64 xh], Value.float .f64 xn] | 13 => Value.tuple #[Value.agg #[Value.float .f64 xl, Value.float .f64 xh], Value.float .f64 xn] | 14 => Value.agg #[Value.float .f64 xl, Value.float .f64 xh] | 15 => Value.float .f64 xn | 16 => undef | 17 => undef | 18 => Value.float .f64 xn | _ => undef) := ⟨_, rfl⟩
      have V0 : VAL 0 = Value.slice (some ⟨F, 0, none⟩) 4 4 := congrFun hVAL 0
      have V1 : VAL 1 = Value.int IntKind.i64 (3) := congrFun hVAL 1
      have V2 : VAL 2 = Value.pointer (some ⟨F, 3, none⟩) := congrFun hVAL 2
      have V3 : VAL 3 = Value.func (.func 27) #[] #[] := congrFun hVAL 3
      have V4 : VAL 4 = Value.agg #[Value.string pN, Value.int IntKind.i32 (X1), Value.int IntKind.i32 (Y1), Value.int IntKind.u8 0] := congrFun hVAL 4
      have V5 : VAL 5 = Value.agg #[Value.string noN, Value.int IntKind.i32 (-X1), Value.int IntKind.i32 (-Y1), Value.int IntKind.u8 0] := congrFun hVAL 5
      have V6 : VAL 6 = Value.slice (some ⟨F, 0, none⟩) 4 4 := congrFun hVAL 6
      have V7 : VAL 7 = Value.int IntKind.i64 (3) := congrFun hVAL 7
      have V8 : VAL 8 = Value.pointer (some ⟨F, 3, none⟩) := congrFun hVAL 8
      have V9 : VAL 9 = Value.func (.func 27) #[] #[] := congrFun hVAL 9
      have V10 : VAL 10 = Value.agg #[Value.string pN, Value.int IntKind.i32 (X2), Value.int IntKind.i32 (Y2), Value.int IntKind.u8 0] := congrFun hVAL 10
      have V11 : VAL 11 = Value.agg #[Value.string noN, Value.int IntKind.i32 (-X2), Value.int IntKind.i32 (-Y2), Value.int IntKind.u8 0] := congrFun hVAL 11
      have V12 : VAL 12 = Value.tuple #[Value.agg #[Value.float .f64 xl, Value.float .f64 xh], Value.float .f64 xn] := congrFun hVAL 12
      have V13 : VAL 13 = Value.tuple #[Value.agg #[Value.float .f64 xl, Value.float .f64 xh], Value.float .f64 xn] := congrFun hVAL 13
      have V14 : VAL 14 = Value.agg #[Value.float .f64 xl, Value.float .f64 xh] := congrFun hVAL 14
      have V15 : VAL 15 = Value.float .f64 xn := congrFun hVAL 15
      have V16 : VAL 16 = undef := congrFun hVAL 16
      have V17 : VAL 17 = undef := congrFun hVAL 17
      have V18 : VAL 18 = Value.float .f64 xn := congrFun hVAL 18
      refine region_rgA (by kernel_rfl) (fun v => ⟨#[Value.int IntKind.i64 x, Value.int IntKind.i64 y, Value.int IntKind.i64 p, Value.int IntKind.i64 q, Value.int IntKind.i64 au, Value.int IntKind.i64 av, undef, undef, undef, undef, undef, undef, u12, Value.pointer (some ⟨P, 0, none⟩), Value.pointer (some ⟨P + 1, 0, none⟩), Value.pointer (some ⟨P + 1 + 1, 0, none⟩), Value.int IntKind.i64 (X2 - X1), Value.int IntKind.i64 (Y2 - Y1), Value.int IntKind.i64 (n : Int), Value.pointer (some ⟨G, 0, none⟩), Value.float FloatKind.f64 xn, Value.pointer (some ⟨C, 0, none⟩), Value.int IntKind.i64 dh, Value.int IntKind.i64 eh, Value.int IntKind.i64 (dh * dh + eh * eh), Value.func (.func 23) #[] #[Value.pointer (some ⟨C, 0, none⟩)], Value.int IntKind.i64 dh, Value.int IntKind.i64 eh, Value.int IntKind.i64 (dh * dh + eh * eh), Value.slice (some ⟨F, 0, none⟩) 4 4, Value.slice (some ⟨F + 1, 0, none⟩) 4 4, Value.int IntKind.i64 (3), Value.int IntKind.i64 (-(X2 - X1)), Value.int IntKind.i64 (-(Y2 - Y1)), Value.int IntKind.i64 (n : Int), v 16, v 18, undef, undef, undef, undef, undef, undef, Value.bool true, Value.bool false, Value.int IntKind.i64 x, Value.int IntKind.i64 y, Value.agg #[Value.string pN, Value.int IntKind.i32 X1, Value.int IntKind.i32 Y1, Value.int IntKind.u8 0], Value.int IntKind.i64 p, Value.int IntKind.i64 q, Value.agg #[Value.string pN, Value.int IntKind.i32 X2, Value.int IntKind.i32 Y2, Value.int IntKind.u8 0], Value.int IntKind.i64 au, Value.int IntKind.i64 av, Value.agg #[Value.string pN, Value.int IntKind.i32 X3, Value.int IntKind.i32 Y3, Value.int IntKind.u8 0], Value.tuple #[Value.int IntKind.i64 (X2 - X1), Value.int IntKind.i64 (Y2 - Y1), Value.int IntKind.i64 (n : Int)], Value.agg #[Value.string pN, Value.int IntKind.i32 X1, Value.int IntKind.i32 Y1, Value.int IntKind.u8 0], Value.agg #[Value.string pN, Value.int IntKind.i32 X2, Value.int IntKind.i32 Y2, Value.int IntKind.u8 0], Value.tuple #[Value.int IntKind.i64 (X2 - X1), Value.int IntKind.i64 (Y2 - Y1), Value.int IntKind.i64 (n : Int)], Value.int IntKind.i64 (X2 - X1), Value.int IntKind.i64 (Y2 - Y1), Value.int IntKind.i64 (n : Int), Value.tuple #[spV xl xh, Value.float FloatKind.f64 xn], Value.agg #[Value.string pN, Value.int IntKind.i32 X1, Value.int IntKind.i32 Y1, Value.int IntKind.u8 0], Value.agg #[Value.string pN, Value.int IntKind.i32 X2, Value.int IntKind.i32 Y2, Value.int IntKind.u8 0], Value.tuple #[spV xl xh, Value.float FloatKind.f64 xn], spV xl xh, Value.float FloatKind.f64 xn, Value.tuple #[Value.int IntKind.i64 dh, Value.int IntKind.i64 eh, Value.int IntKind.i64 (dh * dh + eh * eh)], Value.func (.func 22) #[] #[], Value.agg #[Value.string pN, Value.int IntKind.i32 X1, Value.int IntKind.i32 Y1, Value.int IntKind.u8 0], Value.agg #[Value.string noN, Value.int IntKind.i32 (X1.tdiv 2), Value.int IntKind.i32 (Y1.tdiv 2), Value.int IntKind.u8 0], Value.func (.func 22) #[] #[], Value.agg #[Value.string pN, Value.int IntKind.i32 X2, Value.int IntKind.i32 Y2, Value.int IntKind.u8 0], Value.agg #[Value.string noN, Value.int IntKind.i32 (X2.tdiv 2), Value.int IntKind.i32 (Y2.tdiv 2), Value.int IntKind.u8 0], Value.tuple #[Value.int IntKind.i64 dh, Value.int IntKind.i64 eh, Value.int IntKind.i64 (dh * dh + eh * eh)], Value.int IntKind.i64 dh, Value.int IntKind.i64 eh, Value.int IntKind.i64 (dh * dh + eh * eh), Value.func (.func 23) #[] #[Value.pointer (some ⟨C, 0, none⟩)], Value.tuple #[Value.int IntKind.i64 dh, Value.int IntKind.i64 eh, Value.int IntKind.i64 (dh * dh + eh * eh)], Value.func (.func 23) #[] #[Value.pointer (some ⟨C, 0, none⟩)], Value.agg #[Value.string pN, Value.int IntKind.i32 X1, Value.int IntKind.i32 Y1, Value.int IntKind.u8 0], Value.agg #[Value.string pN, Value.int IntKind.i32 X3, Value.int IntKind.i32 Y3, Value.int IntKind.u8 0], Value.agg #[Value.string ⟨#[113]⟩, Value.int IntKind.i32 (X1.tdiv 2 + X3.tdiv 2), Value.int IntKind.i32 (Y1.tdiv 2 + Y3.tdiv 2), Value.int IntKind.u8 3], Value.func (.func 23) #[] #[Value.pointer (some ⟨C, 0, none⟩)], Value.agg #[Value.string pN, Value.int IntKind.i32 X2, Value.int IntKind.i32 Y2, Value.int IntKind.u8 0], Value.agg #[Value.string pN, Value.int IntKind.i32 X3, Value.int IntKind.i32 Y3, Value.int IntKind.u8 0], Value.agg #[Value.string ⟨#[113]⟩, Value.int IntKind.i32 (X2.tdiv 2 + X3.tdiv 2), Value.int IntKind.i32 (Y2.tdiv 2 + Y3.tdiv 2), Value.int IntKind.u8 3], Value.tuple #[Value.int IntKind.i64 dh, Value.int IntKind.i64 eh, Value.int IntKind.i64 (dh * dh + eh * eh)], Value.int IntKind.i64 dh, Value.int IntKind.i64 eh, Value.int IntKind.i64 (dh * dh + eh * eh), Value.int IntKind.i64 dh, Value.int IntKind.i64 dh, Value.bool false, Value.bool false, Value.int IntKind.i64 eh, Value.int IntKind.i64 eh, Value.bool false, Value.bool false, Value.bool false, Value.int IntKind.i64 (dh * dh + eh * eh), Value.int IntKind.i64 (dh * dh + eh * eh), Value.bool false, Value.bool false, Value.slice (some ⟨F, 0, none⟩) 4 4, Value.int IntKind.i64 (X2 - X1), Value.int IntKind.i64 (-(X2 - X1)), Value.int IntKind.i64 (Y2 - Y1), Value.agg #[Value.int IntKind.i64 (-(X2 - X1)), Value.int IntKind.i64 (Y2 - Y1)], Value.int IntKind.i64 (Y2 - Y1), Value.int IntKind.i64 (X2 - X1), Value.agg #[Value.int IntKind.i64 (Y2 - Y1), Value.int IntKind.i64 (X2 - X1)], Value.int IntKind.i64 (Y2 - Y1), Value.int IntKind.i64 (-(Y2 - Y1)), Value.int IntKind.i64 (X2 - X1), Value.agg #[Value.int IntKind.i64 (-(Y2 - Y1)), Value.int IntKind.i64 (X2 - X1)], Value.int IntKind.i64 (X2 - X1), Value.int IntKind.i64 (-(X2 - X1)), Value.int IntKind.i64 (Y2 - Y1), Value.int IntKind.i64 (-(Y2 - Y1)), Value.agg #[Value.int IntKind.i64 (-(X2 - X1)), Value.int IntKind.i64 (-(Y2 - Y1))], Value.slice (some ⟨F + 1, 0, none⟩) 4 4, Value.int IntKind.i64 (3), Value.slice (some ⟨F, 0, none⟩) 4 4, Value.int IntKind.i64 4, Value.bool true, u127, u128, Value.tuple #[Value.int IntKind.i64 (-(X2 - X1)), Value.int IntKind.i64 (-(Y2 - Y1)), Value.int IntKind.i64 (n : Int)], Value.slice (some ⟨F, 0, none⟩) 4 4, Value.int IntKind.i64 (3), Value.pointer (some ⟨F, 3, none⟩), Value.func (.func 27) #[] #[], Value.agg #[Value.string pN, Value.int IntKind.i32 (X1), Value.int IntKind.i32 (Y1), Value.int IntKind.u8 0], Value.agg #[Value.string noN, Value.int IntKind.i32 (-X1), Value.int IntKind.i32 (-Y1), Value.int IntKind.u8 0], Value.slice (some ⟨F, 0, none⟩) 4 4, Value.int IntKind.i64 (3), Value.pointer (some ⟨F, 3, none⟩), Value.func (.func 27) #[] #[], Value.agg #[Value.string pN, Value.int IntKind.i32 (X2), Value.int IntKind.i32 (Y2), Value.int IntKind.u8 0], Value.agg #[Value.string noN, Value.int IntKind.i32 (-X2), Value.int IntKind.i32 (-Y2), Value.int IntKind.u8 0], Value.tuple #[Value.int IntKind.i64 (-(X2 - X1)), Value.int IntKind.i64 (-(Y2 - Y1)), Value.int IntKind.i64 (n : Int)], Value.int IntKind.i64 (-(X2 - X1)), Value.int IntKind.i64 (-(Y2 - Y1)), Value.int IntKind.i64 (n : Int), v 13, v 0, v 1, v 2, v 3, v 4, v 5, v 6, v 7, v 8, v 9, v 10, v 11, v 12, v 14, v 15, u162, u163, u164, u165, u166, u167, u168, u169, u170, u171, u172, u173, u174, u175, u176, u177, u178, u179, u180, u181, u182, u183, u184, u185, u186, u187, u188, u189, u190, u191, u192, undef, undef, undef, undef, undef, undef, undef, undef, undef, undef, undef, undef, undef, undef, undef, undef, undef, undef, undef, undef, undef, undef, undef, undef, undef, undef, undef, undef, undef, undef, undef, undef, undef, undef, undef, undef, undef, undef, undef, undef, undef, undef, undef, undef, undef, undef, undef, undef, undef, undef, undef, undef, undef], []⟩) (fun v : World => Below Wb.heap.size Wb v) (Wb.heap.size) 16 17 (.float .f64 0) (.float .f64 0) (.float .f64 xl) (.float .f64 xh) VAL (fun j => match j with | 0 => u147 | 1 => u148 | 2 => u149 | 3 => u150 | 4 => u151 | 5 => u152 | 6 => u153 | 7 => u154 | 8 => u155 | 9 => u156 | 10 => u157 | 11 => u158 | 12 => u159 | 13 => u146 | 14 => u160 | 15 => u161 | 16 => u35 | 17 => undef | _ => u36) rfl M0 ?_ ?_
      · intro L v g w' i hL hS hi
        obtain ⟨h1, h2, h3⟩ := mem_ready hi
        have h1 : i < 19 := h1
        try dsimp only
        have hno := off_not (by rw [hL]; exact h1) h2
        have m := hS.m
        have hcs : i = 0 ∨ i = 1 ∨ i = 2 ∨ i = 3 ∨ i = 4 ∨ i = 5 ∨ i = 6 ∨ i = 7 ∨ i = 8 ∨ i = 9 ∨ i = 10 ∨ i = 11 ∨ i = 12 ∨ i = 13 ∨ i = 14 ∨ i = 15 ∨ i = 16 ∨ i = 17 ∨ i = 18 := by omega
        rcases hcs with rfl | rfl | rfl | rfl | rfl | rfl | rfl | rfl | rfl | rfl | rfl | rfl | rfl | rfl | rfl | rfl | rfl | rfl | rfl
        · refine wpOp_of (fun K hK => ?_)
          unfold wpOp
          go_simp
          refine Or.inl ?_
          exact hK _ _ ⟨put9 v 0 (Value.slice (some ⟨F, 0, none⟩) 4 4), g, (by simp [put9]), hS.step hM hL hi (by decide) (by decide) (Below.refl _ _) V0.symm⟩
        · refine wpOp_of (fun K hK => ?_)
          unfold wpOp
          go_simp
          refine Or.inl ?_
          exact hK _ _ ⟨put9 v 1 (Value.int IntKind.i64 (3)), g, (by simp [put9]), hS.step hM hL hi (by decide) (by decide) (Below.refl _ _) V1.symm⟩
        · have e0 : v 0 = Value.slice (some ⟨F, 0, none⟩) 4 4 := (hS.d 0 (by decide) (ready_dep hi 0 (by kernel_rfl))).trans V0
          have e1 : v 1 = Value.int IntKind.i64 (3) := (hS.d 1 (by decide) (ready_dep hi 1 (by kernel_rfl))).trans V1
          refine wpOp_of (fun K hK => ?_)
          unfold wpOp
          simp only [e0, e1]
          go_simp
          refine Or.inl ?_
          exact hK _ _ ⟨put9 v 2 (Value.pointer (some ⟨F, 3, none⟩)), g, (by simp [put9, e0, e1]), hS.step hM hL hi (by decide) (by decide) (Below.refl _ _) V2.symm⟩
        · have e2 : v 2 = Value.pointer (some ⟨F, 3, none⟩) := (hS.d 2 (by decide) (ready_dep hi 2 (by kernel_rfl))).trans V2
          have q0 := (m.cell (World.block_lt_of_cell? Wb _ g0)).trans g0
          refine wpOp_of (fun K hK => ?_)
          unfold wpOp
          simp only [e2]
          go_simp
          refine Or.inl ?_
          exact hK _ _ ⟨put9 v 3 (Value.func (.func 27) #[] #[]), g, (by simp [put9, e2]), hS.step hM hL hi (by decide) (by decide) (Below.refl _ _) V3.symm⟩
        · have q0 := (m.cell (World.block_lt_of_cell? Wb _ x0)).trans x0
          have q1 := (m.cell (World.block_lt_of_cell? Wb _ x1)).trans x1
          have q2 := (m.cell (World.block_lt_of_cell? Wb _ x2)).trans x2
          have q3 := (m.cell (World.block_lt_of_cell? Wb _ x3)).trans x3
          refine wpOp_of (fun K hK => ?_)
          unfold wpOp
          go_simp
          refine Or.inl ?_
          exact hK _ _ ⟨put9 v 4 (Value.agg #[Value.string pN, Value.int IntKind.i32 (X1), Value.int IntKind.i32 (Y1), Value.int IntKind.u8 0]), g, (by simp [put9]), hS.step hM hL hi (by decide) (by decide) (Below.refl _ _) V4.symm⟩
        · have e3 : v 3 = Value.func (.func 27) #[] #[] := (hS.d 3 (by decide) (ready_dep hi 3 (by kernel_rfl))).trans V3
          have e4 : v 4 = Value.agg #[Value.string pN, Value.int IntKind.i32 (X1), Value.int IntKind.i32 (Y1), Value.int IntKind.u8 0] := (hS.d 4 (by decide) (ready_dep hi 4 (by kernel_rfl))).trans V4
          refine wpOp_of (fun K hK => ?_)
          unfold wpOp
          simp only [e3, e4]
          go_simp
          refine Or.inl ?_
          refine (ct1 _).mono ?_
          rintro e w1 ⟨rfl, bc⟩
          exact hK _ _ ⟨put9 v 5 (Value.agg #[Value.string noN, Value.int IntKind.i32 (-X1), Value.int IntKind.i32 (-Y1), Value.int IntKind.u8 0]), g, (by simp [put9, e3, e4]), hS.step hM hL hi (by decide) (by decide) bc V5.symm⟩
        · refine wpOp_of (fun K hK => ?_)
          unfold wpOp
          go_simp
          refine Or.inl ?_
          exact hK _ _ ⟨put9 v 6 (Value.slice (some ⟨F, 0, none⟩) 4 4), g, (by simp [put9]), hS.step hM hL hi (by decide) (by decide) (Below.refl _ _) V6.symm⟩
        · refine wpOp_of (fun K hK => ?_)
          unfold wpOp
          go_simp
          refine Or.inl ?_
          exact hK _ _ ⟨put9 v 7 (Value.int IntKind.i64 (3)), g, (by simp [put9]), hS.step hM hL hi (by decide) (by decide) (Below.refl _ _) V7.symm⟩
        · have e6 : v 6 = Value.slice (some ⟨F, 0, none⟩) 4 4 := (hS.d 6 (by decide) (ready_dep hi 6 (by kernel_rfl))).trans V6
          have e7 : v 7 = Value.int IntKind.i64 (3) := (hS.d 7 (by decide) (ready_dep hi 7 (by kernel_rfl))).trans V7
          refine wpOp_of (fun K hK => ?_)
          unfold wpOp
          simp only [e6, e7]
          go_simp
          refine Or.inl ?_
          exact hK _ _ ⟨put9 v 8 (Value.pointer (some ⟨F, 3, none⟩)), g, (by simp [put9, e6, e7]), hS.step hM hL hi (by decide) (by decide) (Below.refl _ _) V8.symm⟩
        · have e8 : v 8 = Value.pointer (some ⟨F, 3, none⟩) := (hS.d 8 (by decide) (ready_dep hi 8 (by kernel_rfl))).trans V8
          have q0 := (m.cell (World.block_lt_of_cell? Wb _ g0)).trans g0
          refine wpOp_of (fun K hK => ?_)
          unfold wpOp
          simp only [e8]
          go_simp
          refine Or.inl ?_
          exact hK _ _ ⟨put9 v 9 (Value.func (.func 27) #[] #[]), g, (by simp [put9, e8]), hS.step hM hL hi (by decide) (by decide) (Below.refl _ _) V9.symm⟩
        · have q0 := (m.cell (World.block_lt_of_cell? Wb _ y0)).trans y0
          have q1 := (m.cell (World.block_lt_of_cell? Wb _ y1)).trans y1
          have q2 := (m.cell (World.block_lt_of_cell? Wb _ y2)).trans y2
          have q3 := (m.cell (World.block_lt_of_cell? Wb _ y3)).trans y3
          refine wpOp_of (fun K hK => ?_)
          unfold wpOp
          go_simp
          refine Or.inl ?_
          exact hK _ _ ⟨put9 v 10 (Value.agg #[Value.string pN, Value.int IntKind.i32 (X2), Value.int IntKind.i32 (Y2), Value.int IntKind.u8 0]), g, (by simp [put9]), hS.step hM hL hi (by decide) (by decide) (Below.refl _ _) V10.symm⟩
        · have e9 : v 9 = Value.func (.func 27) #[] #[] := (hS.d 9 (by decide) (ready_dep hi 9 (by kernel_rfl))).trans V9
          have e10 : v 10 = Value.agg #[Value.string pN, Value.int IntKind.i32 (X2), Value.int IntKind.i32 (Y2), Value.int IntKind.u8 0] := (hS.d 10 (by decide) (ready_dep hi 10 (by kernel_rfl))).trans V10
          refine wpOp_of (fun K hK => ?_)
          unfold wpOp
          simp only [e9, e10]
          go_simp
          refine Or.inl ?_
          refine (ct2 _).mono ?_
          rintro e w1 ⟨rfl, bc⟩
          exact hK _ _ ⟨put9 v 11 (Value.agg #[Value.string noN, Value.int IntKind.i32 (-X2), Value.int IntKind.i32 (-Y2), Value.int IntKind.u8 0]), g, (by simp [put9, e9, e10]), hS.step hM hL hi (by decide) (by decide) bc V11.symm⟩
        · have e5 : v 5 = Value.agg #[Value.string noN, Value.int IntKind.i32 (-X1), Value.int IntKind.i32 (-Y1), Value.int IntKind.u8 0] := (hS.d 5 (by decide) (ready_dep hi 5 (by kernel_rfl))).trans V5
          have e11 : v 11 = Value.agg #[Value.string noN, Value.int IntKind.i32 (-X2), Value.int IntKind.i32 (-Y2), Value.int IntKind.u8 0] := (hS.d 11 (by decide) (ready_dep hi 11 (by kernel_rfl))).trans V11
          refine wpOp_of (fun K hK => ?_)
          unfold wpOp
          simp only [e5, e11]
          go_simp
          refine Or.inl ?_
          refine (cLt _ (tabW_below Tb m)).mono ?_
          rintro e w1 ⟨rfl, bc⟩
          exact hK _ _ ⟨put9 v 12 (Value.tuple #[Value.agg #[Value.float .f64 xl, Value.float .f64 xh], Value.float .f64 xn]), g, (by simp [put9, e5, e11]), hS.step hM hL hi (by decide) (by decide) bc V12.symm⟩
        · have e12 : v 12 = Value.tuple #[Value.agg #[Value.float .f64 xl, Value.float .f64 xh], Value.float .f64 xn] := (hS.d 12 (by decide) (ready_dep hi 12 (by kernel_rfl))).trans V12
          refine wpOp_of (fun K hK => ?_)
          unfold wpOp
          simp only [e12]
          go_simp
          refine Or.inl ?_
          exact hK _ _ ⟨put9 v 13 (Value.tuple #[Value.agg #[Value.float .f64 xl, Value.float .f64 xh], Value.float .f64 xn]), g, (by simp [put9, e12]), hS.step hM hL hi (by decide) (by decide) (Below.refl _ _) V13.symm⟩
        · have e13 : v 13 = Value.tuple #[Value.agg #[Value.float .f64 xl, Value.float .f64 xh], Value.float .f64 xn] := (hS.d 13 (by decide) (ready_dep hi 13 (by kernel_rfl))).trans V13
          refine wpOp_of (fun K hK => ?_)
          unfold wpOp
          simp only [e13]
          go_simp
          refine Or.inl ?_
          exact hK _ _ ⟨put9 v 14 (Value.agg #[Value.float .f64 xl, Value.float .f64 xh]), g, (by simp [put9, e13]), hS.step hM hL hi (by decide) (by decide) (Below.refl _ _) V14.symm⟩
        · have e13 : v 13 = Value.tuple #[Value.agg #[Value.float .f64 xl, Value.float .f64 xh], Value.float .f64 xn] := (hS.d 13 (by decide) (ready_dep hi 13 (by kernel_rfl))).trans V13
          refine wpOp_of (fun K hK => ?_)
          unfold wpOp
          simp only [e13]
          go_simp
          refine Or.inl ?_
          exact hK _ _ ⟨put9 v 15 (Value.float .f64 xn), g, (by simp [put9, e13]), hS.step hM hL hi (by decide) (by decide) (Below.refl _ _) V15.symm⟩
        · have hBw : Wb.heap.size ≤ w'.heap.size := m.size
          refine wpOp_of (fun K hK => ?_)
          unfold wpOp
          go_simp
          refine Or.inl ?_
          exact hK _ _ ⟨put9 v 16 (.pointer (some ⟨w'.heap.size, 0, none⟩)), w'.heap.size, (by simp [put9]), hS.make hM hL hi hno (by decide) hBw (by kernel_rfl)⟩
        · have e14 : v 14 = Value.agg #[Value.float .f64 xl, Value.float .f64 xh] := (hS.d 14 (by decide) (ready_dep hi 14 (by kernel_rfl))).trans V14
          obtain ⟨e16, hBg⟩ := hS.p (ready_dep hi 16 (by kernel_rfl))
          obtain ⟨q0, q1, q2, q3, _⟩ := hS.n (ready_dep hi 16 (by kernel_rfl)) hno
          refine wpOp_of (fun K hK => ?_)
          unfold wpOp
          simp only [e14, e16]
          go_simp
          refine Or.inl ?_
          exact hK _ _ ⟨put9 v 17 undef, g, (by simp [put9, e14, e16]), hS.store (fun w1 m1 => set2 m1 hBg _ _) hL hi hno (by decide) (by kernel_rfl) V17.symm⟩
        · have e15 : v 15 = Value.float .f64 xn := (hS.d 15 (by decide) (ready_dep hi 15 (by kernel_rfl))).trans V15
          refine wpOp_of (fun K hK => ?_)
          unfold wpOp
          simp only [e15]
          go_simp
          refine Or.inl ?_
          exact hK _ _ ⟨put9 v 18 (Value.float .f64 xn), g, (by simp [put9, e15]), hS.step hM hL hi (by decide) (by decide) (Below.refl _ _) V18.symm⟩
      · intro L v g w' hL hS hr
        have on := all_done hL hr (by kernel_rfl)
        have m := hS.m
        have G5 := hS.y (on 17 (by decide))
        obtain ⟨eP, hBg⟩ := hS.p (on 16 (by decide))
        try dsimp only
        rw [hS.d 0 (by decide) (on 0 (by decide)), V0]
        rw [hS.d 1 (by decide) (on 1 (by decide)), V1]
        rw [hS.d 2 (by decide) (on 2 (by decide)), V2]
        rw [hS.d 3 (by decide) (on 3 (by decide)), V3]
        rw [hS.d 4 (by decide) (on 4 (by decide)), V4]
        rw [hS.d 5 (by decide) (on 5 (by decide)), V5]
        rw [hS.d 6 (by decide) (on 6 (by decide)), V6]
        rw [hS.d 7 (by decide) (on 7 (by decide)), V7]
        rw [hS.d 8 (by decide) (on 8 (by decide)), V8]
        rw [hS.d 9 (by decide) (on 9 (by decide)), V9]
        rw [hS.d 10 (by decide) (on 10 (by decide)), V10]
        rw [hS.d 11 (by decide) (on 11 (by decide)), V11]
        rw [hS.d 12 (by decide) (on 12 (by decide)), V12]
        rw [hS.d 13 (by decide) (on 13 (by decide)), V13]
        rw [hS.d 14 (by decide) (on 14 (by decide)), V14]
        rw [hS.d 15 (by decide) (on 15 (by decide)), V15]
        rw [eP]
        rw [hS.d 18 (by decide) (on 18 (by decide)), V18]
        clear hS on hr eP
        have S5 := S1.below m
        have hbz := hbl.trans (m.mono hbl.size)
        have h1 := (m.cell (World.block_lt_of_cell? Wb _ g1)).trans g1
        have h2 := (m.cell (World.block_lt_of_cell? Wb _ g2)).trans g2
        obtain ⟨s0, s1, _⟩ := id S5
        obtain ⟨p0, p1, _⟩ := id G5
        obtain ⟨z1, z2, z3⟩ := eq3_run HR.out
        have z4 : (FloatKind.f64.format.order xn xn != some .eq) = false := by rw [bne, z3]; rfl
        go_wp2
        go_roundg (4 - 4)
        case measure => rw [HG.out]; omega
        case rel => exact ⟨4, by omega, rfl, by first | rfl | go_num, hbz⟩
    · clear tf0 tf1 tf2 tf3 tw0 tw1 tw2 tw3 tw4 tw5 tw6 tw7
      have eT := apt_in (a := (pN, X2, Y2, 0)) (b := (pN, X1, Y1, 0)) hX2 hY2 hX1 hY1
      simp only at eT
      have eN : (aptA (pN, X2, Y2, 0) (pN, X1, Y1, 0)).2.2 = (n : Int) := by
        rw [eT, HN.out]
        simp only
        grind
      have eQ : aptA (pN, X2, Y2, 0) (pN, X1, Y1, 0) = (-(X2 - X1), -(Y2 - Y1), (n : Int)) := by
        rw [← eN, eT]
        all_goals simp only [Prod.mk.injEq, and_true]
        all_goals first | done | omega | (constructor <;> omega)
      have cAb := fun w' => apart_any (pN, X2, Y2, 0) (pN, X1, Y1, 0) w'
      rw [eQ] at cAb
      have eL : l2F (pN, X2, Y2, 0) (pN, X1, Y1, 0) = l2F (pN, X1, Y1, 0) (pN, X2, Y2, 0) := by
        unfold l2F
        rw [eN, HNA.out]
      have cLb := fun w' (t : TabW w') => length_any (pN, X2, Y2, 0) (pN, X1, Y1, 0) w' t
      rw [eL, HE1.out, HE2.out, HE0.out] at cLb
      obtain ⟨al, ah, an, n1, hn1, _, a1, a2, a0, hRa⟩ := length_rts (pN, X1, Y1, 0) (pN, X3, Y3, 0)
      obtain ⟨cl, ch, cn, n2, hn2, _, b1, b2, b0, hRc⟩ := length_rts (pN, X3, Y3, 0) (pN, X2, Y2, 0)
      rw [apt_in (a := (pN, X1, Y1, 0)) (b := (pN, X3, Y3, 0)) hX1 hY1 hX3 hY3] at hn1
      rw [apt_in (a := (pN, X3, Y3, 0)) (b := (pN, X2, Y2, 0)) hX3 hY3 hX2 hY2] at hn2
      simp only at hn1 hn2
      have cL1 := fun w' (t : TabW w') => length_any (pN, X1, Y1, 0) (pN, X3, Y3, 0) w' t
      have cL2 := fun w' (t : TabW w') => length_any (pN, X3, Y3, 0) (pN, X2, Y2, 0) w' t
      rw [a1, a2, a0] at cL1
      rw [b1, b2, b0] at cL2
      obtain ⟨cR, hle⟩ := tri_end HN.out hn1 hn2 HR.out hRa hRc
      obtain ⟨z1, z2, z3⟩ := eq3_run HR.out
      unfold jV at cAb cLb cL1 cL2
      unfold spV at cLb cL1 cL2
      simp only [e00] at cAb cLb cL1 cL2
      generalize addB 2 ah ch = rr at cR hle
      have HLE : Hid _ := hle
      clear eT eN eQ eL a1 a2 a0 b1 b2 b0 hRa hRc hn1 hn2 hle HG
      obtain ⟨x0, x1, x2, x3, _, _, _, _, _⟩ := id J1
      obtain ⟨y0, y1, y2, y3, _, _, _, _, _⟩ := id J2
      go_upto_region 22 with (go_at_call 15; refine (cAb _).mono ?_; rintro e wy1 ⟨rfl, d1⟩)
      have hca := hbw.trans (d1.mono hbw.size)
      replace J1 := J1.below d1
      replace J2 := J2.below d1
      replace J3 := J3.below d1
      replace S1 := S1.below d1
      have Ta := tabW_below hT hca
      clear cAb d1 x0 x1 x2 x3 y0 y1 y2 y3 hbw hbk
      obtain ⟨x0, x1, x2, x3, _, _, _, _, _⟩ := id J1
      obtain ⟨y0, y1, y2, y3, _, _, _, _, _⟩ := id J2
      go_upto_region 23 with (go_at_call 16; refine (cLb _ Ta).mono ?_; rintro e wy5 ⟨rfl, d2⟩)
      have hcb := hca.trans (d2.mono hca.size)
      replace hcb := hcb.alloc hcb.size (.cells #[.float .f64 xl, .float .f64 xh] 40)
      replace J1 := (J1.below d2).alloc (.cells #[.float .f64 xl, .float .f64 xh] 40)
      replace J2 := (J2.below d2).alloc (.cells #[.float .f64 xl, .float .f64 xh] 40)
      replace J3 := (J3.below d2).alloc (.cells #[.float .f64 xl, .float .f64 xh] 40)
      replace S1 := (S1.below d2).alloc (.cells #[.float .f64 xl, .float .f64 xh] 40)
      have S2 := Bx.new wy5 (.float .f64 xl) (.float .f64 xh) 40
      generalize wy5.alloc (.cells #[.float .f64 xl, .float .f64 xh] 40) = Wc1 at *
      generalize wy5.heap.size = G2 at *
      clear cLb d2 hca Ta x0 x1 x2 x3 y0 y1 y2 y3
      have Tc := tabW_below hT hcb
      obtain ⟨x0, x1, x2, x3, _, _, _, _, _⟩ := id J1
      obtain ⟨z0, z1, z2, z3, _, _, _, _, _⟩ := id J3
      obtain ⟨s0, s1, _⟩ := id S1
      obtain ⟨p0, p1, _⟩ := id S2
      go_upto_region 26 with (go_at_call 16; refine (cL1 _ Tc).mono ?_; rintro e wy6 ⟨rfl, d3⟩)
      have hcc := hcb.trans (d3.mono hcb.size)
      replace hcc := hcc.alloc hcc.size (.cells #[.float .f64 al, .float .f64 ah] 40)
      replace J2 := (J2.below d3).alloc (.cells #[.float .f64 al, .float .f64 ah] 40)
      replace J3 := (J3.below d3).alloc (.cells #[.float .f64 al, .float .f64 ah] 40)
      replace S1 := (S1.below d3).alloc (.cells #[.float .f64 al, .float .f64 ah] 40)
      have S3 := Bx.new wy6 (.float .f64 al) (.float .f64 ah) 40
      generalize wy6.alloc (.cells #[.float .f64 al, .float .f64 ah] 40) = Wc2 at *
      generalize wy6.heap.size = G3 at *
      clear cL1 d3 hcb Tc x0 x1 x2 x3 z0 z1 z2 z3 s0 s1 p0 p1 J1 S2
      have Tc := tabW_below hT hcc
      obtain ⟨y0, y1, y2, y3, _, _, _, _, _⟩ := id J2
      obtain ⟨z0, z1, z2, z3, _, _, _, _, _⟩ := id J3
      go_upto_region 27 with (go_at_call 16; refine (cL2 _ Tc).mono ?_; rintro e wy7 ⟨rfl, d4⟩)
      have hcd := hcc.trans (d4.mono hcc.size)
      replace hcd := hcd.alloc hcd.size (.cells #[.float .f64 cl, .float .f64 ch] 40)
      replace S1 := (S1.below d4).alloc (.cells #[.float .f64 cl, .float .f64 ch] 40)
      replace S3 := (S3.below d4).alloc (.cells #[.float .f64 cl, .float .f64 ch] 40)
      have S4 := Bx.new wy7 (.float .f64 cl) (.float .f64 ch) 40
      generalize wy7.alloc (.cells #[.float .f64 cl, .float .f64 ch] 40) = Wc3 at *
      generalize wy7.heap.size = G4 at *
      clear cL2 d4 hcc Tc y0 y1 y2 y3 z0 z1 z2 z3 J2 J3
      have Td := tabW_below hT hcd
      obtain ⟨s0, s1, _⟩ := id S1
      obtain ⟨p0, p1, _⟩ := id S3
      obtain ⟨o0, o1, _⟩ := id S4
      have hne : Nonempty (QOf Wc3) := QOf.any Td
      have q0 : ∀ u : QOf Wc3, u.val.cell? ⟨G, 0, none⟩ = some (.float .f64 xl) := fun u => u.cell s0
      have q1 : ∀ u : QOf Wc3, u.val.cell? ⟨G3, 1, none⟩ = some (.float .f64 ah) := fun u => u.cell p1
      have q2 : ∀ u : QOf Wc3, u.val.cell? ⟨G4, 1, none⟩ = some (.float .f64 ch) := fun u => u.cell o1
      refine region_quiet18 (by kernel_rfl) (by kernel_rfl) Td (fun O hO => ?_)
      repeat (quiet_step (first | (go_at_call 28; with_reducible exact quietB_of (cR _ (QOf.tab _)))))
      refine wpQuiet_nil ?_
      intro w' hw'
      obtain ⟨u2, rfl⟩ := hw'
      clear hO
      have hce := hcd.trans (u2.below.mono hcd.size)
      rw [HLE.out]
      go_wp2
      go_ret
      exact ⟨rfl, hce⟩
end Go.Proofs.YtlhoidkfphellaaDoor
