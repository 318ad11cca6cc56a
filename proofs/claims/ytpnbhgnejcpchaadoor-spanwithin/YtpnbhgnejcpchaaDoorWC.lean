/- SpanWithin, whatever spans it is given: what its calls answer, and the law. -/
import Derived.Test.YtpnbhgnejcpchaaDoorWA
import Derived.Test.YtpnbhgnejcpchaaDoorWB
import Derived.Test.YtpnbhgnejcpchaaDoorZj
import Derived.Test.YtpnbhgnejcpchaaDoorZQ
namespace Go.Proofs.YtpnbhgnejcpchaaDoor
open Go.RowKit

/-- Four spans as a value. -/
abbrev foV (a0 a1 b0 b1 c0 c1 d0 d1 : Nat) : Value := .agg #[.float .f64 a0, .float .f64 a1, .float .f64 b0, .float .f64 b1, .float .f64 c0, .float .f64 c1, .float .f64 d0, .float .f64 d1]
set_option maxRecDepth 100000 in
set_option maxHeartbeats 8000000 in
theorem within_walk (a0 a1 b0 b1 c0 c1 d0 d1 x0 x1 y0 y1 s0 s1 t0 t1 m0 m1 n0 n1 k0 k1 l0 l1 u0 u1 v0 v1 p0 p1 q0 q1 o0 o1 r0 r1 : Nat) (e1 e2 e3 e4 : Int) (prMe1 : ∀ w, TabW w → Calls Tryd.prog 6 #[spV a0 a1, spV c0 c1] w fun e w' => e = .returned (.tuple #[spV x0 x1, .int .i64 0]) ∧ Below w.heap.size w w') (prMe2 : ∀ w, TabW w → Calls Tryd.prog 6 #[spV b0 b1, spV d0 d1] w fun e w' => e = .returned (.tuple #[spV y0 y1, .int .i64 0]) ∧ Below w.heap.size w w') (prI1 : ∀ w, Calls Tryd.prog 7 #[spV x0 x1, spV a0 a1] w fun e w' => e = .returned (.bool true) ∧ Below w.heap.size w w') (prI2 : ∀ w, Calls Tryd.prog 7 #[spV x0 x1, spV c0 c1] w fun e w' => e = .returned (.bool true) ∧ Below w.heap.size w w') (prI3 : ∀ w, Calls Tryd.prog 7 #[spV y0 y1, spV b0 b1] w fun e w' => e = .returned (.bool true) ∧ Below w.heap.size w w') (prAd1 : ∀ w, TabW w → Calls Tryd.prog 8 #[spV x0 x1, spV y0 y1] w fun e w' => e = .returned (.tuple #[spV s0 s1, .int .i64 0]) ∧ Below w.heap.size w w') (prAd2 : ∀ w, TabW w → Calls Tryd.prog 8 #[spV a0 a1, spV b0 b1] w fun e w' => e = .returned (.tuple #[spV t0 t1, .int .i64 0]) ∧ Below w.heap.size w w') (prMu1 : ∀ w, TabW w → Calls Tryd.prog 9 #[spV x0 x1, spV y0 y1] w fun e w' => e = .returned (.tuple #[spV m0 m1, .int .i64 0]) ∧ Below w.heap.size w w') (prMu2 : ∀ w, TabW w → Calls Tryd.prog 9 #[spV a0 a1, spV b0 b1] w fun e w' => e = .returned (.tuple #[spV n0 n1, .int .i64 0]) ∧ Below w.heap.size w w') (prSu1 : ∀ w, TabW w → Calls Tryd.prog 10 #[spV x0 x1, spV y0 y1] w fun e w' => e = .returned (.tuple #[spV k0 k1, .int .i64 0]) ∧ Below w.heap.size w w') (prSu2 : ∀ w, TabW w → Calls Tryd.prog 10 #[spV a0 a1, spV b0 b1] w fun e w' => e = .returned (.tuple #[spV l0 l1, .int .i64 0]) ∧ Below w.heap.size w w') (prJ1 : ∀ w, Calls Tryd.prog 7 #[spV s0 s1, spV t0 t1] w fun e w' => e = .returned (.bool true) ∧ Below w.heap.size w w') (prJ2 : ∀ w, Calls Tryd.prog 7 #[spV m0 m1, spV n0 n1] w fun e w' => e = .returned (.bool true) ∧ Below w.heap.size w w') (prJ3 : ∀ w, Calls Tryd.prog 7 #[spV k0 k1, spV l0 l1] w fun e w' => e = .returned (.bool true) ∧ Below w.heap.size w w') (prDi1 : ∀ w, TabW w → Calls Tryd.prog 11 #[spV x0 x1, spV y0 y1] w fun e w' => e = .returned (.tuple #[spV u0 u1, .int .i64 e1]) ∧ Below w.heap.size w w') (prDi2 : ∀ w, TabW w → Calls Tryd.prog 11 #[spV a0 a1, spV b0 b1] w fun e w' => e = .returned (.tuple #[spV v0 v1, .int .i64 e2]) ∧ Below w.heap.size w w') (prHd : (e2 = 0 ∧ e1 = 0 ∧ (∀ w, Calls Tryd.prog 7 #[spV u0 u1, spV v0 v1] w fun e w' => e = .returned (.bool true) ∧ Below w.heap.size w w')) ∨ e2 = 7) (prSq1 : ∀ w, TabW w → Calls Tryd.prog 12 #[spV x0 x1] w fun e w' => e = .returned (.tuple #[spV p0 p1, .int .i64 0]) ∧ Below w.heap.size w w') (prSq2 : ∀ w, TabW w → Calls Tryd.prog 12 #[spV a0 a1] w fun e w' => e = .returned (.tuple #[spV q0 q1, .int .i64 0]) ∧ Below w.heap.size w w') (prJ5 : ∀ w, Calls Tryd.prog 7 #[spV p0 p1, spV q0 q1] w fun e w' => e = .returned (.bool true) ∧ Below w.heap.size w w') (prRo1 : ∀ w, TabW w → Calls Tryd.prog 13 #[spV x0 x1] w fun e w' => e = .returned (.tuple #[spV o0 o1, .int .i64 e3]) ∧ Below w.heap.size w w') (prRo2 : ∀ w, TabW w → Calls Tryd.prog 13 #[spV a0 a1] w fun e w' => e = .returned (.tuple #[spV r0 r1, .int .i64 e4]) ∧ Below w.heap.size w w') (prHr : (e4 = 0 ∧ e3 = 0 ∧ (∀ w, Calls Tryd.prog 7 #[spV o0 o1, spV r0 r1] w fun e w' => e = .returned (.bool true) ∧ Below w.heap.size w w')) ∨ e4 = 2) (w : World) (hT : TabW w) :
    Calls Tryd.prog 3 #[foV a0 a1 b0 b1 c0 c1 d0 d1] w fun e w' => e = .returned (.bool true) ∧ Below w.heap.size w w' := by
  have hst := run_storef Tryd.prog
  go_enter Tryd.func3, Tryd.ntmps3
  go_upto_region 3 with (go_at_call 5; refine (sawake _).mono ?_; rintro e v9 ⟨rfl, bb⟩)
  have z0 : v9.cell? ⟨w.heap.size, 0, none⟩ = some (.float .f64 a0) := ((oldc bb).1 w.heap.size 0 (by go_simp)).trans (by go_simp)
  have z1 : v9.cell? ⟨w.heap.size, 1, none⟩ = some (.float .f64 a1) := ((oldc bb).1 w.heap.size 1 (by go_simp)).trans (by go_simp)
  have z2 : v9.cell? ⟨w.heap.size, 2, none⟩ = some (.float .f64 b0) := ((oldc bb).1 w.heap.size 2 (by go_simp)).trans (by go_simp)
  have z3 : v9.cell? ⟨w.heap.size, 3, none⟩ = some (.float .f64 b1) := ((oldc bb).1 w.heap.size 3 (by go_simp)).trans (by go_simp)
  have z4 : v9.cell? ⟨w.heap.size, 4, none⟩ = some (.float .f64 c0) := ((oldc bb).1 w.heap.size 4 (by go_simp)).trans (by go_simp)
  have z5 : v9.cell? ⟨w.heap.size, 5, none⟩ = some (.float .f64 c1) := ((oldc bb).1 w.heap.size 5 (by go_simp)).trans (by go_simp)
  have z6 : v9.cell? ⟨w.heap.size, 6, none⟩ = some (.float .f64 d0) := ((oldc bb).1 w.heap.size 6 (by go_simp)).trans (by go_simp)
  have z7 : v9.cell? ⟨w.heap.size, 7, none⟩ = some (.float .f64 d1) := ((oldc bb).1 w.heap.size 7 (by go_simp)).trans (by go_simp)
  have Z := old1 bb
  clear bb
  obtain ⟨VAL, hVAL⟩ : ∃ V : Nat → Value, V = (fun j => match j with | 0 => .pointer (some ⟨w.heap.size, 0, none⟩) | 1 => .agg #[.float .f64 a0, .float .f64 a1] | 2 => .pointer (some ⟨w.heap.size, 2, none⟩) | 3 => .agg #[.float .f64 b0, .float .f64 b1] | 4 => .pointer (some ⟨w.heap.size, 4, none⟩) | 5 => .agg #[.float .f64 c0, .float .f64 c1] | 6 => .pointer (some ⟨w.heap.size, 6, none⟩) | 7 => .agg #[.float .f64 d0, .float .f64 d1] | _ => undef) := ⟨_, rfl⟩
  have V0 : VAL 0 = .pointer (some ⟨w.heap.size, 0, none⟩) := congrFun hVAL 0
  have V1 : VAL 1 = .agg #[.float .f64 a0, .float .f64 a1] := congrFun hVAL 1
  have V2 : VAL 2 = .pointer (some ⟨w.heap.size, 2, none⟩) := congrFun hVAL 2
  have V3 : VAL 3 = .agg #[.float .f64 b0, .float .f64 b1] := congrFun hVAL 3
  have V4 : VAL 4 = .pointer (some ⟨w.heap.size, 4, none⟩) := congrFun hVAL 4
  have V5 : VAL 5 = .agg #[.float .f64 c0, .float .f64 c1] := congrFun hVAL 5
  have V6 : VAL 6 = .pointer (some ⟨w.heap.size, 6, none⟩) := congrFun hVAL 6
  have V7 : VAL 7 = .agg #[.float .f64 d0, .float .f64 d1] := congrFun hVAL 7
  have V8 : VAL 8 = undef := congrFun hVAL 8
  have V9 : VAL 9 = undef := congrFun hVAL 9
  have V10 : VAL 10 = undef := congrFun hVAL 10
  have V11 : VAL 11 = undef := congrFun hVAL 11
  have V12 : VAL 12 = undef := congrFun hVAL 12
  have V13 : VAL 13 = undef := congrFun hVAL 13
  have V14 : VAL 14 = undef := congrFun hVAL 14
  have V15 : VAL 15 = undef := congrFun hVAL 15
  refine region_rgN (by kernel_rfl) (fun v => ⟨#[foV a0 a1 b0 b1 c0 c1 d0 d1, .pointer (some ⟨w.heap.size, 0, none⟩), .bool false, v 8, v 9, v 10, v 11, undef, undef, undef, undef, undef, undef, undef, undef, undef, undef, undef, undef, undef, undef, undef, undef, undef, undef, undef, undef, undef, undef, undef, undef, undef, undef, .bool true, .bool false, v 0, v 1, v 2, v 3, v 4, v 5, v 6, v 7, undef, undef, undef, undef, undef, undef, undef, undef, undef, undef, undef, undef, undef, undef, undef, undef, undef, undef, undef, undef, undef, undef, undef, undef, undef, undef, undef, undef, undef, undef, undef, undef, undef, undef, undef, undef, undef, undef, undef, undef, undef, undef, undef, undef, undef, undef, undef, undef, undef, undef, undef, undef, undef, undef, undef, undef, undef, undef, undef, undef, undef, undef, undef, undef, undef, undef, undef, undef, undef, undef, undef, undef, undef, undef, undef, undef, undef, undef, undef, undef, undef, undef, undef, undef, undef, undef, undef, undef, undef, undef, undef, undef, undef, undef, undef, undef, undef, undef, undef, undef, undef, undef, undef, undef, undef, undef, undef, undef, undef, undef, undef, undef, undef, undef, undef, undef, undef, undef, undef, undef, undef, undef, undef, undef, undef, undef, undef, undef, undef, undef, undef, undef, undef, undef, undef, undef, undef, undef, undef, undef, undef, undef, undef, undef, undef, undef], []⟩) 4 8 12 (fun i => match i with | 0 => (.float .f64 a0, .float .f64 a1) | 1 => (.float .f64 b0, .float .f64 b1) | 2 => (.float .f64 c0, .float .f64 c1) | _ => (.float .f64 d0, .float .f64 d1)) VAL (fun _ => undef) rfl ?_ ?_
  · intro L v g w' i hL hS hi
    obtain ⟨h1, h2, h3⟩ := mem_ready hi
    have h1 : i < 16 := h1
    try dsimp only
    have hno := off_not (by rw [hL]; exact h1) h2
    have m := hS.m
    have hcs : i = 0 ∨ i = 1 ∨ i = 2 ∨ i = 3 ∨ i = 4 ∨ i = 5 ∨ i = 6 ∨ i = 7 ∨ i = 8 ∨ i = 9 ∨ i = 10 ∨ i = 11 ∨ i = 12 ∨ i = 13 ∨ i = 14 ∨ i = 15 := by omega
    rcases hcs with rfl | rfl | rfl | rfl | rfl | rfl | rfl | rfl | rfl | rfl | rfl | rfl | rfl | rfl | rfl | rfl
    · refine wpOp_of (fun K hK => ?_)
      unfold wpOp
      go_simp
      refine Or.inl ?_
      exact hK _ _ ⟨put9 v 0 (.pointer (some ⟨w.heap.size, 0, none⟩)), g, (by simp [put9]), hS.step hL hi (by decide) (by decide) (Below.refl _ _) V0.symm⟩
    · have e0 : v 0 = .pointer (some ⟨w.heap.size, 0, none⟩) := (hS.d 0 (by decide) (ready_dep hi 0 (by kernel_rfl))).trans V0
      have q0 := (m.cell (World.block_lt_of_cell? v9 _ z0)).trans z0
      have q1 := (m.cell (World.block_lt_of_cell? v9 _ z1)).trans z1
      refine wpOp_of (fun K hK => ?_)
      unfold wpOp
      simp only [e0]
      go_simp
      refine Or.inl ?_
      exact hK _ _ ⟨put9 v 1 (.agg #[.float .f64 a0, .float .f64 a1]), g, (by simp [put9, e0]), hS.step hL hi (by decide) (by decide) (Below.refl _ _) V1.symm⟩
    · refine wpOp_of (fun K hK => ?_)
      unfold wpOp
      go_simp
      refine Or.inl ?_
      exact hK _ _ ⟨put9 v 2 (.pointer (some ⟨w.heap.size, 2, none⟩)), g, (by simp [put9]), hS.step hL hi (by decide) (by decide) (Below.refl _ _) V2.symm⟩
    · have e2 : v 2 = .pointer (some ⟨w.heap.size, 2, none⟩) := (hS.d 2 (by decide) (ready_dep hi 2 (by kernel_rfl))).trans V2
      have q0 := (m.cell (World.block_lt_of_cell? v9 _ z2)).trans z2
      have q1 := (m.cell (World.block_lt_of_cell? v9 _ z3)).trans z3
      refine wpOp_of (fun K hK => ?_)
      unfold wpOp
      simp only [e2]
      go_simp
      refine Or.inl ?_
      exact hK _ _ ⟨put9 v 3 (.agg #[.float .f64 b0, .float .f64 b1]), g, (by simp [put9, e2]), hS.step hL hi (by decide) (by decide) (Below.refl _ _) V3.symm⟩
    · refine wpOp_of (fun K hK => ?_)
      unfold wpOp
      go_simp
      refine Or.inl ?_
      exact hK _ _ ⟨put9 v 4 (.pointer (some ⟨w.heap.size, 4, none⟩)), g, (by simp [put9]), hS.step hL hi (by decide) (by decide) (Below.refl _ _) V4.symm⟩
    · have e4 : v 4 = .pointer (some ⟨w.heap.size, 4, none⟩) := (hS.d 4 (by decide) (ready_dep hi 4 (by kernel_rfl))).trans V4
      have q0 := (m.cell (World.block_lt_of_cell? v9 _ z4)).trans z4
      have q1 := (m.cell (World.block_lt_of_cell? v9 _ z5)).trans z5
      refine wpOp_of (fun K hK => ?_)
      unfold wpOp
      simp only [e4]
      go_simp
      refine Or.inl ?_
      exact hK _ _ ⟨put9 v 5 (.agg #[.float .f64 c0, .float .f64 c1]), g, (by simp [put9, e4]), hS.step hL hi (by decide) (by decide) (Below.refl _ _) V5.symm⟩
    · refine wpOp_of (fun K hK => ?_)
      unfold wpOp
      go_simp
      refine Or.inl ?_
      exact hK _ _ ⟨put9 v 6 (.pointer (some ⟨w.heap.size, 6, none⟩)), g, (by simp [put9]), hS.step hL hi (by decide) (by decide) (Below.refl _ _) V6.symm⟩
    · have e6 : v 6 = .pointer (some ⟨w.heap.size, 6, none⟩) := (hS.d 6 (by decide) (ready_dep hi 6 (by kernel_rfl))).trans V6
      have q0 := (m.cell (World.block_lt_of_cell? v9 _ z6)).trans z6
      have q1 := (m.cell (World.block_lt_of_cell? v9 _ z7)).trans z7
      refine wpOp_of (fun K hK => ?_)
      unfold wpOp
      simp only [e6]
      go_simp
      refine Or.inl ?_
      exact hK _ _ ⟨put9 v 7 (.agg #[.float .f64 d0, .float .f64 d1]), g, (by simp [put9, e6]), hS.step hL hi (by decide) (by decide) (Below.refl _ _) V7.symm⟩
    · refine wpOp_of (fun K hK => ?_)
      unfold wpOp
      go_simp
      refine Or.inl ?_
      exact hK _ _ ⟨put9 v 8 (.pointer (some ⟨w'.heap.size, 0, none⟩)), _, (by simp [put9]), hS.make (i := 0) hL (by decide) hi hno (by decide) (by kernel_rfl)⟩
    · refine wpOp_of (fun K hK => ?_)
      unfold wpOp
      go_simp
      refine Or.inl ?_
      exact hK _ _ ⟨put9 v 9 (.pointer (some ⟨w'.heap.size, 0, none⟩)), _, (by simp [put9]), hS.make (i := 1) hL (by decide) hi hno (by decide) (by kernel_rfl)⟩
    · refine wpOp_of (fun K hK => ?_)
      unfold wpOp
      go_simp
      refine Or.inl ?_
      exact hK _ _ ⟨put9 v 10 (.pointer (some ⟨w'.heap.size, 0, none⟩)), _, (by simp [put9]), hS.make (i := 2) hL (by decide) hi hno (by decide) (by kernel_rfl)⟩
    · refine wpOp_of (fun K hK => ?_)
      unfold wpOp
      go_simp
      refine Or.inl ?_
      exact hK _ _ ⟨put9 v 11 (.pointer (some ⟨w'.heap.size, 0, none⟩)), _, (by simp [put9]), hS.make (i := 3) hL (by decide) hi hno (by decide) (by kernel_rfl)⟩
    · have e1 : v 1 = .agg #[.float .f64 a0, .float .f64 a1] := (hS.d 1 (by decide) (ready_dep hi 1 (by kernel_rfl))).trans V1
      have e8 := (hS.p 0 (by decide) (ready_dep hi 8 (by kernel_rfl))).1
      obtain ⟨q0, q1, q2, q3, _⟩ := hS.nb 0 (by decide) (ready_dep hi 8 (by kernel_rfl)) hno
      simp only [Nat.reduceAdd] at e8
      refine wpOp_of (fun K hK => ?_)
      unfold wpOp
      simp only [e1, e8]
      go_simp
      refine Or.inl ?_
      exact hK _ _ ⟨put9 v 12 undef, g, (by simp [put9, e1, e8]), hS.store (i := 0) hL (by decide) hi hno (by decide) (fun k hk => by rcases (show k = 0 ∨ k = 1 ∨ k = 2 ∨ k = 3 by omega) with rfl | rfl | rfl | rfl <;> kernel_rfl) V12.symm⟩
    · have e3 : v 3 = .agg #[.float .f64 b0, .float .f64 b1] := (hS.d 3 (by decide) (ready_dep hi 3 (by kernel_rfl))).trans V3
      have e9 := (hS.p 1 (by decide) (ready_dep hi 9 (by kernel_rfl))).1
      obtain ⟨q0, q1, q2, q3, _⟩ := hS.nb 1 (by decide) (ready_dep hi 9 (by kernel_rfl)) hno
      simp only [Nat.reduceAdd] at e9
      refine wpOp_of (fun K hK => ?_)
      unfold wpOp
      simp only [e3, e9]
      go_simp
      refine Or.inl ?_
      exact hK _ _ ⟨put9 v 13 undef, g, (by simp [put9, e3, e9]), hS.store (i := 1) hL (by decide) hi hno (by decide) (fun k hk => by rcases (show k = 0 ∨ k = 1 ∨ k = 2 ∨ k = 3 by omega) with rfl | rfl | rfl | rfl <;> kernel_rfl) V13.symm⟩
    · have e5 : v 5 = .agg #[.float .f64 c0, .float .f64 c1] := (hS.d 5 (by decide) (ready_dep hi 5 (by kernel_rfl))).trans V5
      have e10 := (hS.p 2 (by decide) (ready_dep hi 10 (by kernel_rfl))).1
      obtain ⟨q0, q1, q2, q3, _⟩ := hS.nb 2 (by decide) (ready_dep hi 10 (by kernel_rfl)) hno
      simp only [Nat.reduceAdd] at e10
      refine wpOp_of (fun K hK => ?_)
      unfold wpOp
      simp only [e5, e10]
      go_simp
      refine Or.inl ?_
      exact hK _ _ ⟨put9 v 14 undef, g, (by simp [put9, e5, e10]), hS.store (i := 2) hL (by decide) hi hno (by decide) (fun k hk => by rcases (show k = 0 ∨ k = 1 ∨ k = 2 ∨ k = 3 by omega) with rfl | rfl | rfl | rfl <;> kernel_rfl) V14.symm⟩
    · have e7 : v 7 = .agg #[.float .f64 d0, .float .f64 d1] := (hS.d 7 (by decide) (ready_dep hi 7 (by kernel_rfl))).trans V7
      have e11 := (hS.p 3 (by decide) (ready_dep hi 11 (by kernel_rfl))).1
      obtain ⟨q0, q1, q2, q3, _⟩ := hS.nb 3 (by decide) (ready_dep hi 11 (by kernel_rfl)) hno
      simp only [Nat.reduceAdd] at e11
      refine wpOp_of (fun K hK => ?_)
      unfold wpOp
      simp only [e7, e11]
      go_simp
      refine Or.inl ?_
      exact hK _ _ ⟨put9 v 15 undef, g, (by simp [put9, e7, e11]), hS.store (i := 3) hL (by decide) hi hno (by decide) (fun k hk => by rcases (show k = 0 ∨ k = 1 ∨ k = 2 ∨ k = 3 by omega) with rfl | rfl | rfl | rfl <;> kernel_rfl) V15.symm⟩
  · intro L v g w' hL hS hr3
    have on := all_done hL hr3 (by kernel_rfl)
    have Oba : Bx w' (g 0) (.float .f64 a0) (.float .f64 a1) := hS.yb 0 (by decide) (on 12 (by decide))
    have P0 : v 8 = .pointer (some ⟨g 0, 0, none⟩) := (hS.p 0 (by decide) (on 8 (by decide))).1
    have Obb : Bx w' (g 1) (.float .f64 b0) (.float .f64 b1) := hS.yb 1 (by decide) (on 13 (by decide))
    have P1 : v 9 = .pointer (some ⟨g 1, 0, none⟩) := (hS.p 1 (by decide) (on 9 (by decide))).1
    have Obc : Bx w' (g 2) (.float .f64 c0) (.float .f64 c1) := hS.yb 2 (by decide) (on 14 (by decide))
    have P2 : v 10 = .pointer (some ⟨g 2, 0, none⟩) := (hS.p 2 (by decide) (on 10 (by decide))).1
    have Obd : Bx w' (g 3) (.float .f64 d0) (.float .f64 d1) := hS.yb 3 (by decide) (on 15 (by decide))
    have P3 : v 11 = .pointer (some ⟨g 3, 0, none⟩) := (hS.p 3 (by decide) (on 11 (by decide))).1
    replace Z := Z.trans (hS.m.mono Z.size)
    try dsimp only
    rw [P0]
    rw [P1]
    rw [P2]
    rw [P3]
    rw [hS.d 0 (by decide) (on 0 (by decide)), V0]
    rw [hS.d 1 (by decide) (on 1 (by decide)), V1]
    rw [hS.d 2 (by decide) (on 2 (by decide)), V2]
    rw [hS.d 3 (by decide) (on 3 (by decide)), V3]
    rw [hS.d 4 (by decide) (on 4 (by decide)), V4]
    rw [hS.d 5 (by decide) (on 5 (by decide)), V5]
    rw [hS.d 6 (by decide) (on 6 (by decide)), V6]
    rw [hS.d 7 (by decide) (on 7 (by decide)), V7]
    clear hS on hr3 P0 P1 P2 P3 hVAL V0 V1 V2 V3 V4 V5 V6 V7 V8 V9 V10 V11 V12 V13 V14 V15 z0 z1 z2 z3 z4 z5 z6 z7
    generalize g 0 = ga at *
    generalize g 1 = gb at *
    generalize g 2 = gc at *
    generalize g 3 = gd at *
    generalize w' = wc at *
    clear g v VAL L hL
    have ac0 := Oba.1
    have ac1 := Oba.2.1
    have cc0 := Obc.1
    have cc1 := Obc.2.1
    go_upto_region 5 with (go_at_call 6; refine (prMe1 _ (tabW_below hT Z)).mono ?_; rintro e vk ⟨rfl, bb⟩)
    clear ac0 ac1 cc0 cc1
    replace Oba := (Oba.below bb).alloc (.cells #[.float .f64 x0, .float .f64 x1] 24)
    replace Obb := (Obb.below bb).alloc (.cells #[.float .f64 x0, .float .f64 x1] 24)
    replace Obc := (Obc.below bb).alloc (.cells #[.float .f64 x0, .float .f64 x1] 24)
    replace Obd := (Obd.below bb).alloc (.cells #[.float .f64 x0, .float .f64 x1] 24)
    have Obx := Bx.new vk (.float .f64 x0) (.float .f64 x1) 24
    replace Z := Z.trans (bb.mono Z.size)
    replace Z := Z.alloc Z.size (.cells #[.float .f64 x0, .float .f64 x1] 24)
    clear bb
    generalize vk.alloc (.cells #[.float .f64 x0, .float .f64 x1] 24) = w0 at *
    generalize vk.heap.size = gx at *
    clear vk
    have bc0 := Obb.1
    have bc1 := Obb.2.1
    have dc0 := Obd.1
    have dc1 := Obd.2.1
    go_upto_region 6 with (go_at_call 6; refine (prMe2 _ (tabW_below hT Z)).mono ?_; rintro e vk ⟨rfl, bb⟩)
    clear bc0 bc1 dc0 dc1
    replace Oba := (Oba.below bb).alloc (.cells #[.float .f64 y0, .float .f64 y1] 24)
    replace Obb := (Obb.below bb).alloc (.cells #[.float .f64 y0, .float .f64 y1] 24)
    replace Obc := (Obc.below bb).alloc (.cells #[.float .f64 y0, .float .f64 y1] 24)
    replace Obd := (Obd.below bb).alloc (.cells #[.float .f64 y0, .float .f64 y1] 24)
    replace Obx := (Obx.below bb).alloc (.cells #[.float .f64 y0, .float .f64 y1] 24)
    have Oby := Bx.new vk (.float .f64 y0) (.float .f64 y1) 24
    replace Z := Z.trans (bb.mono Z.size)
    replace Z := Z.alloc Z.size (.cells #[.float .f64 y0, .float .f64 y1] 24)
    clear bb
    generalize vk.alloc (.cells #[.float .f64 y0, .float .f64 y1] 24) = w1 at *
    generalize vk.heap.size = gy at *
    clear vk
    have xc0 := Obx.1
    have xc1 := Obx.2.1
    have ac0 := Oba.1
    have ac1 := Oba.2.1
    go_upto_region 10 with (first
      | (go_at_call_of 7 (Value.agg #[Value.float FloatKind.f64 a0, Value.float FloatKind.f64 a1]); refine (prI1 _).mono ?_; rintro e yw0 ⟨rfl, tw0⟩; have xc0 := (Obx.below tw0).1; have xc1 := (Obx.below tw0).2.1; have cc0 := (Obc.below tw0).1; have cc1 := (Obc.below tw0).2.1)
      | (go_at_call_of 7 (Value.agg #[Value.float FloatKind.f64 c0, Value.float FloatKind.f64 c1]); refine (prI2 _).mono ?_; rintro e yw1 ⟨rfl, tw1⟩; have tw1 := tw0.trans (tw1.mono tw0.size); have yc0 := (Oby.below tw1).1; have yc1 := (Oby.below tw1).2.1; have bc0 := (Obb.below tw1).1; have bc1 := (Obb.below tw1).2.1)
      | (go_at_call_of 7 (Value.agg #[Value.float FloatKind.f64 b0, Value.float FloatKind.f64 b1]); refine (prI3 _).mono ?_; rintro e yw2 ⟨rfl, tw2⟩; have tw2 := tw1.trans (tw2.mono tw1.size)))
    clear xc0 xc1 ac0 ac1
    replace Oba := Oba.below tw2
    replace Obb := Obb.below tw2
    replace Obc := Obc.below tw2
    replace Obd := Obd.below tw2
    replace Obx := Obx.below tw2
    replace Oby := Oby.below tw2
    replace Z := Z.trans (tw2.mono Z.size)
    generalize yw2 = w2 at *
    clear Obc
    clear Obd
    have xc0 := Obx.1
    have xc1 := Obx.2.1
    have yc0 := Oby.1
    have yc1 := Oby.2.1
    go_upto_region 11 with (go_at_call 8; refine (prAd1 _ (tabW_below hT Z)).mono ?_; rintro e vk ⟨rfl, bb⟩)
    clear xc0 xc1 yc0 yc1
    replace Oba := (Oba.below bb).alloc (.cells #[.float .f64 s0, .float .f64 s1] 24)
    replace Obb := (Obb.below bb).alloc (.cells #[.float .f64 s0, .float .f64 s1] 24)
    replace Obx := (Obx.below bb).alloc (.cells #[.float .f64 s0, .float .f64 s1] 24)
    replace Oby := (Oby.below bb).alloc (.cells #[.float .f64 s0, .float .f64 s1] 24)
    have Obs := Bx.new vk (.float .f64 s0) (.float .f64 s1) 24
    replace Z := Z.trans (bb.mono Z.size)
    replace Z := Z.alloc Z.size (.cells #[.float .f64 s0, .float .f64 s1] 24)
    clear bb
    generalize vk.alloc (.cells #[.float .f64 s0, .float .f64 s1] 24) = w3 at *
    generalize vk.heap.size = gs at *
    clear vk
    have ac0 := Oba.1
    have ac1 := Oba.2.1
    have bc0 := Obb.1
    have bc1 := Obb.2.1
    go_upto_region 12 with (go_at_call 8; refine (prAd2 _ (tabW_below hT Z)).mono ?_; rintro e vk ⟨rfl, bb⟩)
    clear ac0 ac1 bc0 bc1
    replace Oba := (Oba.below bb).alloc (.cells #[.float .f64 t0, .float .f64 t1] 24)
    replace Obb := (Obb.below bb).alloc (.cells #[.float .f64 t0, .float .f64 t1] 24)
    replace Obx := (Obx.below bb).alloc (.cells #[.float .f64 t0, .float .f64 t1] 24)
    replace Oby := (Oby.below bb).alloc (.cells #[.float .f64 t0, .float .f64 t1] 24)
    replace Obs := (Obs.below bb).alloc (.cells #[.float .f64 t0, .float .f64 t1] 24)
    have Obt := Bx.new vk (.float .f64 t0) (.float .f64 t1) 24
    replace Z := Z.trans (bb.mono Z.size)
    replace Z := Z.alloc Z.size (.cells #[.float .f64 t0, .float .f64 t1] 24)
    clear bb
    generalize vk.alloc (.cells #[.float .f64 t0, .float .f64 t1] 24) = w4 at *
    generalize vk.heap.size = gt at *
    clear vk
    have xc0 := Obx.1
    have xc1 := Obx.2.1
    have yc0 := Oby.1
    have yc1 := Oby.2.1
    go_upto_region 13 with (go_at_call 9; refine (prMu1 _ (tabW_below hT Z)).mono ?_; rintro e vk ⟨rfl, bb⟩)
    clear xc0 xc1 yc0 yc1
    replace Oba := (Oba.below bb).alloc (.cells #[.float .f64 m0, .float .f64 m1] 24)
    replace Obb := (Obb.below bb).alloc (.cells #[.float .f64 m0, .float .f64 m1] 24)
    replace Obx := (Obx.below bb).alloc (.cells #[.float .f64 m0, .float .f64 m1] 24)
    replace Oby := (Oby.below bb).alloc (.cells #[.float .f64 m0, .float .f64 m1] 24)
    replace Obs := (Obs.below bb).alloc (.cells #[.float .f64 m0, .float .f64 m1] 24)
    replace Obt := (Obt.below bb).alloc (.cells #[.float .f64 m0, .float .f64 m1] 24)
    have Obm := Bx.new vk (.float .f64 m0) (.float .f64 m1) 24
    replace Z := Z.trans (bb.mono Z.size)
    replace Z := Z.alloc Z.size (.cells #[.float .f64 m0, .float .f64 m1] 24)
    clear bb
    generalize vk.alloc (.cells #[.float .f64 m0, .float .f64 m1] 24) = w5 at *
    generalize vk.heap.size = gm at *
    clear vk
    have ac0 := Oba.1
    have ac1 := Oba.2.1
    have bc0 := Obb.1
    have bc1 := Obb.2.1
    go_upto_region 14 with (go_at_call 9; refine (prMu2 _ (tabW_below hT Z)).mono ?_; rintro e vk ⟨rfl, bb⟩)
    clear ac0 ac1 bc0 bc1
    replace Oba := (Oba.below bb).alloc (.cells #[.float .f64 n0, .float .f64 n1] 24)
    replace Obb := (Obb.below bb).alloc (.cells #[.float .f64 n0, .float .f64 n1] 24)
    replace Obx := (Obx.below bb).alloc (.cells #[.float .f64 n0, .float .f64 n1] 24)
    replace Oby := (Oby.below bb).alloc (.cells #[.float .f64 n0, .float .f64 n1] 24)
    replace Obs := (Obs.below bb).alloc (.cells #[.float .f64 n0, .float .f64 n1] 24)
    replace Obt := (Obt.below bb).alloc (.cells #[.float .f64 n0, .float .f64 n1] 24)
    replace Obm := (Obm.below bb).alloc (.cells #[.float .f64 n0, .float .f64 n1] 24)
    have Obn := Bx.new vk (.float .f64 n0) (.float .f64 n1) 24
    replace Z := Z.trans (bb.mono Z.size)
    replace Z := Z.alloc Z.size (.cells #[.float .f64 n0, .float .f64 n1] 24)
    clear bb
    generalize vk.alloc (.cells #[.float .f64 n0, .float .f64 n1] 24) = w6 at *
    generalize vk.heap.size = gn at *
    clear vk
    have xc0 := Obx.1
    have xc1 := Obx.2.1
    have yc0 := Oby.1
    have yc1 := Oby.2.1
    go_upto_region 15 with (go_at_call 10; refine (prSu1 _ (tabW_below hT Z)).mono ?_; rintro e vk ⟨rfl, bb⟩)
    clear xc0 xc1 yc0 yc1
    replace Oba := (Oba.below bb).alloc (.cells #[.float .f64 k0, .float .f64 k1] 24)
    replace Obb := (Obb.below bb).alloc (.cells #[.float .f64 k0, .float .f64 k1] 24)
    replace Obx := (Obx.below bb).alloc (.cells #[.float .f64 k0, .float .f64 k1] 24)
    replace Oby := (Oby.below bb).alloc (.cells #[.float .f64 k0, .float .f64 k1] 24)
    replace Obs := (Obs.below bb).alloc (.cells #[.float .f64 k0, .float .f64 k1] 24)
    replace Obt := (Obt.below bb).alloc (.cells #[.float .f64 k0, .float .f64 k1] 24)
    replace Obm := (Obm.below bb).alloc (.cells #[.float .f64 k0, .float .f64 k1] 24)
    replace Obn := (Obn.below bb).alloc (.cells #[.float .f64 k0, .float .f64 k1] 24)
    have Obk := Bx.new vk (.float .f64 k0) (.float .f64 k1) 24
    replace Z := Z.trans (bb.mono Z.size)
    replace Z := Z.alloc Z.size (.cells #[.float .f64 k0, .float .f64 k1] 24)
    clear bb
    generalize vk.alloc (.cells #[.float .f64 k0, .float .f64 k1] 24) = w7 at *
    generalize vk.heap.size = gk at *
    clear vk
    have ac0 := Oba.1
    have ac1 := Oba.2.1
    have bc0 := Obb.1
    have bc1 := Obb.2.1
    go_upto_region 16 with (go_at_call 10; refine (prSu2 _ (tabW_below hT Z)).mono ?_; rintro e vk ⟨rfl, bb⟩)
    clear ac0 ac1 bc0 bc1
    replace Oba := (Oba.below bb).alloc (.cells #[.float .f64 l0, .float .f64 l1] 24)
    replace Obb := (Obb.below bb).alloc (.cells #[.float .f64 l0, .float .f64 l1] 24)
    replace Obx := (Obx.below bb).alloc (.cells #[.float .f64 l0, .float .f64 l1] 24)
    replace Oby := (Oby.below bb).alloc (.cells #[.float .f64 l0, .float .f64 l1] 24)
    replace Obs := (Obs.below bb).alloc (.cells #[.float .f64 l0, .float .f64 l1] 24)
    replace Obt := (Obt.below bb).alloc (.cells #[.float .f64 l0, .float .f64 l1] 24)
    replace Obm := (Obm.below bb).alloc (.cells #[.float .f64 l0, .float .f64 l1] 24)
    replace Obn := (Obn.below bb).alloc (.cells #[.float .f64 l0, .float .f64 l1] 24)
    replace Obk := (Obk.below bb).alloc (.cells #[.float .f64 l0, .float .f64 l1] 24)
    have Obl := Bx.new vk (.float .f64 l0) (.float .f64 l1) 24
    replace Z := Z.trans (bb.mono Z.size)
    replace Z := Z.alloc Z.size (.cells #[.float .f64 l0, .float .f64 l1] 24)
    clear bb
    generalize vk.alloc (.cells #[.float .f64 l0, .float .f64 l1] 24) = w8 at *
    generalize vk.heap.size = gl at *
    clear vk
    have sc0 := Obs.1
    have sc1 := Obs.2.1
    have tc0 := Obt.1
    have tc1 := Obt.2.1
    go_upto_region 18 with (first
      | (go_at_call_of 7 (Value.agg #[Value.float FloatKind.f64 t0, Value.float FloatKind.f64 t1]); refine (prJ1 _).mono ?_; rintro e yw0 ⟨rfl, tw0⟩; have mc0 := (Obm.below tw0).1; have mc1 := (Obm.below tw0).2.1; have nc0 := (Obn.below tw0).1; have nc1 := (Obn.below tw0).2.1)
      | (go_at_call_of 7 (Value.agg #[Value.float FloatKind.f64 n0, Value.float FloatKind.f64 n1]); refine (prJ2 _).mono ?_; rintro e yw1 ⟨rfl, tw1⟩; have tw1 := tw0.trans (tw1.mono tw0.size); have kc0 := (Obk.below tw1).1; have kc1 := (Obk.below tw1).2.1; have lc0 := (Obl.below tw1).1; have lc1 := (Obl.below tw1).2.1)
      | (go_at_call_of 7 (Value.agg #[Value.float FloatKind.f64 l0, Value.float FloatKind.f64 l1]); refine (prJ3 _).mono ?_; rintro e yw2 ⟨rfl, tw2⟩; have tw2 := tw1.trans (tw2.mono tw1.size)))
    clear sc0 sc1 tc0 tc1
    replace Oba := Oba.below tw2
    replace Obb := Obb.below tw2
    replace Obx := Obx.below tw2
    replace Oby := Oby.below tw2
    replace Obs := Obs.below tw2
    replace Obt := Obt.below tw2
    replace Obm := Obm.below tw2
    replace Obn := Obn.below tw2
    replace Obk := Obk.below tw2
    replace Obl := Obl.below tw2
    replace Z := Z.trans (tw2.mono Z.size)
    generalize yw2 = w9 at *
    clear Obs
    clear Obt
    clear Obm
    clear Obn
    clear Obk
    clear Obl
    have xc0 := Obx.1
    have xc1 := Obx.2.1
    have yc0 := Oby.1
    have yc1 := Oby.2.1
    go_upto_region 19 with (go_at_call 11; refine (prDi1 _ (tabW_below hT Z)).mono ?_; rintro e vk ⟨rfl, bb⟩)
    clear xc0 xc1 yc0 yc1
    replace Oba := (Oba.below bb).alloc (.cells #[.float .f64 u0, .float .f64 u1] 24)
    replace Obb := (Obb.below bb).alloc (.cells #[.float .f64 u0, .float .f64 u1] 24)
    replace Obx := (Obx.below bb).alloc (.cells #[.float .f64 u0, .float .f64 u1] 24)
    replace Oby := (Oby.below bb).alloc (.cells #[.float .f64 u0, .float .f64 u1] 24)
    have Obu := Bx.new vk (.float .f64 u0) (.float .f64 u1) 24
    replace Z := Z.trans (bb.mono Z.size)
    replace Z := Z.alloc Z.size (.cells #[.float .f64 u0, .float .f64 u1] 24)
    clear bb
    generalize vk.alloc (.cells #[.float .f64 u0, .float .f64 u1] 24) = w10 at *
    generalize vk.heap.size = gu at *
    clear vk
    have ac0 := Oba.1
    have ac1 := Oba.2.1
    have bc0 := Obb.1
    have bc1 := Obb.2.1
    go_upto_region 20 with (go_at_call 11; refine (prDi2 _ (tabW_below hT Z)).mono ?_; rintro e vk ⟨rfl, bb⟩)
    clear ac0 ac1 bc0 bc1
    replace Oba := (Oba.below bb).alloc (.cells #[.float .f64 v0, .float .f64 v1] 24)
    replace Obb := (Obb.below bb).alloc (.cells #[.float .f64 v0, .float .f64 v1] 24)
    replace Obx := (Obx.below bb).alloc (.cells #[.float .f64 v0, .float .f64 v1] 24)
    replace Oby := (Oby.below bb).alloc (.cells #[.float .f64 v0, .float .f64 v1] 24)
    replace Obu := (Obu.below bb).alloc (.cells #[.float .f64 v0, .float .f64 v1] 24)
    have Obv := Bx.new vk (.float .f64 v0) (.float .f64 v1) 24
    replace Z := Z.trans (bb.mono Z.size)
    replace Z := Z.alloc Z.size (.cells #[.float .f64 v0, .float .f64 v1] 24)
    clear bb
    generalize vk.alloc (.cells #[.float .f64 v0, .float .f64 v1] 24) = w11 at *
    generalize vk.heap.size = gv at *
    clear vk
    rcases prHd with ⟨rfl, rfl, prIn⟩ | rfl
    · skip
      have uc0 := Obu.1
      have uc1 := Obu.2.1
      have vc0 := Obv.1
      have vc1 := Obv.2.1
      go_upto_region 22 with (first
        | (go_at_call_of 7 (Value.agg #[Value.float FloatKind.f64 v0, Value.float FloatKind.f64 v1]); refine (prIn _).mono ?_; rintro e yw0 ⟨rfl, tw0⟩))
      clear uc0 uc1 vc0 vc1
      replace Oba := Oba.below tw0
      replace Obb := Obb.below tw0
      replace Obx := Obx.below tw0
      replace Oby := Oby.below tw0
      replace Obu := Obu.below tw0
      replace Obv := Obv.below tw0
      replace Z := Z.trans (tw0.mono Z.size)
      generalize yw0 = w12 at *
      clear Obu
      clear Obv
      clear Oby
      clear Obb
      have xc0 := Obx.1
      have xc1 := Obx.2.1
      go_upto_region 23 with (go_at_call 12; refine (prSq1 _ (tabW_below hT Z)).mono ?_; rintro e vk ⟨rfl, bb⟩)
      clear xc0 xc1
      replace Oba := (Oba.below bb).alloc (.cells #[.float .f64 p0, .float .f64 p1] 24)
      replace Obx := (Obx.below bb).alloc (.cells #[.float .f64 p0, .float .f64 p1] 24)
      have Obp := Bx.new vk (.float .f64 p0) (.float .f64 p1) 24
      replace Z := Z.trans (bb.mono Z.size)
      replace Z := Z.alloc Z.size (.cells #[.float .f64 p0, .float .f64 p1] 24)
      clear bb
      generalize vk.alloc (.cells #[.float .f64 p0, .float .f64 p1] 24) = w13 at *
      generalize vk.heap.size = gp at *
      clear vk
      have ac0 := Oba.1
      have ac1 := Oba.2.1
      go_upto_region 24 with (go_at_call 12; refine (prSq2 _ (tabW_below hT Z)).mono ?_; rintro e vk ⟨rfl, bb⟩)
      clear ac0 ac1
      replace Oba := (Oba.below bb).alloc (.cells #[.float .f64 q0, .float .f64 q1] 24)
      replace Obx := (Obx.below bb).alloc (.cells #[.float .f64 q0, .float .f64 q1] 24)
      replace Obp := (Obp.below bb).alloc (.cells #[.float .f64 q0, .float .f64 q1] 24)
      have Obq := Bx.new vk (.float .f64 q0) (.float .f64 q1) 24
      replace Z := Z.trans (bb.mono Z.size)
      replace Z := Z.alloc Z.size (.cells #[.float .f64 q0, .float .f64 q1] 24)
      clear bb
      generalize vk.alloc (.cells #[.float .f64 q0, .float .f64 q1] 24) = w14 at *
      generalize vk.heap.size = gq at *
      clear vk
      have xc0 := Obx.1
      have xc1 := Obx.2.1
      go_upto_region 25 with (go_at_call 13; refine (prRo1 _ (tabW_below hT Z)).mono ?_; rintro e vk ⟨rfl, bb⟩)
      clear xc0 xc1
      replace Oba := (Oba.below bb).alloc (.cells #[.float .f64 o0, .float .f64 o1] 24)
      replace Obx := (Obx.below bb).alloc (.cells #[.float .f64 o0, .float .f64 o1] 24)
      replace Obp := (Obp.below bb).alloc (.cells #[.float .f64 o0, .float .f64 o1] 24)
      replace Obq := (Obq.below bb).alloc (.cells #[.float .f64 o0, .float .f64 o1] 24)
      have Obo := Bx.new vk (.float .f64 o0) (.float .f64 o1) 24
      replace Z := Z.trans (bb.mono Z.size)
      replace Z := Z.alloc Z.size (.cells #[.float .f64 o0, .float .f64 o1] 24)
      clear bb
      generalize vk.alloc (.cells #[.float .f64 o0, .float .f64 o1] 24) = w15 at *
      generalize vk.heap.size = go at *
      clear vk
      have ac0 := Oba.1
      have ac1 := Oba.2.1
      go_upto_region 26 with (go_at_call 13; refine (prRo2 _ (tabW_below hT Z)).mono ?_; rintro e vk ⟨rfl, bb⟩)
      clear ac0 ac1
      replace Oba := (Oba.below bb).alloc (.cells #[.float .f64 r0, .float .f64 r1] 24)
      replace Obx := (Obx.below bb).alloc (.cells #[.float .f64 r0, .float .f64 r1] 24)
      replace Obp := (Obp.below bb).alloc (.cells #[.float .f64 r0, .float .f64 r1] 24)
      replace Obq := (Obq.below bb).alloc (.cells #[.float .f64 r0, .float .f64 r1] 24)
      replace Obo := (Obo.below bb).alloc (.cells #[.float .f64 r0, .float .f64 r1] 24)
      have Obr := Bx.new vk (.float .f64 r0) (.float .f64 r1) 24
      replace Z := Z.trans (bb.mono Z.size)
      replace Z := Z.alloc Z.size (.cells #[.float .f64 r0, .float .f64 r1] 24)
      clear bb
      generalize vk.alloc (.cells #[.float .f64 r0, .float .f64 r1] 24) = w16 at *
      generalize vk.heap.size = gr at *
      clear vk
      rcases prHr with ⟨rfl, rfl, prJn⟩ | rfl
      · skip
        have pc0 := Obp.1
        have pc1 := Obp.2.1
        have qc0 := Obq.1
        have qc1 := Obq.2.1
        go_wp2_with (first
          | (go_at_call_of 7 (Value.agg #[Value.float FloatKind.f64 q0, Value.float FloatKind.f64 q1]); refine (prJ5 _).mono ?_; rintro e yw0 ⟨rfl, tw0⟩; have oc0 := (Obo.below tw0).1; have oc1 := (Obo.below tw0).2.1; have rc0 := (Obr.below tw0).1; have rc1 := (Obr.below tw0).2.1)
          | (go_at_call_of 7 (Value.agg #[Value.float FloatKind.f64 r0, Value.float FloatKind.f64 r1]); refine (prJn _).mono ?_; rintro e yw1 ⟨rfl, tw1⟩; have tw1 := tw0.trans (tw1.mono tw0.size)))
        go_ret
        exact ⟨rfl, Z.trans (tw1.mono Z.size)⟩
      · skip
        have pc0 := Obp.1
        have pc1 := Obp.2.1
        have qc0 := Obq.1
        have qc1 := Obq.2.1
        go_wp2_with (go_at_call_of 7 (Value.agg #[Value.float FloatKind.f64 q0, Value.float FloatKind.f64 q1]); refine (prJ5 _).mono ?_; rintro e yw0 ⟨rfl, tw0⟩)
        go_ret
        exact ⟨rfl, Z.trans (tw0.mono Z.size)⟩
    · skip
      go_upto_region 22 with fail
      clear Obu
      clear Obv
      clear Oby
      clear Obb
      have xc0 := Obx.1
      have xc1 := Obx.2.1
      go_upto_region 23 with (go_at_call 12; refine (prSq1 _ (tabW_below hT Z)).mono ?_; rintro e vk ⟨rfl, bb⟩)
      clear xc0 xc1
      replace Oba := (Oba.below bb).alloc (.cells #[.float .f64 p0, .float .f64 p1] 24)
      replace Obx := (Obx.below bb).alloc (.cells #[.float .f64 p0, .float .f64 p1] 24)
      have Obp := Bx.new vk (.float .f64 p0) (.float .f64 p1) 24
      replace Z := Z.trans (bb.mono Z.size)
      replace Z := Z.alloc Z.size (.cells #[.float .f64 p0, .float .f64 p1] 24)
      clear bb
      generalize vk.alloc (.cells #[.float .f64 p0, .float .f64 p1] 24) = w12 at *
      generalize vk.heap.size = gp at *
      clear vk
      have ac0 := Oba.1
      have ac1 := Oba.2.1
      go_upto_region 24 with (go_at_call 12; refine (prSq2 _ (tabW_below hT Z)).mono ?_; rintro e vk ⟨rfl, bb⟩)
      clear ac0 ac1
      replace Oba := (Oba.below bb).alloc (.cells #[.float .f64 q0, .float .f64 q1] 24)
      replace Obx := (Obx.below bb).alloc (.cells #[.float .f64 q0, .float .f64 q1] 24)
      replace Obp := (Obp.below bb).alloc (.cells #[.float .f64 q0, .float .f64 q1] 24)
      have Obq := Bx.new vk (.float .f64 q0) (.float .f64 q1) 24
      replace Z := Z.trans (bb.mono Z.size)
      replace Z := Z.alloc Z.size (.cells #[.float .f64 q0, .float .f64 q1] 24)
      clear bb
      generalize vk.alloc (.cells #[.float .f64 q0, .float .f64 q1] 24) = w13 at *
      generalize vk.heap.size = gq at *
      clear vk
      have xc0 := Obx.1
      have xc1 := Obx.2.1
      go_upto_region 25 with (go_at_call 13; refine (prRo1 _ (tabW_below hT Z)).mono ?_; rintro e vk ⟨rfl, bb⟩)
      clear xc0 xc1
      replace Oba := (Oba.below bb).alloc (.cells #[.float .f64 o0, .float .f64 o1] 24)
      replace Obx := (Obx.below bb).alloc (.cells #[.float .f64 o0, .float .f64 o1] 24)
      replace Obp := (Obp.below bb).alloc (.cells #[.float .f64 o0, .float .f64 o1] 24)
      replace Obq := (Obq.below bb).alloc (.cells #[.float .f64 o0, .float .f64 o1] 24)
      have Obo := Bx.new vk (.float .f64 o0) (.float .f64 o1) 24
      replace Z := Z.trans (bb.mono Z.size)
      replace Z := Z.alloc Z.size (.cells #[.float .f64 o0, .float .f64 o1] 24)
      clear bb
      generalize vk.alloc (.cells #[.float .f64 o0, .float .f64 o1] 24) = w14 at *
      generalize vk.heap.size = go at *
      clear vk
      have ac0 := Oba.1
      have ac1 := Oba.2.1
      go_upto_region 26 with (go_at_call 13; refine (prRo2 _ (tabW_below hT Z)).mono ?_; rintro e vk ⟨rfl, bb⟩)
      clear ac0 ac1
      replace Oba := (Oba.below bb).alloc (.cells #[.float .f64 r0, .float .f64 r1] 24)
      replace Obx := (Obx.below bb).alloc (.cells #[.float .f64 r0, .float .f64 r1] 24)
      replace Obp := (Obp.below bb).alloc (.cells #[.float .f64 r0, .float .f64 r1] 24)
      replace Obq := (Obq.below bb).alloc (.cells #[.float .f64 r0, .float .f64 r1] 24)
      replace Obo := (Obo.below bb).alloc (.cells #[.float .f64 r0, .float .f64 r1] 24)
      have Obr := Bx.new vk (.float .f64 r0) (.float .f64 r1) 24
      replace Z := Z.trans (bb.mono Z.size)
      replace Z := Z.alloc Z.size (.cells #[.float .f64 r0, .float .f64 r1] 24)
      clear bb
      generalize vk.alloc (.cells #[.float .f64 r0, .float .f64 r1] 24) = w15 at *
      generalize vk.heap.size = gr at *
      clear vk
      rcases prHr with ⟨rfl, rfl, prJn⟩ | rfl
      · skip
        have pc0 := Obp.1
        have pc1 := Obp.2.1
        have qc0 := Obq.1
        have qc1 := Obq.2.1
        go_wp2_with (first
          | (go_at_call_of 7 (Value.agg #[Value.float FloatKind.f64 q0, Value.float FloatKind.f64 q1]); refine (prJ5 _).mono ?_; rintro e yw0 ⟨rfl, tw0⟩; have oc0 := (Obo.below tw0).1; have oc1 := (Obo.below tw0).2.1; have rc0 := (Obr.below tw0).1; have rc1 := (Obr.below tw0).2.1)
          | (go_at_call_of 7 (Value.agg #[Value.float FloatKind.f64 r0, Value.float FloatKind.f64 r1]); refine (prJn _).mono ?_; rintro e yw1 ⟨rfl, tw1⟩; have tw1 := tw0.trans (tw1.mono tw0.size)))
        go_ret
        exact ⟨rfl, Z.trans (tw1.mono Z.size)⟩
      · skip
        have pc0 := Obp.1
        have pc1 := Obp.2.1
        have qc0 := Obq.1
        have qc1 := Obq.2.1
        go_wp2_with (go_at_call_of 7 (Value.agg #[Value.float FloatKind.f64 q0, Value.float FloatKind.f64 q1]); refine (prJ5 _).mono ?_; rintro e yw0 ⟨rfl, tw0⟩)
        go_ret
        exact ⟨rfl, Z.trans (tw0.mono Z.size)⟩
set_option maxRecDepth 100000 in
set_option maxHeartbeats 8000000 in
theorem within_out (a0 a1 b0 b1 c0 c1 d0 d1 x0 x1 y0 y1 : Nat) (f1 f2 : Int) (prMe1 : ∀ w, TabW w → Calls Tryd.prog 6 #[spV a0 a1, spV c0 c1] w fun e w' => e = .returned (.tuple #[spV x0 x1, .int .i64 f1]) ∧ Below w.heap.size w w') (prMe2 : ∀ w, TabW w → Calls Tryd.prog 6 #[spV b0 b1, spV d0 d1] w fun e w' => e = .returned (.tuple #[spV y0 y1, .int .i64 f2]) ∧ Below w.heap.size w w') (hf : (f1 != 0) = true ∨ (f1 = 0 ∧ (f2 != 0) = true)) (w : World) (hT : TabW w) :
    Calls Tryd.prog 3 #[foV a0 a1 b0 b1 c0 c1 d0 d1] w fun e w' => e = .returned (.bool true) ∧ Below w.heap.size w w' := by
  have hst := run_storef Tryd.prog
  go_enter Tryd.func3, Tryd.ntmps3
  go_upto_region 3 with (go_at_call 5; refine (sawake _).mono ?_; rintro e v9 ⟨rfl, bb⟩)
  have z0 : v9.cell? ⟨w.heap.size, 0, none⟩ = some (.float .f64 a0) := ((oldc bb).1 w.heap.size 0 (by go_simp)).trans (by go_simp)
  have z1 : v9.cell? ⟨w.heap.size, 1, none⟩ = some (.float .f64 a1) := ((oldc bb).1 w.heap.size 1 (by go_simp)).trans (by go_simp)
  have z2 : v9.cell? ⟨w.heap.size, 2, none⟩ = some (.float .f64 b0) := ((oldc bb).1 w.heap.size 2 (by go_simp)).trans (by go_simp)
  have z3 : v9.cell? ⟨w.heap.size, 3, none⟩ = some (.float .f64 b1) := ((oldc bb).1 w.heap.size 3 (by go_simp)).trans (by go_simp)
  have z4 : v9.cell? ⟨w.heap.size, 4, none⟩ = some (.float .f64 c0) := ((oldc bb).1 w.heap.size 4 (by go_simp)).trans (by go_simp)
  have z5 : v9.cell? ⟨w.heap.size, 5, none⟩ = some (.float .f64 c1) := ((oldc bb).1 w.heap.size 5 (by go_simp)).trans (by go_simp)
  have z6 : v9.cell? ⟨w.heap.size, 6, none⟩ = some (.float .f64 d0) := ((oldc bb).1 w.heap.size 6 (by go_simp)).trans (by go_simp)
  have z7 : v9.cell? ⟨w.heap.size, 7, none⟩ = some (.float .f64 d1) := ((oldc bb).1 w.heap.size 7 (by go_simp)).trans (by go_simp)
  have Z := old1 bb
  clear bb
  obtain ⟨VAL, hVAL⟩ : ∃ V : Nat → Value, V = (fun j => match j with | 0 => .pointer (some ⟨w.heap.size, 0, none⟩) | 1 => .agg #[.float .f64 a0, .float .f64 a1] | 2 => .pointer (some ⟨w.heap.size, 2, none⟩) | 3 => .agg #[.float .f64 b0, .float .f64 b1] | 4 => .pointer (some ⟨w.heap.size, 4, none⟩) | 5 => .agg #[.float .f64 c0, .float .f64 c1] | 6 => .pointer (some ⟨w.heap.size, 6, none⟩) | 7 => .agg #[.float .f64 d0, .float .f64 d1] | _ => undef) := ⟨_, rfl⟩
  have V0 : VAL 0 = .pointer (some ⟨w.heap.size, 0, none⟩) := congrFun hVAL 0
  have V1 : VAL 1 = .agg #[.float .f64 a0, .float .f64 a1] := congrFun hVAL 1
  have V2 : VAL 2 = .pointer (some ⟨w.heap.size, 2, none⟩) := congrFun hVAL 2
  have V3 : VAL 3 = .agg #[.float .f64 b0, .float .f64 b1] := congrFun hVAL 3
  have V4 : VAL 4 = .pointer (some ⟨w.heap.size, 4, none⟩) := congrFun hVAL 4
  have V5 : VAL 5 = .agg #[.float .f64 c0, .float .f64 c1] := congrFun hVAL 5
  have V6 : VAL 6 = .pointer (some ⟨w.heap.size, 6, none⟩) := congrFun hVAL 6
  have V7 : VAL 7 = .agg #[.float .f64 d0, .float .f64 d1] := congrFun hVAL 7
  have V8 : VAL 8 = undef := congrFun hVAL 8
  have V9 : VAL 9 = undef := congrFun hVAL 9
  have V10 : VAL 10 = undef := congrFun hVAL 10
  have V11 : VAL 11 = undef := congrFun hVAL 11
  have V12 : VAL 12 = undef := congrFun hVAL 12
  have V13 : VAL 13 = undef := congrFun hVAL 13
  have V14 : VAL 14 = undef := congrFun hVAL 14
  have V15 : VAL 15 = undef := congrFun hVAL 15
  refine region_rgN (by kernel_rfl) (fun v => ⟨#[foV a0 a1 b0 b1 c0 c1 d0 d1, .pointer (some ⟨w.heap.size, 0, none⟩), .bool false, v 8, v 9, v 10, v 11, undef, undef, undef, undef, undef, undef, undef, undef, undef, undef, undef, undef, undef, undef, undef, undef, undef, undef, undef, undef, undef, undef, undef, undef, undef, undef, .bool true, .bool false, v 0, v 1, v 2, v 3, v 4, v 5, v 6, v 7, undef, undef, undef, undef, undef, undef, undef, undef, undef, undef, undef, undef, undef, undef, undef, undef, undef, undef, undef, undef, undef, undef, undef, undef, undef, undef, undef, undef, undef, undef, undef, undef, undef, undef, undef, undef, undef, undef, undef, undef, undef, undef, undef, undef, undef, undef, undef, undef, undef, undef, undef, undef, undef, undef, undef, undef, undef, undef, undef, undef, undef, undef, undef, undef, undef, undef, undef, undef, undef, undef, undef, undef, undef, undef, undef, undef, undef, undef, undef, undef, undef, undef, undef, undef, undef, undef, undef, undef, undef, undef, undef, undef, undef, undef, undef, undef, undef, undef, undef, undef, undef, undef, undef, undef, undef, undef, undef, undef, undef, undef, undef, undef, undef, undef, undef, undef, undef, undef, undef, undef, undef, undef, undef, undef, undef, undef, undef, undef, undef, undef, undef, undef, undef, undef, undef, undef, undef, undef, undef, undef, undef, undef, undef, undef, undef, undef], []⟩) 4 8 12 (fun i => match i with | 0 => (.float .f64 a0, .float .f64 a1) | 1 => (.float .f64 b0, .float .f64 b1) | 2 => (.float .f64 c0, .float .f64 c1) | _ => (.float .f64 d0, .float .f64 d1)) VAL (fun _ => undef) rfl ?_ ?_
  · intro L v g w' i hL hS hi
    obtain ⟨h1, h2, h3⟩ := mem_ready hi
    have h1 : i < 16 := h1
    try dsimp only
    have hno := off_not (by rw [hL]; exact h1) h2
    have m := hS.m
    have hcs : i = 0 ∨ i = 1 ∨ i = 2 ∨ i = 3 ∨ i = 4 ∨ i = 5 ∨ i = 6 ∨ i = 7 ∨ i = 8 ∨ i = 9 ∨ i = 10 ∨ i = 11 ∨ i = 12 ∨ i = 13 ∨ i = 14 ∨ i = 15 := by omega
    rcases hcs with rfl | rfl | rfl | rfl | rfl | rfl | rfl | rfl | rfl | rfl | rfl | rfl | rfl | rfl | rfl | rfl
    · refine wpOp_of (fun K hK => ?_)
      unfold wpOp
      go_simp
      refine Or.inl ?_
      exact hK _ _ ⟨put9 v 0 (.pointer (some ⟨w.heap.size, 0, none⟩)), g, (by simp [put9]), hS.step hL hi (by decide) (by decide) (Below.refl _ _) V0.symm⟩
    · have e0 : v 0 = .pointer (some ⟨w.heap.size, 0, none⟩) := (hS.d 0 (by decide) (ready_dep hi 0 (by kernel_rfl))).trans V0
      have q0 := (m.cell (World.block_lt_of_cell? v9 _ z0)).trans z0
      have q1 := (m.cell (World.block_lt_of_cell? v9 _ z1)).trans z1
      refine wpOp_of (fun K hK => ?_)
      unfold wpOp
      simp only [e0]
      go_simp
      refine Or.inl ?_
      exact hK _ _ ⟨put9 v 1 (.agg #[.float .f64 a0, .float .f64 a1]), g, (by simp [put9, e0]), hS.step hL hi (by decide) (by decide) (Below.refl _ _) V1.symm⟩
    · refine wpOp_of (fun K hK => ?_)
      unfold wpOp
      go_simp
      refine Or.inl ?_
      exact hK _ _ ⟨put9 v 2 (.pointer (some ⟨w.heap.size, 2, none⟩)), g, (by simp [put9]), hS.step hL hi (by decide) (by decide) (Below.refl _ _) V2.symm⟩
    · have e2 : v 2 = .pointer (some ⟨w.heap.size, 2, none⟩) := (hS.d 2 (by decide) (ready_dep hi 2 (by kernel_rfl))).trans V2
      have q0 := (m.cell (World.block_lt_of_cell? v9 _ z2)).trans z2
      have q1 := (m.cell (World.block_lt_of_cell? v9 _ z3)).trans z3
      refine wpOp_of (fun K hK => ?_)
      unfold wpOp
      simp only [e2]
      go_simp
      refine Or.inl ?_
      exact hK _ _ ⟨put9 v 3 (.agg #[.float .f64 b0, .float .f64 b1]), g, (by simp [put9, e2]), hS.step hL hi (by decide) (by decide) (Below.refl _ _) V3.symm⟩
    · refine wpOp_of (fun K hK => ?_)
      unfold wpOp
      go_simp
      refine Or.inl ?_
      exact hK _ _ ⟨put9 v 4 (.pointer (some ⟨w.heap.size, 4, none⟩)), g, (by simp [put9]), hS.step hL hi (by decide) (by decide) (Below.refl _ _) V4.symm⟩
    · have e4 : v 4 = .pointer (some ⟨w.heap.size, 4, none⟩) := (hS.d 4 (by decide) (ready_dep hi 4 (by kernel_rfl))).trans V4
      have q0 := (m.cell (World.block_lt_of_cell? v9 _ z4)).trans z4
      have q1 := (m.cell (World.block_lt_of_cell? v9 _ z5)).trans z5
      refine wpOp_of (fun K hK => ?_)
      unfold wpOp
      simp only [e4]
      go_simp
      refine Or.inl ?_
      exact hK _ _ ⟨put9 v 5 (.agg #[.float .f64 c0, .float .f64 c1]), g, (by simp [put9, e4]), hS.step hL hi (by decide) (by decide) (Below.refl _ _) V5.symm⟩
    · refine wpOp_of (fun K hK => ?_)
      unfold wpOp
      go_simp
      refine Or.inl ?_
      exact hK _ _ ⟨put9 v 6 (.pointer (some ⟨w.heap.size, 6, none⟩)), g, (by simp [put9]), hS.step hL hi (by decide) (by decide) (Below.refl _ _) V6.symm⟩
    · have e6 : v 6 = .pointer (some ⟨w.heap.size, 6, none⟩) := (hS.d 6 (by decide) (ready_dep hi 6 (by kernel_rfl))).trans V6
      have q0 := (m.cell (World.block_lt_of_cell? v9 _ z6)).trans z6
      have q1 := (m.cell (World.block_lt_of_cell? v9 _ z7)).trans z7
      refine wpOp_of (fun K hK => ?_)
      unfold wpOp
      simp only [e6]
      go_simp
      refine Or.inl ?_
      exact hK _ _ ⟨put9 v 7 (.agg #[.float .f64 d0, .float .f64 d1]), g, (by simp [put9, e6]), hS.step hL hi (by decide) (by decide) (Below.refl _ _) V7.symm⟩
    · refine wpOp_of (fun K hK => ?_)
      unfold wpOp
      go_simp
      refine Or.inl ?_
      exact hK _ _ ⟨put9 v 8 (.pointer (some ⟨w'.heap.size, 0, none⟩)), _, (by simp [put9]), hS.make (i := 0) hL (by decide) hi hno (by decide) (by kernel_rfl)⟩
    · refine wpOp_of (fun K hK => ?_)
      unfold wpOp
      go_simp
      refine Or.inl ?_
      exact hK _ _ ⟨put9 v 9 (.pointer (some ⟨w'.heap.size, 0, none⟩)), _, (by simp [put9]), hS.make (i := 1) hL (by decide) hi hno (by decide) (by kernel_rfl)⟩
    · refine wpOp_of (fun K hK => ?_)
      unfold wpOp
      go_simp
      refine Or.inl ?_
      exact hK _ _ ⟨put9 v 10 (.pointer (some ⟨w'.heap.size, 0, none⟩)), _, (by simp [put9]), hS.make (i := 2) hL (by decide) hi hno (by decide) (by kernel_rfl)⟩
    · refine wpOp_of (fun K hK => ?_)
      unfold wpOp
      go_simp
      refine Or.inl ?_
      exact hK _ _ ⟨put9 v 11 (.pointer (some ⟨w'.heap.size, 0, none⟩)), _, (by simp [put9]), hS.make (i := 3) hL (by decide) hi hno (by decide) (by kernel_rfl)⟩
    · have e1 : v 1 = .agg #[.float .f64 a0, .float .f64 a1] := (hS.d 1 (by decide) (ready_dep hi 1 (by kernel_rfl))).trans V1
      have e8 := (hS.p 0 (by decide) (ready_dep hi 8 (by kernel_rfl))).1
      obtain ⟨q0, q1, q2, q3, _⟩ := hS.nb 0 (by decide) (ready_dep hi 8 (by kernel_rfl)) hno
      simp only [Nat.reduceAdd] at e8
      refine wpOp_of (fun K hK => ?_)
      unfold wpOp
      simp only [e1, e8]
      go_simp
      refine Or.inl ?_
      exact hK _ _ ⟨put9 v 12 undef, g, (by simp [put9, e1, e8]), hS.store (i := 0) hL (by decide) hi hno (by decide) (fun k hk => by rcases (show k = 0 ∨ k = 1 ∨ k = 2 ∨ k = 3 by omega) with rfl | rfl | rfl | rfl <;> kernel_rfl) V12.symm⟩
    · have e3 : v 3 = .agg #[.float .f64 b0, .float .f64 b1] := (hS.d 3 (by decide) (ready_dep hi 3 (by kernel_rfl))).trans V3
      have e9 := (hS.p 1 (by decide) (ready_dep hi 9 (by kernel_rfl))).1
      obtain ⟨q0, q1, q2, q3, _⟩ := hS.nb 1 (by decide) (ready_dep hi 9 (by kernel_rfl)) hno
      simp only [Nat.reduceAdd] at e9
      refine wpOp_of (fun K hK => ?_)
      unfold wpOp
      simp only [e3, e9]
      go_simp
      refine Or.inl ?_
      exact hK _ _ ⟨put9 v 13 undef, g, (by simp [put9, e3, e9]), hS.store (i := 1) hL (by decide) hi hno (by decide) (fun k hk => by rcases (show k = 0 ∨ k = 1 ∨ k = 2 ∨ k = 3 by omega) with rfl | rfl | rfl | rfl <;> kernel_rfl) V13.symm⟩
    · have e5 : v 5 = .agg #[.float .f64 c0, .float .f64 c1] := (hS.d 5 (by decide) (ready_dep hi 5 (by kernel_rfl))).trans V5
      have e10 := (hS.p 2 (by decide) (ready_dep hi 10 (by kernel_rfl))).1
      obtain ⟨q0, q1, q2, q3, _⟩ := hS.nb 2 (by decide) (ready_dep hi 10 (by kernel_rfl)) hno
      simp only [Nat.reduceAdd] at e10
      refine wpOp_of (fun K hK => ?_)
      unfold wpOp
      simp only [e5, e10]
      go_simp
      refine Or.inl ?_
      exact hK _ _ ⟨put9 v 14 undef, g, (by simp [put9, e5, e10]), hS.store (i := 2) hL (by decide) hi hno (by decide) (fun k hk => by rcases (show k = 0 ∨ k = 1 ∨ k = 2 ∨ k = 3 by omega) with rfl | rfl | rfl | rfl <;> kernel_rfl) V14.symm⟩
    · have e7 : v 7 = .agg #[.float .f64 d0, .float .f64 d1] := (hS.d 7 (by decide) (ready_dep hi 7 (by kernel_rfl))).trans V7
      have e11 := (hS.p 3 (by decide) (ready_dep hi 11 (by kernel_rfl))).1
      obtain ⟨q0, q1, q2, q3, _⟩ := hS.nb 3 (by decide) (ready_dep hi 11 (by kernel_rfl)) hno
      simp only [Nat.reduceAdd] at e11
      refine wpOp_of (fun K hK => ?_)
      unfold wpOp
      simp only [e7, e11]
      go_simp
      refine Or.inl ?_
      exact hK _ _ ⟨put9 v 15 undef, g, (by simp [put9, e7, e11]), hS.store (i := 3) hL (by decide) hi hno (by decide) (fun k hk => by rcases (show k = 0 ∨ k = 1 ∨ k = 2 ∨ k = 3 by omega) with rfl | rfl | rfl | rfl <;> kernel_rfl) V15.symm⟩
  · intro L v g w' hL hS hr3
    have on := all_done hL hr3 (by kernel_rfl)
    have Oba : Bx w' (g 0) (.float .f64 a0) (.float .f64 a1) := hS.yb 0 (by decide) (on 12 (by decide))
    have P0 : v 8 = .pointer (some ⟨g 0, 0, none⟩) := (hS.p 0 (by decide) (on 8 (by decide))).1
    have Obb : Bx w' (g 1) (.float .f64 b0) (.float .f64 b1) := hS.yb 1 (by decide) (on 13 (by decide))
    have P1 : v 9 = .pointer (some ⟨g 1, 0, none⟩) := (hS.p 1 (by decide) (on 9 (by decide))).1
    have Obc : Bx w' (g 2) (.float .f64 c0) (.float .f64 c1) := hS.yb 2 (by decide) (on 14 (by decide))
    have P2 : v 10 = .pointer (some ⟨g 2, 0, none⟩) := (hS.p 2 (by decide) (on 10 (by decide))).1
    have Obd : Bx w' (g 3) (.float .f64 d0) (.float .f64 d1) := hS.yb 3 (by decide) (on 15 (by decide))
    have P3 : v 11 = .pointer (some ⟨g 3, 0, none⟩) := (hS.p 3 (by decide) (on 11 (by decide))).1
    replace Z := Z.trans (hS.m.mono Z.size)
    try dsimp only
    rw [P0]
    rw [P1]
    rw [P2]
    rw [P3]
    rw [hS.d 0 (by decide) (on 0 (by decide)), V0]
    rw [hS.d 1 (by decide) (on 1 (by decide)), V1]
    rw [hS.d 2 (by decide) (on 2 (by decide)), V2]
    rw [hS.d 3 (by decide) (on 3 (by decide)), V3]
    rw [hS.d 4 (by decide) (on 4 (by decide)), V4]
    rw [hS.d 5 (by decide) (on 5 (by decide)), V5]
    rw [hS.d 6 (by decide) (on 6 (by decide)), V6]
    rw [hS.d 7 (by decide) (on 7 (by decide)), V7]
    clear hS on hr3 P0 P1 P2 P3 hVAL V0 V1 V2 V3 V4 V5 V6 V7 V8 V9 V10 V11 V12 V13 V14 V15 z0 z1 z2 z3 z4 z5 z6 z7
    generalize g 0 = ga at *
    generalize g 1 = gb at *
    generalize g 2 = gc at *
    generalize g 3 = gd at *
    generalize w' = wc at *
    clear g v VAL L hL
    have ac0 := Oba.1
    have ac1 := Oba.2.1
    have cc0 := Obc.1
    have cc1 := Obc.2.1
    go_upto_region 5 with (go_at_call 6; refine (prMe1 _ (tabW_below hT Z)).mono ?_; rintro e vk ⟨rfl, bb⟩)
    clear ac0 ac1 cc0 cc1
    replace Oba := (Oba.below bb).alloc (.cells #[.float .f64 x0, .float .f64 x1] 24)
    replace Obb := (Obb.below bb).alloc (.cells #[.float .f64 x0, .float .f64 x1] 24)
    replace Obc := (Obc.below bb).alloc (.cells #[.float .f64 x0, .float .f64 x1] 24)
    replace Obd := (Obd.below bb).alloc (.cells #[.float .f64 x0, .float .f64 x1] 24)
    have Obx := Bx.new vk (.float .f64 x0) (.float .f64 x1) 24
    replace Z := Z.trans (bb.mono Z.size)
    replace Z := Z.alloc Z.size (.cells #[.float .f64 x0, .float .f64 x1] 24)
    clear bb
    generalize vk.alloc (.cells #[.float .f64 x0, .float .f64 x1] 24) = w0 at *
    generalize vk.heap.size = gx at *
    clear vk
    have bc0 := Obb.1
    have bc1 := Obb.2.1
    have dc0 := Obd.1
    have dc1 := Obd.2.1
    go_upto_region 6 with (go_at_call 6; refine (prMe2 _ (tabW_below hT Z)).mono ?_; rintro e vk ⟨rfl, bb⟩)
    clear bc0 bc1 dc0 dc1
    replace Oba := (Oba.below bb).alloc (.cells #[.float .f64 y0, .float .f64 y1] 24)
    replace Obb := (Obb.below bb).alloc (.cells #[.float .f64 y0, .float .f64 y1] 24)
    replace Obc := (Obc.below bb).alloc (.cells #[.float .f64 y0, .float .f64 y1] 24)
    replace Obd := (Obd.below bb).alloc (.cells #[.float .f64 y0, .float .f64 y1] 24)
    replace Obx := (Obx.below bb).alloc (.cells #[.float .f64 y0, .float .f64 y1] 24)
    have Oby := Bx.new vk (.float .f64 y0) (.float .f64 y1) 24
    replace Z := Z.trans (bb.mono Z.size)
    replace Z := Z.alloc Z.size (.cells #[.float .f64 y0, .float .f64 y1] 24)
    clear bb
    generalize vk.alloc (.cells #[.float .f64 y0, .float .f64 y1] 24) = w1 at *
    generalize vk.heap.size = gy at *
    clear vk
    rcases hf with hf | ⟨rfl, hf⟩
    · go_wp2
      go_ret
      exact ⟨rfl, Z⟩
    · go_wp2
      go_ret
      exact ⟨rfl, Z⟩
end Go.Proofs.YtpnbhgnejcpchaaDoor

namespace Go.Proofs.YtpnbhgnejcpchaaDoor
open Go.RowKit

abbrev C2 (F : Nat) (p q r : Nat × Nat) (n : Int) : Prop := ∀ w, TabW w → Calls Tryd.prog F #[spV p.1 p.2, spV q.1 q.2] w fun e w' => e = .returned (.tuple #[spV r.1 r.2, .int .i64 n]) ∧ Below w.heap.size w w'
abbrev C1 (F : Nat) (p r : Nat × Nat) (n : Int) : Prop := ∀ w, TabW w → Calls Tryd.prog F #[spV p.1 p.2] w fun e w' => e = .returned (.tuple #[spV r.1 r.2, .int .i64 n]) ∧ Below w.heap.size w w'
theorem add_C {p q : Nat × Nat} (h : RtP p) (g : RtP q) : C2 8 p q (adP p q) 0 := by
  obtain ⟨na, nb, fa, fb, _⟩ := rt_facts h.1 h.2.1 h.2.2
  obtain ⟨nc, nd, fc, fd, _⟩ := rt_facts g.1 g.2.1 g.2.2
  have o1 := addS_ok h.1 g.1 na nc (by rcases fa with h | h <;> rcases fc with g | g <;> simp [h, g])
  have o2 := addS_ok h.2.1 g.2.1 nb nd (by rcases fb with h | h <;> rcases fd with g | g <;> simp [h, g])
  exact fun w hT => sadd_B p.1 p.2 q.1 q.2 _ _ h.2.2 g.2.2 (radd_P 1 h.1 g.1 o1).2 (radd_P 2 h.2.1 g.2.1 o2).2 w hT
theorem sub_C {p q : Nat × Nat} (h : RtP p) (g : RtP q) : C2 10 p q (adP p (ngP q)) 0 := by
  have k := ngP_rt g
  obtain ⟨na, nb, fa, fb, _⟩ := rt_facts h.1 h.2.1 h.2.2
  obtain ⟨nc, nd, fc, fd, _⟩ := rt_facts k.1 k.2.1 k.2.2
  have o1 := addS_ok h.1 k.1 na nc (by rcases fa with h | h <;> rcases fc with g | g <;> simp [h, g])
  have o2 := addS_ok h.2.1 k.2.1 nb nd (by rcases fb with h | h <;> rcases fd with g | g <;> simp [h, g])
  exact fun w hT => ssub_B p.1 p.2 q.1 q.2 _ _ h.2.2 g.2.2 (rsub_P 1 h.1 g.2.1 o1).2 (rsub_P 2 h.2.1 g.1 o2).2 w hT
theorem mul_C {p q : Nat × Nat} (h : RtP p) (g : RtP q) : C2 9 p q (muP p q) 0 := fun w hT => smul_B p.1 p.2 q.1 q.2 tB h.2.2 g.2.2 (corn_mulP h.1 h.2.1 g.1 g.2.1 h.2.2 g.2.2) w hT
theorem div_C {p q : Nat × Nat} (h : RtP p) (g : RtP q) (h0 : (leF q.1 0 && leF 0 q.2) = false) : C2 11 p q (diP p q) 0 := fun w hT => sdiv_B p.1 p.2 q.1 q.2 oB h.2.2 g.2.2 (by rw [g.2.2, show finB 0 = true by decide]; simpa using h0) (corn_divP h.1 h.2.1 g.1 g.2.1 h.2.2 g.2.2 h0) w hT
theorem div_C0 {p q : Nat × Nat} (h : RtP p) (g : RtP q) (h0 : (leF q.1 0 && leF 0 q.2) = true) : C2 11 p q (0, 0) 7 := fun w _ => sdiv_zero p.1 p.2 q.1 q.2 h.2.2 g.2.2 (by rw [g.2.2, show finB 0 = true by decide]; simpa using h0) w
theorem ord_gt0 {x : Nat} (h : Fn x) : (FloatKind.f64.format.order x 0 == some .gt) = decide (0 < place x) := by
  rw [gt_num h.1 (by omega) h.2 (by decide)]; rfl
theorem ord_lt0 {x : Nat} (h : Fn x) : (FloatKind.f64.format.order x 0 == some .lt) = decide (place x < 0) := by
  rw [lt_num h.1 (by omega) h.2 (by decide)]; rfl
theorem abs_C {p : Nat × Nat} (h : RtP p) : C1 31 p (abP p) 0 := by
  have g1 := ord_gt0 h.fn.1
  have g2 := ord_lt0 h.fn.2
  unfold abP
  split
  · rename_i q
    exact fun w _ => sabs_above p.1 p.2 h.1 h.2.1 h.2.2 (by rw [g1]; simpa using q) w
  · split
    · rename_i q1 q2
      exact fun w _ => sabs_below p.1 p.2 h.1 h.2.1 h.2.2 (by rw [g1]; simpa using q1) (by rw [g2]; simpa using q2) w
    · rename_i q1 q2
      exact fun w _ => sabs_mid p.1 p.2 h.1 h.2.1 h.2.2 (by rw [g1]; simpa using q1) (by rw [g2]; simpa using q2) w
theorem square_C {p : Nat × Nat} (h : RtP p) : C1 12 p (squP p) 0 := by
  obtain ⟨f1, f2, _⟩ := abP_size h
  exact fun w hT => ssquare_B p.1 p.2 (abP p).1 (abP p).2 _ _ (abs_C h) (rmul_P 1 f1.1 f1.1 (mulB_self 1 f1).2).2 (rmul_P 2 f2.1 f2.1 (mulB_self 2 f2).2).2 w hT
theorem sqrt_C {p : Nat × Nat} (h : RtP p) (h0 : 0 ≤ place p.1) : C1 13 p (sqP p) 0 := by
  have g := ord_lt0 h.fn.1
  have := h.pl.1
  exact fun w hT => ssqrt_B p.1 p.2 _ _ h.1 h.2.1 h.2.2 (by rw [g]; simpa using h0) (rsqrt_P 1 h.1 (root_ok h.fn.1 h0)).2 (rsqrt_P 2 h.2.1 (root_ok h.fn.2 (by omega))).2 w hT
theorem sqrt_C0 {p : Nat × Nat} (h : RtP p) (h0 : ¬ 0 ≤ place p.1) : C1 13 p (0, 0) 2 := by
  have g := ord_lt0 h.fn.1
  exact fun w _ => ssqrt_not p.1 p.2 h.1 h.2.1 (Or.inr (by rw [g]; simpa using h0)) w
theorem in_C {p q : Nat × Nat} (hp : RtP p) (hq : RtP q) (h : Wt p q) : ∀ w, Calls Tryd.prog 7 #[spV p.1 p.2, spV q.1 q.2] w fun e w' => e = .returned (.bool true) ∧ Below w.heap.size w w' := fun w => by
  have := sin_any p.1 p.2 q.1 q.2 w
  have e : (sRt p.1 p.2 && sRt q.1 q.2 && leF q.1 p.1 && leF p.2 q.2) = true := inB_mk hp hq h
  rw [e] at this
  exact this
theorem meet_C (p q : Nat × Nat) (p1 : p.1 < 18446744073709551616) (p2 : p.2 < 18446744073709551616) (q1 : q.1 < 18446744073709551616) (q2 : q.2 < 18446744073709551616) :
    ∃ x n, C2 6 p q x n ∧ ((n = 0 ∧ RtP p ∧ RtP q ∧ RtP x ∧ Wt x p ∧ Wt x q) ∨ (n != 0) = true) := by
  cases hr : (sRt p.1 p.2 && sRt q.1 q.2)
  · exact ⟨(0, 0), 2, fun w _ => smeet_not p.1 p.2 q.1 q.2 hr w, Or.inr rfl⟩
  · have ra : sRt p.1 p.2 = true := by revert hr; cases sRt p.1 p.2 <;> simp
    have rb : sRt q.1 q.2 = true := by revert hr; cases sRt p.1 p.2 <;> simp
    have hp : RtP p := ⟨p1, p2, ra⟩
    have hq : RtP q := ⟨q1, q2, rb⟩
    cases k : (FloatKind.f64.format.order (grF p.1 q.1) (lsF p.2 q.2) == some .gt)
    · refine ⟨(grF p.1 q.1, lsF p.2 q.2), 0, fun w _ => smeet_yes p.1 p.2 q.1 q.2 _ _ false rfl rfl k p1 p2 q1 q2 hr w, Or.inl ⟨rfl, hp, hq, ?_⟩⟩
      obtain ⟨g0, g1, g2⟩ := grF_fn hp.fn.1 hq.fn.1
      obtain ⟨l0, l1, l2⟩ := lsF_fn hp.fn.2 hq.fn.2
      rw [gt_num g0.1 l0.1 g0.2 l0.2] at k
      have k' : place (grF p.1 q.1) ≤ place (lsF p.2 q.2) := by simpa using k
      have e1 : place (grF p.1 q.1) = place p.1 ∨ place (grF p.1 q.1) = place q.1 := by rcases grF_two p.1 q.1 with h | h <;> rw [h] <;> simp
      have e2 : place (lsF p.2 q.2) = place p.2 ∨ place (lsF p.2 q.2) = place q.2 := by rcases lsF_two p.2 q.2 with h | h <;> rw [h] <;> simp
      have hp' := hp.pl
      have hq' := hq.pl
      exact ⟨RtP.mk g0 l0 k' (by simp only; omega) (by simp only; omega), ⟨g1, l1⟩, ⟨g2, l2⟩⟩
    · exact ⟨(0, 0), 150, fun w _ => smeet_yes p.1 p.2 q.1 q.2 _ _ true rfl rfl k p1 p2 q1 q2 hr w, Or.inr rfl⟩
set_option maxRecDepth 100000 in
set_option maxHeartbeats 2000000 in
theorem within_law (a0 a1 b0 b1 c0 c1 d0 d1 : Nat) (ha0 : a0 < 18446744073709551616) (ha1 : a1 < 18446744073709551616) (hb0 : b0 < 18446744073709551616) (hb1 : b1 < 18446744073709551616) (hc0 : c0 < 18446744073709551616) (hc1 : c1 < 18446744073709551616) (hd0 : d0 < 18446744073709551616) (hd1 : d1 < 18446744073709551616) (w : World) (hT : TabW w) :
    Calls Tryd.prog 3 #[foV a0 a1 b0 b1 c0 c1 d0 d1] w fun e w' => e = .returned (.bool true) ∧ Below w.heap.size w w' := by
  obtain ⟨⟨x0, x1⟩, f1, mt1, h1⟩ := meet_C (a0, a1) (c0, c1) ha0 ha1 hc0 hc1
  obtain ⟨⟨y0, y1⟩, f2, mt2, h2⟩ := meet_C (b0, b1) (d0, d1) hb0 hb1 hd0 hd1
  rcases h1 with ⟨rfl, ra, rc, rx, wa, wc⟩ | h1
  · rcases h2 with ⟨rfl, rb, rd, ry, wb, wd⟩ | h2
    · have D : ∃ (u v : Nat × Nat) (e1 e2 : Int), C2 11 (x0, x1) (y0, y1) u e1 ∧ C2 11 (a0, a1) (b0, b1) v e2 ∧ ((e2 = 0 ∧ e1 = 0 ∧ (∀ w, Calls Tryd.prog 7 #[spV u.1 u.2, spV v.1 v.2] w fun e w' => e = .returned (.bool true) ∧ Below w.heap.size w w')) ∨ e2 = 7) := by
        cases h0 : (leF (b0, b1).1 0 && leF 0 (b0, b1).2)
        · have n0 := no0_in ry rb wb h0
          have nb := no0_of rb h0
          have ny := no0_of ry n0
          exact ⟨_, _, 0, 0, div_C rx ry n0, div_C ra rb h0, Or.inl ⟨rfl, rfl, in_C (diP_rt rx ry ny) (diP_rt ra rb nb) (diP_wt rx ry ra rb wa wb nb ny)⟩⟩
        · cases n0 : (leF (y0, y1).1 0 && leF 0 (y0, y1).2)
          · exact ⟨_, _, 0, 7, div_C rx ry n0, div_C0 ra rb h0, Or.inr rfl⟩
          · exact ⟨_, _, 7, 7, div_C0 rx ry n0, div_C0 ra rb h0, Or.inr rfl⟩
      have R : ∃ (o r : Nat × Nat) (e3 e4 : Int), C1 13 (x0, x1) o e3 ∧ C1 13 (a0, a1) r e4 ∧ ((e4 = 0 ∧ e3 = 0 ∧ (∀ w, Calls Tryd.prog 7 #[spV o.1 o.2, spV r.1 r.2] w fun e w' => e = .returned (.bool true) ∧ Below w.heap.size w w')) ∨ e4 = 2) := by
        by_cases h0 : 0 ≤ place (a0, a1).1
        · have h3 : 0 ≤ place (x0, x1).1 := Int.le_trans h0 wa.1
          exact ⟨_, _, 0, 0, sqrt_C rx h3, sqrt_C ra h0, Or.inl ⟨rfl, rfl, in_C (sqP_rt rx h3) (sqP_rt ra h0) (sqP_wt rx ra wa h0)⟩⟩
        · by_cases h3 : 0 ≤ place (x0, x1).1
          · exact ⟨_, _, 0, 2, sqrt_C rx h3, sqrt_C0 ra h0, Or.inr rfl⟩
          · exact ⟨_, _, 2, 2, sqrt_C0 rx h3, sqrt_C0 ra h0, Or.inr rfl⟩
      obtain ⟨⟨u0, u1⟩, ⟨v0, v1⟩, e1, e2, D1, D2, D3⟩ := D
      obtain ⟨⟨o0, o1⟩, ⟨r0, r1⟩, e3, e4, R1, R2, R3⟩ := R
      have I1 := in_C rx ra wa
      have I2 := in_C rx rc wc
      have I3 := in_C ry rb wb
      have A1 := add_C rx ry
      have A2 := add_C ra rb
      have M1 := mul_C rx ry
      have M2 := mul_C ra rb
      have S1 := sub_C rx ry
      have S2 := sub_C ra rb
      have Q1 := square_C rx
      have Q2 := square_C ra
      have J1 := in_C (adP_rt rx ry) (adP_rt ra rb) (adP_wt rx ry ra rb wa wb)
      have J2 := in_C (muP_rt rx ry) (muP_rt ra rb) (muP_wt rx ry ra rb wa wb)
      have J3 := in_C (adP_rt rx (ngP_rt ry)) (adP_rt ra (ngP_rt rb)) (adP_wt rx (ngP_rt ry) ra (ngP_rt rb) wa (ngP_wt ry rb wb))
      have J5 := in_C (squP_rt rx) (squP_rt ra) (squP_wt rx ra wa)
      obtain ⟨⟨s0, s1⟩, es⟩ : ∃ t, adP (x0, x1) (y0, y1) = t := ⟨_, rfl⟩
      rw [es] at A1 J1
      obtain ⟨⟨t0, t1⟩, et⟩ : ∃ t, adP (a0, a1) (b0, b1) = t := ⟨_, rfl⟩
      rw [et] at A2 J1
      obtain ⟨⟨m0, m1⟩, em⟩ : ∃ t, muP (x0, x1) (y0, y1) = t := ⟨_, rfl⟩
      rw [em] at M1 J2
      obtain ⟨⟨n0, n1⟩, en⟩ : ∃ t, muP (a0, a1) (b0, b1) = t := ⟨_, rfl⟩
      rw [en] at M2 J2
      obtain ⟨⟨k0, k1⟩, ek⟩ : ∃ t, adP (x0, x1) (ngP (y0, y1)) = t := ⟨_, rfl⟩
      rw [ek] at S1 J3
      obtain ⟨⟨l0, l1⟩, el⟩ : ∃ t, adP (a0, a1) (ngP (b0, b1)) = t := ⟨_, rfl⟩
      rw [el] at S2 J3
      obtain ⟨⟨p0, p1⟩, ep⟩ : ∃ t, squP (x0, x1) = t := ⟨_, rfl⟩
      rw [ep] at Q1 J5
      obtain ⟨⟨q0, q1⟩, eq⟩ : ∃ t, squP (a0, a1) = t := ⟨_, rfl⟩
      rw [eq] at Q2 J5
      exact within_walk a0 a1 b0 b1 c0 c1 d0 d1 x0 x1 y0 y1 s0 s1 t0 t1 m0 m1 n0 n1 k0 k1 l0 l1 u0 u1 v0 v1 p0 p1 q0 q1 o0 o1 r0 r1 e1 e2 e3 e4 mt1 mt2 I1 I2 I3 A1 A2 M1 M2 S1 S2 J1 J2 J3 D1 D2 D3 Q1 Q2 J5 R1 R2 R3 w hT
    · exact within_out a0 a1 b0 b1 c0 c1 d0 d1 x0 x1 y0 y1 0 f2 mt1 mt2 (Or.inr ⟨rfl, h2⟩) w hT
  · exact within_out a0 a1 b0 b1 c0 c1 d0 d1 x0 x1 y0 y1 f1 f2 mt1 mt2 (Or.inl h1) w hT
end Go.Proofs.YtpnbhgnejcpchaaDoor
