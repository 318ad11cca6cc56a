/- What bars' springs tells of a member: the walk, over its calls' contracts. -/
import Derived.Test.YtfipmopmpacdaaaGreatDoorBE
import Derived.Test.YtfipmopmpacdaaaGreatDoorBF
namespace Go.Proofs.YtfipmopmpacdaaaGreatDoor
open Go.RowKit
theorem sgrow_one (w : World) (a : Sg) (t : TypeId) : SgRow (w.alloc (sgO a t)) (some ⟨w.heap.size, 0, none⟩) [a] := by
 refine Or.inr ⟨_, 0, rfl, fun k hk => ?_⟩
 obtain rfl : k = 0 := by simp at hk; omega
 exact ⟨by go_simp, by go_simp, by go_simp, by go_simp, by go_simp, by go_simp, by go_simp, by go_simp, by go_simp, by go_simp, by go_simp⟩
abbrev sgO2 (s t : Sg) (ty : TypeId) : Obj := .cells #[.int .i64 s.m, .int .u8 s.k, .int .i64 s.r.r0, .int .i64 s.r.r1, .int .i64 s.r.r2, .int .i64 s.r.r3, .int .i64 s.r.r4, .int .i64 s.r.r5, .float .f64 s.a.1.1, .float .f64 s.a.1.2, .float .f64 s.a.2, .int .i64 t.m, .int .u8 t.k, .int .i64 t.r.r0, .int .i64 t.r.r1, .int .i64 t.r.r2, .int .i64 t.r.r3, .int .i64 t.r.r4, .int .i64 t.r.r5, .float .f64 t.a.1.1, .float .f64 t.a.1.2, .float .f64 t.a.2] ty
abbrev sgO3 (s t u : Sg) (ty : TypeId) : Obj := .cells #[.int .i64 s.m, .int .u8 s.k, .int .i64 s.r.r0, .int .i64 s.r.r1, .int .i64 s.r.r2, .int .i64 s.r.r3, .int .i64 s.r.r4, .int .i64 s.r.r5, .float .f64 s.a.1.1, .float .f64 s.a.1.2, .float .f64 s.a.2, .int .i64 t.m, .int .u8 t.k, .int .i64 t.r.r0, .int .i64 t.r.r1, .int .i64 t.r.r2, .int .i64 t.r.r3, .int .i64 t.r.r4, .int .i64 t.r.r5, .float .f64 t.a.1.1, .float .f64 t.a.1.2, .float .f64 t.a.2, .int .i64 u.m, .int .u8 u.k, .int .i64 u.r.r0, .int .i64 u.r.r1, .int .i64 u.r.r2, .int .i64 u.r.r3, .int .i64 u.r.r4, .int .i64 u.r.r5, .float .f64 u.a.1.1, .float .f64 u.a.1.2, .float .f64 u.a.2] ty
theorem sgrow_two (w : World) (a b : Sg) (t : TypeId) : SgRow (w.alloc (sgO2 a b t)) (some ⟨w.heap.size, 0, none⟩) [a, b] := by
 refine Or.inr ⟨_, 0, rfl, fun k hk => ?_⟩
 rcases (show k = 0 ∨ k = 1 by simp at hk; omega) with rfl | rfl <;>
 exact ⟨by go_simp, by go_simp, by go_simp, by go_simp, by go_simp, by go_simp, by go_simp, by go_simp, by go_simp, by go_simp, by go_simp⟩
theorem sgrow_three (w : World) (a b c : Sg) (t : TypeId) : SgRow (w.alloc (sgO3 a b c t)) (some ⟨w.heap.size, 0, none⟩) [a, b, c] := by
 refine Or.inr ⟨_, 0, rfl, fun k hk => ?_⟩
 rcases (show k = 0 ∨ k = 1 ∨ k = 2 by simp at hk; omega) with rfl | rfl | rfl <;>
 exact ⟨by go_simp, by go_simp, by go_simp, by go_simp, by go_simp, by go_simp, by go_simp, by go_simp, by go_simp, by go_simp, by go_simp⟩
theorem below_el {B g : Nat} {w w' : World} (h : Below B w w') (hg : B ≤ g) (x0 x1 x2 x3 x4 x5 x6 x7 x8 x9 x10 : Value) : Below B w (((((((((((w'.setCell ⟨g, 0, none⟩ x0).setCell ⟨g, 1, none⟩ x1).setCell ⟨g, 2, none⟩ x2).setCell ⟨g, 3, none⟩ x3).setCell ⟨g, 4, none⟩ x4).setCell ⟨g, 5, none⟩ x5).setCell ⟨g, 6, none⟩ x6).setCell ⟨g, 7, none⟩ x7).setCell ⟨g, 8, none⟩ x8).setCell ⟨g, 9, none⟩ x9).setCell ⟨g, 10, none⟩ x10) := (Below.setCell (Below.setCell (Below.setCell (Below.setCell (Below.setCell (Below.setCell (Below.setCell (Below.setCell (Below.setCell (Below.setCell (Below.setCell h (p := ⟨g, 0, none⟩) hg _) (p := ⟨g, 1, none⟩) hg _) (p := ⟨g, 2, none⟩) hg _) (p := ⟨g, 3, none⟩) hg _) (p := ⟨g, 4, none⟩) hg _) (p := ⟨g, 5, none⟩) hg _) (p := ⟨g, 6, none⟩) hg _) (p := ⟨g, 7, none⟩) hg _) (p := ⟨g, 8, none⟩) hg _) (p := ⟨g, 9, none⟩) hg _) (p := ⟨g, 10, none⟩) hg _)
set_option maxHeartbeats 4000000 in
theorem SBox.put {w : World} {b : Nat} {s : Sg} (h : SBox w b s) (t : Sg) : SBox (((((((((((w.setCell ⟨b, 0, none⟩ (.int .i64 t.m)).setCell ⟨b, 1, none⟩ (.int .u8 t.k)).setCell ⟨b, 2, none⟩ (.int .i64 t.r.r0)).setCell ⟨b, 3, none⟩ (.int .i64 t.r.r1)).setCell ⟨b, 4, none⟩ (.int .i64 t.r.r2)).setCell ⟨b, 5, none⟩ (.int .i64 t.r.r3)).setCell ⟨b, 6, none⟩ (.int .i64 t.r.r4)).setCell ⟨b, 7, none⟩ (.int .i64 t.r.r5)).setCell ⟨b, 8, none⟩ (.float .f64 t.a.1.1)).setCell ⟨b, 9, none⟩ (.float .f64 t.a.1.2)).setCell ⟨b, 10, none⟩ (.float .f64 t.a.2)) b t := by
 obtain ⟨⟨c0, c1, c2, c3, c4, c5, c6, c7, c8, c9, c10⟩, hf, lt⟩ := h
 simp only [Nat.zero_add] at c0 c1 c2 c3 c4 c5 c6 c7 c8 c9 c10
 have f0 := hf 0 (by decide)
 have f1 := hf 1 (by decide)
 have f2 := hf 2 (by decide)
 have f3 := hf 3 (by decide)
 have f4 := hf 4 (by decide)
 have f5 := hf 5 (by decide)
 have f6 := hf 6 (by decide)
 have f7 := hf 7 (by decide)
 have f8 := hf 8 (by decide)
 have f9 := hf 9 (by decide)
 have f10 := hf 10 (by decide)
 refine ⟨⟨by go_simp, by go_simp, by go_simp, by go_simp, by go_simp, by go_simp, by go_simp, by go_simp, by go_simp, by go_simp, by go_simp⟩, fun i hi => ?_, by simpa [World.setCell] using lt⟩
 have := hf i hi
 simp [go_sem, this]
abbrev CX (F : Nat) (x : Nat) (r : Am) : Prop := ∀ w, Calls Tryz.prog F #[.float .f64 x] w fun e w' => e = .returned (amV r) ∧ Below w.heap.size w w'
abbrev CP (a : Am) (bs : List Am) (n : Nat) (r : Am) : Prop := ∀ ao w, ARow w ao bs → TabW w → Calls Tryz.prog 34 #[amV a, .slice ao n n] w fun e w' => e = .returned (amV r) ∧ Below w.heap.size w w'
abbrev CQ (a b r : Am) : Prop := ∀ w, TabW w → Calls Tryz.prog 36 #[amV a, amV b] w fun e w' => e = .returned (amV r) ∧ Below w.heap.size w w'
structure BeamC (xi : Nat) (L S E1 B AC EN : Am) : Prop where
 h : ∃ I1 T B3 SSL : Am, CX 33 xi I1 ∧ CP E1 [I1] 1 B ∧ CX 33 4613937818241073152 T ∧ CP T [B] 1 B3 ∧ CP S [S, L] 2 SSL ∧ CQ B3 SSL AC ∧ CQ B L EN
def SgTold (w : World) (l : List Sg) (e : Ending) (w' : World) : Prop := ∃ g c, e = .returned (.slice (some ⟨g, 0, none⟩) l.length c) ∧ SgRow w' (some ⟨g, 0, none⟩) l ∧ Below w.heap.size w w' ∧ w.heap.size ≤ g
def spL (m : Mb) (dx dy l2 : Int) (AX AC EN : Am) : List Sg :=
 if m.kd = 1 ∨ (m.ha = true ∧ m.hb = true) then [⟨0, 1, ⟨-dx, -dy, 0, dx, dy, 0⟩, AX⟩]
 else if m.ha then [⟨0, 1, ⟨-dx, -dy, 0, dx, dy, 0⟩, AX⟩, ⟨0, 4, ⟨-dy, dx, 0, dy, -dx, l2⟩, AC⟩]
 else if m.hb then [⟨0, 1, ⟨-dx, -dy, 0, dx, dy, 0⟩, AX⟩, ⟨0, 4, ⟨-dy, dx, l2, dy, -dx, 0⟩, AC⟩]
 else [⟨0, 1, ⟨-dx, -dy, 0, dx, dy, 0⟩, AX⟩, ⟨0, 2, ⟨-2 * dy, 2 * dx, l2, 2 * dy, -2 * dx, l2⟩, AC⟩, ⟨0, 3, ⟨0, 0, 1, 0, 0, -1⟩, EN⟩]
set_option maxRecDepth 100000 in
set_option maxHeartbeats 32000000 in
theorem springs_walk (m : Mb) (p q : Jn) (dx dy l2 : Int) (hx : -2097152 ≤ dx ∧ dx ≤ 2097152) (hy : -2097152 ≤ dy ∧ dy ≤ 2097152) (sF : Nat) (hF : floatOfInt .f64 l2 = sF) (L S E1 A1 P SL AX B AC EN : Am)
  (cA : ∀ w, Calls Tryz.prog 31 #[jV p, jV q] w fun e w' => e = .returned (.tuple #[.int .i64 dx, .int .i64 dy, .int .i64 l2]) ∧ Below w.heap.size w w')
  (cL : ∀ w, TabW w → Calls Tryz.prog 32 #[jV p, jV q] w fun e w' => e = .returned (amV L) ∧ Below w.heap.size w w')
  (cS : CX 33 sF S) (cE : CX 33 m.e E1) (cR : CX 33 m.ar A1) (cP : CP E1 [A1] 1 P) (cSL : CP S [L] 1 SL) (cQ : CQ P SL AX)
  (cG : ∀ (k : Nat) r a w, Calls Tryz.prog 35 #[.int .u8 k, r6V r, amV a] w fun e w' => e = .returned (sgV ⟨0, k, r, a⟩) ∧ Below w.heap.size w w')
  (hB : (m.kd = 1 ∨ (m.ha = true ∧ m.hb = true)) ∨ BeamC m.i L S E1 B AC EN) (w : World) (hT : TabW w) :
  Calls Tryz.prog 17 #[mV m, jV p, jV q] w (SgTold w (spL m dx dy l2 AX AC EN)) := by
 have hst := run_storef Tryz.prog
 obtain ⟨ms, mk, ma, mb, ha, hb, me, mar, mi⟩ := m
 obtain ⟨ps, px, py, pf⟩ := p
 obtain ⟨qs, qx, qy, qf⟩ := q
 unfold mV jV
 unfold jV at cA cL
 unfold amV at cL
 simp only [CX, CP, CQ, amV, sgV, r6V] at cS cE cR cP cSL cQ cG
 simp only at *
 obtain ⟨W0, eW⟩ : ∃ W0, ((w.alloc (mO ⟨ms, mk, ma, mb, ha, hb, me, mar, mi⟩ 38)).alloc (.cells #[.string ps, .int .i32 px, .int .i32 py, .int .u8 pf] 40)).alloc (.cells #[.string qs, .int .i32 qx, .int .i32 qy, .int .u8 qf] 40) = W0 := ⟨_, rfl⟩
 have hb0 : Below w.heap.size w W0 := by rw [← eW]; exact (((Below.refl _ _).alloc (Nat.le_refl _) _).alloc (by simp) _).alloc (by simp; omega) _
 have MX : MBox W0 w.heap.size ⟨ms, mk, ma, mb, ha, hb, me, mar, mi⟩ := by
  rw [← eW]
  exact ((MBox.new w _ _).alloc _).alloc _
 have J0 : JBox W0 (w.heap.size + 1) (.string ps) (.int .i32 px) (.int .i32 py) (.int .u8 pf) := by
  have := (JBox.new (w.alloc (mO ⟨ms, mk, ma, mb, ha, hb, me, mar, mi⟩ 38)) (.string ps) (.int .i32 px) (.int .i32 py) (.int .u8 pf) 40).alloc (.cells #[.string qs, .int .i32 qx, .int .i32 qy, .int .u8 qf] 40)
  rw [eW] at this
  simpa using this
 have J1 : JBox W0 (w.heap.size + 1 + 1) (.string qs) (.int .i32 qx) (.int .i32 qy) (.int .u8 qf) := by
  have := (JBox.new ((w.alloc (mO ⟨ms, mk, ma, mb, ha, hb, me, mar, mi⟩ 38)).alloc (.cells #[.string ps, .int .i32 px, .int .i32 py, .int .u8 pf] 40)) (.string qs) (.int .i32 qx) (.int .i32 qy) (.int .u8 qf) 40)
  rw [eW] at this
  simpa using this
 obtain ⟨j0, j1, j2, j3, _, _, _, _, _⟩ := id J0
 obtain ⟨k0, k1, k2, k3, _, _, _, _, _⟩ := id J1
 go_enter Tryz.func17, Tryz.ntmps17
 go_upto_region 2 with (go_at_call 31; refine (cA _).mono ?_; rintro e w1 ⟨rfl, b1⟩)
 clear eW j0 j1 j2 j3 k0 k1 k2 k3
 replace MX := MX.below b1
 replace J0 := J0.below b1
 replace J1 := J1.below b1
 have hb1 := hb0.trans (b1.mono hb0.size)
 have T1 := tabW_below hT hb1
 clear hb0 b1 cA
 obtain ⟨j0, j1, j2, j3, _, _, _, _, _⟩ := id J0
 obtain ⟨k0, k1, k2, k3, _, _, _, _, _⟩ := id J1
 go_upto_region 3 with (first
  | (go_at_call 32; refine (cL _ T1).mono ?_; rintro e w2 ⟨rfl, b2⟩)
  | (go_at_call 33; refine (cS _).mono ?_; rintro e w3 ⟨rfl, b3⟩))
 have st := ((Below.refl w3.heap.size w3).alloc (Nat.le_refl _) (.cells #[.float .f64 L.1.1, .float .f64 L.1.2, .float .f64 L.2] 86)).alloc (by simp) (.cells #[.float .f64 S.1.1, .float .f64 S.1.2, .float .f64 S.2] 86)
 have LB := (T3.new w3 (.float .f64 L.1.1) (.float .f64 L.1.2) (.float .f64 L.2) 86).below ((Below.refl _ _).alloc (Nat.le_refl _) (.cells #[.float .f64 S.1.1, .float .f64 S.1.2, .float .f64 S.2] 86))
 have SB := T3.new (w3.alloc (.cells #[.float .f64 L.1.1, .float .f64 L.1.2, .float .f64 L.2] 86)) (.float .f64 S.1.1) (.float .f64 S.1.2) (.float .f64 S.2) 86
 rw [show (w3.alloc (.cells #[.float .f64 L.1.1, .float .f64 L.1.2, .float .f64 L.2] 86)).heap.size = w3.heap.size + 1 by simp] at SB
 have b4 := (b2.trans (b3.mono b2.size)).trans (st.mono (b2.trans (b3.mono b2.size)).size)
 replace MX := MX.below b4
 have hb4 := hb1.trans (b4.mono hb1.size)
 clear j0 j1 j2 j3 k0 k1 k2 k3 J0 J1 b4 st b2 b3 T1 hb1 cL cS hF hst
 generalize (w3.alloc (.cells #[.float .f64 L.1.1, .float .f64 L.1.2, .float .f64 L.2] 86)).alloc (.cells #[.float .f64 S.1.1, .float .f64 S.1.2, .float .f64 S.2] 86) = V2 at *
 generalize w3.heap.size = gl at *
 generalize gl + 1 = gs at *
 have T2 := tabW_below hT hb4
 obtain ⟨x0, x1, x2, x3, x4, x5, x6, x7, x8⟩ := MX.at0
 simp only [Nat.zero_add] at x0 x1 x2 x3 x4 x5 x6 x7 x8
 have wdx : IntKind.i64.wrap (-dx) = -dx := by rw [IntKind.wrap_i64]; omega
 have wdy : IntKind.i64.wrap (-dy) = -dy := by rw [IntKind.wrap_i64]; omega
 have cG1 : ∀ w, Calls Tryz.prog 35 #[.int .u8 1, .agg #[.int .i64 (-dx), .int .i64 (-dy), .int .i64 0, .int .i64 dx, .int .i64 dy, .int .i64 0], .agg #[.float .f64 AX.1.1, .float .f64 AX.1.2, .float .f64 AX.2]] w fun e w' => e = .returned (.agg #[.int .i64 0, .int .u8 1, .int .i64 (-dx), .int .i64 (-dy), .int .i64 0, .int .i64 dx, .int .i64 dy, .int .i64 0, .float .f64 AX.1.1, .float .f64 AX.1.2, .float .f64 AX.2]) ∧ Below w.heap.size w w' := fun w => cG 1 ⟨-dx, -dy, 0, dx, dy, 0⟩ AX w
 go_upto_region 3 with fail
 obtain ⟨FL, hFL⟩ : ∃ fz : Nat → Lz, fz = (fun j => match j with | 0 => .is (.pointer (some ⟨w.heap.size, 6, none⟩)) | 1 => .is (.float .f64 me) | 2 => .is (.agg #[.float .f64 E1.1.1, .float .f64 E1.1.2, .float .f64 E1.2]) | 3 => .is (.pointer (some ⟨w.heap.size, 7, none⟩)) | 4 => .is (.float .f64 mar) | 5 => .is (.agg #[.float .f64 A1.1.1, .float .f64 A1.1.2, .float .f64 A1.2]) | 6 => .gn (fun a x => ∃ g, x = .slice (some ⟨g, 0, none⟩) 1 1 ∧ ARow a (some ⟨g, 0, none⟩) [A1]) (fun a a' x h hb => h.elim fun g h => ⟨g, h.1, h.2.below hb⟩) | 7 => .is (.agg #[.float .f64 P.1.1, .float .f64 P.1.2, .float .f64 P.2]) | 8 => .gn (fun a x => ∃ g, x = .pointer (some ⟨g, 0, none⟩) ∧ T3 a g (.float .f64 0) (.float .f64 0) (.float .f64 0) ∧ V2.heap.size ≤ g) (fun a a' x h hb => h.elim fun g h => ⟨g, h.1, h.2.1.below hb, h.2.2⟩) | 9 => .tr | _ => .tr) := ⟨_, rfl⟩
 have F0 := congrFun hFL 0
 have F1 := congrFun hFL 1
 have F2 := congrFun hFL 2
 have F3 := congrFun hFL 3
 have F4 := congrFun hFL 4
 have F5 := congrFun hFL 5
 have F6 := congrFun hFL 6
 have F7 := congrFun hFL 7
 have F8 := congrFun hFL 8
 have F9 := congrFun hFL 9
 simp only at F0 F1 F2 F3 F4 F5 F6 F7 F8 F9
 clear hFL
 refine region_rgY (by kernel_rfl) (fun vv => ⟨#[.agg #[.string ms, .int .u8 ↑mk, .int .i64 ma, .int .i64 mb, .bool ha, .bool hb, .float .f64 me, .float .f64 mar, .float .f64 mi], .agg #[.string ps, .int .i32 px, .int .i32 py, .int .u8 ↑pf], .agg #[.string qs, .int .i32 qx, .int .i32 qy, .int .u8 ↑qf], .pointer (some ⟨w.heap.size, 0, none⟩), .pointer (some ⟨w.heap.size + 1, 0, none⟩), .pointer (some ⟨w.heap.size + 1 + 1, 0, none⟩), .slice none 0 0, .int .i64 dx, .int .i64 dy, .int .i64 l2, .pointer (some ⟨gl, 0, none⟩), .pointer (some ⟨gs, 0, none⟩), vv 8, undef, undef, undef, undef, undef, .tuple #[.int .i64 dx, .int .i64 dy, .int .i64 l2], .agg #[.string ps, .int .i32 px, .int .i32 py, .int .u8 ↑pf], .agg #[.string qs, .int .i32 qx, .int .i32 qy, .int .u8 ↑qf], .tuple #[.int .i64 dx, .int .i64 dy, .int .i64 l2], .int .i64 dx, .int .i64 dy, .int .i64 l2, .agg #[.string ps, .int .i32 px, .int .i32 py, .int .u8 ↑pf], .agg #[.string qs, .int .i32 qx, .int .i32 qy, .int .u8 ↑qf], .agg #[.float .f64 L.fst.fst, .float .f64 L.fst.snd, .float .f64 L.snd], .int .i64 l2, .float .f64 sF, .agg #[.float .f64 S.fst.fst, .float .f64 S.fst.snd, .float .f64 S.snd], vv 0, vv 1, vv 2, vv 3, vv 4, vv 5, vv 6, vv 7, undef, undef, undef, undef, undef, undef, undef, undef, undef, undef, undef, undef, undef, undef, undef, undef, undef, undef, undef, undef, undef, undef, undef, undef, undef, undef, undef, undef, undef, undef, undef, undef, undef, undef, undef, undef, undef, undef, undef, undef, undef, undef, undef, undef, undef, undef, undef, undef, undef, undef, undef, undef, undef, undef, undef, undef, undef, undef, undef, undef, undef, undef, undef, undef, undef, undef, undef, undef, undef, undef, undef, undef, undef, undef, undef, undef, undef, undef, undef, undef, undef, undef, undef, undef, undef, undef, undef, undef, undef, undef, undef, undef, undef, undef, undef, undef, undef], []⟩) 9 FL (fun wz vz => ∃ g, vz 8 = .pointer (some ⟨g, 0, none⟩) ∧ T3 wz g (.float .f64 P.1.1) (.float .f64 P.1.2) (.float .f64 P.2) ∧ Below V2.heap.size V2 wz) (fun j => match j with  | _ => undef) rfl ?_ ?_
 ·intro Lq vv wq i hL hS hD hi
  obtain ⟨hr1, hr2, hr3⟩ := mem_ready hi
  have hr1 : i < 10 := hr1
  try dsimp only
  have hcs : i = 0 ∨ i = 1 ∨ i = 2 ∨ i = 3 ∨ i = 4 ∨ i = 5 ∨ i = 6 ∨ i = 7 ∨ i = 8 ∨ i = 9 := by omega
  clear hr1 hr2 hr3
  have hns := hS.open hL hi
  have hB := hS.a hns
  rcases hcs with rfl | rfl | rfl | rfl | rfl | rfl | rfl | rfl | rfl | rfl
  ·refine wpOpT_of (fun K hK => ?_)
   unfold wpOp
   go_simp
   refine Or.inl ?_
   exact hK _ _ ⟨putT vv 0 (.pointer (some ⟨w.heap.size, 6, none⟩)), (by simp [putT]), hS.step hL hi (by decide) (Below.refl _ _) (Lz.toIs F0)⟩
  ·have e0 := Lz.ofIs (hS.f hns 0 (ready_dep hi 0 (by kernel_rfl))) F0
   have r6 := (hB.cell (p := ⟨w.heap.size, 6, none⟩) MX.lt).trans x6
   refine wpOpT_of (fun K hK => ?_)
   unfold wpOp
   simp only [e0]
   go_simp
   refine Or.inl ?_
   exact hK _ _ ⟨putT vv 1 (.float .f64 me), (by simp [putT, e0]), hS.step hL hi (by decide) (Below.refl _ _) (Lz.toIs F1)⟩
  ·have e1 := Lz.ofIs (hS.f hns 1 (ready_dep hi 1 (by kernel_rfl))) F1
   refine wpOpT_of (fun K hK => ?_)
   unfold wpOp
   simp only [e1]
   go_simp
   refine Or.inl ?_
   go_at_call 33
   refine (cE _).mono ?_
   rintro e w1 ⟨rfl, bc⟩
   exact hK _ _ ⟨putT vv 2 (.agg #[.float .f64 E1.1.1, .float .f64 E1.1.2, .float .f64 E1.2]), (by simp [putT, e1]), hS.step hL hi (by decide) (bc) (Lz.toIs F2)⟩
  ·refine wpOpT_of (fun K hK => ?_)
   unfold wpOp
   go_simp
   refine Or.inl ?_
   exact hK _ _ ⟨putT vv 3 (.pointer (some ⟨w.heap.size, 7, none⟩)), (by simp [putT]), hS.step hL hi (by decide) (Below.refl _ _) (Lz.toIs F3)⟩
  ·have e3 := Lz.ofIs (hS.f hns 3 (ready_dep hi 3 (by kernel_rfl))) F3
   have r7 := (hB.cell (p := ⟨w.heap.size, 7, none⟩) MX.lt).trans x7
   refine wpOpT_of (fun K hK => ?_)
   unfold wpOp
   simp only [e3]
   go_simp
   refine Or.inl ?_
   exact hK _ _ ⟨putT vv 4 (.float .f64 mar), (by simp [putT, e3]), hS.step hL hi (by decide) (Below.refl _ _) (Lz.toIs F4)⟩
  ·have e4 := Lz.ofIs (hS.f hns 4 (ready_dep hi 4 (by kernel_rfl))) F4
   refine wpOpT_of (fun K hK => ?_)
   unfold wpOp
   simp only [e4]
   go_simp
   refine Or.inl ?_
   go_at_call 33
   refine (cR _).mono ?_
   rintro e w1 ⟨rfl, bc⟩
   exact hK _ _ ⟨putT vv 5 (.agg #[.float .f64 A1.1.1, .float .f64 A1.1.2, .float .f64 A1.2]), (by simp [putT, e4]), hS.step hL hi (by decide) (bc) (Lz.toIs F5)⟩
  ·have e5 := Lz.ofIs (hS.f hns 5 (ready_dep hi 5 (by kernel_rfl))) F5
   refine wpOpT_of (fun K hK => ?_)
   unfold wpOp
   simp only [e5]
   go_simp
   refine Or.inl ?_
   exact hK _ _ ⟨putT vv 6 (.slice (some ⟨wq.heap.size, 0, none⟩) 1 1), (by simp [putT, e5]), hS.step hL hi (by decide) ((Below.refl _ _).alloc (Nat.le_refl _) _) (Lz.toGn F6 (⟨_, rfl, arow_one _ _ _⟩))⟩
  ·have e2 := Lz.ofIs (hS.f hns 2 (ready_dep hi 2 (by kernel_rfl))) F2
   obtain ⟨g6, e6, u6⟩ := Lz.ofGn (hS.f hns 6 (ready_dep hi 6 (by kernel_rfl))) F6
   refine wpOpT_of (fun K hK => ?_)
   unfold wpOp
   simp only [e2, e6]
   go_simp
   refine Or.inl ?_
   go_at_call 34
   refine (cP _ _ u6 (tabW_below T2 hB)).mono ?_
   rintro e w1 ⟨rfl, bc⟩
   exact hK _ _ ⟨putT vv 7 (.agg #[.float .f64 P.1.1, .float .f64 P.1.2, .float .f64 P.2]), (by simp [putT, e2, e6]), hS.step hL hi (by decide) (bc) (Lz.toIs F7)⟩
  ·refine wpOpT_of (fun K hK => ?_)
   unfold wpOp
   go_simp
   refine Or.inl ?_
   exact hK _ _ ⟨putT vv 8 (.pointer (some ⟨wq.heap.size, 0, none⟩)), (by simp [putT]), hS.step hL hi (by decide) ((Below.refl _ _).alloc (Nat.le_refl _) _) (Lz.toGn F8 (⟨_, rfl, T3.new _ _ _ _ _, hB.size⟩))⟩
  ·have e7 := Lz.ofIs (hS.f hns 7 (ready_dep hi 7 (by kernel_rfl))) F7
   obtain ⟨g8, e8, u8, l8⟩ := Lz.ofGn (hS.f hns 8 (ready_dep hi 8 (by kernel_rfl))) F8
   have hst := run_storef Tryz.prog
   obtain ⟨s0, s1, s2, f0, f1, f2, _⟩ := id u8
   refine wpOpT_of (fun K hK => ?_)
   unfold wpOp
   simp only [e7, e8]
   go_simp
   refine Or.inl ?_
   exact hK _ _ ⟨putT vv 9 undef, (by simp [putT, e7, e8]), hS.last hL hi (allY hD hi (by kernel_rfl)) (⟨g8, (by simp [putT, e8]), ((u8.set0 _).set1 _).set2 _, below_thr hB l8 _ _ _⟩)⟩
 ·intro Lq vv wq hL hS hr
  have on := all_done hL hr (by kernel_rfl)
  obtain ⟨gp, hq, PB, bq⟩ := hS.z (on 9 (by decide))
  try dsimp only
  rw [hq]
  generalize vv 0 = gpy0 at *
  generalize vv 1 = gpy1 at *
  generalize vv 2 = gpy2 at *
  generalize vv 3 = gpy3 at *
  generalize vv 4 = gpy4 at *
  generalize vv 5 = gpy5 at *
  generalize vv 6 = gpy6 at *
  generalize vv 7 = gpy7 at *
  clear hS on hr FL hL Lq hq vv F0 F1 F2 F3 F4 F5 F6 F7 F8 F9
  replace MX := MX.below bq
  replace LB := LB.below bq
  replace SB := SB.below bq
  have hb5 := hb4.trans (bq.mono hb4.size)
  clear bq T2 hb4
  generalize wq = V3 at *
  have T3a := tabW_below hT hb5
  clear x0 x1 x2 x3 x4 x5 x6 x7 x8
  obtain ⟨x0, x1, x2, x3, x4, x5, x6, x7, x8⟩ := MX.at0
  simp only [Nat.zero_add] at x0 x1 x2 x3 x4 x5 x6 x7 x8
  go_upto_region 4 with fail
  obtain ⟨FL, hFL⟩ : ∃ fz : Nat → Lz, fz = (fun j => match j with | 0 => .is (.int .i64 dx) | 1 => .is (.int .i64 (-dx)) | 2 => .is (.int .i64 dy) | 3 => .is (.int .i64 (-dy)) | 4 => .is (.int .i64 dx) | 5 => .is (.int .i64 dy) | 6 => .is (.agg #[.int .i64 (-dx), .int .i64 (-dy), .int .i64 0, .int .i64 dx, .int .i64 dy, .int .i64 0]) | 7 => .is (.agg #[.float .f64 P.1.1, .float .f64 P.1.2, .float .f64 P.2]) | 8 => .is (.agg #[.float .f64 S.1.1, .float .f64 S.1.2, .float .f64 S.2]) | 9 => .is (.agg #[.float .f64 L.1.1, .float .f64 L.1.2, .float .f64 L.2]) | 10 => .gn (fun a x => ∃ g, x = .slice (some ⟨g, 0, none⟩) 1 1 ∧ ARow a (some ⟨g, 0, none⟩) [L]) (fun a a' x h hb => h.elim fun g h => ⟨g, h.1, h.2.below hb⟩) | 11 => .is (.agg #[.float .f64 SL.1.1, .float .f64 SL.1.2, .float .f64 SL.2]) | 12 => .is (.agg #[.float .f64 AX.1.1, .float .f64 AX.1.2, .float .f64 AX.2]) | 13 => .is (.agg #[.int .i64 0, .int .u8 1, .int .i64 (-dx), .int .i64 (-dy), .int .i64 0, .int .i64 dx, .int .i64 dy, .int .i64 0, .float .f64 AX.1.1, .float .f64 AX.1.2, .float .f64 AX.2]) | 14 => .gn (fun a x => ∃ g, x = .pointer (some ⟨g, 0, none⟩) ∧ SBox a g sgz ∧ V3.heap.size ≤ g) (fun a a' x h hb => h.elim fun g h => ⟨g, h.1, h.2.1.below hb, h.2.2⟩) | 15 => .tr | _ => .tr) := ⟨_, rfl⟩
  have F0 := congrFun hFL 0
  have F1 := congrFun hFL 1
  have F2 := congrFun hFL 2
  have F3 := congrFun hFL 3
  have F4 := congrFun hFL 4
  have F5 := congrFun hFL 5
  have F6 := congrFun hFL 6
  have F7 := congrFun hFL 7
  have F8 := congrFun hFL 8
  have F9 := congrFun hFL 9
  have F10 := congrFun hFL 10
  have F11 := congrFun hFL 11
  have F12 := congrFun hFL 12
  have F13 := congrFun hFL 13
  have F14 := congrFun hFL 14
  have F15 := congrFun hFL 15
  simp only at F0 F1 F2 F3 F4 F5 F6 F7 F8 F9 F10 F11 F12 F13 F14 F15
  clear hFL
  refine region_rgY (by kernel_rfl) (fun vv => ⟨#[.agg #[.string ms, .int .u8 ↑mk, .int .i64 ma, .int .i64 mb, .bool ha, .bool hb, .float .f64 me, .float .f64 mar, .float .f64 mi], .agg #[.string ps, .int .i32 px, .int .i32 py, .int .u8 ↑pf], .agg #[.string qs, .int .i32 qx, .int .i32 qy, .int .u8 ↑qf], .pointer (some ⟨w.heap.size, 0, none⟩), .pointer (some ⟨w.heap.size + 1, 0, none⟩), .pointer (some ⟨w.heap.size + 1 + 1, 0, none⟩), .slice none 0 0, .int .i64 dx, .int .i64 dy, .int .i64 l2, .pointer (some ⟨gl, 0, none⟩), .pointer (some ⟨gs, 0, none⟩), .pointer (some ⟨gp, 0, none⟩), vv 14, undef, undef, undef, undef, .tuple #[.int .i64 dx, .int .i64 dy, .int .i64 l2], .agg #[.string ps, .int .i32 px, .int .i32 py, .int .u8 ↑pf], .agg #[.string qs, .int .i32 qx, .int .i32 qy, .int .u8 ↑qf], .tuple #[.int .i64 dx, .int .i64 dy, .int .i64 l2], .int .i64 dx, .int .i64 dy, .int .i64 l2, .agg #[.string ps, .int .i32 px, .int .i32 py, .int .u8 ↑pf], .agg #[.string qs, .int .i32 qx, .int .i32 qy, .int .u8 ↑qf], .agg #[.float .f64 L.fst.fst, .float .f64 L.fst.snd, .float .f64 L.snd], .int .i64 l2, .float .f64 sF, .agg #[.float .f64 S.fst.fst, .float .f64 S.fst.snd, .float .f64 S.snd], gpy0, gpy1, gpy2, gpy3, gpy4, gpy5, gpy6, gpy7, vv 0, vv 1, vv 2, vv 3, vv 4, vv 5, vv 6, vv 7, vv 8, vv 9, vv 10, vv 11, vv 12, vv 13, undef, undef, undef, undef, undef, undef, undef, undef, undef, undef, undef, undef, undef, undef, undef, undef, undef, undef, undef, undef, undef, undef, undef, undef, undef, undef, undef, undef, undef, undef, undef, undef, undef, undef, undef, undef, undef, undef, undef, undef, undef, undef, undef, undef, undef, undef, undef, undef, undef, undef, undef, undef, undef, undef, undef, undef, undef, undef, undef, undef, undef, undef, undef, undef, undef, undef, undef, undef, undef, undef, undef, undef, undef, undef, undef, undef, undef, undef, undef, undef, undef, undef, undef], []⟩) 15 FL (fun wz vz => ∃ g, vz 14 = .pointer (some ⟨g, 0, none⟩) ∧ SBox wz g ⟨0, 1, ⟨-dx, -dy, 0, dx, dy, 0⟩, AX⟩ ∧ Below V3.heap.size V3 wz) (fun j => match j with  | _ => undef) rfl ?_ ?_
  ·intro Lq vv wq i hL hS hD hi
   obtain ⟨hr1, hr2, hr3⟩ := mem_ready hi
   have hr1 : i < 16 := hr1
   try dsimp only
   have hcs : i = 0 ∨ i = 1 ∨ i = 2 ∨ i = 3 ∨ i = 4 ∨ i = 5 ∨ i = 6 ∨ i = 7 ∨ i = 8 ∨ i = 9 ∨ i = 10 ∨ i = 11 ∨ i = 12 ∨ i = 13 ∨ i = 14 ∨ i = 15 := by omega
   clear hr1 hr2 hr3
   have hns := hS.open hL hi
   have hB := hS.a hns
   rcases hcs with rfl | rfl | rfl | rfl | rfl | rfl | rfl | rfl | rfl | rfl | rfl | rfl | rfl | rfl | rfl | rfl
   ·refine wpOpT_of (fun K hK => ?_)
    unfold wpOp
    go_simp
    refine Or.inl ?_
    exact hK _ _ ⟨putT vv 0 (.int .i64 dx), (by simp [putT]), hS.step hL hi (by decide) (Below.refl _ _) (Lz.toIs F0)⟩
   ·have e0 := Lz.ofIs (hS.f hns 0 (ready_dep hi 0 (by kernel_rfl))) F0
    refine wpOpT_of (fun K hK => ?_)
    unfold wpOp
    simp only [e0]
    go_simp
    refine Or.inl ?_
    exact hK _ _ ⟨putT vv 1 (.int .i64 (-dx)), (by simp [putT, e0]), hS.step hL hi (by decide) (Below.refl _ _) (Lz.toIs F1)⟩
   ·refine wpOpT_of (fun K hK => ?_)
    unfold wpOp
    go_simp
    refine Or.inl ?_
    exact hK _ _ ⟨putT vv 2 (.int .i64 dy), (by simp [putT]), hS.step hL hi (by decide) (Below.refl _ _) (Lz.toIs F2)⟩
   ·have e2 := Lz.ofIs (hS.f hns 2 (ready_dep hi 2 (by kernel_rfl))) F2
    refine wpOpT_of (fun K hK => ?_)
    unfold wpOp
    simp only [e2]
    go_simp
    refine Or.inl ?_
    exact hK _ _ ⟨putT vv 3 (.int .i64 (-dy)), (by simp [putT, e2]), hS.step hL hi (by decide) (Below.refl _ _) (Lz.toIs F3)⟩
   ·refine wpOpT_of (fun K hK => ?_)
    unfold wpOp
    go_simp
    refine Or.inl ?_
    exact hK _ _ ⟨putT vv 4 (.int .i64 dx), (by simp [putT]), hS.step hL hi (by decide) (Below.refl _ _) (Lz.toIs F4)⟩
   ·refine wpOpT_of (fun K hK => ?_)
    unfold wpOp
    go_simp
    refine Or.inl ?_
    exact hK _ _ ⟨putT vv 5 (.int .i64 dy), (by simp [putT]), hS.step hL hi (by decide) (Below.refl _ _) (Lz.toIs F5)⟩
   ·have e1 := Lz.ofIs (hS.f hns 1 (ready_dep hi 1 (by kernel_rfl))) F1
    have e3 := Lz.ofIs (hS.f hns 3 (ready_dep hi 3 (by kernel_rfl))) F3
    have e4 := Lz.ofIs (hS.f hns 4 (ready_dep hi 4 (by kernel_rfl))) F4
    have e5 := Lz.ofIs (hS.f hns 5 (ready_dep hi 5 (by kernel_rfl))) F5
    refine wpOpT_of (fun K hK => ?_)
    unfold wpOp
    simp only [e1, e3, e4, e5]
    go_simp
    refine Or.inl ?_
    exact hK _ _ ⟨putT vv 6 (.agg #[.int .i64 (-dx), .int .i64 (-dy), .int .i64 0, .int .i64 dx, .int .i64 dy, .int .i64 0]), (by simp [putT, e1, e3, e4, e5]), hS.step hL hi (by decide) (Below.refl _ _) (Lz.toIs F6)⟩
   ·obtain ⟨PB0, PB1, PB2, _, _, _, _⟩ := PB.below hB
    refine wpOpT_of (fun K hK => ?_)
    unfold wpOp
    go_simp
    refine Or.inl ?_
    exact hK _ _ ⟨putT vv 7 (.agg #[.float .f64 P.1.1, .float .f64 P.1.2, .float .f64 P.2]), (by simp [putT]), hS.step hL hi (by decide) (Below.refl _ _) (Lz.toIs F7)⟩
   ·obtain ⟨SB0, SB1, SB2, _, _, _, _⟩ := SB.below hB
    refine wpOpT_of (fun K hK => ?_)
    unfold wpOp
    go_simp
    refine Or.inl ?_
    exact hK _ _ ⟨putT vv 8 (.agg #[.float .f64 S.1.1, .float .f64 S.1.2, .float .f64 S.2]), (by simp [putT]), hS.step hL hi (by decide) (Below.refl _ _) (Lz.toIs F8)⟩
   ·obtain ⟨LB0, LB1, LB2, _, _, _, _⟩ := LB.below hB
    refine wpOpT_of (fun K hK => ?_)
    unfold wpOp
    go_simp
    refine Or.inl ?_
    exact hK _ _ ⟨putT vv 9 (.agg #[.float .f64 L.1.1, .float .f64 L.1.2, .float .f64 L.2]), (by simp [putT]), hS.step hL hi (by decide) (Below.refl _ _) (Lz.toIs F9)⟩
   ·have e9 := Lz.ofIs (hS.f hns 9 (ready_dep hi 9 (by kernel_rfl))) F9
    refine wpOpT_of (fun K hK => ?_)
    unfold wpOp
    simp only [e9]
    go_simp
    refine Or.inl ?_
    exact hK _ _ ⟨putT vv 10 (.slice (some ⟨wq.heap.size, 0, none⟩) 1 1), (by simp [putT, e9]), hS.step hL hi (by decide) ((Below.refl _ _).alloc (Nat.le_refl _) _) (Lz.toGn F10 (⟨_, rfl, arow_one _ _ _⟩))⟩
   ·have e8 := Lz.ofIs (hS.f hns 8 (ready_dep hi 8 (by kernel_rfl))) F8
    obtain ⟨g10, e10, u10⟩ := Lz.ofGn (hS.f hns 10 (ready_dep hi 10 (by kernel_rfl))) F10
    refine wpOpT_of (fun K hK => ?_)
    unfold wpOp
    simp only [e8, e10]
    go_simp
    refine Or.inl ?_
    go_at_call 34
    refine (cSL _ _ u10 (tabW_below T3a hB)).mono ?_
    rintro e w1 ⟨rfl, bc⟩
    exact hK _ _ ⟨putT vv 11 (.agg #[.float .f64 SL.1.1, .float .f64 SL.1.2, .float .f64 SL.2]), (by simp [putT, e8, e10]), hS.step hL hi (by decide) (bc) (Lz.toIs F11)⟩
   ·have e7 := Lz.ofIs (hS.f hns 7 (ready_dep hi 7 (by kernel_rfl))) F7
    have e11 := Lz.ofIs (hS.f hns 11 (ready_dep hi 11 (by kernel_rfl))) F11
    refine wpOpT_of (fun K hK => ?_)
    unfold wpOp
    simp only [e7, e11]
    go_simp
    refine Or.inl ?_
    go_at_call 36
    refine (cQ _ (tabW_below T3a hB)).mono ?_
    rintro e w1 ⟨rfl, bc⟩
    exact hK _ _ ⟨putT vv 12 (.agg #[.float .f64 AX.1.1, .float .f64 AX.1.2, .float .f64 AX.2]), (by simp [putT, e7, e11]), hS.step hL hi (by decide) (bc) (Lz.toIs F12)⟩
   ·have e6 := Lz.ofIs (hS.f hns 6 (ready_dep hi 6 (by kernel_rfl))) F6
    have e12 := Lz.ofIs (hS.f hns 12 (ready_dep hi 12 (by kernel_rfl))) F12
    refine wpOpT_of (fun K hK => ?_)
    unfold wpOp
    simp only [e6, e12]
    go_simp
    refine Or.inl ?_
    go_at_call 35
    refine (cG1 _).mono ?_
    rintro e w1 ⟨rfl, bc⟩
    exact hK _ _ ⟨putT vv 13 (.agg #[.int .i64 0, .int .u8 1, .int .i64 (-dx), .int .i64 (-dy), .int .i64 0, .int .i64 dx, .int .i64 dy, .int .i64 0, .float .f64 AX.1.1, .float .f64 AX.1.2, .float .f64 AX.2]), (by simp [putT, e6, e12]), hS.step hL hi (by decide) (bc) (Lz.toIs F13)⟩
   ·refine wpOpT_of (fun K hK => ?_)
    unfold wpOp
    go_simp
    refine Or.inl ?_
    exact hK _ _ ⟨putT vv 14 (.pointer (some ⟨wq.heap.size, 0, none⟩)), (by simp [putT]), hS.step hL hi (by decide) ((Below.refl _ _).alloc (Nat.le_refl _) _) (Lz.toGn F14 (⟨_, rfl, SBox.new _ sgz _, hB.size⟩))⟩
   ·have e13 := Lz.ofIs (hS.f hns 13 (ready_dep hi 13 (by kernel_rfl))) F13
    obtain ⟨g14, e14, u14, l14⟩ := Lz.ofGn (hS.f hns 14 (ready_dep hi 14 (by kernel_rfl))) F14
    have hst := run_storef Tryz.prog
    obtain ⟨⟨s0, s1, s2, s3, s4, s5, s6, s7, s8, s9, s10⟩, hf, _⟩ := id u14
    simp only [Nat.zero_add] at s0 s1 s2 s3 s4 s5 s6 s7 s8 s9 s10
    have f0 := hf 0 (by decide)
    have f1 := hf 1 (by decide)
    have f2 := hf 2 (by decide)
    have f3 := hf 3 (by decide)
    have f4 := hf 4 (by decide)
    have f5 := hf 5 (by decide)
    have f6 := hf 6 (by decide)
    have f7 := hf 7 (by decide)
    have f8 := hf 8 (by decide)
    have f9 := hf 9 (by decide)
    have f10 := hf 10 (by decide)
    refine wpOpT_of (fun K hK => ?_)
    unfold wpOp
    simp only [e13, e14]
    go_simp
    refine Or.inl ?_
    exact hK _ _ ⟨putT vv 15 undef, (by simp [putT, e13, e14]), hS.last hL hi (allY hD hi (by kernel_rfl)) (⟨g14, (by simp [putT, e14]), u14.put ⟨0, 1, ⟨-dx, -dy, 0, dx, dy, 0⟩, AX⟩, below_el hB l14 _ _ _ _ _ _ _ _ _ _ _⟩)⟩
  ·intro Lq vv wq hL hS hr
   have on := all_done hL hr (by kernel_rfl)
   obtain ⟨gx, hq, XB, bq⟩ := hS.z (on 15 (by decide))
   try dsimp only
   rw [hq]
   generalize vv 0 = gxy0 at *
   generalize vv 1 = gxy1 at *
   generalize vv 2 = gxy2 at *
   generalize vv 3 = gxy3 at *
   generalize vv 4 = gxy4 at *
   generalize vv 5 = gxy5 at *
   generalize vv 6 = gxy6 at *
   generalize vv 7 = gxy7 at *
   generalize vv 8 = gxy8 at *
   generalize vv 9 = gxy9 at *
   generalize vv 10 = gxy10 at *
   generalize vv 11 = gxy11 at *
   generalize vv 12 = gxy12 at *
   generalize vv 13 = gxy13 at *
   clear hS on hr FL hL Lq hq vv F0 F1 F2 F3 F4 F5 F6 F7 F8 F9 F10 F11 F12 F13 F14 F15
   replace MX := MX.below bq
   replace LB := LB.below bq
   replace SB := SB.below bq
   replace PB := PB.below bq
   have hb6 := hb5.trans (bq.mono hb5.size)
   clear bq T3a hb5
   generalize wq = V4 at *
   have T4a := tabW_below hT hb6
   clear x0 x1 x2 x3 x4 x5 x6 x7 x8
   obtain ⟨x0, x1, x2, x3, x4, x5, x6, x7, x8⟩ := MX.at0
   simp only [Nat.zero_add] at x0 x1 x2 x3 x4 x5 x6 x7 x8
   obtain ⟨X0, X1, X2, X3, X4, X5, X6, X7, X8, X9, X10⟩ := XB.at0
   simp only [Nat.zero_add] at X0 X1 X2 X3 X4 X5 X6 X7 X8 X9 X10
   clear cR cP cSL cQ cG1
   by_cases hk : mk = 1
   ·subst hk
    have HSP : Hid (spL ⟨ms, 1, ma, mb, ha, hb, me, mar, mi⟩ dx dy l2 AX AC EN = [⟨0, 1, ⟨-dx, -dy, 0, dx, dy, 0⟩, AX⟩]) := (show _ = _ from by simp [spL])
    clear cG
    go_wp2
    go_ret
    rw [HSP.out]
    exact ⟨_, 1, rfl, sgrow_one _ ⟨0, 1, ⟨-dx, -dy, 0, dx, dy, 0⟩, AX⟩ _, hb6.alloc hb6.size _, hb6.size⟩
   ·have j1 : ((mk : Int) == 1) = false := by simpa using (by omega : ¬ (mk : Int) = 1)
    cases ha
    ·cases hb
     ·have HSP : Hid (spL ⟨ms, mk, ma, mb, false, false, me, mar, mi⟩ dx dy l2 AX AC EN = [⟨0, 1, ⟨-dx, -dy, 0, dx, dy, 0⟩, AX⟩, ⟨0, 2, ⟨(-2 * dy), (2 * dx), l2, (2 * dy), (-2 * dx), l2⟩, AC⟩, ⟨0, 3, ⟨0, 0, 1, 0, 0, (-1)⟩, EN⟩]) := (show _ = _ from by simp [spL, hk])
      obtain ⟨I1, T, B3, SSL, cI, cBp, cT, cB3, cSS, cQ2, cQ3⟩ := (hB.resolve_left (by simp [hk])).h
      clear hB
      simp only [CX, CP, CQ, amV] at cI cBp cT cB3 cSS cQ2 cQ3
      have cG2 : ∀ w, Calls Tryz.prog 35 #[.int .u8 2, .agg #[.int .i64 (-2 * dy), .int .i64 (2 * dx), .int .i64 l2, .int .i64 (2 * dy), .int .i64 (-2 * dx), .int .i64 l2], .agg #[.float .f64 AC.1.1, .float .f64 AC.1.2, .float .f64 AC.2]] w fun e w' => e = .returned (.agg #[.int .i64 0, .int .u8 2, .int .i64 (-2 * dy), .int .i64 (2 * dx), .int .i64 l2, .int .i64 (2 * dy), .int .i64 (-2 * dx), .int .i64 l2, .float .f64 AC.1.1, .float .f64 AC.1.2, .float .f64 AC.2]) ∧ Below w.heap.size w w' := fun w => cG 2 ⟨(-2 * dy), (2 * dx), l2, (2 * dy), (-2 * dx), l2⟩ AC w
      have cG3 : ∀ w, Calls Tryz.prog 35 #[.int .u8 3, .agg #[.int .i64 0, .int .i64 0, .int .i64 1, .int .i64 0, .int .i64 0, .int .i64 (-1)], .agg #[.float .f64 EN.1.1, .float .f64 EN.1.2, .float .f64 EN.2]] w fun e w' => e = .returned (.agg #[.int .i64 0, .int .u8 3, .int .i64 0, .int .i64 0, .int .i64 1, .int .i64 0, .int .i64 0, .int .i64 (-1), .float .f64 EN.1.1, .float .f64 EN.1.2, .float .f64 EN.2]) ∧ Below w.heap.size w w' := fun w => cG 3 ⟨0, 0, 1, 0, 0, (-1)⟩ EN w
      clear cG
      go_upto_region 7 with fail
      obtain ⟨FL, hFL⟩ : ∃ fz : Nat → Lz, fz = (fun j => match j with | 0 => .is (.pointer (some ⟨w.heap.size, 6, none⟩)) | 1 => .is (.float .f64 me) | 2 => .is (.agg #[.float .f64 E1.1.1, .float .f64 E1.1.2, .float .f64 E1.2]) | 3 => .is (.pointer (some ⟨w.heap.size, 8, none⟩)) | 4 => .is (.float .f64 mi) | 5 => .is (.agg #[.float .f64 I1.1.1, .float .f64 I1.1.2, .float .f64 I1.2]) | 6 => .gn (fun a x => ∃ g, x = .slice (some ⟨g, 0, none⟩) 1 1 ∧ ARow a (some ⟨g, 0, none⟩) [I1]) (fun a a' x h hb => h.elim fun g h => ⟨g, h.1, h.2.below hb⟩) | 7 => .is (.agg #[.float .f64 B.1.1, .float .f64 B.1.2, .float .f64 B.2]) | 8 => .gn (fun a x => ∃ g, x = .pointer (some ⟨g, 0, none⟩) ∧ T3 a g (.float .f64 0) (.float .f64 0) (.float .f64 0) ∧ V4.heap.size ≤ g) (fun a a' x h hb => h.elim fun g h => ⟨g, h.1, h.2.1.below hb, h.2.2⟩) | 9 => .tr | _ => .tr) := ⟨_, rfl⟩
      have F0 := congrFun hFL 0
      have F1 := congrFun hFL 1
      have F2 := congrFun hFL 2
      have F3 := congrFun hFL 3
      have F4 := congrFun hFL 4
      have F5 := congrFun hFL 5
      have F6 := congrFun hFL 6
      have F7 := congrFun hFL 7
      have F8 := congrFun hFL 8
      have F9 := congrFun hFL 9
      simp only at F0 F1 F2 F3 F4 F5 F6 F7 F8 F9
      clear hFL
      refine region_rgY (by kernel_rfl) (fun vv => ⟨#[.agg #[.string ms, .int .u8 ↑mk, .int .i64 ma, .int .i64 mb, .bool false, .bool false, .float .f64 me, .float .f64 mar, .float .f64 mi], .agg #[.string ps, .int .i32 px, .int .i32 py, .int .u8 ↑pf], .agg #[.string qs, .int .i32 qx, .int .i32 qy, .int .u8 ↑qf], .pointer (some ⟨w.heap.size, 0, none⟩), .pointer (some ⟨w.heap.size + 1, 0, none⟩), .pointer (some ⟨w.heap.size + 1 + 1, 0, none⟩), .slice none 0 0, .int .i64 dx, .int .i64 dy, .int .i64 l2, .pointer (some ⟨gl, 0, none⟩), .pointer (some ⟨gs, 0, none⟩), .pointer (some ⟨gp, 0, none⟩), .pointer (some ⟨gx, 0, none⟩), vv 8, undef, undef, undef, .tuple #[.int .i64 dx, .int .i64 dy, .int .i64 l2], .agg #[.string ps, .int .i32 px, .int .i32 py, .int .u8 ↑pf], .agg #[.string qs, .int .i32 qx, .int .i32 qy, .int .u8 ↑qf], .tuple #[.int .i64 dx, .int .i64 dy, .int .i64 l2], .int .i64 dx, .int .i64 dy, .int .i64 l2, .agg #[.string ps, .int .i32 px, .int .i32 py, .int .u8 ↑pf], .agg #[.string qs, .int .i32 qx, .int .i32 qy, .int .u8 ↑qf], .agg #[.float .f64 L.fst.fst, .float .f64 L.fst.snd, .float .f64 L.snd], .int .i64 l2, .float .f64 sF, .agg #[.float .f64 S.fst.fst, .float .f64 S.fst.snd, .float .f64 S.snd], gpy0, gpy1, gpy2, gpy3, gpy4, gpy5, gpy6, gpy7, gxy0, gxy1, gxy2, gxy3, gxy4, gxy5, gxy6, gxy7, gxy8, gxy9, gxy10, gxy11, gxy12, gxy13, .pointer (some ⟨w.heap.size, 1, none⟩), .int .u8 ↑mk, .bool false, .bool false, .pointer (some ⟨w.heap.size, 4, none⟩), .bool false, .bool false, undef, undef, .bool false, .bool false, undef, undef, vv 0, vv 1, vv 2, vv 3, vv 4, vv 5, vv 6, vv 7, undef, undef, undef, undef, undef, undef, undef, undef, undef, undef, undef, undef, undef, undef, undef, undef, undef, undef, undef, undef, undef, undef, undef, undef, undef, undef, undef, undef, undef, undef, undef, undef, undef, undef, undef, undef, undef, undef, undef, undef, undef, undef, undef, undef, undef, undef, undef, undef, undef, undef, undef, undef, undef, undef, undef, undef, undef, undef, undef, undef, undef, undef], []⟩) 9 FL (fun wz vz => ∃ g, vz 8 = .pointer (some ⟨g, 0, none⟩) ∧ T3 wz g (.float .f64 B.1.1) (.float .f64 B.1.2) (.float .f64 B.2) ∧ Below V4.heap.size V4 wz) (fun j => match j with  | _ => undef) rfl ?_ ?_
      ·intro Lq vv wq i hL hS hD hi
       obtain ⟨hr1, hr2, hr3⟩ := mem_ready hi
       have hr1 : i < 10 := hr1
       try dsimp only
       have hcs : i = 0 ∨ i = 1 ∨ i = 2 ∨ i = 3 ∨ i = 4 ∨ i = 5 ∨ i = 6 ∨ i = 7 ∨ i = 8 ∨ i = 9 := by omega
       clear hr1 hr2 hr3
       have hns := hS.open hL hi
       have hB := hS.a hns
       rcases hcs with rfl | rfl | rfl | rfl | rfl | rfl | rfl | rfl | rfl | rfl
       ·refine wpOpT_of (fun K hK => ?_)
        unfold wpOp
        go_simp
        refine Or.inl ?_
        exact hK _ _ ⟨putT vv 0 (.pointer (some ⟨w.heap.size, 6, none⟩)), (by simp [putT]), hS.step hL hi (by decide) (Below.refl _ _) (Lz.toIs F0)⟩
       ·have e0 := Lz.ofIs (hS.f hns 0 (ready_dep hi 0 (by kernel_rfl))) F0
        have r6 := (hB.cell (p := ⟨w.heap.size, 6, none⟩) MX.lt).trans x6
        refine wpOpT_of (fun K hK => ?_)
        unfold wpOp
        simp only [e0]
        go_simp
        refine Or.inl ?_
        exact hK _ _ ⟨putT vv 1 (.float .f64 me), (by simp [putT, e0]), hS.step hL hi (by decide) (Below.refl _ _) (Lz.toIs F1)⟩
       ·have e1 := Lz.ofIs (hS.f hns 1 (ready_dep hi 1 (by kernel_rfl))) F1
        refine wpOpT_of (fun K hK => ?_)
        unfold wpOp
        simp only [e1]
        go_simp
        refine Or.inl ?_
        go_at_call 33
        refine (cE _).mono ?_
        rintro e w1 ⟨rfl, bc⟩
        exact hK _ _ ⟨putT vv 2 (.agg #[.float .f64 E1.1.1, .float .f64 E1.1.2, .float .f64 E1.2]), (by simp [putT, e1]), hS.step hL hi (by decide) (bc) (Lz.toIs F2)⟩
       ·refine wpOpT_of (fun K hK => ?_)
        unfold wpOp
        go_simp
        refine Or.inl ?_
        exact hK _ _ ⟨putT vv 3 (.pointer (some ⟨w.heap.size, 8, none⟩)), (by simp [putT]), hS.step hL hi (by decide) (Below.refl _ _) (Lz.toIs F3)⟩
       ·have e3 := Lz.ofIs (hS.f hns 3 (ready_dep hi 3 (by kernel_rfl))) F3
        have r8 := (hB.cell (p := ⟨w.heap.size, 8, none⟩) MX.lt).trans x8
        refine wpOpT_of (fun K hK => ?_)
        unfold wpOp
        simp only [e3]
        go_simp
        refine Or.inl ?_
        exact hK _ _ ⟨putT vv 4 (.float .f64 mi), (by simp [putT, e3]), hS.step hL hi (by decide) (Below.refl _ _) (Lz.toIs F4)⟩
       ·have e4 := Lz.ofIs (hS.f hns 4 (ready_dep hi 4 (by kernel_rfl))) F4
        refine wpOpT_of (fun K hK => ?_)
        unfold wpOp
        simp only [e4]
        go_simp
        refine Or.inl ?_
        go_at_call 33
        refine (cI _).mono ?_
        rintro e w1 ⟨rfl, bc⟩
        exact hK _ _ ⟨putT vv 5 (.agg #[.float .f64 I1.1.1, .float .f64 I1.1.2, .float .f64 I1.2]), (by simp [putT, e4]), hS.step hL hi (by decide) (bc) (Lz.toIs F5)⟩
       ·have e5 := Lz.ofIs (hS.f hns 5 (ready_dep hi 5 (by kernel_rfl))) F5
        refine wpOpT_of (fun K hK => ?_)
        unfold wpOp
        simp only [e5]
        go_simp
        refine Or.inl ?_
        exact hK _ _ ⟨putT vv 6 (.slice (some ⟨wq.heap.size, 0, none⟩) 1 1), (by simp [putT, e5]), hS.step hL hi (by decide) ((Below.refl _ _).alloc (Nat.le_refl _) _) (Lz.toGn F6 (⟨_, rfl, arow_one _ _ _⟩))⟩
       ·have e2 := Lz.ofIs (hS.f hns 2 (ready_dep hi 2 (by kernel_rfl))) F2
        obtain ⟨g6, e6, u6⟩ := Lz.ofGn (hS.f hns 6 (ready_dep hi 6 (by kernel_rfl))) F6
        refine wpOpT_of (fun K hK => ?_)
        unfold wpOp
        simp only [e2, e6]
        go_simp
        refine Or.inl ?_
        go_at_call 34
        refine (cBp _ _ u6 (tabW_below T4a hB)).mono ?_
        rintro e w1 ⟨rfl, bc⟩
        exact hK _ _ ⟨putT vv 7 (.agg #[.float .f64 B.1.1, .float .f64 B.1.2, .float .f64 B.2]), (by simp [putT, e2, e6]), hS.step hL hi (by decide) (bc) (Lz.toIs F7)⟩
       ·refine wpOpT_of (fun K hK => ?_)
        unfold wpOp
        go_simp
        refine Or.inl ?_
        exact hK _ _ ⟨putT vv 8 (.pointer (some ⟨wq.heap.size, 0, none⟩)), (by simp [putT]), hS.step hL hi (by decide) ((Below.refl _ _).alloc (Nat.le_refl _) _) (Lz.toGn F8 (⟨_, rfl, T3.new _ _ _ _ _, hB.size⟩))⟩
       ·have e7 := Lz.ofIs (hS.f hns 7 (ready_dep hi 7 (by kernel_rfl))) F7
        obtain ⟨g8, e8, u8, l8⟩ := Lz.ofGn (hS.f hns 8 (ready_dep hi 8 (by kernel_rfl))) F8
        have hst := run_storef Tryz.prog
        obtain ⟨s0, s1, s2, f0, f1, f2, _⟩ := id u8
        refine wpOpT_of (fun K hK => ?_)
        unfold wpOp
        simp only [e7, e8]
        go_simp
        refine Or.inl ?_
        exact hK _ _ ⟨putT vv 9 undef, (by simp [putT, e7, e8]), hS.last hL hi (allY hD hi (by kernel_rfl)) (⟨g8, (by simp [putT, e8]), ((u8.set0 _).set1 _).set2 _, below_thr hB l8 _ _ _⟩)⟩
      ·intro Lq vv wq hL hS hr
       have on := all_done hL hr (by kernel_rfl)
       obtain ⟨gb, hq, BB, bq⟩ := hS.z (on 9 (by decide))
       try dsimp only
       rw [hq]
       generalize vv 0 = gby0 at *
       generalize vv 1 = gby1 at *
       generalize vv 2 = gby2 at *
       generalize vv 3 = gby3 at *
       generalize vv 4 = gby4 at *
       generalize vv 5 = gby5 at *
       generalize vv 6 = gby6 at *
       generalize vv 7 = gby7 at *
       clear hS on hr FL hL Lq hq vv F0 F1 F2 F3 F4 F5 F6 F7 F8 F9
       replace MX := MX.below bq
       replace LB := LB.below bq
       replace SB := SB.below bq
       replace XB := XB.below bq
       have hb7 := hb6.trans (bq.mono hb6.size)
       clear bq T4a hb6
       generalize wq = V5 at *
       have T5a := tabW_below hT hb7
       clear x0 x1 x2 x3 x4 x5 x6 x7 x8 X0 X1 X2 X3 X4 X5 X6 X7 X8 X9 X10
       clear cE cI cBp
       go_upto_region 8 with fail
       obtain ⟨FL, hFL⟩ : ∃ fz : Nat → Lz, fz = (fun j => match j with | 0 => .is (.agg #[.float .f64 T.1.1, .float .f64 T.1.2, .float .f64 T.2]) | 1 => .is (.agg #[.float .f64 B.1.1, .float .f64 B.1.2, .float .f64 B.2]) | 2 => .gn (fun a x => ∃ g, x = .slice (some ⟨g, 0, none⟩) 1 1 ∧ ARow a (some ⟨g, 0, none⟩) [B]) (fun a a' x h hb => h.elim fun g h => ⟨g, h.1, h.2.below hb⟩) | 3 => .is (.agg #[.float .f64 B3.1.1, .float .f64 B3.1.2, .float .f64 B3.2]) | 4 => .is (.agg #[.float .f64 S.1.1, .float .f64 S.1.2, .float .f64 S.2]) | 5 => .is (.agg #[.float .f64 S.1.1, .float .f64 S.1.2, .float .f64 S.2]) | 6 => .is (.agg #[.float .f64 L.1.1, .float .f64 L.1.2, .float .f64 L.2]) | 7 => .gn (fun a x => ∃ g, x = .slice (some ⟨g, 0, none⟩) 2 2 ∧ ARow a (some ⟨g, 0, none⟩) [S, L]) (fun a a' x h hb => h.elim fun g h => ⟨g, h.1, h.2.below hb⟩) | 8 => .is (.agg #[.float .f64 SSL.1.1, .float .f64 SSL.1.2, .float .f64 SSL.2]) | 9 => .is (.agg #[.float .f64 AC.1.1, .float .f64 AC.1.2, .float .f64 AC.2]) | 10 => .gn (fun a x => ∃ g, x = .pointer (some ⟨g, 0, none⟩) ∧ T3 a g (.float .f64 0) (.float .f64 0) (.float .f64 0) ∧ V5.heap.size ≤ g) (fun a a' x h hb => h.elim fun g h => ⟨g, h.1, h.2.1.below hb, h.2.2⟩) | 11 => .tr | _ => .tr) := ⟨_, rfl⟩
       have F0 := congrFun hFL 0
       have F1 := congrFun hFL 1
       have F2 := congrFun hFL 2
       have F3 := congrFun hFL 3
       have F4 := congrFun hFL 4
       have F5 := congrFun hFL 5
       have F6 := congrFun hFL 6
       have F7 := congrFun hFL 7
       have F8 := congrFun hFL 8
       have F9 := congrFun hFL 9
       have F10 := congrFun hFL 10
       have F11 := congrFun hFL 11
       simp only at F0 F1 F2 F3 F4 F5 F6 F7 F8 F9 F10 F11
       clear hFL
       refine region_rgY (by kernel_rfl) (fun vv => ⟨#[.agg #[.string ms, .int .u8 ↑mk, .int .i64 ma, .int .i64 mb, .bool false, .bool false, .float .f64 me, .float .f64 mar, .float .f64 mi], .agg #[.string ps, .int .i32 px, .int .i32 py, .int .u8 ↑pf], .agg #[.string qs, .int .i32 qx, .int .i32 qy, .int .u8 ↑qf], .pointer (some ⟨w.heap.size, 0, none⟩), .pointer (some ⟨w.heap.size + 1, 0, none⟩), .pointer (some ⟨w.heap.size + 1 + 1, 0, none⟩), .slice none 0 0, .int .i64 dx, .int .i64 dy, .int .i64 l2, .pointer (some ⟨gl, 0, none⟩), .pointer (some ⟨gs, 0, none⟩), .pointer (some ⟨gp, 0, none⟩), .pointer (some ⟨gx, 0, none⟩), .pointer (some ⟨gb, 0, none⟩), vv 10, undef, undef, .tuple #[.int .i64 dx, .int .i64 dy, .int .i64 l2], .agg #[.string ps, .int .i32 px, .int .i32 py, .int .u8 ↑pf], .agg #[.string qs, .int .i32 qx, .int .i32 qy, .int .u8 ↑qf], .tuple #[.int .i64 dx, .int .i64 dy, .int .i64 l2], .int .i64 dx, .int .i64 dy, .int .i64 l2, .agg #[.string ps, .int .i32 px, .int .i32 py, .int .u8 ↑pf], .agg #[.string qs, .int .i32 qx, .int .i32 qy, .int .u8 ↑qf], .agg #[.float .f64 L.fst.fst, .float .f64 L.fst.snd, .float .f64 L.snd], .int .i64 l2, .float .f64 sF, .agg #[.float .f64 S.fst.fst, .float .f64 S.fst.snd, .float .f64 S.snd], gpy0, gpy1, gpy2, gpy3, gpy4, gpy5, gpy6, gpy7, gxy0, gxy1, gxy2, gxy3, gxy4, gxy5, gxy6, gxy7, gxy8, gxy9, gxy10, gxy11, gxy12, gxy13, .pointer (some ⟨w.heap.size, 1, none⟩), .int .u8 ↑mk, .bool false, .bool false, .pointer (some ⟨w.heap.size, 4, none⟩), .bool false, .bool false, undef, undef, .bool false, .bool false, undef, undef, gby0, gby1, gby2, gby3, gby4, gby5, gby6, gby7, vv 0, vv 1, vv 2, vv 3, vv 4, vv 5, vv 6, vv 7, vv 8, vv 9, undef, undef, undef, undef, undef, undef, undef, undef, undef, undef, undef, undef, undef, undef, undef, undef, undef, undef, undef, undef, undef, undef, undef, undef, undef, undef, undef, undef, undef, undef, undef, undef, undef, undef, undef, undef, undef, undef, undef, undef, undef, undef, undef, undef, undef, undef, undef, undef, undef, undef, undef, undef], []⟩) 11 FL (fun wz vz => ∃ g, vz 10 = .pointer (some ⟨g, 0, none⟩) ∧ T3 wz g (.float .f64 AC.1.1) (.float .f64 AC.1.2) (.float .f64 AC.2) ∧ Below V5.heap.size V5 wz) (fun j => match j with  | _ => undef) rfl ?_ ?_
       ·intro Lq vv wq i hL hS hD hi
        obtain ⟨hr1, hr2, hr3⟩ := mem_ready hi
        have hr1 : i < 12 := hr1
        try dsimp only
        have hcs : i = 0 ∨ i = 1 ∨ i = 2 ∨ i = 3 ∨ i = 4 ∨ i = 5 ∨ i = 6 ∨ i = 7 ∨ i = 8 ∨ i = 9 ∨ i = 10 ∨ i = 11 := by omega
        clear hr1 hr2 hr3
        have hns := hS.open hL hi
        have hB := hS.a hns
        rcases hcs with rfl | rfl | rfl | rfl | rfl | rfl | rfl | rfl | rfl | rfl | rfl | rfl
        ·refine wpOpT_of (fun K hK => ?_)
         unfold wpOp
         go_simp
         refine Or.inl ?_
         go_at_call 33
         refine (cT _).mono ?_
         rintro e w1 ⟨rfl, bc⟩
         exact hK _ _ ⟨putT vv 0 (.agg #[.float .f64 T.1.1, .float .f64 T.1.2, .float .f64 T.2]), (by simp [putT]), hS.step hL hi (by decide) (bc) (Lz.toIs F0)⟩
        ·obtain ⟨BB0, BB1, BB2, _, _, _, _⟩ := BB.below hB
         refine wpOpT_of (fun K hK => ?_)
         unfold wpOp
         go_simp
         refine Or.inl ?_
         exact hK _ _ ⟨putT vv 1 (.agg #[.float .f64 B.1.1, .float .f64 B.1.2, .float .f64 B.2]), (by simp [putT]), hS.step hL hi (by decide) (Below.refl _ _) (Lz.toIs F1)⟩
        ·have e1 := Lz.ofIs (hS.f hns 1 (ready_dep hi 1 (by kernel_rfl))) F1
         refine wpOpT_of (fun K hK => ?_)
         unfold wpOp
         simp only [e1]
         go_simp
         refine Or.inl ?_
         exact hK _ _ ⟨putT vv 2 (.slice (some ⟨wq.heap.size, 0, none⟩) 1 1), (by simp [putT, e1]), hS.step hL hi (by decide) ((Below.refl _ _).alloc (Nat.le_refl _) _) (Lz.toGn F2 (⟨_, rfl, arow_one _ _ _⟩))⟩
        ·have e0 := Lz.ofIs (hS.f hns 0 (ready_dep hi 0 (by kernel_rfl))) F0
         obtain ⟨g2, e2, u2⟩ := Lz.ofGn (hS.f hns 2 (ready_dep hi 2 (by kernel_rfl))) F2
         refine wpOpT_of (fun K hK => ?_)
         unfold wpOp
         simp only [e0, e2]
         go_simp
         refine Or.inl ?_
         go_at_call 34
         refine (cB3 _ _ u2 (tabW_below T5a hB)).mono ?_
         rintro e w1 ⟨rfl, bc⟩
         exact hK _ _ ⟨putT vv 3 (.agg #[.float .f64 B3.1.1, .float .f64 B3.1.2, .float .f64 B3.2]), (by simp [putT, e0, e2]), hS.step hL hi (by decide) (bc) (Lz.toIs F3)⟩
        ·obtain ⟨SB0, SB1, SB2, _, _, _, _⟩ := SB.below hB
         refine wpOpT_of (fun K hK => ?_)
         unfold wpOp
         go_simp
         refine Or.inl ?_
         exact hK _ _ ⟨putT vv 4 (.agg #[.float .f64 S.1.1, .float .f64 S.1.2, .float .f64 S.2]), (by simp [putT]), hS.step hL hi (by decide) (Below.refl _ _) (Lz.toIs F4)⟩
        ·obtain ⟨SB0, SB1, SB2, _, _, _, _⟩ := SB.below hB
         refine wpOpT_of (fun K hK => ?_)
         unfold wpOp
         go_simp
         refine Or.inl ?_
         exact hK _ _ ⟨putT vv 5 (.agg #[.float .f64 S.1.1, .float .f64 S.1.2, .float .f64 S.2]), (by simp [putT]), hS.step hL hi (by decide) (Below.refl _ _) (Lz.toIs F5)⟩
        ·obtain ⟨LB0, LB1, LB2, _, _, _, _⟩ := LB.below hB
         refine wpOpT_of (fun K hK => ?_)
         unfold wpOp
         go_simp
         refine Or.inl ?_
         exact hK _ _ ⟨putT vv 6 (.agg #[.float .f64 L.1.1, .float .f64 L.1.2, .float .f64 L.2]), (by simp [putT]), hS.step hL hi (by decide) (Below.refl _ _) (Lz.toIs F6)⟩
        ·have e5 := Lz.ofIs (hS.f hns 5 (ready_dep hi 5 (by kernel_rfl))) F5
         have e6 := Lz.ofIs (hS.f hns 6 (ready_dep hi 6 (by kernel_rfl))) F6
         refine wpOpT_of (fun K hK => ?_)
         unfold wpOp
         simp only [e5, e6]
         go_simp
         refine Or.inl ?_
         exact hK _ _ ⟨putT vv 7 (.slice (some ⟨wq.heap.size, 0, none⟩) 2 2), (by simp [putT, e5, e6]), hS.step hL hi (by decide) ((Below.refl _ _).alloc (Nat.le_refl _) _) (Lz.toGn F7 (⟨_, rfl, arow_two _ _ _ _⟩))⟩
        ·have e4 := Lz.ofIs (hS.f hns 4 (ready_dep hi 4 (by kernel_rfl))) F4
         obtain ⟨g7, e7, u7⟩ := Lz.ofGn (hS.f hns 7 (ready_dep hi 7 (by kernel_rfl))) F7
         refine wpOpT_of (fun K hK => ?_)
         unfold wpOp
         simp only [e4, e7]
         go_simp
         refine Or.inl ?_
         go_at_call 34
         refine (cSS _ _ u7 (tabW_below T5a hB)).mono ?_
         rintro e w1 ⟨rfl, bc⟩
         exact hK _ _ ⟨putT vv 8 (.agg #[.float .f64 SSL.1.1, .float .f64 SSL.1.2, .float .f64 SSL.2]), (by simp [putT, e4, e7]), hS.step hL hi (by decide) (bc) (Lz.toIs F8)⟩
        ·have e3 := Lz.ofIs (hS.f hns 3 (ready_dep hi 3 (by kernel_rfl))) F3
         have e8 := Lz.ofIs (hS.f hns 8 (ready_dep hi 8 (by kernel_rfl))) F8
         refine wpOpT_of (fun K hK => ?_)
         unfold wpOp
         simp only [e3, e8]
         go_simp
         refine Or.inl ?_
         go_at_call 36
         refine (cQ2 _ (tabW_below T5a hB)).mono ?_
         rintro e w1 ⟨rfl, bc⟩
         exact hK _ _ ⟨putT vv 9 (.agg #[.float .f64 AC.1.1, .float .f64 AC.1.2, .float .f64 AC.2]), (by simp [putT, e3, e8]), hS.step hL hi (by decide) (bc) (Lz.toIs F9)⟩
        ·refine wpOpT_of (fun K hK => ?_)
         unfold wpOp
         go_simp
         refine Or.inl ?_
         exact hK _ _ ⟨putT vv 10 (.pointer (some ⟨wq.heap.size, 0, none⟩)), (by simp [putT]), hS.step hL hi (by decide) ((Below.refl _ _).alloc (Nat.le_refl _) _) (Lz.toGn F10 (⟨_, rfl, T3.new _ _ _ _ _, hB.size⟩))⟩
        ·have e9 := Lz.ofIs (hS.f hns 9 (ready_dep hi 9 (by kernel_rfl))) F9
         obtain ⟨g10, e10, u10, l10⟩ := Lz.ofGn (hS.f hns 10 (ready_dep hi 10 (by kernel_rfl))) F10
         have hst := run_storef Tryz.prog
         obtain ⟨s0, s1, s2, f0, f1, f2, _⟩ := id u10
         refine wpOpT_of (fun K hK => ?_)
         unfold wpOp
         simp only [e9, e10]
         go_simp
         refine Or.inl ?_
         exact hK _ _ ⟨putT vv 11 undef, (by simp [putT, e9, e10]), hS.last hL hi (allY hD hi (by kernel_rfl)) (⟨g10, (by simp [putT, e10]), ((u10.set0 _).set1 _).set2 _, below_thr hB l10 _ _ _⟩)⟩
       ·intro Lq vv wq hL hS hr
        have on := all_done hL hr (by kernel_rfl)
        obtain ⟨gc, hq, CB, bq⟩ := hS.z (on 11 (by decide))
        try dsimp only
        rw [hq]
        generalize vv 0 = gcy0 at *
        generalize vv 1 = gcy1 at *
        generalize vv 2 = gcy2 at *
        generalize vv 3 = gcy3 at *
        generalize vv 4 = gcy4 at *
        generalize vv 5 = gcy5 at *
        generalize vv 6 = gcy6 at *
        generalize vv 7 = gcy7 at *
        generalize vv 8 = gcy8 at *
        generalize vv 9 = gcy9 at *
        clear hS on hr FL hL Lq hq vv F0 F1 F2 F3 F4 F5 F6 F7 F8 F9 F10 F11
        replace MX := MX.below bq
        replace LB := LB.below bq
        replace XB := XB.below bq
        replace BB := BB.below bq
        have hb8 := hb7.trans (bq.mono hb7.size)
        clear bq T5a hb7
        generalize wq = V6 at *
        have T6a := tabW_below hT hb8
        clear cT cB3 cSS cQ2
        obtain ⟨x0, x1, x2, x3, x4, x5, x6, x7, x8⟩ := MX.at0
        simp only [Nat.zero_add] at x0 x1 x2 x3 x4 x5 x6 x7 x8
        obtain ⟨X0, X1, X2, X3, X4, X5, X6, X7, X8, X9, X10⟩ := XB.at0
        simp only [Nat.zero_add] at X0 X1 X2 X3 X4 X5 X6 X7 X8 X9 X10
        obtain ⟨c0, c1, c2, _, _, _, _⟩ := id CB
        have hst := run_storef Tryz.prog
        have wq0 : IntKind.i64.wrap (-2 * dy) = -2 * dy := by rw [IntKind.wrap_i64]; omega
        have wq1 : IntKind.i64.wrap (2 * dx) = 2 * dx := by rw [IntKind.wrap_i64]; omega
        have wq2 : IntKind.i64.wrap (2 * dy) = 2 * dy := by rw [IntKind.wrap_i64]; omega
        have wq3 : IntKind.i64.wrap (-2 * dx) = -2 * dx := by rw [IntKind.wrap_i64]; omega
        go_upto_region 14 with (go_at_call 35; refine (cG2 _).mono ?_; rintro e w5 ⟨rfl, b5⟩)
        have WB := SBox.new w5 ⟨0, 2, ⟨(-2 * dy), (2 * dx), l2, (2 * dy), (-2 * dx), l2⟩, AC⟩ 45
        have st := (Below.refl w5.heap.size w5).alloc (Nat.le_refl _) (sgO ⟨0, 2, ⟨(-2 * dy), (2 * dx), l2, (2 * dy), (-2 * dx), l2⟩, AC⟩ 45)
        have b6 := b5.trans (st.mono b5.size)
        replace XB := XB.below b6
        replace BB := BB.below b6
        replace LB := LB.below b6
        have hb9 := hb8.trans (b6.mono hb8.size)
        clear x0 x1 x2 x3 x4 x5 x6 x7 x8 X0 X1 X2 X3 X4 X5 X6 X7 X8 X9 X10 c0 c1 c2 cG2 CB st b5 b6 hb8 T6a
        simp only [sgO] at WB XB LB BB hb9
        generalize w5.alloc (.cells #[.int .i64 0, .int .u8 2, .int .i64 (-2 * dy), .int .i64 (2 * dx), .int .i64 l2, .int .i64 (2 * dy), .int .i64 (-2 * dx), .int .i64 l2, .float .f64 AC.1.1, .float .f64 AC.1.2, .float .f64 AC.2] 45) = V7 at *
        generalize w5.heap.size = gw at *
        have T7a := tabW_below hT hb9
        obtain ⟨b0, b1, b2, _, _, _, _⟩ := id BB
        obtain ⟨l0, l1, l2x, _, _, _, _⟩ := id LB
        go_upto_region 15 with (first
         | (go_at_call 36; refine (cQ3 _ T7a).mono ?_; rintro e w6 ⟨rfl, b6⟩)
         | (go_at_call 35; refine (cG3 _).mono ?_; rintro e w7 ⟨rfl, b7⟩))
        have ZB := SBox.new w7 ⟨0, 3, ⟨0, 0, 1, 0, 0, (-1)⟩, EN⟩ 45
        have st := (Below.refl w7.heap.size w7).alloc (Nat.le_refl _) (sgO ⟨0, 3, ⟨0, 0, 1, 0, 0, (-1)⟩, EN⟩ 45)
        have b8 := (b6.trans (b7.mono b6.size)).trans (st.mono (b6.trans (b7.mono b6.size)).size)
        replace XB := XB.below b8
        replace WB := WB.below b8
        have hb10 := hb9.trans (b8.mono hb9.size)
        simp only [sgO] at ZB XB WB hb10
        clear b0 b1 b2 l0 l1 l2x BB LB st b6 b7 b8 hb9 T7a cG3 cQ3
        generalize w7.alloc (.cells #[.int .i64 0, .int .u8 3, .int .i64 0, .int .i64 0, .int .i64 1, .int .i64 0, .int .i64 0, .int .i64 (-1), .float .f64 EN.1.1, .float .f64 EN.1.2, .float .f64 EN.2] 45) = V8 at *
        generalize w7.heap.size = gv at *
        obtain ⟨X0, X1, X2, X3, X4, X5, X6, X7, X8, X9, X10⟩ := XB.at0
        simp only [Nat.zero_add] at X0 X1 X2 X3 X4 X5 X6 X7 X8 X9 X10
        obtain ⟨Y0, Y1, Y2, Y3, Y4, Y5, Y6, Y7, Y8, Y9, Y10⟩ := WB.at0
        simp only [Nat.zero_add] at Y0 Y1 Y2 Y3 Y4 Y5 Y6 Y7 Y8 Y9 Y10
        obtain ⟨Z0, Z1, Z2, Z3, Z4, Z5, Z6, Z7, Z8, Z9, Z10⟩ := ZB.at0
        simp only [Nat.zero_add] at Z0 Z1 Z2 Z3 Z4 Z5 Z6 Z7 Z8 Z9 Z10
        go_wp2
        go_ret
        rw [HSP.out]
        exact ⟨_, 3, rfl, sgrow_three _ ⟨0, 1, ⟨-dx, -dy, 0, dx, dy, 0⟩, AX⟩ ⟨0, 2, ⟨(-2 * dy), (2 * dx), l2, (2 * dy), (-2 * dx), l2⟩, AC⟩ ⟨0, 3, ⟨0, 0, 1, 0, 0, (-1)⟩, EN⟩ _, hb10.alloc hb10.size _, hb10.size⟩
     ·have HSP : Hid (spL ⟨ms, mk, ma, mb, false, true, me, mar, mi⟩ dx dy l2 AX AC EN = [⟨0, 1, ⟨-dx, -dy, 0, dx, dy, 0⟩, AX⟩, ⟨0, 4, ⟨(-dy), dx, l2, dy, (-dx), 0⟩, AC⟩]) := (show _ = _ from by simp [spL, hk])
      obtain ⟨I1, T, B3, SSL, cI, cBp, cT, cB3, cSS, cQ2, cQ3⟩ := (hB.resolve_left (by simp [hk])).h
      clear hB
      simp only [CX, CP, CQ, amV] at cI cBp cT cB3 cSS cQ2 cQ3
      have cGx : ∀ w, Calls Tryz.prog 35 #[.int .u8 4, .agg #[.int .i64 (-dy), .int .i64 dx, .int .i64 l2, .int .i64 dy, .int .i64 (-dx), .int .i64 0], .agg #[.float .f64 AC.1.1, .float .f64 AC.1.2, .float .f64 AC.2]] w fun e w' => e = .returned (.agg #[.int .i64 0, .int .u8 4, .int .i64 (-dy), .int .i64 dx, .int .i64 l2, .int .i64 dy, .int .i64 (-dx), .int .i64 0, .float .f64 AC.1.1, .float .f64 AC.1.2, .float .f64 AC.2]) ∧ Below w.heap.size w w' := fun w => cG 4 ⟨(-dy), dx, l2, dy, (-dx), 0⟩ AC w
      clear cG cQ3
      go_upto_region 7 with fail
      obtain ⟨FL, hFL⟩ : ∃ fz : Nat → Lz, fz = (fun j => match j with | 0 => .is (.pointer (some ⟨w.heap.size, 6, none⟩)) | 1 => .is (.float .f64 me) | 2 => .is (.agg #[.float .f64 E1.1.1, .float .f64 E1.1.2, .float .f64 E1.2]) | 3 => .is (.pointer (some ⟨w.heap.size, 8, none⟩)) | 4 => .is (.float .f64 mi) | 5 => .is (.agg #[.float .f64 I1.1.1, .float .f64 I1.1.2, .float .f64 I1.2]) | 6 => .gn (fun a x => ∃ g, x = .slice (some ⟨g, 0, none⟩) 1 1 ∧ ARow a (some ⟨g, 0, none⟩) [I1]) (fun a a' x h hb => h.elim fun g h => ⟨g, h.1, h.2.below hb⟩) | 7 => .is (.agg #[.float .f64 B.1.1, .float .f64 B.1.2, .float .f64 B.2]) | 8 => .gn (fun a x => ∃ g, x = .pointer (some ⟨g, 0, none⟩) ∧ T3 a g (.float .f64 0) (.float .f64 0) (.float .f64 0) ∧ V4.heap.size ≤ g) (fun a a' x h hb => h.elim fun g h => ⟨g, h.1, h.2.1.below hb, h.2.2⟩) | 9 => .tr | _ => .tr) := ⟨_, rfl⟩
      have F0 := congrFun hFL 0
      have F1 := congrFun hFL 1
      have F2 := congrFun hFL 2
      have F3 := congrFun hFL 3
      have F4 := congrFun hFL 4
      have F5 := congrFun hFL 5
      have F6 := congrFun hFL 6
      have F7 := congrFun hFL 7
      have F8 := congrFun hFL 8
      have F9 := congrFun hFL 9
      simp only at F0 F1 F2 F3 F4 F5 F6 F7 F8 F9
      clear hFL
      refine region_rgY (by kernel_rfl) (fun vv => ⟨#[.agg #[.string ms, .int .u8 ↑mk, .int .i64 ma, .int .i64 mb, .bool false, .bool true, .float .f64 me, .float .f64 mar, .float .f64 mi], .agg #[.string ps, .int .i32 px, .int .i32 py, .int .u8 ↑pf], .agg #[.string qs, .int .i32 qx, .int .i32 qy, .int .u8 ↑qf], .pointer (some ⟨w.heap.size, 0, none⟩), .pointer (some ⟨w.heap.size + 1, 0, none⟩), .pointer (some ⟨w.heap.size + 1 + 1, 0, none⟩), .slice none 0 0, .int .i64 dx, .int .i64 dy, .int .i64 l2, .pointer (some ⟨gl, 0, none⟩), .pointer (some ⟨gs, 0, none⟩), .pointer (some ⟨gp, 0, none⟩), .pointer (some ⟨gx, 0, none⟩), vv 8, undef, undef, undef, .tuple #[.int .i64 dx, .int .i64 dy, .int .i64 l2], .agg #[.string ps, .int .i32 px, .int .i32 py, .int .u8 ↑pf], .agg #[.string qs, .int .i32 qx, .int .i32 qy, .int .u8 ↑qf], .tuple #[.int .i64 dx, .int .i64 dy, .int .i64 l2], .int .i64 dx, .int .i64 dy, .int .i64 l2, .agg #[.string ps, .int .i32 px, .int .i32 py, .int .u8 ↑pf], .agg #[.string qs, .int .i32 qx, .int .i32 qy, .int .u8 ↑qf], .agg #[.float .f64 L.fst.fst, .float .f64 L.fst.snd, .float .f64 L.snd], .int .i64 l2, .float .f64 sF, .agg #[.float .f64 S.fst.fst, .float .f64 S.fst.snd, .float .f64 S.snd], gpy0, gpy1, gpy2, gpy3, gpy4, gpy5, gpy6, gpy7, gxy0, gxy1, gxy2, gxy3, gxy4, gxy5, gxy6, gxy7, gxy8, gxy9, gxy10, gxy11, gxy12, gxy13, .pointer (some ⟨w.heap.size, 1, none⟩), .int .u8 ↑mk, .bool false, .bool false, .pointer (some ⟨w.heap.size, 4, none⟩), .bool false, .bool false, undef, undef, .bool false, .bool false, undef, undef, vv 0, vv 1, vv 2, vv 3, vv 4, vv 5, vv 6, vv 7, undef, undef, undef, undef, undef, undef, undef, undef, undef, undef, undef, undef, undef, undef, undef, undef, undef, undef, undef, undef, undef, undef, undef, undef, undef, undef, undef, undef, undef, undef, undef, undef, undef, undef, undef, undef, undef, undef, undef, undef, undef, undef, undef, undef, undef, undef, undef, undef, undef, undef, undef, undef, undef, undef, undef, undef, undef, undef, undef, undef, undef, undef], []⟩) 9 FL (fun wz vz => ∃ g, vz 8 = .pointer (some ⟨g, 0, none⟩) ∧ T3 wz g (.float .f64 B.1.1) (.float .f64 B.1.2) (.float .f64 B.2) ∧ Below V4.heap.size V4 wz) (fun j => match j with  | _ => undef) rfl ?_ ?_
      ·intro Lq vv wq i hL hS hD hi
       obtain ⟨hr1, hr2, hr3⟩ := mem_ready hi
       have hr1 : i < 10 := hr1
       try dsimp only
       have hcs : i = 0 ∨ i = 1 ∨ i = 2 ∨ i = 3 ∨ i = 4 ∨ i = 5 ∨ i = 6 ∨ i = 7 ∨ i = 8 ∨ i = 9 := by omega
       clear hr1 hr2 hr3
       have hns := hS.open hL hi
       have hB := hS.a hns
       rcases hcs with rfl | rfl | rfl | rfl | rfl | rfl | rfl | rfl | rfl | rfl
       ·refine wpOpT_of (fun K hK => ?_)
        unfold wpOp
        go_simp
        refine Or.inl ?_
        exact hK _ _ ⟨putT vv 0 (.pointer (some ⟨w.heap.size, 6, none⟩)), (by simp [putT]), hS.step hL hi (by decide) (Below.refl _ _) (Lz.toIs F0)⟩
       ·have e0 := Lz.ofIs (hS.f hns 0 (ready_dep hi 0 (by kernel_rfl))) F0
        have r6 := (hB.cell (p := ⟨w.heap.size, 6, none⟩) MX.lt).trans x6
        refine wpOpT_of (fun K hK => ?_)
        unfold wpOp
        simp only [e0]
        go_simp
        refine Or.inl ?_
        exact hK _ _ ⟨putT vv 1 (.float .f64 me), (by simp [putT, e0]), hS.step hL hi (by decide) (Below.refl _ _) (Lz.toIs F1)⟩
       ·have e1 := Lz.ofIs (hS.f hns 1 (ready_dep hi 1 (by kernel_rfl))) F1
        refine wpOpT_of (fun K hK => ?_)
        unfold wpOp
        simp only [e1]
        go_simp
        refine Or.inl ?_
        go_at_call 33
        refine (cE _).mono ?_
        rintro e w1 ⟨rfl, bc⟩
        exact hK _ _ ⟨putT vv 2 (.agg #[.float .f64 E1.1.1, .float .f64 E1.1.2, .float .f64 E1.2]), (by simp [putT, e1]), hS.step hL hi (by decide) (bc) (Lz.toIs F2)⟩
       ·refine wpOpT_of (fun K hK => ?_)
        unfold wpOp
        go_simp
        refine Or.inl ?_
        exact hK _ _ ⟨putT vv 3 (.pointer (some ⟨w.heap.size, 8, none⟩)), (by simp [putT]), hS.step hL hi (by decide) (Below.refl _ _) (Lz.toIs F3)⟩
       ·have e3 := Lz.ofIs (hS.f hns 3 (ready_dep hi 3 (by kernel_rfl))) F3
        have r8 := (hB.cell (p := ⟨w.heap.size, 8, none⟩) MX.lt).trans x8
        refine wpOpT_of (fun K hK => ?_)
        unfold wpOp
        simp only [e3]
        go_simp
        refine Or.inl ?_
        exact hK _ _ ⟨putT vv 4 (.float .f64 mi), (by simp [putT, e3]), hS.step hL hi (by decide) (Below.refl _ _) (Lz.toIs F4)⟩
       ·have e4 := Lz.ofIs (hS.f hns 4 (ready_dep hi 4 (by kernel_rfl))) F4
        refine wpOpT_of (fun K hK => ?_)
        unfold wpOp
        simp only [e4]
        go_simp
        refine Or.inl ?_
        go_at_call 33
        refine (cI _).mono ?_
        rintro e w1 ⟨rfl, bc⟩
        exact hK _ _ ⟨putT vv 5 (.agg #[.float .f64 I1.1.1, .float .f64 I1.1.2, .float .f64 I1.2]), (by simp [putT, e4]), hS.step hL hi (by decide) (bc) (Lz.toIs F5)⟩
       ·have e5 := Lz.ofIs (hS.f hns 5 (ready_dep hi 5 (by kernel_rfl))) F5
        refine wpOpT_of (fun K hK => ?_)
        unfold wpOp
        simp only [e5]
        go_simp
        refine Or.inl ?_
        exact hK _ _ ⟨putT vv 6 (.slice (some ⟨wq.heap.size, 0, none⟩) 1 1), (by simp [putT, e5]), hS.step hL hi (by decide) ((Below.refl _ _).alloc (Nat.le_refl _) _) (Lz.toGn F6 (⟨_, rfl, arow_one _ _ _⟩))⟩
       ·have e2 := Lz.ofIs (hS.f hns 2 (ready_dep hi 2 (by kernel_rfl))) F2
        obtain ⟨g6, e6, u6⟩ := Lz.ofGn (hS.f hns 6 (ready_dep hi 6 (by kernel_rfl))) F6
        refine wpOpT_of (fun K hK => ?_)
        unfold wpOp
        simp only [e2, e6]
        go_simp
        refine Or.inl ?_
        go_at_call 34
        refine (cBp _ _ u6 (tabW_below T4a hB)).mono ?_
        rintro e w1 ⟨rfl, bc⟩
        exact hK _ _ ⟨putT vv 7 (.agg #[.float .f64 B.1.1, .float .f64 B.1.2, .float .f64 B.2]), (by simp [putT, e2, e6]), hS.step hL hi (by decide) (bc) (Lz.toIs F7)⟩
       ·refine wpOpT_of (fun K hK => ?_)
        unfold wpOp
        go_simp
        refine Or.inl ?_
        exact hK _ _ ⟨putT vv 8 (.pointer (some ⟨wq.heap.size, 0, none⟩)), (by simp [putT]), hS.step hL hi (by decide) ((Below.refl _ _).alloc (Nat.le_refl _) _) (Lz.toGn F8 (⟨_, rfl, T3.new _ _ _ _ _, hB.size⟩))⟩
       ·have e7 := Lz.ofIs (hS.f hns 7 (ready_dep hi 7 (by kernel_rfl))) F7
        obtain ⟨g8, e8, u8, l8⟩ := Lz.ofGn (hS.f hns 8 (ready_dep hi 8 (by kernel_rfl))) F8
        have hst := run_storef Tryz.prog
        obtain ⟨s0, s1, s2, f0, f1, f2, _⟩ := id u8
        refine wpOpT_of (fun K hK => ?_)
        unfold wpOp
        simp only [e7, e8]
        go_simp
        refine Or.inl ?_
        exact hK _ _ ⟨putT vv 9 undef, (by simp [putT, e7, e8]), hS.last hL hi (allY hD hi (by kernel_rfl)) (⟨g8, (by simp [putT, e8]), ((u8.set0 _).set1 _).set2 _, below_thr hB l8 _ _ _⟩)⟩
      ·intro Lq vv wq hL hS hr
       have on := all_done hL hr (by kernel_rfl)
       obtain ⟨gb, hq, BB, bq⟩ := hS.z (on 9 (by decide))
       try dsimp only
       rw [hq]
       generalize vv 0 = gby0 at *
       generalize vv 1 = gby1 at *
       generalize vv 2 = gby2 at *
       generalize vv 3 = gby3 at *
       generalize vv 4 = gby4 at *
       generalize vv 5 = gby5 at *
       generalize vv 6 = gby6 at *
       generalize vv 7 = gby7 at *
       clear hS on hr FL hL Lq hq vv F0 F1 F2 F3 F4 F5 F6 F7 F8 F9
       replace MX := MX.below bq
       replace LB := LB.below bq
       replace SB := SB.below bq
       replace XB := XB.below bq
       have hb7 := hb6.trans (bq.mono hb6.size)
       clear bq T4a hb6
       generalize wq = V5 at *
       have T5a := tabW_below hT hb7
       clear x0 x1 x2 x3 x4 x5 x6 x7 x8 X0 X1 X2 X3 X4 X5 X6 X7 X8 X9 X10
       clear cE cI cBp
       go_upto_region 8 with fail
       obtain ⟨FL, hFL⟩ : ∃ fz : Nat → Lz, fz = (fun j => match j with | 0 => .is (.agg #[.float .f64 T.1.1, .float .f64 T.1.2, .float .f64 T.2]) | 1 => .is (.agg #[.float .f64 B.1.1, .float .f64 B.1.2, .float .f64 B.2]) | 2 => .gn (fun a x => ∃ g, x = .slice (some ⟨g, 0, none⟩) 1 1 ∧ ARow a (some ⟨g, 0, none⟩) [B]) (fun a a' x h hb => h.elim fun g h => ⟨g, h.1, h.2.below hb⟩) | 3 => .is (.agg #[.float .f64 B3.1.1, .float .f64 B3.1.2, .float .f64 B3.2]) | 4 => .is (.agg #[.float .f64 S.1.1, .float .f64 S.1.2, .float .f64 S.2]) | 5 => .is (.agg #[.float .f64 S.1.1, .float .f64 S.1.2, .float .f64 S.2]) | 6 => .is (.agg #[.float .f64 L.1.1, .float .f64 L.1.2, .float .f64 L.2]) | 7 => .gn (fun a x => ∃ g, x = .slice (some ⟨g, 0, none⟩) 2 2 ∧ ARow a (some ⟨g, 0, none⟩) [S, L]) (fun a a' x h hb => h.elim fun g h => ⟨g, h.1, h.2.below hb⟩) | 8 => .is (.agg #[.float .f64 SSL.1.1, .float .f64 SSL.1.2, .float .f64 SSL.2]) | 9 => .is (.agg #[.float .f64 AC.1.1, .float .f64 AC.1.2, .float .f64 AC.2]) | 10 => .gn (fun a x => ∃ g, x = .pointer (some ⟨g, 0, none⟩) ∧ T3 a g (.float .f64 0) (.float .f64 0) (.float .f64 0) ∧ V5.heap.size ≤ g) (fun a a' x h hb => h.elim fun g h => ⟨g, h.1, h.2.1.below hb, h.2.2⟩) | 11 => .tr | _ => .tr) := ⟨_, rfl⟩
       have F0 := congrFun hFL 0
       have F1 := congrFun hFL 1
       have F2 := congrFun hFL 2
       have F3 := congrFun hFL 3
       have F4 := congrFun hFL 4
       have F5 := congrFun hFL 5
       have F6 := congrFun hFL 6
       have F7 := congrFun hFL 7
       have F8 := congrFun hFL 8
       have F9 := congrFun hFL 9
       have F10 := congrFun hFL 10
       have F11 := congrFun hFL 11
       simp only at F0 F1 F2 F3 F4 F5 F6 F7 F8 F9 F10 F11
       clear hFL
       refine region_rgY (by kernel_rfl) (fun vv => ⟨#[.agg #[.string ms, .int .u8 ↑mk, .int .i64 ma, .int .i64 mb, .bool false, .bool true, .float .f64 me, .float .f64 mar, .float .f64 mi], .agg #[.string ps, .int .i32 px, .int .i32 py, .int .u8 ↑pf], .agg #[.string qs, .int .i32 qx, .int .i32 qy, .int .u8 ↑qf], .pointer (some ⟨w.heap.size, 0, none⟩), .pointer (some ⟨w.heap.size + 1, 0, none⟩), .pointer (some ⟨w.heap.size + 1 + 1, 0, none⟩), .slice none 0 0, .int .i64 dx, .int .i64 dy, .int .i64 l2, .pointer (some ⟨gl, 0, none⟩), .pointer (some ⟨gs, 0, none⟩), .pointer (some ⟨gp, 0, none⟩), .pointer (some ⟨gx, 0, none⟩), .pointer (some ⟨gb, 0, none⟩), vv 10, undef, undef, .tuple #[.int .i64 dx, .int .i64 dy, .int .i64 l2], .agg #[.string ps, .int .i32 px, .int .i32 py, .int .u8 ↑pf], .agg #[.string qs, .int .i32 qx, .int .i32 qy, .int .u8 ↑qf], .tuple #[.int .i64 dx, .int .i64 dy, .int .i64 l2], .int .i64 dx, .int .i64 dy, .int .i64 l2, .agg #[.string ps, .int .i32 px, .int .i32 py, .int .u8 ↑pf], .agg #[.string qs, .int .i32 qx, .int .i32 qy, .int .u8 ↑qf], .agg #[.float .f64 L.fst.fst, .float .f64 L.fst.snd, .float .f64 L.snd], .int .i64 l2, .float .f64 sF, .agg #[.float .f64 S.fst.fst, .float .f64 S.fst.snd, .float .f64 S.snd], gpy0, gpy1, gpy2, gpy3, gpy4, gpy5, gpy6, gpy7, gxy0, gxy1, gxy2, gxy3, gxy4, gxy5, gxy6, gxy7, gxy8, gxy9, gxy10, gxy11, gxy12, gxy13, .pointer (some ⟨w.heap.size, 1, none⟩), .int .u8 ↑mk, .bool false, .bool false, .pointer (some ⟨w.heap.size, 4, none⟩), .bool false, .bool false, undef, undef, .bool false, .bool false, undef, undef, gby0, gby1, gby2, gby3, gby4, gby5, gby6, gby7, vv 0, vv 1, vv 2, vv 3, vv 4, vv 5, vv 6, vv 7, vv 8, vv 9, undef, undef, undef, undef, undef, undef, undef, undef, undef, undef, undef, undef, undef, undef, undef, undef, undef, undef, undef, undef, undef, undef, undef, undef, undef, undef, undef, undef, undef, undef, undef, undef, undef, undef, undef, undef, undef, undef, undef, undef, undef, undef, undef, undef, undef, undef, undef, undef, undef, undef, undef, undef], []⟩) 11 FL (fun wz vz => ∃ g, vz 10 = .pointer (some ⟨g, 0, none⟩) ∧ T3 wz g (.float .f64 AC.1.1) (.float .f64 AC.1.2) (.float .f64 AC.2) ∧ Below V5.heap.size V5 wz) (fun j => match j with  | _ => undef) rfl ?_ ?_
       ·intro Lq vv wq i hL hS hD hi
        obtain ⟨hr1, hr2, hr3⟩ := mem_ready hi
        have hr1 : i < 12 := hr1
        try dsimp only
        have hcs : i = 0 ∨ i = 1 ∨ i = 2 ∨ i = 3 ∨ i = 4 ∨ i = 5 ∨ i = 6 ∨ i = 7 ∨ i = 8 ∨ i = 9 ∨ i = 10 ∨ i = 11 := by omega
        clear hr1 hr2 hr3
        have hns := hS.open hL hi
        have hB := hS.a hns
        rcases hcs with rfl | rfl | rfl | rfl | rfl | rfl | rfl | rfl | rfl | rfl | rfl | rfl
        ·refine wpOpT_of (fun K hK => ?_)
         unfold wpOp
         go_simp
         refine Or.inl ?_
         go_at_call 33
         refine (cT _).mono ?_
         rintro e w1 ⟨rfl, bc⟩
         exact hK _ _ ⟨putT vv 0 (.agg #[.float .f64 T.1.1, .float .f64 T.1.2, .float .f64 T.2]), (by simp [putT]), hS.step hL hi (by decide) (bc) (Lz.toIs F0)⟩
        ·obtain ⟨BB0, BB1, BB2, _, _, _, _⟩ := BB.below hB
         refine wpOpT_of (fun K hK => ?_)
         unfold wpOp
         go_simp
         refine Or.inl ?_
         exact hK _ _ ⟨putT vv 1 (.agg #[.float .f64 B.1.1, .float .f64 B.1.2, .float .f64 B.2]), (by simp [putT]), hS.step hL hi (by decide) (Below.refl _ _) (Lz.toIs F1)⟩
        ·have e1 := Lz.ofIs (hS.f hns 1 (ready_dep hi 1 (by kernel_rfl))) F1
         refine wpOpT_of (fun K hK => ?_)
         unfold wpOp
         simp only [e1]
         go_simp
         refine Or.inl ?_
         exact hK _ _ ⟨putT vv 2 (.slice (some ⟨wq.heap.size, 0, none⟩) 1 1), (by simp [putT, e1]), hS.step hL hi (by decide) ((Below.refl _ _).alloc (Nat.le_refl _) _) (Lz.toGn F2 (⟨_, rfl, arow_one _ _ _⟩))⟩
        ·have e0 := Lz.ofIs (hS.f hns 0 (ready_dep hi 0 (by kernel_rfl))) F0
         obtain ⟨g2, e2, u2⟩ := Lz.ofGn (hS.f hns 2 (ready_dep hi 2 (by kernel_rfl))) F2
         refine wpOpT_of (fun K hK => ?_)
         unfold wpOp
         simp only [e0, e2]
         go_simp
         refine Or.inl ?_
         go_at_call 34
         refine (cB3 _ _ u2 (tabW_below T5a hB)).mono ?_
         rintro e w1 ⟨rfl, bc⟩
         exact hK _ _ ⟨putT vv 3 (.agg #[.float .f64 B3.1.1, .float .f64 B3.1.2, .float .f64 B3.2]), (by simp [putT, e0, e2]), hS.step hL hi (by decide) (bc) (Lz.toIs F3)⟩
        ·obtain ⟨SB0, SB1, SB2, _, _, _, _⟩ := SB.below hB
         refine wpOpT_of (fun K hK => ?_)
         unfold wpOp
         go_simp
         refine Or.inl ?_
         exact hK _ _ ⟨putT vv 4 (.agg #[.float .f64 S.1.1, .float .f64 S.1.2, .float .f64 S.2]), (by simp [putT]), hS.step hL hi (by decide) (Below.refl _ _) (Lz.toIs F4)⟩
        ·obtain ⟨SB0, SB1, SB2, _, _, _, _⟩ := SB.below hB
         refine wpOpT_of (fun K hK => ?_)
         unfold wpOp
         go_simp
         refine Or.inl ?_
         exact hK _ _ ⟨putT vv 5 (.agg #[.float .f64 S.1.1, .float .f64 S.1.2, .float .f64 S.2]), (by simp [putT]), hS.step hL hi (by decide) (Below.refl _ _) (Lz.toIs F5)⟩
        ·obtain ⟨LB0, LB1, LB2, _, _, _, _⟩ := LB.below hB
         refine wpOpT_of (fun K hK => ?_)
         unfold wpOp
         go_simp
         refine Or.inl ?_
         exact hK _ _ ⟨putT vv 6 (.agg #[.float .f64 L.1.1, .float .f64 L.1.2, .float .f64 L.2]), (by simp [putT]), hS.step hL hi (by decide) (Below.refl _ _) (Lz.toIs F6)⟩
        ·have e5 := Lz.ofIs (hS.f hns 5 (ready_dep hi 5 (by kernel_rfl))) F5
         have e6 := Lz.ofIs (hS.f hns 6 (ready_dep hi 6 (by kernel_rfl))) F6
         refine wpOpT_of (fun K hK => ?_)
         unfold wpOp
         simp only [e5, e6]
         go_simp
         refine Or.inl ?_
         exact hK _ _ ⟨putT vv 7 (.slice (some ⟨wq.heap.size, 0, none⟩) 2 2), (by simp [putT, e5, e6]), hS.step hL hi (by decide) ((Below.refl _ _).alloc (Nat.le_refl _) _) (Lz.toGn F7 (⟨_, rfl, arow_two _ _ _ _⟩))⟩
        ·have e4 := Lz.ofIs (hS.f hns 4 (ready_dep hi 4 (by kernel_rfl))) F4
         obtain ⟨g7, e7, u7⟩ := Lz.ofGn (hS.f hns 7 (ready_dep hi 7 (by kernel_rfl))) F7
         refine wpOpT_of (fun K hK => ?_)
         unfold wpOp
         simp only [e4, e7]
         go_simp
         refine Or.inl ?_
         go_at_call 34
         refine (cSS _ _ u7 (tabW_below T5a hB)).mono ?_
         rintro e w1 ⟨rfl, bc⟩
         exact hK _ _ ⟨putT vv 8 (.agg #[.float .f64 SSL.1.1, .float .f64 SSL.1.2, .float .f64 SSL.2]), (by simp [putT, e4, e7]), hS.step hL hi (by decide) (bc) (Lz.toIs F8)⟩
        ·have e3 := Lz.ofIs (hS.f hns 3 (ready_dep hi 3 (by kernel_rfl))) F3
         have e8 := Lz.ofIs (hS.f hns 8 (ready_dep hi 8 (by kernel_rfl))) F8
         refine wpOpT_of (fun K hK => ?_)
         unfold wpOp
         simp only [e3, e8]
         go_simp
         refine Or.inl ?_
         go_at_call 36
         refine (cQ2 _ (tabW_below T5a hB)).mono ?_
         rintro e w1 ⟨rfl, bc⟩
         exact hK _ _ ⟨putT vv 9 (.agg #[.float .f64 AC.1.1, .float .f64 AC.1.2, .float .f64 AC.2]), (by simp [putT, e3, e8]), hS.step hL hi (by decide) (bc) (Lz.toIs F9)⟩
        ·refine wpOpT_of (fun K hK => ?_)
         unfold wpOp
         go_simp
         refine Or.inl ?_
         exact hK _ _ ⟨putT vv 10 (.pointer (some ⟨wq.heap.size, 0, none⟩)), (by simp [putT]), hS.step hL hi (by decide) ((Below.refl _ _).alloc (Nat.le_refl _) _) (Lz.toGn F10 (⟨_, rfl, T3.new _ _ _ _ _, hB.size⟩))⟩
        ·have e9 := Lz.ofIs (hS.f hns 9 (ready_dep hi 9 (by kernel_rfl))) F9
         obtain ⟨g10, e10, u10, l10⟩ := Lz.ofGn (hS.f hns 10 (ready_dep hi 10 (by kernel_rfl))) F10
         have hst := run_storef Tryz.prog
         obtain ⟨s0, s1, s2, f0, f1, f2, _⟩ := id u10
         refine wpOpT_of (fun K hK => ?_)
         unfold wpOp
         simp only [e9, e10]
         go_simp
         refine Or.inl ?_
         exact hK _ _ ⟨putT vv 11 undef, (by simp [putT, e9, e10]), hS.last hL hi (allY hD hi (by kernel_rfl)) (⟨g10, (by simp [putT, e10]), ((u10.set0 _).set1 _).set2 _, below_thr hB l10 _ _ _⟩)⟩
       ·intro Lq vv wq hL hS hr
        have on := all_done hL hr (by kernel_rfl)
        obtain ⟨gc, hq, CB, bq⟩ := hS.z (on 11 (by decide))
        try dsimp only
        rw [hq]
        generalize vv 0 = gcy0 at *
        generalize vv 1 = gcy1 at *
        generalize vv 2 = gcy2 at *
        generalize vv 3 = gcy3 at *
        generalize vv 4 = gcy4 at *
        generalize vv 5 = gcy5 at *
        generalize vv 6 = gcy6 at *
        generalize vv 7 = gcy7 at *
        generalize vv 8 = gcy8 at *
        generalize vv 9 = gcy9 at *
        clear hS on hr FL hL Lq hq vv F0 F1 F2 F3 F4 F5 F6 F7 F8 F9 F10 F11
        replace MX := MX.below bq
        replace LB := LB.below bq
        replace XB := XB.below bq
        replace BB := BB.below bq
        have hb8 := hb7.trans (bq.mono hb7.size)
        clear bq T5a hb7
        generalize wq = V6 at *
        have T6a := tabW_below hT hb8
        clear cT cB3 cSS cQ2
        obtain ⟨x0, x1, x2, x3, x4, x5, x6, x7, x8⟩ := MX.at0
        simp only [Nat.zero_add] at x0 x1 x2 x3 x4 x5 x6 x7 x8
        obtain ⟨X0, X1, X2, X3, X4, X5, X6, X7, X8, X9, X10⟩ := XB.at0
        simp only [Nat.zero_add] at X0 X1 X2 X3 X4 X5 X6 X7 X8 X9 X10
        obtain ⟨c0, c1, c2, _, _, _, _⟩ := id CB
        go_upto_region 12 with fail
        clear x0 x1 x2 x3 x4 x5 x6 x7 x8 X0 X1 X2 X3 X4 X5 X6 X7 X8 X9 X10 c0 c1 c2
        obtain ⟨FL, hFL⟩ : ∃ fz : Nat → Lz, fz = (fun j => match j with | 0 => .is (.agg #[.int .i64 0, .int .u8 1, .int .i64 (-dx), .int .i64 (-dy), .int .i64 0, .int .i64 dx, .int .i64 dy, .int .i64 0, .float .f64 AX.1.1, .float .f64 AX.1.2, .float .f64 AX.2]) | 1 => .is (.int .i64 dy) | 2 => .is (.int .i64 (-dy)) | 3 => .is (.int .i64 dx) | 4 => .is (.int .i64 l2) | 5 => .is (.int .i64 dy) | 6 => .is (.int .i64 dx) | 7 => .is (.int .i64 (-dx)) | 8 => .is (.agg #[.int .i64 (-dy), .int .i64 dx, .int .i64 l2, .int .i64 dy, .int .i64 (-dx), .int .i64 0]) | 9 => .is (.agg #[.float .f64 AC.1.1, .float .f64 AC.1.2, .float .f64 AC.2]) | 10 => .is (.agg #[.int .i64 0, .int .u8 4, .int .i64 (-dy), .int .i64 dx, .int .i64 l2, .int .i64 dy, .int .i64 (-dx), .int .i64 0, .float .f64 AC.1.1, .float .f64 AC.1.2, .float .f64 AC.2]) | 11 => .gn (fun a x => ∃ g, x = .slice (some ⟨g, 0, none⟩) 2 2 ∧ SgRow a (some ⟨g, 0, none⟩) [⟨0, 1, ⟨-dx, -dy, 0, dx, dy, 0⟩, AX⟩, ⟨0, 4, ⟨(-dy), dx, l2, dy, (-dx), 0⟩, AC⟩] ∧ V6.heap.size ≤ g) (fun a a' x h hb => h.elim fun g h => ⟨g, h.1, h.2.1.below hb, h.2.2⟩) | 12 => .gn (fun a x => ∃ g, x = .slice (some ⟨g, 0, none⟩) 2 2 ∧ SgRow a (some ⟨g, 0, none⟩) [⟨0, 1, ⟨-dx, -dy, 0, dx, dy, 0⟩, AX⟩, ⟨0, 4, ⟨(-dy), dx, l2, dy, (-dx), 0⟩, AC⟩] ∧ V6.heap.size ≤ g) (fun a a' x h hb => h.elim fun g h => ⟨g, h.1, h.2.1.below hb, h.2.2⟩) | _ => .tr) := ⟨_, rfl⟩
        have F0 := congrFun hFL 0
        have F1 := congrFun hFL 1
        have F2 := congrFun hFL 2
        have F3 := congrFun hFL 3
        have F4 := congrFun hFL 4
        have F5 := congrFun hFL 5
        have F6 := congrFun hFL 6
        have F7 := congrFun hFL 7
        have F8 := congrFun hFL 8
        have F9 := congrFun hFL 9
        have F10 := congrFun hFL 10
        have F11 := congrFun hFL 11
        have F12 := congrFun hFL 12
        simp only at F0 F1 F2 F3 F4 F5 F6 F7 F8 F9 F10 F11 F12
        clear hFL
        refine region_rgY (by kernel_rfl) (fun vv => ⟨#[.agg #[.string ms, .int .u8 ↑mk, .int .i64 ma, .int .i64 mb, .bool false, .bool true, .float .f64 me, .float .f64 mar, .float .f64 mi], .agg #[.string ps, .int .i32 px, .int .i32 py, .int .u8 ↑pf], .agg #[.string qs, .int .i32 qx, .int .i32 qy, .int .u8 ↑qf], .pointer (some ⟨w.heap.size, 0, none⟩), .pointer (some ⟨w.heap.size + 1, 0, none⟩), .pointer (some ⟨w.heap.size + 1 + 1, 0, none⟩), vv 12, .int .i64 dx, .int .i64 dy, .int .i64 l2, .pointer (some ⟨gl, 0, none⟩), .pointer (some ⟨gs, 0, none⟩), .pointer (some ⟨gp, 0, none⟩), .pointer (some ⟨gx, 0, none⟩), .pointer (some ⟨gb, 0, none⟩), .pointer (some ⟨gc, 0, none⟩), undef, undef, .tuple #[.int .i64 dx, .int .i64 dy, .int .i64 l2], .agg #[.string ps, .int .i32 px, .int .i32 py, .int .u8 ↑pf], .agg #[.string qs, .int .i32 qx, .int .i32 qy, .int .u8 ↑qf], .tuple #[.int .i64 dx, .int .i64 dy, .int .i64 l2], .int .i64 dx, .int .i64 dy, .int .i64 l2, .agg #[.string ps, .int .i32 px, .int .i32 py, .int .u8 ↑pf], .agg #[.string qs, .int .i32 qx, .int .i32 qy, .int .u8 ↑qf], .agg #[.float .f64 L.fst.fst, .float .f64 L.fst.snd, .float .f64 L.snd], .int .i64 l2, .float .f64 sF, .agg #[.float .f64 S.fst.fst, .float .f64 S.fst.snd, .float .f64 S.snd], gpy0, gpy1, gpy2, gpy3, gpy4, gpy5, gpy6, gpy7, gxy0, gxy1, gxy2, gxy3, gxy4, gxy5, gxy6, gxy7, gxy8, gxy9, gxy10, gxy11, gxy12, gxy13, .pointer (some ⟨w.heap.size, 1, none⟩), .int .u8 ↑mk, .bool false, .bool false, .pointer (some ⟨w.heap.size, 4, none⟩), .bool false, .bool false, undef, undef, .bool false, .bool false, undef, undef, gby0, gby1, gby2, gby3, gby4, gby5, gby6, gby7, gcy0, gcy1, gcy2, gcy3, gcy4, gcy5, gcy6, gcy7, gcy8, gcy9, .bool false, .pointer (some ⟨w.heap.size, 4, none⟩), .bool false, undef, undef, undef, undef, undef, undef, undef, undef, undef, undef, undef, undef, .bool true, .pointer (some ⟨w.heap.size, 5, none⟩), .bool true, vv 0, vv 1, vv 2, vv 3, vv 4, vv 5, vv 6, vv 7, vv 8, vv 9, vv 10, vv 11, undef, undef, undef, undef, undef, undef, undef, undef, undef, undef, undef, undef, undef, undef, undef, undef, undef, undef, undef, undef, undef, undef], []⟩) 1013 FL (fun _ _ => True) (fun j => match j with | 12 => Value.slice none 0 0 | _ => undef) rfl ?_ ?_
        ·intro Lq vv wq i hL hS hD hi
         obtain ⟨hr1, hr2, hr3⟩ := mem_ready hi
         have hr1 : i < 13 := hr1
         try dsimp only
         have hcs : i = 0 ∨ i = 1 ∨ i = 2 ∨ i = 3 ∨ i = 4 ∨ i = 5 ∨ i = 6 ∨ i = 7 ∨ i = 8 ∨ i = 9 ∨ i = 10 ∨ i = 11 ∨ i = 12 := by omega
         clear hr1 hr2 hr3
         have hns := hS.open hL hi
         have hB := hS.a hns
         rcases hcs with rfl | rfl | rfl | rfl | rfl | rfl | rfl | rfl | rfl | rfl | rfl | rfl | rfl
         ·obtain ⟨X0, X1, X2, X3, X4, X5, X6, X7, X8, X9, X10⟩ := (XB.below hB).at0
          simp only [Nat.zero_add] at X0 X1 X2 X3 X4 X5 X6 X7 X8 X9 X10
          refine wpOpT_of (fun K hK => ?_)
          unfold wpOp
          go_simp
          refine Or.inl ?_
          exact hK _ _ ⟨putT vv 0 (.agg #[.int .i64 0, .int .u8 1, .int .i64 (-dx), .int .i64 (-dy), .int .i64 0, .int .i64 dx, .int .i64 dy, .int .i64 0, .float .f64 AX.1.1, .float .f64 AX.1.2, .float .f64 AX.2]), (by simp [putT]), hS.step hL hi (by decide) (Below.refl _ _) (Lz.toIs F0)⟩
         ·refine wpOpT_of (fun K hK => ?_)
          unfold wpOp
          go_simp
          refine Or.inl ?_
          exact hK _ _ ⟨putT vv 1 (.int .i64 dy), (by simp [putT]), hS.step hL hi (by decide) (Below.refl _ _) (Lz.toIs F1)⟩
         ·have e1 := Lz.ofIs (hS.f hns 1 (ready_dep hi 1 (by kernel_rfl))) F1
          refine wpOpT_of (fun K hK => ?_)
          unfold wpOp
          simp only [e1]
          go_simp
          refine Or.inl ?_
          exact hK _ _ ⟨putT vv 2 (.int .i64 (-dy)), (by simp [putT, e1]), hS.step hL hi (by decide) (Below.refl _ _) (Lz.toIs F2)⟩
         ·refine wpOpT_of (fun K hK => ?_)
          unfold wpOp
          go_simp
          refine Or.inl ?_
          exact hK _ _ ⟨putT vv 3 (.int .i64 dx), (by simp [putT]), hS.step hL hi (by decide) (Below.refl _ _) (Lz.toIs F3)⟩
         ·refine wpOpT_of (fun K hK => ?_)
          unfold wpOp
          go_simp
          refine Or.inl ?_
          exact hK _ _ ⟨putT vv 4 (.int .i64 l2), (by simp [putT]), hS.step hL hi (by decide) (Below.refl _ _) (Lz.toIs F4)⟩
         ·refine wpOpT_of (fun K hK => ?_)
          unfold wpOp
          go_simp
          refine Or.inl ?_
          exact hK _ _ ⟨putT vv 5 (.int .i64 dy), (by simp [putT]), hS.step hL hi (by decide) (Below.refl _ _) (Lz.toIs F5)⟩
         ·refine wpOpT_of (fun K hK => ?_)
          unfold wpOp
          go_simp
          refine Or.inl ?_
          exact hK _ _ ⟨putT vv 6 (.int .i64 dx), (by simp [putT]), hS.step hL hi (by decide) (Below.refl _ _) (Lz.toIs F6)⟩
         ·have e6 := Lz.ofIs (hS.f hns 6 (ready_dep hi 6 (by kernel_rfl))) F6
          refine wpOpT_of (fun K hK => ?_)
          unfold wpOp
          simp only [e6]
          go_simp
          refine Or.inl ?_
          exact hK _ _ ⟨putT vv 7 (.int .i64 (-dx)), (by simp [putT, e6]), hS.step hL hi (by decide) (Below.refl _ _) (Lz.toIs F7)⟩
         ·have e2 := Lz.ofIs (hS.f hns 2 (ready_dep hi 2 (by kernel_rfl))) F2
          have e3 := Lz.ofIs (hS.f hns 3 (ready_dep hi 3 (by kernel_rfl))) F3
          have e4 := Lz.ofIs (hS.f hns 4 (ready_dep hi 4 (by kernel_rfl))) F4
          have e5 := Lz.ofIs (hS.f hns 5 (ready_dep hi 5 (by kernel_rfl))) F5
          have e7 := Lz.ofIs (hS.f hns 7 (ready_dep hi 7 (by kernel_rfl))) F7
          refine wpOpT_of (fun K hK => ?_)
          unfold wpOp
          simp only [e2, e3, e4, e5, e7]
          go_simp
          refine Or.inl ?_
          exact hK _ _ ⟨putT vv 8 (.agg #[.int .i64 (-dy), .int .i64 dx, .int .i64 l2, .int .i64 dy, .int .i64 (-dx), .int .i64 0]), (by simp [putT, e2, e3, e4, e5, e7]), hS.step hL hi (by decide) (Below.refl _ _) (Lz.toIs F8)⟩
         ·obtain ⟨CB0, CB1, CB2, _, _, _, _⟩ := CB.below hB
          refine wpOpT_of (fun K hK => ?_)
          unfold wpOp
          go_simp
          refine Or.inl ?_
          exact hK _ _ ⟨putT vv 9 (.agg #[.float .f64 AC.1.1, .float .f64 AC.1.2, .float .f64 AC.2]), (by simp [putT]), hS.step hL hi (by decide) (Below.refl _ _) (Lz.toIs F9)⟩
         ·have e8 := Lz.ofIs (hS.f hns 8 (ready_dep hi 8 (by kernel_rfl))) F8
          have e9 := Lz.ofIs (hS.f hns 9 (ready_dep hi 9 (by kernel_rfl))) F9
          refine wpOpT_of (fun K hK => ?_)
          unfold wpOp
          simp only [e8, e9]
          go_simp
          refine Or.inl ?_
          go_at_call 35
          refine (cGx _).mono ?_
          rintro e w1 ⟨rfl, bc⟩
          exact hK _ _ ⟨putT vv 10 (.agg #[.int .i64 0, .int .u8 4, .int .i64 (-dy), .int .i64 dx, .int .i64 l2, .int .i64 dy, .int .i64 (-dx), .int .i64 0, .float .f64 AC.1.1, .float .f64 AC.1.2, .float .f64 AC.2]), (by simp [putT, e8, e9]), hS.step hL hi (by decide) (bc) (Lz.toIs F10)⟩
         ·have e0 := Lz.ofIs (hS.f hns 0 (ready_dep hi 0 (by kernel_rfl))) F0
          have e10 := Lz.ofIs (hS.f hns 10 (ready_dep hi 10 (by kernel_rfl))) F10
          refine wpOpT_of (fun K hK => ?_)
          unfold wpOp
          simp only [e0, e10]
          go_simp
          refine Or.inl ?_
          exact hK _ _ ⟨putT vv 11 (.slice (some ⟨wq.heap.size, 0, none⟩) 2 2), (by simp [putT, e0, e10]), hS.step hL hi (by decide) ((Below.refl _ _).alloc (Nat.le_refl _) _) (Lz.toGn F11 (⟨_, rfl, sgrow_two _ ⟨0, 1, ⟨-dx, -dy, 0, dx, dy, 0⟩, AX⟩ ⟨0, 4, ⟨(-dy), dx, l2, dy, (-dx), 0⟩, AC⟩ _, hB.size⟩))⟩
         ·obtain ⟨g11, e11, u11, l11⟩ := Lz.ofGn (hS.f hns 11 (ready_dep hi 11 (by kernel_rfl))) F11
          refine wpOpT_of (fun K hK => ?_)
          unfold wpOp
          simp only [e11]
          go_simp
          refine Or.inl ?_
          exact hK _ _ ⟨putT vv 12 (.slice (some ⟨g11, 0, none⟩) 2 2), (by simp [putT, e11]), hS.step hL hi (by decide) (Below.refl _ _) (Lz.toGn F12 (⟨_, rfl, u11, l11⟩))⟩
        ·intro Lq vv wq hL hS hr
         have on := all_done hL hr (by kernel_rfl)
         have hns : ¬ On Lq 1013 := onT_over (by rw [hL]; exact Nat.le_of_ble_eq_true (by kernel_rfl))
         have hB := hS.a hns
         obtain ⟨gz, hq, rz, lz⟩ := Lz.ofGn (hS.f hns 12 (on 12 (by decide))) F12
         try dsimp only
         rw [hq]
         generalize vv 0 = gzy0 at *
         generalize vv 1 = gzy1 at *
         generalize vv 2 = gzy2 at *
         generalize vv 3 = gzy3 at *
         generalize vv 4 = gzy4 at *
         generalize vv 5 = gzy5 at *
         generalize vv 6 = gzy6 at *
         generalize vv 7 = gzy7 at *
         generalize vv 8 = gzy8 at *
         generalize vv 9 = gzy9 at *
         generalize vv 10 = gzy10 at *
         generalize vv 11 = gzy11 at *
         clear hS on hr FL hL hns vv hq F0 F1 F2 F3 F4 F5 F6 F7 F8 F9 F10 F11 F12
         have hb9 := hb8.trans (hB.mono hb8.size)
         go_wp2
         go_ret
         rw [HSP.out]
         exact ⟨gz, 2, rfl, rz, hb9, Nat.le_trans hb8.size lz⟩
    ·cases hb
     ·have HSP : Hid (spL ⟨ms, mk, ma, mb, true, false, me, mar, mi⟩ dx dy l2 AX AC EN = [⟨0, 1, ⟨-dx, -dy, 0, dx, dy, 0⟩, AX⟩, ⟨0, 4, ⟨(-dy), dx, 0, dy, (-dx), l2⟩, AC⟩]) := (show _ = _ from by simp [spL, hk])
      obtain ⟨I1, T, B3, SSL, cI, cBp, cT, cB3, cSS, cQ2, cQ3⟩ := (hB.resolve_left (by simp [hk])).h
      clear hB
      simp only [CX, CP, CQ, amV] at cI cBp cT cB3 cSS cQ2 cQ3
      have cGx : ∀ w, Calls Tryz.prog 35 #[.int .u8 4, .agg #[.int .i64 (-dy), .int .i64 dx, .int .i64 0, .int .i64 dy, .int .i64 (-dx), .int .i64 l2], .agg #[.float .f64 AC.1.1, .float .f64 AC.1.2, .float .f64 AC.2]] w fun e w' => e = .returned (.agg #[.int .i64 0, .int .u8 4, .int .i64 (-dy), .int .i64 dx, .int .i64 0, .int .i64 dy, .int .i64 (-dx), .int .i64 l2, .float .f64 AC.1.1, .float .f64 AC.1.2, .float .f64 AC.2]) ∧ Below w.heap.size w w' := fun w => cG 4 ⟨(-dy), dx, 0, dy, (-dx), l2⟩ AC w
      clear cG cQ3
      go_upto_region 7 with fail
      obtain ⟨FL, hFL⟩ : ∃ fz : Nat → Lz, fz = (fun j => match j with | 0 => .is (.pointer (some ⟨w.heap.size, 6, none⟩)) | 1 => .is (.float .f64 me) | 2 => .is (.agg #[.float .f64 E1.1.1, .float .f64 E1.1.2, .float .f64 E1.2]) | 3 => .is (.pointer (some ⟨w.heap.size, 8, none⟩)) | 4 => .is (.float .f64 mi) | 5 => .is (.agg #[.float .f64 I1.1.1, .float .f64 I1.1.2, .float .f64 I1.2]) | 6 => .gn (fun a x => ∃ g, x = .slice (some ⟨g, 0, none⟩) 1 1 ∧ ARow a (some ⟨g, 0, none⟩) [I1]) (fun a a' x h hb => h.elim fun g h => ⟨g, h.1, h.2.below hb⟩) | 7 => .is (.agg #[.float .f64 B.1.1, .float .f64 B.1.2, .float .f64 B.2]) | 8 => .gn (fun a x => ∃ g, x = .pointer (some ⟨g, 0, none⟩) ∧ T3 a g (.float .f64 0) (.float .f64 0) (.float .f64 0) ∧ V4.heap.size ≤ g) (fun a a' x h hb => h.elim fun g h => ⟨g, h.1, h.2.1.below hb, h.2.2⟩) | 9 => .tr | _ => .tr) := ⟨_, rfl⟩
      have F0 := congrFun hFL 0
      have F1 := congrFun hFL 1
      have F2 := congrFun hFL 2
      have F3 := congrFun hFL 3
      have F4 := congrFun hFL 4
      have F5 := congrFun hFL 5
      have F6 := congrFun hFL 6
      have F7 := congrFun hFL 7
      have F8 := congrFun hFL 8
      have F9 := congrFun hFL 9
      simp only at F0 F1 F2 F3 F4 F5 F6 F7 F8 F9
      clear hFL
      refine region_rgY (by kernel_rfl) (fun vv => ⟨#[.agg #[.string ms, .int .u8 ↑mk, .int .i64 ma, .int .i64 mb, .bool true, .bool false, .float .f64 me, .float .f64 mar, .float .f64 mi], .agg #[.string ps, .int .i32 px, .int .i32 py, .int .u8 ↑pf], .agg #[.string qs, .int .i32 qx, .int .i32 qy, .int .u8 ↑qf], .pointer (some ⟨w.heap.size, 0, none⟩), .pointer (some ⟨w.heap.size + 1, 0, none⟩), .pointer (some ⟨w.heap.size + 1 + 1, 0, none⟩), .slice none 0 0, .int .i64 dx, .int .i64 dy, .int .i64 l2, .pointer (some ⟨gl, 0, none⟩), .pointer (some ⟨gs, 0, none⟩), .pointer (some ⟨gp, 0, none⟩), .pointer (some ⟨gx, 0, none⟩), vv 8, undef, undef, undef, .tuple #[.int .i64 dx, .int .i64 dy, .int .i64 l2], .agg #[.string ps, .int .i32 px, .int .i32 py, .int .u8 ↑pf], .agg #[.string qs, .int .i32 qx, .int .i32 qy, .int .u8 ↑qf], .tuple #[.int .i64 dx, .int .i64 dy, .int .i64 l2], .int .i64 dx, .int .i64 dy, .int .i64 l2, .agg #[.string ps, .int .i32 px, .int .i32 py, .int .u8 ↑pf], .agg #[.string qs, .int .i32 qx, .int .i32 qy, .int .u8 ↑qf], .agg #[.float .f64 L.fst.fst, .float .f64 L.fst.snd, .float .f64 L.snd], .int .i64 l2, .float .f64 sF, .agg #[.float .f64 S.fst.fst, .float .f64 S.fst.snd, .float .f64 S.snd], gpy0, gpy1, gpy2, gpy3, gpy4, gpy5, gpy6, gpy7, gxy0, gxy1, gxy2, gxy3, gxy4, gxy5, gxy6, gxy7, gxy8, gxy9, gxy10, gxy11, gxy12, gxy13, .pointer (some ⟨w.heap.size, 1, none⟩), .int .u8 ↑mk, .bool false, .bool false, .pointer (some ⟨w.heap.size, 4, none⟩), .bool true, .bool true, .pointer (some ⟨w.heap.size, 5, none⟩), .bool false, .bool false, .bool false, undef, undef, vv 0, vv 1, vv 2, vv 3, vv 4, vv 5, vv 6, vv 7, undef, undef, undef, undef, undef, undef, undef, undef, undef, undef, undef, undef, undef, undef, undef, undef, undef, undef, undef, undef, undef, undef, undef, undef, undef, undef, undef, undef, undef, undef, undef, undef, undef, undef, undef, undef, undef, undef, undef, undef, undef, undef, undef, undef, undef, undef, undef, undef, undef, undef, undef, undef, undef, undef, undef, undef, undef, undef, undef, undef, undef, undef], []⟩) 9 FL (fun wz vz => ∃ g, vz 8 = .pointer (some ⟨g, 0, none⟩) ∧ T3 wz g (.float .f64 B.1.1) (.float .f64 B.1.2) (.float .f64 B.2) ∧ Below V4.heap.size V4 wz) (fun j => match j with  | _ => undef) rfl ?_ ?_
      ·intro Lq vv wq i hL hS hD hi
       obtain ⟨hr1, hr2, hr3⟩ := mem_ready hi
       have hr1 : i < 10 := hr1
       try dsimp only
       have hcs : i = 0 ∨ i = 1 ∨ i = 2 ∨ i = 3 ∨ i = 4 ∨ i = 5 ∨ i = 6 ∨ i = 7 ∨ i = 8 ∨ i = 9 := by omega
       clear hr1 hr2 hr3
       have hns := hS.open hL hi
       have hB := hS.a hns
       rcases hcs with rfl | rfl | rfl | rfl | rfl | rfl | rfl | rfl | rfl | rfl
       ·refine wpOpT_of (fun K hK => ?_)
        unfold wpOp
        go_simp
        refine Or.inl ?_
        exact hK _ _ ⟨putT vv 0 (.pointer (some ⟨w.heap.size, 6, none⟩)), (by simp [putT]), hS.step hL hi (by decide) (Below.refl _ _) (Lz.toIs F0)⟩
       ·have e0 := Lz.ofIs (hS.f hns 0 (ready_dep hi 0 (by kernel_rfl))) F0
        have r6 := (hB.cell (p := ⟨w.heap.size, 6, none⟩) MX.lt).trans x6
        refine wpOpT_of (fun K hK => ?_)
        unfold wpOp
        simp only [e0]
        go_simp
        refine Or.inl ?_
        exact hK _ _ ⟨putT vv 1 (.float .f64 me), (by simp [putT, e0]), hS.step hL hi (by decide) (Below.refl _ _) (Lz.toIs F1)⟩
       ·have e1 := Lz.ofIs (hS.f hns 1 (ready_dep hi 1 (by kernel_rfl))) F1
        refine wpOpT_of (fun K hK => ?_)
        unfold wpOp
        simp only [e1]
        go_simp
        refine Or.inl ?_
        go_at_call 33
        refine (cE _).mono ?_
        rintro e w1 ⟨rfl, bc⟩
        exact hK _ _ ⟨putT vv 2 (.agg #[.float .f64 E1.1.1, .float .f64 E1.1.2, .float .f64 E1.2]), (by simp [putT, e1]), hS.step hL hi (by decide) (bc) (Lz.toIs F2)⟩
       ·refine wpOpT_of (fun K hK => ?_)
        unfold wpOp
        go_simp
        refine Or.inl ?_
        exact hK _ _ ⟨putT vv 3 (.pointer (some ⟨w.heap.size, 8, none⟩)), (by simp [putT]), hS.step hL hi (by decide) (Below.refl _ _) (Lz.toIs F3)⟩
       ·have e3 := Lz.ofIs (hS.f hns 3 (ready_dep hi 3 (by kernel_rfl))) F3
        have r8 := (hB.cell (p := ⟨w.heap.size, 8, none⟩) MX.lt).trans x8
        refine wpOpT_of (fun K hK => ?_)
        unfold wpOp
        simp only [e3]
        go_simp
        refine Or.inl ?_
        exact hK _ _ ⟨putT vv 4 (.float .f64 mi), (by simp [putT, e3]), hS.step hL hi (by decide) (Below.refl _ _) (Lz.toIs F4)⟩
       ·have e4 := Lz.ofIs (hS.f hns 4 (ready_dep hi 4 (by kernel_rfl))) F4
        refine wpOpT_of (fun K hK => ?_)
        unfold wpOp
        simp only [e4]
        go_simp
        refine Or.inl ?_
        go_at_call 33
        refine (cI _).mono ?_
        rintro e w1 ⟨rfl, bc⟩
        exact hK _ _ ⟨putT vv 5 (.agg #[.float .f64 I1.1.1, .float .f64 I1.1.2, .float .f64 I1.2]), (by simp [putT, e4]), hS.step hL hi (by decide) (bc) (Lz.toIs F5)⟩
       ·have e5 := Lz.ofIs (hS.f hns 5 (ready_dep hi 5 (by kernel_rfl))) F5
        refine wpOpT_of (fun K hK => ?_)
        unfold wpOp
        simp only [e5]
        go_simp
        refine Or.inl ?_
        exact hK _ _ ⟨putT vv 6 (.slice (some ⟨wq.heap.size, 0, none⟩) 1 1), (by simp [putT, e5]), hS.step hL hi (by decide) ((Below.refl _ _).alloc (Nat.le_refl _) _) (Lz.toGn F6 (⟨_, rfl, arow_one _ _ _⟩))⟩
       ·have e2 := Lz.ofIs (hS.f hns 2 (ready_dep hi 2 (by kernel_rfl))) F2
        obtain ⟨g6, e6, u6⟩ := Lz.ofGn (hS.f hns 6 (ready_dep hi 6 (by kernel_rfl))) F6
        refine wpOpT_of (fun K hK => ?_)
        unfold wpOp
        simp only [e2, e6]
        go_simp
        refine Or.inl ?_
        go_at_call 34
        refine (cBp _ _ u6 (tabW_below T4a hB)).mono ?_
        rintro e w1 ⟨rfl, bc⟩
        exact hK _ _ ⟨putT vv 7 (.agg #[.float .f64 B.1.1, .float .f64 B.1.2, .float .f64 B.2]), (by simp [putT, e2, e6]), hS.step hL hi (by decide) (bc) (Lz.toIs F7)⟩
       ·refine wpOpT_of (fun K hK => ?_)
        unfold wpOp
        go_simp
        refine Or.inl ?_
        exact hK _ _ ⟨putT vv 8 (.pointer (some ⟨wq.heap.size, 0, none⟩)), (by simp [putT]), hS.step hL hi (by decide) ((Below.refl _ _).alloc (Nat.le_refl _) _) (Lz.toGn F8 (⟨_, rfl, T3.new _ _ _ _ _, hB.size⟩))⟩
       ·have e7 := Lz.ofIs (hS.f hns 7 (ready_dep hi 7 (by kernel_rfl))) F7
        obtain ⟨g8, e8, u8, l8⟩ := Lz.ofGn (hS.f hns 8 (ready_dep hi 8 (by kernel_rfl))) F8
        have hst := run_storef Tryz.prog
        obtain ⟨s0, s1, s2, f0, f1, f2, _⟩ := id u8
        refine wpOpT_of (fun K hK => ?_)
        unfold wpOp
        simp only [e7, e8]
        go_simp
        refine Or.inl ?_
        exact hK _ _ ⟨putT vv 9 undef, (by simp [putT, e7, e8]), hS.last hL hi (allY hD hi (by kernel_rfl)) (⟨g8, (by simp [putT, e8]), ((u8.set0 _).set1 _).set2 _, below_thr hB l8 _ _ _⟩)⟩
      ·intro Lq vv wq hL hS hr
       have on := all_done hL hr (by kernel_rfl)
       obtain ⟨gb, hq, BB, bq⟩ := hS.z (on 9 (by decide))
       try dsimp only
       rw [hq]
       generalize vv 0 = gby0 at *
       generalize vv 1 = gby1 at *
       generalize vv 2 = gby2 at *
       generalize vv 3 = gby3 at *
       generalize vv 4 = gby4 at *
       generalize vv 5 = gby5 at *
       generalize vv 6 = gby6 at *
       generalize vv 7 = gby7 at *
       clear hS on hr FL hL Lq hq vv F0 F1 F2 F3 F4 F5 F6 F7 F8 F9
       replace MX := MX.below bq
       replace LB := LB.below bq
       replace SB := SB.below bq
       replace XB := XB.below bq
       have hb7 := hb6.trans (bq.mono hb6.size)
       clear bq T4a hb6
       generalize wq = V5 at *
       have T5a := tabW_below hT hb7
       clear x0 x1 x2 x3 x4 x5 x6 x7 x8 X0 X1 X2 X3 X4 X5 X6 X7 X8 X9 X10
       clear cE cI cBp
       go_upto_region 8 with fail
       obtain ⟨FL, hFL⟩ : ∃ fz : Nat → Lz, fz = (fun j => match j with | 0 => .is (.agg #[.float .f64 T.1.1, .float .f64 T.1.2, .float .f64 T.2]) | 1 => .is (.agg #[.float .f64 B.1.1, .float .f64 B.1.2, .float .f64 B.2]) | 2 => .gn (fun a x => ∃ g, x = .slice (some ⟨g, 0, none⟩) 1 1 ∧ ARow a (some ⟨g, 0, none⟩) [B]) (fun a a' x h hb => h.elim fun g h => ⟨g, h.1, h.2.below hb⟩) | 3 => .is (.agg #[.float .f64 B3.1.1, .float .f64 B3.1.2, .float .f64 B3.2]) | 4 => .is (.agg #[.float .f64 S.1.1, .float .f64 S.1.2, .float .f64 S.2]) | 5 => .is (.agg #[.float .f64 S.1.1, .float .f64 S.1.2, .float .f64 S.2]) | 6 => .is (.agg #[.float .f64 L.1.1, .float .f64 L.1.2, .float .f64 L.2]) | 7 => .gn (fun a x => ∃ g, x = .slice (some ⟨g, 0, none⟩) 2 2 ∧ ARow a (some ⟨g, 0, none⟩) [S, L]) (fun a a' x h hb => h.elim fun g h => ⟨g, h.1, h.2.below hb⟩) | 8 => .is (.agg #[.float .f64 SSL.1.1, .float .f64 SSL.1.2, .float .f64 SSL.2]) | 9 => .is (.agg #[.float .f64 AC.1.1, .float .f64 AC.1.2, .float .f64 AC.2]) | 10 => .gn (fun a x => ∃ g, x = .pointer (some ⟨g, 0, none⟩) ∧ T3 a g (.float .f64 0) (.float .f64 0) (.float .f64 0) ∧ V5.heap.size ≤ g) (fun a a' x h hb => h.elim fun g h => ⟨g, h.1, h.2.1.below hb, h.2.2⟩) | 11 => .tr | _ => .tr) := ⟨_, rfl⟩
       have F0 := congrFun hFL 0
       have F1 := congrFun hFL 1
       have F2 := congrFun hFL 2
       have F3 := congrFun hFL 3
       have F4 := congrFun hFL 4
       have F5 := congrFun hFL 5
       have F6 := congrFun hFL 6
       have F7 := congrFun hFL 7
       have F8 := congrFun hFL 8
       have F9 := congrFun hFL 9
       have F10 := congrFun hFL 10
       have F11 := congrFun hFL 11
       simp only at F0 F1 F2 F3 F4 F5 F6 F7 F8 F9 F10 F11
       clear hFL
       refine region_rgY (by kernel_rfl) (fun vv => ⟨#[.agg #[.string ms, .int .u8 ↑mk, .int .i64 ma, .int .i64 mb, .bool true, .bool false, .float .f64 me, .float .f64 mar, .float .f64 mi], .agg #[.string ps, .int .i32 px, .int .i32 py, .int .u8 ↑pf], .agg #[.string qs, .int .i32 qx, .int .i32 qy, .int .u8 ↑qf], .pointer (some ⟨w.heap.size, 0, none⟩), .pointer (some ⟨w.heap.size + 1, 0, none⟩), .pointer (some ⟨w.heap.size + 1 + 1, 0, none⟩), .slice none 0 0, .int .i64 dx, .int .i64 dy, .int .i64 l2, .pointer (some ⟨gl, 0, none⟩), .pointer (some ⟨gs, 0, none⟩), .pointer (some ⟨gp, 0, none⟩), .pointer (some ⟨gx, 0, none⟩), .pointer (some ⟨gb, 0, none⟩), vv 10, undef, undef, .tuple #[.int .i64 dx, .int .i64 dy, .int .i64 l2], .agg #[.string ps, .int .i32 px, .int .i32 py, .int .u8 ↑pf], .agg #[.string qs, .int .i32 qx, .int .i32 qy, .int .u8 ↑qf], .tuple #[.int .i64 dx, .int .i64 dy, .int .i64 l2], .int .i64 dx, .int .i64 dy, .int .i64 l2, .agg #[.string ps, .int .i32 px, .int .i32 py, .int .u8 ↑pf], .agg #[.string qs, .int .i32 qx, .int .i32 qy, .int .u8 ↑qf], .agg #[.float .f64 L.fst.fst, .float .f64 L.fst.snd, .float .f64 L.snd], .int .i64 l2, .float .f64 sF, .agg #[.float .f64 S.fst.fst, .float .f64 S.fst.snd, .float .f64 S.snd], gpy0, gpy1, gpy2, gpy3, gpy4, gpy5, gpy6, gpy7, gxy0, gxy1, gxy2, gxy3, gxy4, gxy5, gxy6, gxy7, gxy8, gxy9, gxy10, gxy11, gxy12, gxy13, .pointer (some ⟨w.heap.size, 1, none⟩), .int .u8 ↑mk, .bool false, .bool false, .pointer (some ⟨w.heap.size, 4, none⟩), .bool true, .bool true, .pointer (some ⟨w.heap.size, 5, none⟩), .bool false, .bool false, .bool false, undef, undef, gby0, gby1, gby2, gby3, gby4, gby5, gby6, gby7, vv 0, vv 1, vv 2, vv 3, vv 4, vv 5, vv 6, vv 7, vv 8, vv 9, undef, undef, undef, undef, undef, undef, undef, undef, undef, undef, undef, undef, undef, undef, undef, undef, undef, undef, undef, undef, undef, undef, undef, undef, undef, undef, undef, undef, undef, undef, undef, undef, undef, undef, undef, undef, undef, undef, undef, undef, undef, undef, undef, undef, undef, undef, undef, undef, undef, undef, undef, undef], []⟩) 11 FL (fun wz vz => ∃ g, vz 10 = .pointer (some ⟨g, 0, none⟩) ∧ T3 wz g (.float .f64 AC.1.1) (.float .f64 AC.1.2) (.float .f64 AC.2) ∧ Below V5.heap.size V5 wz) (fun j => match j with  | _ => undef) rfl ?_ ?_
       ·intro Lq vv wq i hL hS hD hi
        obtain ⟨hr1, hr2, hr3⟩ := mem_ready hi
        have hr1 : i < 12 := hr1
        try dsimp only
        have hcs : i = 0 ∨ i = 1 ∨ i = 2 ∨ i = 3 ∨ i = 4 ∨ i = 5 ∨ i = 6 ∨ i = 7 ∨ i = 8 ∨ i = 9 ∨ i = 10 ∨ i = 11 := by omega
        clear hr1 hr2 hr3
        have hns := hS.open hL hi
        have hB := hS.a hns
        rcases hcs with rfl | rfl | rfl | rfl | rfl | rfl | rfl | rfl | rfl | rfl | rfl | rfl
        ·refine wpOpT_of (fun K hK => ?_)
         unfold wpOp
         go_simp
         refine Or.inl ?_
         go_at_call 33
         refine (cT _).mono ?_
         rintro e w1 ⟨rfl, bc⟩
         exact hK _ _ ⟨putT vv 0 (.agg #[.float .f64 T.1.1, .float .f64 T.1.2, .float .f64 T.2]), (by simp [putT]), hS.step hL hi (by decide) (bc) (Lz.toIs F0)⟩
        ·obtain ⟨BB0, BB1, BB2, _, _, _, _⟩ := BB.below hB
         refine wpOpT_of (fun K hK => ?_)
         unfold wpOp
         go_simp
         refine Or.inl ?_
         exact hK _ _ ⟨putT vv 1 (.agg #[.float .f64 B.1.1, .float .f64 B.1.2, .float .f64 B.2]), (by simp [putT]), hS.step hL hi (by decide) (Below.refl _ _) (Lz.toIs F1)⟩
        ·have e1 := Lz.ofIs (hS.f hns 1 (ready_dep hi 1 (by kernel_rfl))) F1
         refine wpOpT_of (fun K hK => ?_)
         unfold wpOp
         simp only [e1]
         go_simp
         refine Or.inl ?_
         exact hK _ _ ⟨putT vv 2 (.slice (some ⟨wq.heap.size, 0, none⟩) 1 1), (by simp [putT, e1]), hS.step hL hi (by decide) ((Below.refl _ _).alloc (Nat.le_refl _) _) (Lz.toGn F2 (⟨_, rfl, arow_one _ _ _⟩))⟩
        ·have e0 := Lz.ofIs (hS.f hns 0 (ready_dep hi 0 (by kernel_rfl))) F0
         obtain ⟨g2, e2, u2⟩ := Lz.ofGn (hS.f hns 2 (ready_dep hi 2 (by kernel_rfl))) F2
         refine wpOpT_of (fun K hK => ?_)
         unfold wpOp
         simp only [e0, e2]
         go_simp
         refine Or.inl ?_
         go_at_call 34
         refine (cB3 _ _ u2 (tabW_below T5a hB)).mono ?_
         rintro e w1 ⟨rfl, bc⟩
         exact hK _ _ ⟨putT vv 3 (.agg #[.float .f64 B3.1.1, .float .f64 B3.1.2, .float .f64 B3.2]), (by simp [putT, e0, e2]), hS.step hL hi (by decide) (bc) (Lz.toIs F3)⟩
        ·obtain ⟨SB0, SB1, SB2, _, _, _, _⟩ := SB.below hB
         refine wpOpT_of (fun K hK => ?_)
         unfold wpOp
         go_simp
         refine Or.inl ?_
         exact hK _ _ ⟨putT vv 4 (.agg #[.float .f64 S.1.1, .float .f64 S.1.2, .float .f64 S.2]), (by simp [putT]), hS.step hL hi (by decide) (Below.refl _ _) (Lz.toIs F4)⟩
        ·obtain ⟨SB0, SB1, SB2, _, _, _, _⟩ := SB.below hB
         refine wpOpT_of (fun K hK => ?_)
         unfold wpOp
         go_simp
         refine Or.inl ?_
         exact hK _ _ ⟨putT vv 5 (.agg #[.float .f64 S.1.1, .float .f64 S.1.2, .float .f64 S.2]), (by simp [putT]), hS.step hL hi (by decide) (Below.refl _ _) (Lz.toIs F5)⟩
        ·obtain ⟨LB0, LB1, LB2, _, _, _, _⟩ := LB.below hB
         refine wpOpT_of (fun K hK => ?_)
         unfold wpOp
         go_simp
         refine Or.inl ?_
         exact hK _ _ ⟨putT vv 6 (.agg #[.float .f64 L.1.1, .float .f64 L.1.2, .float .f64 L.2]), (by simp [putT]), hS.step hL hi (by decide) (Below.refl _ _) (Lz.toIs F6)⟩
        ·have e5 := Lz.ofIs (hS.f hns 5 (ready_dep hi 5 (by kernel_rfl))) F5
         have e6 := Lz.ofIs (hS.f hns 6 (ready_dep hi 6 (by kernel_rfl))) F6
         refine wpOpT_of (fun K hK => ?_)
         unfold wpOp
         simp only [e5, e6]
         go_simp
         refine Or.inl ?_
         exact hK _ _ ⟨putT vv 7 (.slice (some ⟨wq.heap.size, 0, none⟩) 2 2), (by simp [putT, e5, e6]), hS.step hL hi (by decide) ((Below.refl _ _).alloc (Nat.le_refl _) _) (Lz.toGn F7 (⟨_, rfl, arow_two _ _ _ _⟩))⟩
        ·have e4 := Lz.ofIs (hS.f hns 4 (ready_dep hi 4 (by kernel_rfl))) F4
         obtain ⟨g7, e7, u7⟩ := Lz.ofGn (hS.f hns 7 (ready_dep hi 7 (by kernel_rfl))) F7
         refine wpOpT_of (fun K hK => ?_)
         unfold wpOp
         simp only [e4, e7]
         go_simp
         refine Or.inl ?_
         go_at_call 34
         refine (cSS _ _ u7 (tabW_below T5a hB)).mono ?_
         rintro e w1 ⟨rfl, bc⟩
         exact hK _ _ ⟨putT vv 8 (.agg #[.float .f64 SSL.1.1, .float .f64 SSL.1.2, .float .f64 SSL.2]), (by simp [putT, e4, e7]), hS.step hL hi (by decide) (bc) (Lz.toIs F8)⟩
        ·have e3 := Lz.ofIs (hS.f hns 3 (ready_dep hi 3 (by kernel_rfl))) F3
         have e8 := Lz.ofIs (hS.f hns 8 (ready_dep hi 8 (by kernel_rfl))) F8
         refine wpOpT_of (fun K hK => ?_)
         unfold wpOp
         simp only [e3, e8]
         go_simp
         refine Or.inl ?_
         go_at_call 36
         refine (cQ2 _ (tabW_below T5a hB)).mono ?_
         rintro e w1 ⟨rfl, bc⟩
         exact hK _ _ ⟨putT vv 9 (.agg #[.float .f64 AC.1.1, .float .f64 AC.1.2, .float .f64 AC.2]), (by simp [putT, e3, e8]), hS.step hL hi (by decide) (bc) (Lz.toIs F9)⟩
        ·refine wpOpT_of (fun K hK => ?_)
         unfold wpOp
         go_simp
         refine Or.inl ?_
         exact hK _ _ ⟨putT vv 10 (.pointer (some ⟨wq.heap.size, 0, none⟩)), (by simp [putT]), hS.step hL hi (by decide) ((Below.refl _ _).alloc (Nat.le_refl _) _) (Lz.toGn F10 (⟨_, rfl, T3.new _ _ _ _ _, hB.size⟩))⟩
        ·have e9 := Lz.ofIs (hS.f hns 9 (ready_dep hi 9 (by kernel_rfl))) F9
         obtain ⟨g10, e10, u10, l10⟩ := Lz.ofGn (hS.f hns 10 (ready_dep hi 10 (by kernel_rfl))) F10
         have hst := run_storef Tryz.prog
         obtain ⟨s0, s1, s2, f0, f1, f2, _⟩ := id u10
         refine wpOpT_of (fun K hK => ?_)
         unfold wpOp
         simp only [e9, e10]
         go_simp
         refine Or.inl ?_
         exact hK _ _ ⟨putT vv 11 undef, (by simp [putT, e9, e10]), hS.last hL hi (allY hD hi (by kernel_rfl)) (⟨g10, (by simp [putT, e10]), ((u10.set0 _).set1 _).set2 _, below_thr hB l10 _ _ _⟩)⟩
       ·intro Lq vv wq hL hS hr
        have on := all_done hL hr (by kernel_rfl)
        obtain ⟨gc, hq, CB, bq⟩ := hS.z (on 11 (by decide))
        try dsimp only
        rw [hq]
        generalize vv 0 = gcy0 at *
        generalize vv 1 = gcy1 at *
        generalize vv 2 = gcy2 at *
        generalize vv 3 = gcy3 at *
        generalize vv 4 = gcy4 at *
        generalize vv 5 = gcy5 at *
        generalize vv 6 = gcy6 at *
        generalize vv 7 = gcy7 at *
        generalize vv 8 = gcy8 at *
        generalize vv 9 = gcy9 at *
        clear hS on hr FL hL Lq hq vv F0 F1 F2 F3 F4 F5 F6 F7 F8 F9 F10 F11
        replace MX := MX.below bq
        replace LB := LB.below bq
        replace XB := XB.below bq
        replace BB := BB.below bq
        have hb8 := hb7.trans (bq.mono hb7.size)
        clear bq T5a hb7
        generalize wq = V6 at *
        have T6a := tabW_below hT hb8
        clear cT cB3 cSS cQ2
        obtain ⟨x0, x1, x2, x3, x4, x5, x6, x7, x8⟩ := MX.at0
        simp only [Nat.zero_add] at x0 x1 x2 x3 x4 x5 x6 x7 x8
        obtain ⟨X0, X1, X2, X3, X4, X5, X6, X7, X8, X9, X10⟩ := XB.at0
        simp only [Nat.zero_add] at X0 X1 X2 X3 X4 X5 X6 X7 X8 X9 X10
        obtain ⟨c0, c1, c2, _, _, _, _⟩ := id CB
        go_upto_region 10 with fail
        clear x0 x1 x2 x3 x4 x5 x6 x7 x8 X0 X1 X2 X3 X4 X5 X6 X7 X8 X9 X10 c0 c1 c2
        obtain ⟨FL, hFL⟩ : ∃ fz : Nat → Lz, fz = (fun j => match j with | 0 => .is (.agg #[.int .i64 0, .int .u8 1, .int .i64 (-dx), .int .i64 (-dy), .int .i64 0, .int .i64 dx, .int .i64 dy, .int .i64 0, .float .f64 AX.1.1, .float .f64 AX.1.2, .float .f64 AX.2]) | 1 => .is (.int .i64 dy) | 2 => .is (.int .i64 (-dy)) | 3 => .is (.int .i64 dx) | 4 => .is (.int .i64 dy) | 5 => .is (.int .i64 dx) | 6 => .is (.int .i64 (-dx)) | 7 => .is (.int .i64 l2) | 8 => .is (.agg #[.int .i64 (-dy), .int .i64 dx, .int .i64 0, .int .i64 dy, .int .i64 (-dx), .int .i64 l2]) | 9 => .is (.agg #[.float .f64 AC.1.1, .float .f64 AC.1.2, .float .f64 AC.2]) | 10 => .is (.agg #[.int .i64 0, .int .u8 4, .int .i64 (-dy), .int .i64 dx, .int .i64 0, .int .i64 dy, .int .i64 (-dx), .int .i64 l2, .float .f64 AC.1.1, .float .f64 AC.1.2, .float .f64 AC.2]) | 11 => .gn (fun a x => ∃ g, x = .slice (some ⟨g, 0, none⟩) 2 2 ∧ SgRow a (some ⟨g, 0, none⟩) [⟨0, 1, ⟨-dx, -dy, 0, dx, dy, 0⟩, AX⟩, ⟨0, 4, ⟨(-dy), dx, 0, dy, (-dx), l2⟩, AC⟩] ∧ V6.heap.size ≤ g) (fun a a' x h hb => h.elim fun g h => ⟨g, h.1, h.2.1.below hb, h.2.2⟩) | 12 => .gn (fun a x => ∃ g, x = .slice (some ⟨g, 0, none⟩) 2 2 ∧ SgRow a (some ⟨g, 0, none⟩) [⟨0, 1, ⟨-dx, -dy, 0, dx, dy, 0⟩, AX⟩, ⟨0, 4, ⟨(-dy), dx, 0, dy, (-dx), l2⟩, AC⟩] ∧ V6.heap.size ≤ g) (fun a a' x h hb => h.elim fun g h => ⟨g, h.1, h.2.1.below hb, h.2.2⟩) | _ => .tr) := ⟨_, rfl⟩
        have F0 := congrFun hFL 0
        have F1 := congrFun hFL 1
        have F2 := congrFun hFL 2
        have F3 := congrFun hFL 3
        have F4 := congrFun hFL 4
        have F5 := congrFun hFL 5
        have F6 := congrFun hFL 6
        have F7 := congrFun hFL 7
        have F8 := congrFun hFL 8
        have F9 := congrFun hFL 9
        have F10 := congrFun hFL 10
        have F11 := congrFun hFL 11
        have F12 := congrFun hFL 12
        simp only at F0 F1 F2 F3 F4 F5 F6 F7 F8 F9 F10 F11 F12
        clear hFL
        refine region_rgY (by kernel_rfl) (fun vv => ⟨#[.agg #[.string ms, .int .u8 ↑mk, .int .i64 ma, .int .i64 mb, .bool true, .bool false, .float .f64 me, .float .f64 mar, .float .f64 mi], .agg #[.string ps, .int .i32 px, .int .i32 py, .int .u8 ↑pf], .agg #[.string qs, .int .i32 qx, .int .i32 qy, .int .u8 ↑qf], .pointer (some ⟨w.heap.size, 0, none⟩), .pointer (some ⟨w.heap.size + 1, 0, none⟩), .pointer (some ⟨w.heap.size + 1 + 1, 0, none⟩), vv 12, .int .i64 dx, .int .i64 dy, .int .i64 l2, .pointer (some ⟨gl, 0, none⟩), .pointer (some ⟨gs, 0, none⟩), .pointer (some ⟨gp, 0, none⟩), .pointer (some ⟨gx, 0, none⟩), .pointer (some ⟨gb, 0, none⟩), .pointer (some ⟨gc, 0, none⟩), undef, undef, .tuple #[.int .i64 dx, .int .i64 dy, .int .i64 l2], .agg #[.string ps, .int .i32 px, .int .i32 py, .int .u8 ↑pf], .agg #[.string qs, .int .i32 qx, .int .i32 qy, .int .u8 ↑qf], .tuple #[.int .i64 dx, .int .i64 dy, .int .i64 l2], .int .i64 dx, .int .i64 dy, .int .i64 l2, .agg #[.string ps, .int .i32 px, .int .i32 py, .int .u8 ↑pf], .agg #[.string qs, .int .i32 qx, .int .i32 qy, .int .u8 ↑qf], .agg #[.float .f64 L.fst.fst, .float .f64 L.fst.snd, .float .f64 L.snd], .int .i64 l2, .float .f64 sF, .agg #[.float .f64 S.fst.fst, .float .f64 S.fst.snd, .float .f64 S.snd], gpy0, gpy1, gpy2, gpy3, gpy4, gpy5, gpy6, gpy7, gxy0, gxy1, gxy2, gxy3, gxy4, gxy5, gxy6, gxy7, gxy8, gxy9, gxy10, gxy11, gxy12, gxy13, .pointer (some ⟨w.heap.size, 1, none⟩), .int .u8 ↑mk, .bool false, .bool false, .pointer (some ⟨w.heap.size, 4, none⟩), .bool true, .bool true, .pointer (some ⟨w.heap.size, 5, none⟩), .bool false, .bool false, .bool false, undef, undef, gby0, gby1, gby2, gby3, gby4, gby5, gby6, gby7, gcy0, gcy1, gcy2, gcy3, gcy4, gcy5, gcy6, gcy7, gcy8, gcy9, .bool true, .pointer (some ⟨w.heap.size, 4, none⟩), .bool true, vv 0, vv 1, vv 2, vv 3, vv 4, vv 5, vv 6, vv 7, vv 8, vv 9, vv 10, vv 11, undef, undef, undef, undef, undef, undef, undef, undef, undef, undef, undef, undef, undef, undef, undef, undef, undef, undef, undef, undef, undef, undef, undef, undef, undef, undef, undef, undef, undef, undef, undef, undef, undef, undef, undef, undef, undef], []⟩) 1013 FL (fun _ _ => True) (fun j => match j with | 12 => Value.slice none 0 0 | _ => undef) rfl ?_ ?_
        ·intro Lq vv wq i hL hS hD hi
         obtain ⟨hr1, hr2, hr3⟩ := mem_ready hi
         have hr1 : i < 13 := hr1
         try dsimp only
         have hcs : i = 0 ∨ i = 1 ∨ i = 2 ∨ i = 3 ∨ i = 4 ∨ i = 5 ∨ i = 6 ∨ i = 7 ∨ i = 8 ∨ i = 9 ∨ i = 10 ∨ i = 11 ∨ i = 12 := by omega
         clear hr1 hr2 hr3
         have hns := hS.open hL hi
         have hB := hS.a hns
         rcases hcs with rfl | rfl | rfl | rfl | rfl | rfl | rfl | rfl | rfl | rfl | rfl | rfl | rfl
         ·obtain ⟨X0, X1, X2, X3, X4, X5, X6, X7, X8, X9, X10⟩ := (XB.below hB).at0
          simp only [Nat.zero_add] at X0 X1 X2 X3 X4 X5 X6 X7 X8 X9 X10
          refine wpOpT_of (fun K hK => ?_)
          unfold wpOp
          go_simp
          refine Or.inl ?_
          exact hK _ _ ⟨putT vv 0 (.agg #[.int .i64 0, .int .u8 1, .int .i64 (-dx), .int .i64 (-dy), .int .i64 0, .int .i64 dx, .int .i64 dy, .int .i64 0, .float .f64 AX.1.1, .float .f64 AX.1.2, .float .f64 AX.2]), (by simp [putT]), hS.step hL hi (by decide) (Below.refl _ _) (Lz.toIs F0)⟩
         ·refine wpOpT_of (fun K hK => ?_)
          unfold wpOp
          go_simp
          refine Or.inl ?_
          exact hK _ _ ⟨putT vv 1 (.int .i64 dy), (by simp [putT]), hS.step hL hi (by decide) (Below.refl _ _) (Lz.toIs F1)⟩
         ·have e1 := Lz.ofIs (hS.f hns 1 (ready_dep hi 1 (by kernel_rfl))) F1
          refine wpOpT_of (fun K hK => ?_)
          unfold wpOp
          simp only [e1]
          go_simp
          refine Or.inl ?_
          exact hK _ _ ⟨putT vv 2 (.int .i64 (-dy)), (by simp [putT, e1]), hS.step hL hi (by decide) (Below.refl _ _) (Lz.toIs F2)⟩
         ·refine wpOpT_of (fun K hK => ?_)
          unfold wpOp
          go_simp
          refine Or.inl ?_
          exact hK _ _ ⟨putT vv 3 (.int .i64 dx), (by simp [putT]), hS.step hL hi (by decide) (Below.refl _ _) (Lz.toIs F3)⟩
         ·refine wpOpT_of (fun K hK => ?_)
          unfold wpOp
          go_simp
          refine Or.inl ?_
          exact hK _ _ ⟨putT vv 4 (.int .i64 dy), (by simp [putT]), hS.step hL hi (by decide) (Below.refl _ _) (Lz.toIs F4)⟩
         ·refine wpOpT_of (fun K hK => ?_)
          unfold wpOp
          go_simp
          refine Or.inl ?_
          exact hK _ _ ⟨putT vv 5 (.int .i64 dx), (by simp [putT]), hS.step hL hi (by decide) (Below.refl _ _) (Lz.toIs F5)⟩
         ·have e5 := Lz.ofIs (hS.f hns 5 (ready_dep hi 5 (by kernel_rfl))) F5
          refine wpOpT_of (fun K hK => ?_)
          unfold wpOp
          simp only [e5]
          go_simp
          refine Or.inl ?_
          exact hK _ _ ⟨putT vv 6 (.int .i64 (-dx)), (by simp [putT, e5]), hS.step hL hi (by decide) (Below.refl _ _) (Lz.toIs F6)⟩
         ·refine wpOpT_of (fun K hK => ?_)
          unfold wpOp
          go_simp
          refine Or.inl ?_
          exact hK _ _ ⟨putT vv 7 (.int .i64 l2), (by simp [putT]), hS.step hL hi (by decide) (Below.refl _ _) (Lz.toIs F7)⟩
         ·have e2 := Lz.ofIs (hS.f hns 2 (ready_dep hi 2 (by kernel_rfl))) F2
          have e3 := Lz.ofIs (hS.f hns 3 (ready_dep hi 3 (by kernel_rfl))) F3
          have e4 := Lz.ofIs (hS.f hns 4 (ready_dep hi 4 (by kernel_rfl))) F4
          have e6 := Lz.ofIs (hS.f hns 6 (ready_dep hi 6 (by kernel_rfl))) F6
          have e7 := Lz.ofIs (hS.f hns 7 (ready_dep hi 7 (by kernel_rfl))) F7
          refine wpOpT_of (fun K hK => ?_)
          unfold wpOp
          simp only [e2, e3, e4, e6, e7]
          go_simp
          refine Or.inl ?_
          exact hK _ _ ⟨putT vv 8 (.agg #[.int .i64 (-dy), .int .i64 dx, .int .i64 0, .int .i64 dy, .int .i64 (-dx), .int .i64 l2]), (by simp [putT, e2, e3, e4, e6, e7]), hS.step hL hi (by decide) (Below.refl _ _) (Lz.toIs F8)⟩
         ·obtain ⟨CB0, CB1, CB2, _, _, _, _⟩ := CB.below hB
          refine wpOpT_of (fun K hK => ?_)
          unfold wpOp
          go_simp
          refine Or.inl ?_
          exact hK _ _ ⟨putT vv 9 (.agg #[.float .f64 AC.1.1, .float .f64 AC.1.2, .float .f64 AC.2]), (by simp [putT]), hS.step hL hi (by decide) (Below.refl _ _) (Lz.toIs F9)⟩
         ·have e8 := Lz.ofIs (hS.f hns 8 (ready_dep hi 8 (by kernel_rfl))) F8
          have e9 := Lz.ofIs (hS.f hns 9 (ready_dep hi 9 (by kernel_rfl))) F9
          refine wpOpT_of (fun K hK => ?_)
          unfold wpOp
          simp only [e8, e9]
          go_simp
          refine Or.inl ?_
          go_at_call 35
          refine (cGx _).mono ?_
          rintro e w1 ⟨rfl, bc⟩
          exact hK _ _ ⟨putT vv 10 (.agg #[.int .i64 0, .int .u8 4, .int .i64 (-dy), .int .i64 dx, .int .i64 0, .int .i64 dy, .int .i64 (-dx), .int .i64 l2, .float .f64 AC.1.1, .float .f64 AC.1.2, .float .f64 AC.2]), (by simp [putT, e8, e9]), hS.step hL hi (by decide) (bc) (Lz.toIs F10)⟩
         ·have e0 := Lz.ofIs (hS.f hns 0 (ready_dep hi 0 (by kernel_rfl))) F0
          have e10 := Lz.ofIs (hS.f hns 10 (ready_dep hi 10 (by kernel_rfl))) F10
          refine wpOpT_of (fun K hK => ?_)
          unfold wpOp
          simp only [e0, e10]
          go_simp
          refine Or.inl ?_
          exact hK _ _ ⟨putT vv 11 (.slice (some ⟨wq.heap.size, 0, none⟩) 2 2), (by simp [putT, e0, e10]), hS.step hL hi (by decide) ((Below.refl _ _).alloc (Nat.le_refl _) _) (Lz.toGn F11 (⟨_, rfl, sgrow_two _ ⟨0, 1, ⟨-dx, -dy, 0, dx, dy, 0⟩, AX⟩ ⟨0, 4, ⟨(-dy), dx, 0, dy, (-dx), l2⟩, AC⟩ _, hB.size⟩))⟩
         ·obtain ⟨g11, e11, u11, l11⟩ := Lz.ofGn (hS.f hns 11 (ready_dep hi 11 (by kernel_rfl))) F11
          refine wpOpT_of (fun K hK => ?_)
          unfold wpOp
          simp only [e11]
          go_simp
          refine Or.inl ?_
          exact hK _ _ ⟨putT vv 12 (.slice (some ⟨g11, 0, none⟩) 2 2), (by simp [putT, e11]), hS.step hL hi (by decide) (Below.refl _ _) (Lz.toGn F12 (⟨_, rfl, u11, l11⟩))⟩
        ·intro Lq vv wq hL hS hr
         have on := all_done hL hr (by kernel_rfl)
         have hns : ¬ On Lq 1013 := onT_over (by rw [hL]; exact Nat.le_of_ble_eq_true (by kernel_rfl))
         have hB := hS.a hns
         obtain ⟨gz, hq, rz, lz⟩ := Lz.ofGn (hS.f hns 12 (on 12 (by decide))) F12
         try dsimp only
         rw [hq]
         generalize vv 0 = gzy0 at *
         generalize vv 1 = gzy1 at *
         generalize vv 2 = gzy2 at *
         generalize vv 3 = gzy3 at *
         generalize vv 4 = gzy4 at *
         generalize vv 5 = gzy5 at *
         generalize vv 6 = gzy6 at *
         generalize vv 7 = gzy7 at *
         generalize vv 8 = gzy8 at *
         generalize vv 9 = gzy9 at *
         generalize vv 10 = gzy10 at *
         generalize vv 11 = gzy11 at *
         clear hS on hr FL hL hns vv hq F0 F1 F2 F3 F4 F5 F6 F7 F8 F9 F10 F11 F12
         have hb9 := hb8.trans (hB.mono hb8.size)
         go_wp2
         go_ret
         rw [HSP.out]
         exact ⟨gz, 2, rfl, rz, hb9, Nat.le_trans hb8.size lz⟩
     ·have HSP : Hid (spL ⟨ms, mk, ma, mb, true, true, me, mar, mi⟩ dx dy l2 AX AC EN = [⟨0, 1, ⟨-dx, -dy, 0, dx, dy, 0⟩, AX⟩]) := (show _ = _ from by simp [spL])
      clear cG
      go_wp2
      go_ret
      rw [HSP.out]
      exact ⟨_, 1, rfl, sgrow_one _ ⟨0, 1, ⟨-dx, -dy, 0, dx, dy, 0⟩, AX⟩ _, hb6.alloc hb6.size _, hb6.size⟩
end Go.Proofs.YtfipmopmpacdaaaGreatDoor
