/- The plan that a sketch makes. -/
import Derived.Deep.RegionHeld3
import Derived.Test.YtfipmopmpacdaaaGreatDoorBD
import Derived.Test.YtfipmopmpacdaaaGreatDoorTA
import Derived.Test.YtfipmopmpacdaaaGreatDoorBF
namespace Go.Proofs.YtfipmopmpacdaaaGreatDoor
open Go.RowKit
structure S5 (w : World) (b : Nat) (v0 v1 v2 v3 v4 : Value) : Prop where
 c0 : w.cell? ⟨b, 0, none⟩ = some v0
 c1 : w.cell? ⟨b, 1, none⟩ = some v1
 c2 : w.cell? ⟨b, 2, none⟩ = some v2
 c3 : w.cell? ⟨b, 3, none⟩ = some v3
 c4 : w.cell? ⟨b, 4, none⟩ = some v4
 lt : b < w.heap.size
theorem S5.new (w : World) (v0 v1 v2 v3 v4 : Value) (t : TypeId) : S5 (w.alloc (.cells #[v0, v1, v2, v3, v4] t)) w.heap.size v0 v1 v2 v3 v4 :=
 ⟨by go_simp, by go_simp, by go_simp, by go_simp, by go_simp, by simp⟩
theorem S5.belowB {w w' : World} {b B : Nat} {v0 v1 v2 v3 v4 : Value} (h : S5 w b v0 v1 v2 v3 v4) (hl : b < B) (hb : Below B w w') : S5 w' b v0 v1 v2 v3 v4 :=
 ⟨(hb.cell (p := ⟨b, 0, none⟩) hl).trans h.c0, (hb.cell (p := ⟨b, 1, none⟩) hl).trans h.c1, (hb.cell (p := ⟨b, 2, none⟩) hl).trans h.c2, (hb.cell (p := ⟨b, 3, none⟩) hl).trans h.c3, (hb.cell (p := ⟨b, 4, none⟩) hl).trans h.c4, Nat.lt_of_lt_of_le h.lt hb.size⟩
theorem S5.below {w w' : World} {b : Nat} {v0 v1 v2 v3 v4 : Value} (h : S5 w b v0 v1 v2 v3 v4) (hb : Below w.heap.size w w') : S5 w' b v0 v1 v2 v3 v4 := h.belowB h.lt hb
theorem JBox.fill {w : World} {g : Nat} {a b c d : Value} (h : JBox w g a b c d) (s x y f : Value) : JBox ((((w.setCell ⟨g, 0, none⟩ s).setCell ⟨g, 1, none⟩ x).setCell ⟨g, 2, none⟩ y).setCell ⟨g, 3, none⟩ f) g s x y f := by
 obtain ⟨c0, c1, c2, c3, f0, f1, f2, f3, lt⟩ := h
 exact ⟨by go_simp, by go_simp, by go_simp, by go_simp, by go_simp, by go_simp, by go_simp, by go_simp, by simpa [World.setCell] using lt⟩
theorem JBox.setX {w : World} {g : Nat} {a b c d : Value} (h : JBox w g a b c d) (x : Value) : JBox (w.setCell ⟨g, 1, none⟩ x) g a x c d := by
 obtain ⟨c0, c1, c2, c3, f0, f1, f2, f3, lt⟩ := h
 exact ⟨by go_simp, by go_simp, by go_simp, by go_simp, by go_simp, by go_simp, by go_simp, by go_simp, by simpa [World.setCell] using lt⟩
theorem JBox.later {w w' : World} {g : Nat} {a b c d : Value} (h : JBox w g a b c d) (hb : Below w.heap.size w w') : JBox w' g a b c d := h.below hb
theorem below_four {B g : Nat} {w w' : World} (h : Below B w w') (hg : B ≤ g) (s x y f : Value) : Below B w ((((w'.setCell ⟨g, 0, none⟩ s).setCell ⟨g, 1, none⟩ x).setCell ⟨g, 2, none⟩ y).setCell ⟨g, 3, none⟩ f) :=
 (((h.setCell (p := ⟨g, 0, none⟩) hg _).setCell (p := ⟨g, 1, none⟩) hg _).setCell (p := ⟨g, 2, none⟩) hg _).setCell (p := ⟨g, 3, none⟩) hg _
theorem jrown_belowB {w w' : World} {b B : Nat} {e : TypeId} {s : Nat} {v : Value} {n : Nat} {xs : List Value} (h : w.ownsRow b e s v n xs) (hl : ∀ k, v.ownBlock = some k → k < B) (hb : Below B w w') : w'.ownsRow b e s v n xs := by
 refine ⟨h.1, ?_⟩
 rcases h.2 with hn | ⟨g, cap, cur, h1, h2, h3, h4⟩
 ·exact Or.inl hn
 ·subst h1
  exact Or.inr ⟨g, cap, cur, rfl, h2, by rw [hb.block g (hl g rfl)]; exact h3, h4⟩
theorem MBox.fill {w : World} {g : Nat} {m0 : Mb} (h : MBox w g m0) (m : Mb) : MBox (((((((((w.setCell ⟨g, 0, none⟩ (.string m.nm)).setCell ⟨g, 1, none⟩ (.int .u8 m.kd)).setCell ⟨g, 2, none⟩ (.int .i64 m.a)).setCell ⟨g, 3, none⟩ (.int .i64 m.b)).setCell ⟨g, 4, none⟩ (.bool m.ha)).setCell ⟨g, 5, none⟩ (.bool m.hb)).setCell ⟨g, 6, none⟩ (.float .f64 m.e)).setCell ⟨g, 7, none⟩ (.float .f64 m.ar)).setCell ⟨g, 8, none⟩ (.float .f64 m.i)) g m := by
 obtain ⟨⟨c0, c1, c2, c3, c4, c5, c6, c7, c8⟩, f0, f1, f2, f3, f4, f5, f6, f7, f8, lt⟩ := h
 simp only [Nat.zero_add] at c0 c1 c2 c3 c4 c5 c6 c7 c8
 exact ⟨⟨by go_simp, by go_simp, by go_simp, by go_simp, by go_simp, by go_simp, by go_simp, by go_simp, by go_simp⟩, by go_simp, by go_simp, by go_simp, by go_simp, by go_simp, by go_simp, by go_simp, by go_simp, by go_simp, by simpa [World.setCell] using lt⟩
theorem below_nine {B g : Nat} {w w' : World} (h : Below B w w') (hg : B ≤ g) (m : Mb) : Below B w (((((((((w'.setCell ⟨g, 0, none⟩ (.string m.nm)).setCell ⟨g, 1, none⟩ (.int .u8 m.kd)).setCell ⟨g, 2, none⟩ (.int .i64 m.a)).setCell ⟨g, 3, none⟩ (.int .i64 m.b)).setCell ⟨g, 4, none⟩ (.bool m.ha)).setCell ⟨g, 5, none⟩ (.bool m.hb)).setCell ⟨g, 6, none⟩ (.float .f64 m.e)).setCell ⟨g, 7, none⟩ (.float .f64 m.ar)).setCell ⟨g, 8, none⟩ (.float .f64 m.i)) :=
 ((((((((h.setCell (p := ⟨g, 0, none⟩) hg _).setCell (p := ⟨g, 1, none⟩) hg _).setCell (p := ⟨g, 2, none⟩) hg _).setCell (p := ⟨g, 3, none⟩) hg _).setCell (p := ⟨g, 4, none⟩) hg _).setCell (p := ⟨g, 5, none⟩) hg _).setCell (p := ⟨g, 6, none⟩) hg _).setCell (p := ⟨g, 7, none⟩) hg _).setCell (p := ⟨g, 8, none⟩) hg _
theorem MBox.setb {w : World} {g : Nat} {m : Mb} (h : MBox w g m) (b : Int) : MBox (w.setCell ⟨g, 3, none⟩ (.int .i64 b)) g { m with b := b } := by
 obtain ⟨⟨c0, c1, c2, c3, c4, c5, c6, c7, c8⟩, f0, f1, f2, f3, f4, f5, f6, f7, f8, lt⟩ := h
 simp only [Nat.zero_add] at c0 c1 c2 c3 c4 c5 c6 c7 c8
 exact ⟨⟨by go_simp, by go_simp, by go_simp, by go_simp, by go_simp, by go_simp, by go_simp, by go_simp, by go_simp⟩, by go_simp, by go_simp, by go_simp, by go_simp, by go_simp, by go_simp, by go_simp, by go_simp, by go_simp, by simpa [World.setCell] using lt⟩
theorem MBox.beam {w : World} {g : Nat} {m : Mb} (h : MBox w g m) (i : Nat) (a b : Bool) : MBox ((((w.setCell ⟨g, 1, none⟩ (.int .u8 2)).setCell ⟨g, 8, none⟩ (.float .f64 i)).setCell ⟨g, 4, none⟩ (.bool a)).setCell ⟨g, 5, none⟩ (.bool b)) g { m with kd := 2, ha := a, hb := b, i := i } := by
 obtain ⟨⟨c0, c1, c2, c3, c4, c5, c6, c7, c8⟩, f0, f1, f2, f3, f4, f5, f6, f7, f8, lt⟩ := h
 simp only [Nat.zero_add] at c0 c1 c2 c3 c4 c5 c6 c7 c8
 exact ⟨⟨by go_simp, by go_simp, by go_simp, by go_simp, by go_simp, by go_simp, by go_simp, by go_simp, by go_simp⟩, by go_simp, by go_simp, by go_simp, by go_simp, by go_simp, by go_simp, by go_simp, by go_simp, by go_simp, by simpa [World.setCell] using lt⟩
theorem below_beam {B g : Nat} {w w' : World} (h : Below B w w') (hg : B ≤ g) (i : Nat) (a b : Bool) : Below B w ((((w'.setCell ⟨g, 1, none⟩ (.int .u8 2)).setCell ⟨g, 8, none⟩ (.float .f64 i)).setCell ⟨g, 4, none⟩ (.bool a)).setCell ⟨g, 5, none⟩ (.bool b)) :=
 (((h.setCell (p := ⟨g, 1, none⟩) hg _).setCell (p := ⟨g, 8, none⟩) hg _).setCell (p := ⟨g, 4, none⟩) hg _).setCell (p := ⟨g, 5, none⟩) hg _
def MadeT (w : World) (e : Ending) (w' : World) : Prop := ∃ (js : List Jn) (ms : List Mb) (ao mo : Option Addr) (ac mc : Nat), e = .returned (.agg #[.slice ao js.length ac, .slice mo ms.length mc]) ∧ JRow w' ao js ∧ MRow w' mo ms ∧ SkJ js ∧ (2 ≤ js.length ∧ js.length ≤ 4) ∧ SkM js.length ms ∧ ms.length ≤ 6 ∧ (ms.length = 0 → mo = none ∧ mc = 0) ∧ Below w.heap.size w w'
set_option maxRecDepth 100000 in
set_option maxHeartbeats 16000000 in
theorem plan_made (n : Int) (A F M : List Int) (R : List Nat) (aa fa ma na : Option Addr) (ac fc mc nc : Nat) (w : World)
  (hA : IsRow w aa A) (hF : IsRow w fa F) (hM : IsRow w ma M) (hR : FsRow w na R) (wA : I64s A) (wF : I64s F) (wM : I64s M) (wR : F64s R)
  (lA : A.length ≤ 1125899906842624) (lF : F.length ≤ 1125899906842624) (_lM : M.length ≤ 1125899906842624) (lR : R.length ≤ 1125899906842624) :
  Calls Tryz.prog 4 #[.agg #[.int .i64 n, .slice aa A.length ac, .slice fa F.length fc, .slice ma M.length mc, .slice na R.length nc]] w (MadeT w) := by
 have cA := fun k w' (hb : Below w.heap.size w w') => spart_any A aa ac k w' (hA.below hb) lA
 have cF := fun k w' (hb : Below w.heap.size w w') => spart_any F fa fc k w' (hF.below hb) lF
 have cR := fun k w' (hb : Below w.heap.size w w') => snum_any R na nc k w' (hR.below hb) wR lR
 have rA := prA_in wA
 have rF := prA_in wF
 have hMr := fun w' (hb : Below w.heap.size w w') => hM.below hb
 have rM : ∀ k, k < M.length → -9223372036854775808 ≤ M.getD k 0 ∧ M.getD k 0 ≤ 9223372036854775807 := fun k hk => wM.at hk
 have nR := nuA_ok R
 have nW := nuA_lt wR
 generalize prA A = pA at *
 generalize prA F = pF at *
 generalize nuA R = nu at *
 generalize A.length = LA at *
 generalize F.length = LF at *
 generalize R.length = LR at *
 obtain ⟨LM, hLM⟩ : ∃ L, M.length = L := ⟨_, rfl⟩
 have HLM : Hid (M.length = LM) := hLM
 rw [hLM] at rM ⊢
 clear hLM hA hF hM hR wA wF wM wR
 have X0 := S5.new w (.int .i64 n) (.slice aa LA ac) (.slice fa LF fc) (.slice ma LM mc) (.slice na LR nc) 25
 have b0 : Below w.heap.size w (w.alloc (.cells #[.int .i64 n, .slice aa LA ac, .slice fa LF fc, .slice ma LM mc, .slice na LR nc] 25)) := (Below.refl _ _).alloc (Nat.le_refl _) _
 have hs1 : (w.alloc (.cells #[.int .i64 n, .slice aa LA ac, .slice fa LF fc, .slice ma LM mc, .slice na LR nc] 25)).heap.size = w.heap.size + 1 := by simp
 go_enter Tryz.func4, Tryz.ntmps4
 obtain ⟨U, eU⟩ : ∃ U, w.alloc (.cells #[.int .i64 n, .slice aa LA ac, .slice fa LF fc, .slice ma LM mc, .slice na LR nc] 25) = U := ⟨_, rfl⟩
 rw [eU] at X0 b0 hs1
 have RB := (PBox.new U (.slice none 0 0) (.slice none 0 0) 29).alloc (.cells #[.slice none 0 0, .slice none 0 0] 29)
 have PB := PBox.new (U.alloc (.cells #[.slice none 0 0, .slice none 0 0] 29)) (.slice none 0 0) (.slice none 0 0) 29
 have b2 := ((Below.refl U.heap.size U).alloc (Nat.le_refl _) (.cells #[.slice none 0 0, .slice none 0 0] 29)).alloc (by simp) (.cells #[.slice none 0 0, .slice none 0 0] 29)
 have hz0 : ((U.alloc (.cells #[.slice none 0 0, .slice none 0 0] 29)).alloc (.cells #[.slice none 0 0, .slice none 0 0] 29)).heap.size = w.heap.size + 1 + 1 + 1 := by simp [hs1]
 rw [show (U.alloc (.cells #[.slice none 0 0, .slice none 0 0] 29)).heap.size = w.heap.size + 1 + 1 by simp [hs1]] at PB
 rw [hs1] at RB
 go_upto_region 2 with fail
 generalize (U.alloc (.cells #[.slice none 0 0, .slice none 0 0] 29)).alloc (.cells #[.slice none 0 0, .slice none 0 0] 29) = W0 at *
 replace X0 := X0.below b2
 have hb0 := b0.trans (b2.mono b0.size)
 clear b0 b2 hs1 eU U
 obtain ⟨x0, _, _, _, _, _⟩ := id X0
 have cN := fun w' => spick_any n 3 (by omega) (by omega) w'
 have hN3 := pkA_lt n (show 1 ≤ 3 by omega)
 generalize pkA n 3 = m3 at *
 obtain ⟨N, hN⟩ : ∃ N : Nat, 2 + (m3 : Int) = N := ⟨2 + m3, by omega⟩
 have hN2 : 2 ≤ N ∧ N ≤ 4 := by omega
 go_upto_region 4 with (go_at_call 11; refine (cN _).mono ?_; rintro e w1 ⟨rfl, ew⟩; obtain rfl := ew.symm)
 clear x0 cN hN3
 go_loopg [5] N (fun gh v wr => ∃ (i : Nat) (js : List Jn) (pv : Value), i ≤ N ∧ gh = N - i ∧ v = .int .i64 i ∧ Hid (js.length = i) ∧ SkJ js ∧ wr.ownsRow (w.heap.size + 1 + 1 + 1) 40 4 pv js.length (jnc js) ∧ PBox wr (w.heap.size + 1 + 1) pv (.slice none 0 0) ∧ Below (w.heap.size + 1 + 1) W0 wr ∧ W0.heap.size ≤ wr.heap.size)
 case atStart => exact ⟨0, [], .slice none 0 0, by omega, rfl, rfl, rfl, fun k hk => absurd hk (by simp), World.ownsRow_nil _ _ _ _, PB, Below.refl _ _, Nat.le_refl _⟩
 case round =>
  obtain ⟨i, js, pv, hi, hg, rfl, HJ, hJ, hO, PB1, hbr, hz⟩ := hrel
  have HG : Hid (gk = N - i) := hg
  clear hg
  by_cases hlt : i < N
  ·have i1 : (i : Int) < (N : Int) := by omega
   have XR := X0.belowB (by omega : w.heap.size < w.heap.size + 1 + 1) hbr
   have hbw := hb0.trans (hbr.mono (by omega : w.heap.size ≤ w.heap.size + 1 + 1))
   obtain ⟨x0, x1, x2, x3, x4, xl⟩ := id XR
   have wr2 : IntKind.i64.wrap (2 * (i : Int)) = 2 * (i : Int) := by rw [IntKind.wrap_i64]; omega
   have wr3 : IntKind.i64.wrap (2 * (i : Int) + 1) = 2 * (i : Int) + 1 := by rw [IntKind.wrap_i64]; omega
   have cA0 : ∀ w', Below w.heap.size w w' → Calls Tryz.prog 13 #[.slice aa LA ac, .int .i64 (2 * (i : Int))] w' fun e w'' => e = .returned (.int .i64 (pA (2 * i))) ∧ w'' = w' := fun w' hb => (show ((2 * i : Nat) : Int) = 2 * (i : Int) by omega) ▸ cA (2 * i) w' hb
   have cA1 : ∀ w', Below w.heap.size w w' → Calls Tryz.prog 13 #[.slice aa LA ac, .int .i64 (2 * (i : Int) + 1)] w' fun e w'' => e = .returned (.int .i64 (pA (2 * i + 1))) ∧ w'' = w' := fun w' hb => (show ((2 * i + 1 : Nat) : Int) = 2 * (i : Int) + 1 by omega) ▸ cA (2 * i + 1) w' hb
   have cP0 := fun w' => spick_any (pA (2 * i)) 17 (by omega) (by omega) w'
   have cP1 := fun w' => spick_any (pA (2 * i + 1)) 17 (by omega) (by omega) w'
   have cP2 := fun w' => spick_any (pF i) 8 (by omega) (by omega) w'
   have q0 := pkA_lt (pA (2 * i)) (show 1 ≤ 17 by omega)
   have q1 := pkA_lt (pA (2 * i + 1)) (show 1 ≤ 17 by omega)
   have q2 := pkA_lt (pF i) (show 1 ≤ 8 by omega)
   generalize pkA (pA (2 * i)) 17 = p0 at *
   generalize pkA (pA (2 * i + 1)) 17 = p1 at *
   generalize pkA (pF i) 8 = p2 at *
   go_upto_region 6 with fail
   obtain ⟨FL, hFL⟩ : ∃ fz : Nat → Lz, fz = (fun j => match j with | 0 => .is (.int .i64 i) | 1 => .is (.string (sN 106 i)) | 2 => .is (.pointer (some ⟨w.heap.size, 1, none⟩)) | 3 => .is (.slice aa LA ac) | 4 => .is (.int .i64 i) | 5 => .is (.int .i64 (2 * (i : Int))) | 6 => .is (.int .i64 (pA (2 * i))) | 7 => .is (.int .i64 (p0 : Nat)) | 8 => .is (.int .i64 ((p0 : Int) - 8)) | 9 => .is (.int .i32 ((p0 : Int) - 8)) | 10 => .is (.pointer (some ⟨w.heap.size, 1, none⟩)) | 11 => .is (.slice aa LA ac) | 12 => .is (.int .i64 i) | 13 => .is (.int .i64 (2 * (i : Int))) | 14 => .is (.int .i64 (2 * (i : Int) + 1)) | 15 => .is (.int .i64 (pA (2 * i + 1))) | 16 => .is (.int .i64 (p1 : Nat)) | 17 => .is (.int .i64 ((p1 : Int) - 8)) | 18 => .is (.int .i32 ((p1 : Int) - 8)) | 19 => .is (.pointer (some ⟨w.heap.size, 2, none⟩)) | 20 => .is (.slice fa LF fc) | 21 => .is (.int .i64 i) | 22 => .is (.int .i64 (pF i)) | 23 => .is (.int .i64 (p2 : Nat)) | 24 => .is (.int .u8 (p2 : Nat)) | 25 => .is (.agg #[.string (sN 106 i), .int .i32 ((p0 : Int) - 8), .int .i32 ((p1 : Int) - 8), .int .u8 (p2 : Nat)]) | 26 => .gn (fun a x => ∃ g, x = .pointer (some ⟨g, 0, none⟩) ∧ JBox a g (.string ByteArray.empty) (.int .i32 0) (.int .i32 0) (.int .u8 0) ∧ wr.heap.size ≤ g) (fun a a' x h hb => h.elim fun g h => ⟨g, h.1, h.2.1.below hb, h.2.2⟩) | 27 => .tr | _ => .tr) := ⟨_, rfl⟩
   have F0 := congrFun hFL 0
   have F1 := congrFun hFL 1
   have F2 := congrFun hFL 2
   have F3 := congrFun hFL 3
   have F4 := congrFun hFL 4
   have F5 := congrFun hFL 5
   have F6 := congrFun hFL 6
   have F7 := congrFun hFL 7
   have F8 := congrFun hFL 8
   have F9 := congrFun hFL 9
   have F10 := congrFun hFL 10
   have F11 := congrFun hFL 11
   have F12 := congrFun hFL 12
   have F13 := congrFun hFL 13
   have F14 := congrFun hFL 14
   have F15 := congrFun hFL 15
   have F16 := congrFun hFL 16
   have F17 := congrFun hFL 17
   have F18 := congrFun hFL 18
   have F19 := congrFun hFL 19
   have F20 := congrFun hFL 20
   have F21 := congrFun hFL 21
   have F22 := congrFun hFL 22
   have F23 := congrFun hFL 23
   have F24 := congrFun hFL 24
   have F25 := congrFun hFL 25
   have F26 := congrFun hFL 26
   have F27 := congrFun hFL 27
   simp only at F0 F1 F2 F3 F4 F5 F6 F7 F8 F9 F10 F11 F12 F13 F14 F15 F16 F17 F18 F19 F20 F21 F22 F23 F24 F25 F26 F27
   clear hFL
   refine region_rgY (by kernel_rfl) (fun vv => ⟨#[.agg #[.int .i64 n, .slice aa LA ac, .slice fa LF fc, .slice ma LM mc, .slice na LR nc], .pointer (some ⟨w.heap.size, 0, none⟩), .pointer (some ⟨w.heap.size + 1, 0, none⟩), .pointer (some ⟨w.heap.size + 1 + 1, 0, none⟩), .int .i64 ↑N, .int .i64 ↑i, vv 26, u7, undef, undef, undef, .pointer (some ⟨w.heap.size, 0, none⟩), .int .i64 n, .int .i64 ↑m3, .int .i64 ↑N, .int .i64 ↑i, .int .i64 ↑N, .bool true, u18, u19, vv 0, vv 1, vv 2, vv 3, vv 4, vv 5, vv 6, vv 7, vv 8, vv 9, vv 10, vv 11, vv 12, vv 13, vv 14, vv 15, vv 16, vv 17, vv 18, vv 19, vv 20, vv 21, vv 22, vv 23, vv 24, vv 25, u46, u47, u48, u49, u50, u51, u52, u53, u54, u55, u56, u57, u58, u59, u60, u61, u62, u63, u64, u65, u66, u67, u68, u69, u70, u71, u72, u73, u74, u75, u76, u77, u78, u79, u80, u81, undef, undef, undef, undef, undef, undef, undef, undef, undef, undef, undef, undef, undef, undef, undef, undef, undef, undef, undef, undef, undef, undef, undef, undef, undef, undef, undef, undef, undef, undef, undef, undef, undef, undef, undef, undef, undef, undef, undef, undef, undef, undef, undef, undef, undef, undef, undef, undef, undef, undef, undef, undef, undef, undef, undef, undef, undef, undef, undef, undef, undef, undef, undef, undef, undef, undef, undef, undef, undef, undef, undef, undef, undef, undef, undef, undef, undef, undef, undef, undef, undef, undef, undef, undef, undef, undef, undef, undef, undef, undef, undef, undef], []⟩) 27 FL (fun wz vz => ∃ g, vz 26 = .pointer (some ⟨g, 0, none⟩) ∧ JBox wz g (.string (sN 106 i)) (.int .i32 ((p0 : Int) - 8)) (.int .i32 ((p1 : Int) - 8)) (.int .u8 (p2 : Nat)) ∧ Below wr.heap.size wr wz ∧ wr.heap.size ≤ g) (fun j => match j with | 0 => u20 | 1 => u21 | 2 => u22 | 3 => u23 | 4 => u24 | 5 => u25 | 6 => u26 | 7 => u27 | 8 => u28 | 9 => u29 | 10 => u30 | 11 => u31 | 12 => u32 | 13 => u33 | 14 => u34 | 15 => u35 | 16 => u36 | 17 => u37 | 18 => u38 | 19 => u39 | 20 => u40 | 21 => u41 | 22 => u42 | 23 => u43 | 24 => u44 | 25 => u45 | 26 => u6 | _ => undef) rfl ?_ ?_
   ·intro Lq vv wq i hL hS hD hi
    obtain ⟨hr1, hr2, hr3⟩ := mem_ready hi
    have hr1 : i < 28 := hr1
    try dsimp only
    have hcs : i = 0 ∨ i = 1 ∨ i = 2 ∨ i = 3 ∨ i = 4 ∨ i = 5 ∨ i = 6 ∨ i = 7 ∨ i = 8 ∨ i = 9 ∨ i = 10 ∨ i = 11 ∨ i = 12 ∨ i = 13 ∨ i = 14 ∨ i = 15 ∨ i = 16 ∨ i = 17 ∨ i = 18 ∨ i = 19 ∨ i = 20 ∨ i = 21 ∨ i = 22 ∨ i = 23 ∨ i = 24 ∨ i = 25 ∨ i = 26 ∨ i = 27 := by omega
    clear hr1 hr2 hr3
    have hns := hS.open hL hi
    have hB := hS.a hns
    rcases hcs with rfl | rfl | rfl | rfl | rfl | rfl | rfl | rfl | rfl | rfl | rfl | rfl | rfl | rfl | rfl | rfl | rfl | rfl | rfl | rfl | rfl | rfl | rfl | rfl | rfl | rfl | rfl | rfl
    ·refine wpOpT_of (fun K hK => ?_)
     unfold wpOp
     go_simp
     refine Or.inl ?_
     exact hK _ _ ⟨putT vv 0 (.int .i64 i), (by simp [putT]), hS.step hL hi (by decide) (Below.refl _ _) (Lz.toIs F0)⟩
    ·have e0 := Lz.ofIs (hS.f hns 0 (ready_dep hi 0 (by kernel_rfl))) F0
     refine wpOpT_of (fun K hK => ?_)
     unfold wpOp
     simp only [e0]
     go_simp
     refine Or.inl ?_
     go_at_call 12
     refine (sname_any 106 i (by omega) (by omega) _).mono ?_
     rintro e w1 ⟨rfl, bc⟩
     exact hK _ _ ⟨putT vv 1 (.string (sN 106 i)), (by simp [putT, e0]), hS.step hL hi (by decide) (bc) (Lz.toIs F1)⟩
    ·refine wpOpT_of (fun K hK => ?_)
     unfold wpOp
     go_simp
     refine Or.inl ?_
     exact hK _ _ ⟨putT vv 2 (.pointer (some ⟨w.heap.size, 1, none⟩)), (by simp [putT]), hS.step hL hi (by decide) (Below.refl _ _) (Lz.toIs F2)⟩
    ·have e2 := Lz.ofIs (hS.f hns 2 (ready_dep hi 2 (by kernel_rfl))) F2
     have r1 := (hB.cell (p := ⟨w.heap.size, 1, none⟩) XR.lt).trans x1
     refine wpOpT_of (fun K hK => ?_)
     unfold wpOp
     simp only [e2]
     go_simp
     refine Or.inl ?_
     exact hK _ _ ⟨putT vv 3 (.slice aa LA ac), (by simp [putT, e2]), hS.step hL hi (by decide) (Below.refl _ _) (Lz.toIs F3)⟩
    ·refine wpOpT_of (fun K hK => ?_)
     unfold wpOp
     go_simp
     refine Or.inl ?_
     exact hK _ _ ⟨putT vv 4 (.int .i64 i), (by simp [putT]), hS.step hL hi (by decide) (Below.refl _ _) (Lz.toIs F4)⟩
    ·have e4 := Lz.ofIs (hS.f hns 4 (ready_dep hi 4 (by kernel_rfl))) F4
     refine wpOpT_of (fun K hK => ?_)
     unfold wpOp
     simp only [e4]
     go_simp
     refine Or.inl ?_
     exact hK _ _ ⟨putT vv 5 (.int .i64 (2 * (i : Int))), (by simp [putT, e4]), hS.step hL hi (by decide) (Below.refl _ _) (Lz.toIs F5)⟩
    ·have e3 := Lz.ofIs (hS.f hns 3 (ready_dep hi 3 (by kernel_rfl))) F3
     have e5 := Lz.ofIs (hS.f hns 5 (ready_dep hi 5 (by kernel_rfl))) F5
     refine wpOpT_of (fun K hK => ?_)
     unfold wpOp
     simp only [e3, e5]
     go_simp
     refine Or.inl ?_
     go_at_call 13
     refine (cA0 _ (hbw.trans (hB.mono hbw.size))).mono ?_
     rintro e w1 ⟨rfl, rfl⟩
     exact hK _ _ ⟨putT vv 6 (.int .i64 (pA (2 * i))), (by simp [putT, e3, e5]), hS.step hL hi (by decide) (Below.refl _ _) (Lz.toIs F6)⟩
    ·have e6 := Lz.ofIs (hS.f hns 6 (ready_dep hi 6 (by kernel_rfl))) F6
     refine wpOpT_of (fun K hK => ?_)
     unfold wpOp
     simp only [e6]
     go_simp
     refine Or.inl ?_
     go_at_call 11
     refine (cP0 _).mono ?_
     rintro e w1 ⟨rfl, rfl⟩
     exact hK _ _ ⟨putT vv 7 (.int .i64 (p0 : Nat)), (by simp [putT, e6]), hS.step hL hi (by decide) (Below.refl _ _) (Lz.toIs F7)⟩
    ·have e7 := Lz.ofIs (hS.f hns 7 (ready_dep hi 7 (by kernel_rfl))) F7
     have wq8 : IntKind.i64.wrap ((p0 : Int) - 8) = (p0 : Int) - 8 := by rw [IntKind.wrap_i64]; omega
     refine wpOpT_of (fun K hK => ?_)
     unfold wpOp
     simp only [e7]
     go_simp
     refine Or.inl ?_
     exact hK _ _ ⟨putT vv 8 (.int .i64 ((p0 : Int) - 8)), (by simp [putT, e7]), hS.step hL hi (by decide) (Below.refl _ _) (Lz.toIs F8)⟩
    ·have e8 := Lz.ofIs (hS.f hns 8 (ready_dep hi 8 (by kernel_rfl))) F8
     have wq9 : IntKind.i32.wrap ((p0 : Int) - 8) = (p0 : Int) - 8 := by rw [IntKind.wrap_i32]; omega
     refine wpOpT_of (fun K hK => ?_)
     unfold wpOp
     simp only [e8]
     go_simp
     refine Or.inl ?_
     exact hK _ _ ⟨putT vv 9 (.int .i32 ((p0 : Int) - 8)), (by simp [putT, e8]), hS.step hL hi (by decide) (Below.refl _ _) (Lz.toIs F9)⟩
    ·refine wpOpT_of (fun K hK => ?_)
     unfold wpOp
     go_simp
     refine Or.inl ?_
     exact hK _ _ ⟨putT vv 10 (.pointer (some ⟨w.heap.size, 1, none⟩)), (by simp [putT]), hS.step hL hi (by decide) (Below.refl _ _) (Lz.toIs F10)⟩
    ·have e10 := Lz.ofIs (hS.f hns 10 (ready_dep hi 10 (by kernel_rfl))) F10
     have r1 := (hB.cell (p := ⟨w.heap.size, 1, none⟩) XR.lt).trans x1
     refine wpOpT_of (fun K hK => ?_)
     unfold wpOp
     simp only [e10]
     go_simp
     refine Or.inl ?_
     exact hK _ _ ⟨putT vv 11 (.slice aa LA ac), (by simp [putT, e10]), hS.step hL hi (by decide) (Below.refl _ _) (Lz.toIs F11)⟩
    ·refine wpOpT_of (fun K hK => ?_)
     unfold wpOp
     go_simp
     refine Or.inl ?_
     exact hK _ _ ⟨putT vv 12 (.int .i64 i), (by simp [putT]), hS.step hL hi (by decide) (Below.refl _ _) (Lz.toIs F12)⟩
    ·have e12 := Lz.ofIs (hS.f hns 12 (ready_dep hi 12 (by kernel_rfl))) F12
     refine wpOpT_of (fun K hK => ?_)
     unfold wpOp
     simp only [e12]
     go_simp
     refine Or.inl ?_
     exact hK _ _ ⟨putT vv 13 (.int .i64 (2 * (i : Int))), (by simp [putT, e12]), hS.step hL hi (by decide) (Below.refl _ _) (Lz.toIs F13)⟩
    ·have e13 := Lz.ofIs (hS.f hns 13 (ready_dep hi 13 (by kernel_rfl))) F13
     refine wpOpT_of (fun K hK => ?_)
     unfold wpOp
     simp only [e13]
     go_simp
     refine Or.inl ?_
     exact hK _ _ ⟨putT vv 14 (.int .i64 (2 * (i : Int) + 1)), (by simp [putT, e13]), hS.step hL hi (by decide) (Below.refl _ _) (Lz.toIs F14)⟩
    ·have e11 := Lz.ofIs (hS.f hns 11 (ready_dep hi 11 (by kernel_rfl))) F11
     have e14 := Lz.ofIs (hS.f hns 14 (ready_dep hi 14 (by kernel_rfl))) F14
     refine wpOpT_of (fun K hK => ?_)
     unfold wpOp
     simp only [e11, e14]
     go_simp
     refine Or.inl ?_
     go_at_call 13
     refine (cA1 _ (hbw.trans (hB.mono hbw.size))).mono ?_
     rintro e w1 ⟨rfl, rfl⟩
     exact hK _ _ ⟨putT vv 15 (.int .i64 (pA (2 * i + 1))), (by simp [putT, e11, e14]), hS.step hL hi (by decide) (Below.refl _ _) (Lz.toIs F15)⟩
    ·have e15 := Lz.ofIs (hS.f hns 15 (ready_dep hi 15 (by kernel_rfl))) F15
     refine wpOpT_of (fun K hK => ?_)
     unfold wpOp
     simp only [e15]
     go_simp
     refine Or.inl ?_
     go_at_call 11
     refine (cP1 _).mono ?_
     rintro e w1 ⟨rfl, rfl⟩
     exact hK _ _ ⟨putT vv 16 (.int .i64 (p1 : Nat)), (by simp [putT, e15]), hS.step hL hi (by decide) (Below.refl _ _) (Lz.toIs F16)⟩
    ·have e16 := Lz.ofIs (hS.f hns 16 (ready_dep hi 16 (by kernel_rfl))) F16
     have wq8 : IntKind.i64.wrap ((p1 : Int) - 8) = (p1 : Int) - 8 := by rw [IntKind.wrap_i64]; omega
     refine wpOpT_of (fun K hK => ?_)
     unfold wpOp
     simp only [e16]
     go_simp
     refine Or.inl ?_
     exact hK _ _ ⟨putT vv 17 (.int .i64 ((p1 : Int) - 8)), (by simp [putT, e16]), hS.step hL hi (by decide) (Below.refl _ _) (Lz.toIs F17)⟩
    ·have e17 := Lz.ofIs (hS.f hns 17 (ready_dep hi 17 (by kernel_rfl))) F17
     have wq9 : IntKind.i32.wrap ((p1 : Int) - 8) = (p1 : Int) - 8 := by rw [IntKind.wrap_i32]; omega
     refine wpOpT_of (fun K hK => ?_)
     unfold wpOp
     simp only [e17]
     go_simp
     refine Or.inl ?_
     exact hK _ _ ⟨putT vv 18 (.int .i32 ((p1 : Int) - 8)), (by simp [putT, e17]), hS.step hL hi (by decide) (Below.refl _ _) (Lz.toIs F18)⟩
    ·refine wpOpT_of (fun K hK => ?_)
     unfold wpOp
     go_simp
     refine Or.inl ?_
     exact hK _ _ ⟨putT vv 19 (.pointer (some ⟨w.heap.size, 2, none⟩)), (by simp [putT]), hS.step hL hi (by decide) (Below.refl _ _) (Lz.toIs F19)⟩
    ·have e19 := Lz.ofIs (hS.f hns 19 (ready_dep hi 19 (by kernel_rfl))) F19
     have r2 := (hB.cell (p := ⟨w.heap.size, 2, none⟩) XR.lt).trans x2
     refine wpOpT_of (fun K hK => ?_)
     unfold wpOp
     simp only [e19]
     go_simp
     refine Or.inl ?_
     exact hK _ _ ⟨putT vv 20 (.slice fa LF fc), (by simp [putT, e19]), hS.step hL hi (by decide) (Below.refl _ _) (Lz.toIs F20)⟩
    ·refine wpOpT_of (fun K hK => ?_)
     unfold wpOp
     go_simp
     refine Or.inl ?_
     exact hK _ _ ⟨putT vv 21 (.int .i64 i), (by simp [putT]), hS.step hL hi (by decide) (Below.refl _ _) (Lz.toIs F21)⟩
    ·have e20 := Lz.ofIs (hS.f hns 20 (ready_dep hi 20 (by kernel_rfl))) F20
     have e21 := Lz.ofIs (hS.f hns 21 (ready_dep hi 21 (by kernel_rfl))) F21
     refine wpOpT_of (fun K hK => ?_)
     unfold wpOp
     simp only [e20, e21]
     go_simp
     refine Or.inl ?_
     go_at_call 13
     refine (cF i _ (hbw.trans (hB.mono hbw.size))).mono ?_
     rintro e w1 ⟨rfl, rfl⟩
     exact hK _ _ ⟨putT vv 22 (.int .i64 (pF i)), (by simp [putT, e20, e21]), hS.step hL hi (by decide) (Below.refl _ _) (Lz.toIs F22)⟩
    ·have e22 := Lz.ofIs (hS.f hns 22 (ready_dep hi 22 (by kernel_rfl))) F22
     refine wpOpT_of (fun K hK => ?_)
     unfold wpOp
     simp only [e22]
     go_simp
     refine Or.inl ?_
     go_at_call 11
     refine (cP2 _).mono ?_
     rintro e w1 ⟨rfl, rfl⟩
     exact hK _ _ ⟨putT vv 23 (.int .i64 (p2 : Nat)), (by simp [putT, e22]), hS.step hL hi (by decide) (Below.refl _ _) (Lz.toIs F23)⟩
    ·have e23 := Lz.ofIs (hS.f hns 23 (ready_dep hi 23 (by kernel_rfl))) F23
     have wq9 : IntKind.u8.wrap (p2 : Int) = (p2 : Int) := by rw [IntKind.wrap_u8]; omega
     refine wpOpT_of (fun K hK => ?_)
     unfold wpOp
     simp only [e23]
     go_simp
     refine Or.inl ?_
     exact hK _ _ ⟨putT vv 24 (.int .u8 (p2 : Nat)), (by simp [putT, e23]), hS.step hL hi (by decide) (Below.refl _ _) (Lz.toIs F24)⟩
    ·have e1 := Lz.ofIs (hS.f hns 1 (ready_dep hi 1 (by kernel_rfl))) F1
     have e9 := Lz.ofIs (hS.f hns 9 (ready_dep hi 9 (by kernel_rfl))) F9
     have e18 := Lz.ofIs (hS.f hns 18 (ready_dep hi 18 (by kernel_rfl))) F18
     have e24 := Lz.ofIs (hS.f hns 24 (ready_dep hi 24 (by kernel_rfl))) F24
     refine wpOpT_of (fun K hK => ?_)
     unfold wpOp
     simp only [e1, e9, e18, e24]
     go_simp
     refine Or.inl ?_
     exact hK _ _ ⟨putT vv 25 (.agg #[.string (sN 106 i), .int .i32 ((p0 : Int) - 8), .int .i32 ((p1 : Int) - 8), .int .u8 (p2 : Nat)]), (by simp [putT, e1, e9, e18, e24]), hS.step hL hi (by decide) (Below.refl _ _) (Lz.toIs F25)⟩
    ·refine wpOpT_of (fun K hK => ?_)
     unfold wpOp
     go_simp
     refine Or.inl ?_
     exact hK _ _ ⟨putT vv 26 (.pointer (some ⟨wq.heap.size, 0, none⟩)), (by simp [putT]), hS.step hL hi (by decide) ((Below.refl _ _).alloc (Nat.le_refl _) _) (Lz.toGn F26 (⟨_, rfl, JBox.new _ _ _ _ _ _, hB.size⟩))⟩
    ·have e25 := Lz.ofIs (hS.f hns 25 (ready_dep hi 25 (by kernel_rfl))) F25
     obtain ⟨g26, e26, u26, l26⟩ := Lz.ofGn (hS.f hns 26 (ready_dep hi 26 (by kernel_rfl))) F26
     have hst := run_storef Tryz.prog
     obtain ⟨s0, s1, s2, s3, f0, f1, f2, f3, _⟩ := id u26
     refine wpOpT_of (fun K hK => ?_)
     unfold wpOp
     simp only [e25, e26]
     go_simp
     refine Or.inl ?_
     exact hK _ _ ⟨putT vv 27 undef, (by simp [putT, e25, e26]), hS.last hL hi (allY hD hi (by kernel_rfl)) (⟨g26, (by simp [putT, e26]), u26.fill _ _ _ _, below_four hB l26 _ _ _ _, l26⟩)⟩
   ·intro Lq vv wq hL hS hr
    have on := all_done hL hr (by kernel_rfl)
    obtain ⟨g, hq, JB, bq, gl⟩ := hS.z (on 27 (by decide))
    try dsimp only
    rw [hq]
    generalize vv 0 = y0 at *
    generalize vv 1 = y1 at *
    generalize vv 2 = y2 at *
    generalize vv 3 = y3 at *
    generalize vv 4 = y4 at *
    generalize vv 5 = y5 at *
    generalize vv 6 = y6 at *
    generalize vv 7 = y7 at *
    generalize vv 8 = y8 at *
    generalize vv 9 = y9 at *
    generalize vv 10 = y10 at *
    generalize vv 11 = y11 at *
    generalize vv 12 = y12 at *
    generalize vv 13 = y13 at *
    generalize vv 14 = y14 at *
    generalize vv 15 = y15 at *
    generalize vv 16 = y16 at *
    generalize vv 17 = y17 at *
    generalize vv 18 = y18 at *
    generalize vv 19 = y19 at *
    generalize vv 20 = y20 at *
    generalize vv 21 = y21 at *
    generalize vv 22 = y22 at *
    generalize vv 23 = y23 at *
    generalize vv 24 = y24 at *
    generalize vv 25 = y25 at *
    clear hS on hr FL hL Lq hq vv F0 F1 F2 F3 F4 F5 F6 F7 F8 F9 F10 F11 F12 F13 F14 F15 F16 F17 F18 F19 F20 F21 F22 F23 F24 F25 F26 F27
    generalize wq = V at *
    clear x0 x1 x2 x3 x4 xl wr2 wr3 cA0 cA1 cP0 cP1 cP2
    have hl := HJ.out
    obtain ⟨jo, jc, epv, jr⟩ := skj_row hO
    rw [hl] at epv
    subst epv
    clear hl
    obtain ⟨xx, hxx⟩ : ∃ x : Int, (p0 : Int) - 8 = x := ⟨_, rfl⟩
    obtain ⟨yy, hyy⟩ : ∃ y : Int, (p1 : Int) - 8 = y := ⟨_, rfl⟩
    rw [hxx, hyy] at JB
    have hx0 : -8 ≤ xx ∧ xx ≤ 8 := by omega
    have hy0 : -8 ≤ yy ∧ yy ≤ 8 := by omega
    clear hxx hyy q0 q1
    obtain ⟨w1, ew⟩ : ∃ u, u = wr := ⟨_, rfl⟩
    subst ew
    go_upto_region 8 with fail
    go_loopg [7] i (fun gh v wk => ∃ (k : Nat) (x : Int), k ≤ i ∧ gh = i - k ∧ v = .int .i64 k ∧ ((-8 ≤ x ∧ x ≤ 8) ∨ x = 20 + 3 * (i : Int)) ∧ Hid (∀ q, q < k → ¬ ((js.getD q jz).2.1 = x ∧ (js.getD q jz).2.2.1 = yy)) ∧ JBox wk g (.string (sN 106 i)) (.int .i32 x) (.int .i32 yy) (.int .u8 (p2 : Nat)) ∧ Below w1.heap.size w1 wk)
    case atStart => exact ⟨0, xx, by omega, rfl, rfl, Or.inl hx0, fun q hq => absurd hq (by omega), JB, bq⟩
    case round =>
     obtain ⟨k, x, hk, hg2, rfl, hx, hd, JK, b2⟩ := hrel
     clear JB bq
     have HG2 : Hid (gk = i - k) := hg2
     clear hg2
     have PB2 := PB1.belowB PB1.lt b2
     by_cases hki : k < i
     ·have i2 : (k : Int) < (i : Int) := by omega
      rcases jr.below b2 with h | ⟨b, off, rfl, hc⟩
      ·exact absurd (HJ.out.symm.trans h) (by omega)
      ·obtain ⟨c0, c1, c2, c3⟩ := hc k (by rw [HJ.out]; exact hki)
       obtain ⟨x', y', f', e', hxk, hyk, _, _⟩ := hJ k (by rw [HJ.out]; exact hki)
       rw [e'] at c1 c2
       simp only at c1 c2
       have He : Hid (js.getD k jz = (sN 106 k, x', y', f')) := e'
       obtain ⟨o0, _, _, _, _⟩ := id PB2
       obtain ⟨_, k1, k2, _, _, fx, _, _, kl⟩ := id JK
       clear hc e' c0 c3
       have wv1 : IntKind.i64.wrap (3 * (i : Int)) = 3 * (i : Int) := by rw [IntKind.wrap_i64]; omega
       have wv2 : IntKind.i64.wrap (20 + 3 * (i : Int)) = 20 + 3 * (i : Int) := by rw [IntKind.wrap_i64]; omega
       have wv3 : IntKind.i32.wrap (20 + 3 * (i : Int)) = 20 + 3 * (i : Int) := by rw [IntKind.wrap_i32]; omega
       have hstep : ¬ (x' = x ∧ y' = yy) → Hid (∀ q, q < k + 1 → ¬ ((js.getD q jz).2.1 = x ∧ (js.getD q jz).2.2.1 = yy)) := fun hn q hq => by
        rcases Nat.lt_or_ge q k with h | h
        ·exact hd.out q h
        ·obtain rfl : q = k := by omega
         rw [He.out]
         exact hn
       by_cases hxe : x' = x
       ·have e1 : (x' == x) = true := by simpa using hxe
        by_cases hye : y' = yy
        ·have e2 : (y' == yy) = true := by simpa using hye
         go_upto_region 10 with fail
         go_region_held3 (fun w' => w'.cell? ⟨w.heap.size + 1 + 1, 0, none⟩ = some (.slice (some ⟨b, off, none⟩) i jc) ∧ w'.cell? ⟨b, off + k * 4 + 1, none⟩ = some (.int .i32 x') ∧ w'.cell? ⟨b, off + k * 4 + 2, none⟩ = some (.int .i32 y') ∧ w'.cell? ⟨g, 1, none⟩ = some (.int .i32 x) ∧ w'.cell? ⟨g, 2, none⟩ = some (.int .i32 yy)) (go_keep) (fail)
         go_wp2
         go_roundg (i - (k + 1))
         case measure => rw [HG2.out]; omega
         case rel => exact ⟨k + 1, 20 + 3 * (i : Int), by omega, rfl, by go_num, Or.inr rfl, fun q hq => (by obtain ⟨xq, yq, fq, eq, hxq, _⟩ := hJ q (by rw [HJ.out]; omega); rw [eq]; simp only; omega), (JK.setX _).below ((Below.refl _ _).drew), (b2.setCell (p := ⟨g, 1, none⟩) gl _).drew⟩
        ·have e2 : (y' == yy) = false := by simpa using hye
         go_upto_region 10 with fail
         go_region_held3 (fun w' => w'.cell? ⟨w.heap.size + 1 + 1, 0, none⟩ = some (.slice (some ⟨b, off, none⟩) i jc) ∧ w'.cell? ⟨b, off + k * 4 + 1, none⟩ = some (.int .i32 x') ∧ w'.cell? ⟨b, off + k * 4 + 2, none⟩ = some (.int .i32 y') ∧ w'.cell? ⟨g, 1, none⟩ = some (.int .i32 x) ∧ w'.cell? ⟨g, 2, none⟩ = some (.int .i32 yy)) (go_keep) (fail)
         go_wp2
         go_roundg (i - (k + 1))
         case measure => rw [HG2.out]; omega
         case rel => exact ⟨k + 1, x, by omega, rfl, by go_num, hx, hstep (fun h => hye h.2), JK.below ((Below.refl _ _).drew), b2.drew⟩
       ·have e1 : (x' == x) = false := by simpa using hxe
        go_upto_region 10 with fail
        go_region
        go_wp2
        go_roundg (i - (k + 1))
        case measure => rw [HG2.out]; omega
        case rel => exact ⟨k + 1, x, by omega, rfl, by go_num, hx, hstep (fun h => hxe h.1), JK.below ((Below.refl _ _).drew), b2.drew⟩
     ·have ek : k = i := by omega
      subst ek
      have i2 : ¬ (k : Int) < (k : Int) := by omega
      have hO2 := jrown_below hO b2
      have hz2 : w.heap.size + 1 + 1 + 1 ≤ wr.heap.size := by have := b2.size; omega
      obtain ⟨v', w2, hrun, hO3, b3⟩ := sk_appj hO2 hz2 (sN 106 k, x, yy, p2) (by rw [HJ.out]; omega)
      obtain ⟨jo2, jc2, ev, _⟩ := skj_row hO3
      have hl2 : (js ++ [(sN 106 k, x, yy, p2)]).length = k + 1 := by rw [List.length_append, HJ.out]; rfl
      rw [hl2] at ev
      subst ev
      have hSJ : SkJ (js ++ [(sN 106 js.length, x, yy, p2)]) := hJ.snoc (by rw [HJ.out]; exact hx) hy0 q2 (by rw [HJ.out]; exact hd.out)
      rw [HJ.out] at hSJ
      obtain ⟨o0, o1, u0, u1, ol⟩ := id PB2
      obtain ⟨k0, k1, k2, k3, _, _, _, _, kl⟩ := id JK
      have PB3 := PB2.belowB (Nat.lt_succ_self _) b3
      obtain ⟨z0, z1, z2, z3, zl⟩ := id PB3
      simp only at hrun
      go_upto_region 12 with fail
      go_upto_region 5 with (at_builtin; refine skapp_eq hrun rfl _ _ rfl rfl rfl rfl ?_)
      go_wp2
      go_roundg (N - (k + 1))
      case measure => rw [HG.out]; omega
      case rel => exact ⟨k + 1, js ++ [(sN 106 k, x, yy, p2)], _, by omega, rfl, by go_num, hl2, hSJ, ownsRow_setCell_below hO3 (Nat.lt_succ_self _) _, PB3.set0 _, ((hbr.trans (b2.mono (by omega))).trans (b3.mono (Nat.le_succ _))).setCell (p := ⟨w.heap.size + 1 + 1, 0, none⟩) (Nat.le_refl _) _, by have := b2.size; have := b3.size; simp [World.setCell]; omega⟩
  ·have e : i = N := by omega
   subst e
   have i1 : ¬ (i : Int) < (i : Int) := by omega
   obtain ⟨jo, jc, epv, jr⟩ := skj_row hO
   have hl := HJ.out
   rw [hl] at epv
   subst epv
   clear hl jr cA cF rA rF pA pF
   obtain ⟨V1, eV⟩ : ∃ u, u = wr := ⟨_, rfl⟩
   subst eV
   have hgQ : ∀ k, (Value.slice jo i jc).ownBlock = some k → k < V1.heap.size := fun k hk => (hO.lt k hk).2
   have hQP : w.heap.size + 1 + 1 < V1.heap.size := by omega
   have RB1 := RB.belowB (by omega : w.heap.size + 1 < w.heap.size + 1 + 1) hbr
   go_upto_region 14 with fail
   go_loopg [8] 6 (fun gh v wk => ∃ (k : Nat) (ms : List Mb) (qv : Value), k ≤ 6 ∧ gh = 6 - k ∧ v = .int .i64 k ∧ Hid (ms.length = k) ∧ SkM i ms ∧ wk.ownsRow V1.heap.size 38 9 qv ms.length (mnc ms) ∧ wk.ownsRow (w.heap.size + 1 + 1 + 1) 40 4 (.slice jo i jc) js.length (jnc js) ∧ PBox wk (w.heap.size + 1 + 1) (.slice jo i jc) qv ∧ (ms.length = 0 → qv = .slice none 0 0) ∧ Below (w.heap.size + 1 + 1) W0 wk ∧ V1.heap.size ≤ wk.heap.size)
   case atStart => exact ⟨0, [], .slice none 0 0, by omega, rfl, rfl, rfl, fun k hk => absurd hk (by simp), World.ownsRow_nil _ _ _ _, hO, PB1, fun _ => rfl, hbr, Nat.le_refl _⟩
   case round =>
    clear hO PB1 hbr RB1
    obtain ⟨k, ms, qv, hk, hg2, rfl, HM, hM, hOM, hOJ, PBk, hq0, hbk, hzk⟩ := hrel
    have HG2 : Hid (gk = 6 - k) := hg2
    clear hg2
    obtain ⟨w1, ew⟩ : ∃ u, u = wr := ⟨_, rfl⟩
    subst ew
    have XR := X0.belowB (by omega : w.heap.size < w.heap.size + 1 + 1) hbk
    have hbw := hb0.trans (hbk.mono (by omega : w.heap.size ≤ w.heap.size + 1 + 1))
    obtain ⟨x0, x1, x2, x3, x4, xl⟩ := id XR
    by_cases hkM : k < LM
    ·by_cases hk6 : k < 6
     ·have j1 : (k : Int) < (LM : Int) := by omega
      have j2 : (k : Int) < 6 := by omega
      rcases hMr w1 hbw with h | ⟨mb, mof, rfl, hc⟩
      ·exact absurd (HLM.out.symm.trans h) (by omega)
      ·have cM := hc k (by rw [HLM.out]; exact hkM)
       generalize M.getD k 0 = z at *
       obtain ⟨C, hC, hC1, hC2⟩ : ∃ C : Nat, 16 * (i : Int) * ((i : Int) - 1) = C ∧ 1 ≤ C ∧ C ≤ 192 := by
        rcases (show i = 2 ∨ i = 3 ∨ i = 4 by omega) with rfl | rfl | rfl
        ·exact ⟨32, by decide, by decide, by decide⟩
        ·exact ⟨96, by decide, by decide, by decide⟩
        ·exact ⟨192, by decide, by decide, by decide⟩
       have v1 : IntKind.i64.wrap (16 * (i : Int)) = 16 * (i : Int) := by rw [IntKind.wrap_i64]; omega
       have v2 : IntKind.i64.wrap ((i : Int) - 1) = (i : Int) - 1 := by rw [IntKind.wrap_i64]; omega
       have v3 : IntKind.i64.wrap (16 * (i : Int) * ((i : Int) - 1)) = (C : Int) := by rw [hC, IntKind.wrap_i64]; omega
       have cz := fun w' => spick_any z C hC1 (by omega) w'
       have hx1 := pkA_lt z hC1
       generalize pkA z C = p1 at *
       clear hc hMr
       have cR0 : ∀ w', Below w.heap.size w w' → Calls Tryz.prog 14 #[.slice na LR nc, .int .i64 (3 * (k : Int))] w' fun e w'' => e = .returned (.float .f64 (nu (3 * k))) ∧ w'' = w' := fun w' hb => (show ((3 * k : Nat) : Int) = 3 * (k : Int) by omega) ▸ cR (3 * k) w' hb
       have cR1 : ∀ w', Below w.heap.size w w' → Calls Tryz.prog 14 #[.slice na LR nc, .int .i64 (3 * (k : Int) + 1)] w' fun e w'' => e = .returned (.float .f64 (nu (3 * k + 1))) ∧ w'' = w' := fun w' hb => (show ((3 * k + 1 : Nat) : Int) = 3 * (k : Int) + 1 by omega) ▸ cR (3 * k + 1) w' hb
       have cR2 : ∀ w', Below w.heap.size w w' → Calls Tryz.prog 14 #[.slice na LR nc, .int .i64 (3 * (k : Int) + 2)] w' fun e w'' => e = .returned (.float .f64 (nu (3 * k + 2))) ∧ w'' = w' := fun w' hb => (show ((3 * k + 2 : Nat) : Int) = 3 * (k : Int) + 2 by omega) ▸ cR (3 * k + 2) w' hb
       have v4 : IntKind.i64.wrap (3 * (k : Int)) = 3 * (k : Int) := by rw [IntKind.wrap_i64]; omega
       have v5 : IntKind.i64.wrap (3 * (k : Int) + 1) = 3 * (k : Int) + 1 := by rw [IntKind.wrap_i64]; omega
       have v6 : IntKind.i64.wrap (3 * (k : Int) + 2) = 3 * (k : Int) + 2 := by rw [IntKind.wrap_i64]; omega
       obtain ⟨a, ha⟩ : ∃ a : Nat, (p1 : Int).tmod (i : Int) = a := ⟨p1 % i, by rw [Int.tmod_eq_emod_of_nonneg (by omega)]; simp⟩
       have ha1 : a < i := by have := Int.tmod_lt_of_pos (p1 : Int) (show (0 : Int) < i by omega); omega
       have c0 : ¬ i = 0 := by omega
       have c1 : ¬ (i : Int) - 1 = 0 := by omega
       obtain ⟨qq, hqq, hqq1⟩ : ∃ q : Nat, wrap64 ((p1 : Int) / (i : Int)) = q ∧ q ≤ 192 := by
        have h := Nat.div_le_self p1 i
        rw [show (p1 : Int) / (i : Int) = ((p1 / i : Nat) : Int) by simp]
        generalize p1 / i = q0 at h ⊢
        exact ⟨q0, by unfold wrap64; omega, by omega⟩
       obtain ⟨rr, hrr, hrr1⟩ : ∃ r : Nat, (qq : Int).tmod ((i : Int) - 1) = r ∧ r < i - 1 := by
        have h := Nat.mod_lt qq (show 0 < i - 1 by omega)
        exact ⟨qq % (i - 1), by rw [show (i : Int) - 1 = ((i - 1 : Nat) : Int) by omega, Int.tmod_eq_emod_of_nonneg (by omega)]; simp, h⟩
       obtain ⟨bb, hbb, hbb1, hbb2⟩ : ∃ b : Nat, ((a : Int) + 1 + (rr : Int)).tmod (i : Int) = b ∧ b < i ∧ (a : Int) ≠ b := by
        refine ⟨(a + 1 + rr) % i, by rw [show (a : Int) + 1 + (rr : Int) = ((a + 1 + rr : Nat) : Int) by omega, Int.tmod_eq_emod_of_nonneg (by omega)]; simp, Nat.mod_lt _ (by omega), ?_⟩
        rcases (show i = 2 ∨ i = 3 ∨ i = 4 by omega) with rfl | rfl | rfl <;> omega
       obtain ⟨ss, hss, hss1⟩ : ∃ s : Nat, wrap64 ((qq : Int) / ((i : Int) - 1)) = s ∧ s ≤ 192 := by
        have h := Nat.div_le_self qq (i - 1)
        rw [show (i : Int) - 1 = ((i - 1 : Nat) : Int) by omega, show (qq : Int) / ((i - 1 : Nat) : Int) = ((qq / (i - 1) : Nat) : Int) by simp]
        generalize qq / (i - 1) = q0 at h ⊢
        exact ⟨q0, by unfold wrap64; omega, by omega⟩
       have v7 : IntKind.i64.wrap ((a : Int) + 1) = (a : Int) + 1 := by rw [IntKind.wrap_i64]; omega
       have v8 : IntKind.i64.wrap ((a : Int) + 1 + (rr : Int)) = (a : Int) + 1 + (rr : Int) := by rw [IntKind.wrap_i64]; omega
       go_upto_region 17 with (go_at_call 11; refine (cz _).mono ?_; rintro e w2 ⟨rfl, ew⟩; obtain rfl := ew.symm)
       obtain ⟨FL, hFL⟩ : ∃ fz : Nat → Lz, fz = (fun j => match j with | 0 => .is (.int .i64 k) | 1 => .is (.string (sN 109 k)) | 2 => .is (.int .i64 (p1 : Nat)) | 3 => .is (.int .i64 i) | 4 => .is (.int .i64 (a : Nat)) | 5 => .is (.pointer (some ⟨w.heap.size, 4, none⟩)) | 6 => .is (.slice na LR nc) | 7 => .is (.int .i64 k) | 8 => .is (.int .i64 (3 * (k : Int))) | 9 => .is (.float .f64 (nu (3 * k))) | 10 => .is (.pointer (some ⟨w.heap.size, 4, none⟩)) | 11 => .is (.slice na LR nc) | 12 => .is (.int .i64 k) | 13 => .is (.int .i64 (3 * (k : Int))) | 14 => .is (.int .i64 (3 * (k : Int) + 1)) | 15 => .is (.float .f64 (nu (3 * k + 1))) | 16 => .is (.agg #[.string (sN 109 k), .int .u8 1, .int .i64 (a : Nat), .int .i64 0, .bool false, .bool false, .float .f64 (nu (3 * k)), .float .f64 (nu (3 * k + 1)), .float .f64 0]) | 17 => .gn (fun a x => ∃ g, x = .pointer (some ⟨g, 0, none⟩) ∧ MBox a g mz ∧ w1.heap.size ≤ g) (fun a a' x h hb => h.elim fun g h => ⟨g, h.1, h.2.1.below hb, h.2.2⟩) | 18 => .tr | _ => .tr) := ⟨_, rfl⟩
       have F0 := congrFun hFL 0
       have F1 := congrFun hFL 1
       have F2 := congrFun hFL 2
       have F3 := congrFun hFL 3
       have F4 := congrFun hFL 4
       have F5 := congrFun hFL 5
       have F6 := congrFun hFL 6
       have F7 := congrFun hFL 7
       have F8 := congrFun hFL 8
       have F9 := congrFun hFL 9
       have F10 := congrFun hFL 10
       have F11 := congrFun hFL 11
       have F12 := congrFun hFL 12
       have F13 := congrFun hFL 13
       have F14 := congrFun hFL 14
       have F15 := congrFun hFL 15
       have F16 := congrFun hFL 16
       have F17 := congrFun hFL 17
       have F18 := congrFun hFL 18
       simp only at F0 F1 F2 F3 F4 F5 F6 F7 F8 F9 F10 F11 F12 F13 F14 F15 F16 F17 F18
       clear hFL
       refine region_rgY (by kernel_rfl) (fun vv => ⟨#[.agg #[.int .i64 n, .slice aa LA ac, .slice fa LF fc, .slice (some ⟨mb, mof, none⟩) LM mc, .slice na LR nc], .pointer (some ⟨w.heap.size, 0, none⟩), .pointer (some ⟨w.heap.size + 1, 0, none⟩), .pointer (some ⟨w.heap.size + 1 + 1, 0, none⟩), .int .i64 ↑i, .int .i64 ↑i, u6, u7, .int .i64 ↑k, .int .i64 ↑p1, vv 17, .pointer (some ⟨w.heap.size, 0, none⟩), .int .i64 n, .int .i64 ↑m3, .int .i64 ↑i, .int .i64 ↑i, .int .i64 ↑i, .bool false, u18, u19, u20, u21, u22, u23, u24, u25, u26, u27, u28, u29, u30, u31, u32, u33, u34, u35, u36, u37, u38, u39, u40, u41, u42, u43, u44, u45, u46, u47, u48, u49, u50, u51, u52, u53, u54, u55, u56, u57, u58, u59, u60, u61, u62, u63, u64, u65, u66, u67, u68, u69, u70, u71, u72, u73, u74, u75, u76, u77, u78, u79, u80, u81, .int .i64 ↑k, .pointer (some ⟨w.heap.size, 3, none⟩), .slice (some ⟨mb, mof, none⟩) LM mc, .int .i64 ↑LM, .bool true, .bool true, .int .i64 ↑k, .bool true, .bool true, u91, u92, .pointer (some ⟨w.heap.size, 3, none⟩), .slice (some ⟨mb, mof, none⟩) LM mc, .int .i64 ↑k, .pointer (some ⟨mb, mof + k, none⟩), .int .i64 z, .int .i64 ↑i, .int .i64 (16 * ↑i), .int .i64 ↑i, .int .i64 (↑i - 1), .int .i64 ↑C, .int .i64 ↑p1, vv 0, vv 1, vv 2, vv 3, vv 4, vv 5, vv 6, vv 7, vv 8, vv 9, vv 10, vv 11, vv 12, vv 13, vv 14, vv 15, vv 16, u121, u122, u123, u124, u125, u126, u127, u128, u129, u130, u131, u132, u133, u134, u135, u136, u137, u138, u139, u140, u141, u142, u143, u144, u145, u146, u147, u148, u149, u150, u151, u152, u153, u154, u155, u156, u157, u158, u159, u160, u161, u162, u163, u164, u165, u166, u167, u168, u169, u170, u171, u172, undef], []⟩) 18 FL (fun wz vz => ∃ g, vz 17 = .pointer (some ⟨g, 0, none⟩) ∧ MBox wz g ⟨sN 109 k, 1, (a : Nat), 0, false, false, nu (3 * k), nu (3 * k + 1), 0⟩ ∧ Below w1.heap.size w1 wz ∧ w1.heap.size ≤ g) (fun j => match j with | 0 => u104 | 1 => u105 | 2 => u106 | 3 => u107 | 4 => u108 | 5 => u109 | 6 => u110 | 7 => u111 | 8 => u112 | 9 => u113 | 10 => u114 | 11 => u115 | 12 => u116 | 13 => u117 | 14 => u118 | 15 => u119 | 16 => u120 | 17 => u10 | _ => undef) rfl ?_ ?_
       ·intro Lq vv wq i hL hS hD hi
        obtain ⟨hr1, hr2, hr3⟩ := mem_ready hi
        have hr1 : i < 19 := hr1
        try dsimp only
        have hcs : i = 0 ∨ i = 1 ∨ i = 2 ∨ i = 3 ∨ i = 4 ∨ i = 5 ∨ i = 6 ∨ i = 7 ∨ i = 8 ∨ i = 9 ∨ i = 10 ∨ i = 11 ∨ i = 12 ∨ i = 13 ∨ i = 14 ∨ i = 15 ∨ i = 16 ∨ i = 17 ∨ i = 18 := by omega
        clear hr1 hr2 hr3
        have hns := hS.open hL hi
        have hB := hS.a hns
        rcases hcs with rfl | rfl | rfl | rfl | rfl | rfl | rfl | rfl | rfl | rfl | rfl | rfl | rfl | rfl | rfl | rfl | rfl | rfl | rfl
        ·refine wpOpT_of (fun K hK => ?_)
         unfold wpOp
         go_simp
         refine Or.inl ?_
         exact hK _ _ ⟨putT vv 0 (.int .i64 k), (by simp [putT]), hS.step hL hi (by decide) (Below.refl _ _) (Lz.toIs F0)⟩
        ·have e0 := Lz.ofIs (hS.f hns 0 (ready_dep hi 0 (by kernel_rfl))) F0
         refine wpOpT_of (fun K hK => ?_)
         unfold wpOp
         simp only [e0]
         go_simp
         refine Or.inl ?_
         go_at_call 12
         refine (sname_any 109 k (by omega) (by omega) _).mono ?_
         rintro e w1 ⟨rfl, bc⟩
         exact hK _ _ ⟨putT vv 1 (.string (sN 109 k)), (by simp [putT, e0]), hS.step hL hi (by decide) (bc) (Lz.toIs F1)⟩
        ·refine wpOpT_of (fun K hK => ?_)
         unfold wpOp
         go_simp
         refine Or.inl ?_
         exact hK _ _ ⟨putT vv 2 (.int .i64 (p1 : Nat)), (by simp [putT]), hS.step hL hi (by decide) (Below.refl _ _) (Lz.toIs F2)⟩
        ·refine wpOpT_of (fun K hK => ?_)
         unfold wpOp
         go_simp
         refine Or.inl ?_
         exact hK _ _ ⟨putT vv 3 (.int .i64 i), (by simp [putT]), hS.step hL hi (by decide) (Below.refl _ _) (Lz.toIs F3)⟩
        ·have e2 := Lz.ofIs (hS.f hns 2 (ready_dep hi 2 (by kernel_rfl))) F2
         have e3 := Lz.ofIs (hS.f hns 3 (ready_dep hi 3 (by kernel_rfl))) F3
         refine wpOpT_of (fun K hK => ?_)
         unfold wpOp
         simp only [e2, e3]
         go_simp
         refine Or.inl ?_
         exact hK _ _ ⟨putT vv 4 (.int .i64 (a : Nat)), (by simp [putT, e2, e3]), hS.step hL hi (by decide) (Below.refl _ _) (Lz.toIs F4)⟩
        ·refine wpOpT_of (fun K hK => ?_)
         unfold wpOp
         go_simp
         refine Or.inl ?_
         exact hK _ _ ⟨putT vv 5 (.pointer (some ⟨w.heap.size, 4, none⟩)), (by simp [putT]), hS.step hL hi (by decide) (Below.refl _ _) (Lz.toIs F5)⟩
        ·have e5 := Lz.ofIs (hS.f hns 5 (ready_dep hi 5 (by kernel_rfl))) F5
         have r4 := (hB.cell (p := ⟨w.heap.size, 4, none⟩) XR.lt).trans x4
         refine wpOpT_of (fun K hK => ?_)
         unfold wpOp
         simp only [e5]
         go_simp
         refine Or.inl ?_
         exact hK _ _ ⟨putT vv 6 (.slice na LR nc), (by simp [putT, e5]), hS.step hL hi (by decide) (Below.refl _ _) (Lz.toIs F6)⟩
        ·refine wpOpT_of (fun K hK => ?_)
         unfold wpOp
         go_simp
         refine Or.inl ?_
         exact hK _ _ ⟨putT vv 7 (.int .i64 k), (by simp [putT]), hS.step hL hi (by decide) (Below.refl _ _) (Lz.toIs F7)⟩
        ·have e7 := Lz.ofIs (hS.f hns 7 (ready_dep hi 7 (by kernel_rfl))) F7
         refine wpOpT_of (fun K hK => ?_)
         unfold wpOp
         simp only [e7]
         go_simp
         refine Or.inl ?_
         exact hK _ _ ⟨putT vv 8 (.int .i64 (3 * (k : Int))), (by simp [putT, e7]), hS.step hL hi (by decide) (Below.refl _ _) (Lz.toIs F8)⟩
        ·have e6 := Lz.ofIs (hS.f hns 6 (ready_dep hi 6 (by kernel_rfl))) F6
         have e8 := Lz.ofIs (hS.f hns 8 (ready_dep hi 8 (by kernel_rfl))) F8
         refine wpOpT_of (fun K hK => ?_)
         unfold wpOp
         simp only [e6, e8]
         go_simp
         refine Or.inl ?_
         go_at_call 14
         refine (cR0 _ (hbw.trans (hB.mono hbw.size))).mono ?_
         rintro e w1 ⟨rfl, rfl⟩
         exact hK _ _ ⟨putT vv 9 (.float .f64 (nu (3 * k))), (by simp [putT, e6, e8]), hS.step hL hi (by decide) (Below.refl _ _) (Lz.toIs F9)⟩
        ·refine wpOpT_of (fun K hK => ?_)
         unfold wpOp
         go_simp
         refine Or.inl ?_
         exact hK _ _ ⟨putT vv 10 (.pointer (some ⟨w.heap.size, 4, none⟩)), (by simp [putT]), hS.step hL hi (by decide) (Below.refl _ _) (Lz.toIs F10)⟩
        ·have e10 := Lz.ofIs (hS.f hns 10 (ready_dep hi 10 (by kernel_rfl))) F10
         have r4 := (hB.cell (p := ⟨w.heap.size, 4, none⟩) XR.lt).trans x4
         refine wpOpT_of (fun K hK => ?_)
         unfold wpOp
         simp only [e10]
         go_simp
         refine Or.inl ?_
         exact hK _ _ ⟨putT vv 11 (.slice na LR nc), (by simp [putT, e10]), hS.step hL hi (by decide) (Below.refl _ _) (Lz.toIs F11)⟩
        ·refine wpOpT_of (fun K hK => ?_)
         unfold wpOp
         go_simp
         refine Or.inl ?_
         exact hK _ _ ⟨putT vv 12 (.int .i64 k), (by simp [putT]), hS.step hL hi (by decide) (Below.refl _ _) (Lz.toIs F12)⟩
        ·have e12 := Lz.ofIs (hS.f hns 12 (ready_dep hi 12 (by kernel_rfl))) F12
         refine wpOpT_of (fun K hK => ?_)
         unfold wpOp
         simp only [e12]
         go_simp
         refine Or.inl ?_
         exact hK _ _ ⟨putT vv 13 (.int .i64 (3 * (k : Int))), (by simp [putT, e12]), hS.step hL hi (by decide) (Below.refl _ _) (Lz.toIs F13)⟩
        ·have e13 := Lz.ofIs (hS.f hns 13 (ready_dep hi 13 (by kernel_rfl))) F13
         refine wpOpT_of (fun K hK => ?_)
         unfold wpOp
         simp only [e13]
         go_simp
         refine Or.inl ?_
         exact hK _ _ ⟨putT vv 14 (.int .i64 (3 * (k : Int) + 1)), (by simp [putT, e13]), hS.step hL hi (by decide) (Below.refl _ _) (Lz.toIs F14)⟩
        ·have e11 := Lz.ofIs (hS.f hns 11 (ready_dep hi 11 (by kernel_rfl))) F11
         have e14 := Lz.ofIs (hS.f hns 14 (ready_dep hi 14 (by kernel_rfl))) F14
         refine wpOpT_of (fun K hK => ?_)
         unfold wpOp
         simp only [e11, e14]
         go_simp
         refine Or.inl ?_
         go_at_call 14
         refine (cR1 _ (hbw.trans (hB.mono hbw.size))).mono ?_
         rintro e w1 ⟨rfl, rfl⟩
         exact hK _ _ ⟨putT vv 15 (.float .f64 (nu (3 * k + 1))), (by simp [putT, e11, e14]), hS.step hL hi (by decide) (Below.refl _ _) (Lz.toIs F15)⟩
        ·have e1 := Lz.ofIs (hS.f hns 1 (ready_dep hi 1 (by kernel_rfl))) F1
         have e4 := Lz.ofIs (hS.f hns 4 (ready_dep hi 4 (by kernel_rfl))) F4
         have e9 := Lz.ofIs (hS.f hns 9 (ready_dep hi 9 (by kernel_rfl))) F9
         have e15 := Lz.ofIs (hS.f hns 15 (ready_dep hi 15 (by kernel_rfl))) F15
         refine wpOpT_of (fun K hK => ?_)
         unfold wpOp
         simp only [e1, e4, e9, e15]
         go_simp
         refine Or.inl ?_
         exact hK _ _ ⟨putT vv 16 (.agg #[.string (sN 109 k), .int .u8 1, .int .i64 (a : Nat), .int .i64 0, .bool false, .bool false, .float .f64 (nu (3 * k)), .float .f64 (nu (3 * k + 1)), .float .f64 0]), (by simp [putT, e1, e4, e9, e15]), hS.step hL hi (by decide) (Below.refl _ _) (Lz.toIs F16)⟩
        ·refine wpOpT_of (fun K hK => ?_)
         unfold wpOp
         go_simp
         refine Or.inl ?_
         exact hK _ _ ⟨putT vv 17 (.pointer (some ⟨wq.heap.size, 0, none⟩)), (by simp [putT]), hS.step hL hi (by decide) ((Below.refl _ _).alloc (Nat.le_refl _) _) (Lz.toGn F17 (⟨_, rfl, MBox.new wq mz 38, hB.size⟩))⟩
        ·have e16 := Lz.ofIs (hS.f hns 16 (ready_dep hi 16 (by kernel_rfl))) F16
         obtain ⟨g17, e17, u17, l17⟩ := Lz.ofGn (hS.f hns 17 (ready_dep hi 17 (by kernel_rfl))) F17
         have hst := run_storef Tryz.prog
         obtain ⟨⟨s0, s1, s2, s3, s4, s5, s6, s7, s8⟩, f0, f1, f2, f3, f4, f5, f6, f7, f8, _⟩ := id u17
         simp only [Nat.zero_add] at s0 s1 s2 s3 s4 s5 s6 s7 s8
         refine wpOpT_of (fun K hK => ?_)
         unfold wpOp
         simp only [e16, e17]
         go_simp
         refine Or.inl ?_
         exact hK _ _ ⟨putT vv 18 undef, (by simp [putT, e16, e17]), hS.last hL hi (allY hD hi (by kernel_rfl)) (⟨g17, (by simp [putT, e17]), u17.fill ⟨sN 109 k, 1, (a : Nat), 0, false, false, nu (3 * k), nu (3 * k + 1), 0⟩, below_nine hB l17 ⟨sN 109 k, 1, (a : Nat), 0, false, false, nu (3 * k), nu (3 * k + 1), 0⟩, l17⟩)⟩
       ·intro Lq vv wq hL hS hr
        have on := all_done hL hr (by kernel_rfl)
        obtain ⟨g, hq, MX, bq, gl⟩ := hS.z (on 18 (by decide))
        try dsimp only
        rw [hq]
        generalize vv 0 = y0 at *
        generalize vv 1 = y1 at *
        generalize vv 2 = y2 at *
        generalize vv 3 = y3 at *
        generalize vv 4 = y4 at *
        generalize vv 5 = y5 at *
        generalize vv 6 = y6 at *
        generalize vv 7 = y7 at *
        generalize vv 8 = y8 at *
        generalize vv 9 = y9 at *
        generalize vv 10 = y10 at *
        generalize vv 11 = y11 at *
        generalize vv 12 = y12 at *
        generalize vv 13 = y13 at *
        generalize vv 14 = y14 at *
        generalize vv 15 = y15 at *
        generalize vv 16 = y16 at *
        clear hS on hr FL hL Lq hq vv F0 F1 F2 F3 F4 F5 F6 F7 F8 F9 F10 F11 F12 F13 F14 F15 F16 F17 F18
        generalize wq = V at *
        go_upto_region 19 with fail
        obtain ⟨⟨s0, s1, s2, s3, s4, s5, s6, s7, s8⟩, f0, f1, f2, f3, f4, f5, f6, f7, f8, gt⟩ := id MX
        simp only [Nat.zero_add] at s0 s1 s2 s3 s4 s5 s6 s7 s8
        go_region
        go_upto_region 21 with fail
        have MX3 := (MX.setb (bb : Nat)).below ((Below.refl _ _).drew)
        have bW3 := (bq.setCell (p := ⟨g, 3, none⟩) gl (.int .i64 (bb : Nat))).drew
        generalize (V.setCell ⟨g, 3, none⟩ (.int .i64 (bb : Nat))).drew = V3 at *
        clear s0 s1 s2 s3 s4 s5 s6 s7 s8 f0 f1 f2 f3 f4 f5 f6 f7 f8 gt MX bq
        by_cases h4 : (4 : Int) ≤ (ss : Int)
        ·obtain ⟨⟨s0, s1, s2, s3, s4, s5, s6, s7, s8⟩, f0, f1, f2, f3, f4, f5, f6, f7, f8, gt⟩ := id MX3
         simp only [Nat.zero_add] at s0 s1 s2 s3 s4 s5 s6 s7 s8
         obtain ⟨uu, hu1, hu2⟩ : ∃ u : Nat, (ss : Int).tmod 8 = u ∧ (ss : Int) % 8 = u := ⟨ss % 8, by rw [Int.tmod_eq_emod_of_nonneg (by omega)]; simp, by simp⟩
         have XX : ∀ W, Below w1.heap.size w1 W → Below w.heap.size w W := fun W h => hbw.trans (h.mono hbw.size)
         obtain ⟨_, _, _, _, t4, _⟩ := XR.belowB XR.lt bW3
         have hst := run_storef Tryz.prog
         have ng : w.heap.size ≠ g := by have := XR.lt; omega
         have bV1 := bW3.setCell (p := ⟨g, 1, none⟩) gl (.int .u8 2)
         rcases (show uu = 5 ∨ uu = 6 ∨ uu = 7 ∨ (uu ≠ 5 ∧ uu ≠ 6 ∧ uu ≠ 7) by omega) with rfl | rfl | rfl | ⟨n5, n6, n7⟩
         ·go_upto_region 26 with (go_at_call 14; refine (cR2 _ (XX _ bV1)).mono ?_; rintro e w2 ⟨rfl, ew⟩; subst ew)
          have MY := MX3.beam (nu (3 * k + 2)) true false
          have bW := below_beam bW3 gl (nu (3 * k + 2)) true false
          clear s0 s1 s2 s3 s4 s5 s6 s7 s8 f0 f1 f2 f3 f4 f5 f6 f7 f8 gt bV1
          generalize (((V3.setCell ⟨g, 1, none⟩ (.int .u8 2)).setCell ⟨g, 8, none⟩ (.float .f64 (nu (3 * k + 2)))).setCell ⟨g, 4, none⟩ (.bool true)).setCell ⟨g, 5, none⟩ (.bool false) = W4 at *
          simp only at MY
          have hO2 := jrown_below hOM bW
          have hJ2 := jrown_below hOJ bW
          have PB2 := PBk.belowB PBk.lt bW
          obtain ⟨v', w2, hrun, hO3, b3⟩ := sk_appm hO2 (Nat.le_trans hzk bW.size) ⟨sN 109 k, 2, (a : Nat), (bb : Nat), true, false, nu (3 * k), nu (3 * k + 1), nu (3 * k + 2)⟩ (by rw [HM.out]; omega)
          have hJ3 := jrown_belowB hJ2 hgQ b3
          have PB3 := PB2.belowB hQP b3
          obtain ⟨mo2, mc2, ev, _⟩ := skm_row hO3
          have hl2 : (ms ++ [(⟨sN 109 k, 2, (a : Nat), (bb : Nat), true, false, nu (3 * k), nu (3 * k + 1), nu (3 * k + 2)⟩ : Mb)]).length = k + 1 := by rw [List.length_append, HM.out]; rfl
          rw [hl2] at ev
          subst ev
          have hSM : SkM i (ms ++ [(⟨sN 109 k, 2, (a : Nat), (bb : Nat), true, false, nu (3 * k), nu (3 * k + 1), nu (3 * k + 2)⟩ : Mb)]) := hM.snoc (by rw [HM.out]) ⟨by simp only; omega, by simp only; omega⟩ ⟨by simp only; omega, by simp only; omega⟩ hbb2 (nR _) (nR _) (Or.inr ⟨rfl, nR _⟩) (sk_mw (by decide) (by omega) (by omega) (nW _) (nW _) (nW _))
          obtain ⟨o0, o1, u0, u1, ol⟩ := id PB2
          obtain ⟨⟨s0, s1, s2, s3, s4, s5, s6, s7, s8⟩, _, _, _, _, _, _, _, _, _, _⟩ := id MY
          simp only [Nat.zero_add] at s0 s1 s2 s3 s4 s5 s6 s7 s8
          obtain ⟨z0, z1, zf0, zf1, zl⟩ := id PB3
          simp only [mO] at hrun
          go_upto_region 15 with (at_builtin; refine skapp_eq hrun rfl _ _ rfl rfl rfl rfl ?_)
          go_wp2
          go_roundg (6 - (k + 1))
          case measure => rw [HG2.out]; omega
          case rel => exact ⟨k + 1, ms ++ [(⟨sN 109 k, 2, (a : Nat), (bb : Nat), true, false, nu (3 * k), nu (3 * k + 1), nu (3 * k + 2)⟩ : Mb)], _, by omega, rfl, by go_num, hl2, hSM, ownsRow_setCell_below hO3 hQP _, ownsRow_setCell_below hJ3 (Nat.lt_succ_self _) _, PB3.set1 _, fun h => absurd h (by simp), ((hbk.trans (bW.mono (by omega))).trans (b3.mono (Nat.le_of_lt hQP))).setCell (p := ⟨w.heap.size + 1 + 1, 1, none⟩) (Nat.le_refl _) _, by have := bW.size; have := b3.size; simp [World.setCell]; omega⟩
         ·go_upto_region 26 with (go_at_call 14; refine (cR2 _ (XX _ bV1)).mono ?_; rintro e w2 ⟨rfl, ew⟩; subst ew)
          have MY := MX3.beam (nu (3 * k + 2)) false true
          have bW := below_beam bW3 gl (nu (3 * k + 2)) false true
          clear s0 s1 s2 s3 s4 s5 s6 s7 s8 f0 f1 f2 f3 f4 f5 f6 f7 f8 gt bV1
          generalize (((V3.setCell ⟨g, 1, none⟩ (.int .u8 2)).setCell ⟨g, 8, none⟩ (.float .f64 (nu (3 * k + 2)))).setCell ⟨g, 4, none⟩ (.bool false)).setCell ⟨g, 5, none⟩ (.bool true) = W4 at *
          simp only at MY
          have hO2 := jrown_below hOM bW
          have hJ2 := jrown_below hOJ bW
          have PB2 := PBk.belowB PBk.lt bW
          obtain ⟨v', w2, hrun, hO3, b3⟩ := sk_appm hO2 (Nat.le_trans hzk bW.size) ⟨sN 109 k, 2, (a : Nat), (bb : Nat), false, true, nu (3 * k), nu (3 * k + 1), nu (3 * k + 2)⟩ (by rw [HM.out]; omega)
          have hJ3 := jrown_belowB hJ2 hgQ b3
          have PB3 := PB2.belowB hQP b3
          obtain ⟨mo2, mc2, ev, _⟩ := skm_row hO3
          have hl2 : (ms ++ [(⟨sN 109 k, 2, (a : Nat), (bb : Nat), false, true, nu (3 * k), nu (3 * k + 1), nu (3 * k + 2)⟩ : Mb)]).length = k + 1 := by rw [List.length_append, HM.out]; rfl
          rw [hl2] at ev
          subst ev
          have hSM : SkM i (ms ++ [(⟨sN 109 k, 2, (a : Nat), (bb : Nat), false, true, nu (3 * k), nu (3 * k + 1), nu (3 * k + 2)⟩ : Mb)]) := hM.snoc (by rw [HM.out]) ⟨by simp only; omega, by simp only; omega⟩ ⟨by simp only; omega, by simp only; omega⟩ hbb2 (nR _) (nR _) (Or.inr ⟨rfl, nR _⟩) (sk_mw (by decide) (by omega) (by omega) (nW _) (nW _) (nW _))
          obtain ⟨o0, o1, u0, u1, ol⟩ := id PB2
          obtain ⟨⟨s0, s1, s2, s3, s4, s5, s6, s7, s8⟩, _, _, _, _, _, _, _, _, _, _⟩ := id MY
          simp only [Nat.zero_add] at s0 s1 s2 s3 s4 s5 s6 s7 s8
          obtain ⟨z0, z1, zf0, zf1, zl⟩ := id PB3
          simp only [mO] at hrun
          go_upto_region 15 with (at_builtin; refine skapp_eq hrun rfl _ _ rfl rfl rfl rfl ?_)
          go_wp2
          go_roundg (6 - (k + 1))
          case measure => rw [HG2.out]; omega
          case rel => exact ⟨k + 1, ms ++ [(⟨sN 109 k, 2, (a : Nat), (bb : Nat), false, true, nu (3 * k), nu (3 * k + 1), nu (3 * k + 2)⟩ : Mb)], _, by omega, rfl, by go_num, hl2, hSM, ownsRow_setCell_below hO3 hQP _, ownsRow_setCell_below hJ3 (Nat.lt_succ_self _) _, PB3.set1 _, fun h => absurd h (by simp), ((hbk.trans (bW.mono (by omega))).trans (b3.mono (Nat.le_of_lt hQP))).setCell (p := ⟨w.heap.size + 1 + 1, 1, none⟩) (Nat.le_refl _) _, by have := bW.size; have := b3.size; simp [World.setCell]; omega⟩
         ·go_upto_region 26 with (go_at_call 14; refine (cR2 _ (XX _ bV1)).mono ?_; rintro e w2 ⟨rfl, ew⟩; subst ew)
          have MY := MX3.beam (nu (3 * k + 2)) true true
          have bW := below_beam bW3 gl (nu (3 * k + 2)) true true
          clear s0 s1 s2 s3 s4 s5 s6 s7 s8 f0 f1 f2 f3 f4 f5 f6 f7 f8 gt bV1
          generalize (((V3.setCell ⟨g, 1, none⟩ (.int .u8 2)).setCell ⟨g, 8, none⟩ (.float .f64 (nu (3 * k + 2)))).setCell ⟨g, 4, none⟩ (.bool true)).setCell ⟨g, 5, none⟩ (.bool true) = W4 at *
          simp only at MY
          have hO2 := jrown_below hOM bW
          have hJ2 := jrown_below hOJ bW
          have PB2 := PBk.belowB PBk.lt bW
          obtain ⟨v', w2, hrun, hO3, b3⟩ := sk_appm hO2 (Nat.le_trans hzk bW.size) ⟨sN 109 k, 2, (a : Nat), (bb : Nat), true, true, nu (3 * k), nu (3 * k + 1), nu (3 * k + 2)⟩ (by rw [HM.out]; omega)
          have hJ3 := jrown_belowB hJ2 hgQ b3
          have PB3 := PB2.belowB hQP b3
          obtain ⟨mo2, mc2, ev, _⟩ := skm_row hO3
          have hl2 : (ms ++ [(⟨sN 109 k, 2, (a : Nat), (bb : Nat), true, true, nu (3 * k), nu (3 * k + 1), nu (3 * k + 2)⟩ : Mb)]).length = k + 1 := by rw [List.length_append, HM.out]; rfl
          rw [hl2] at ev
          subst ev
          have hSM : SkM i (ms ++ [(⟨sN 109 k, 2, (a : Nat), (bb : Nat), true, true, nu (3 * k), nu (3 * k + 1), nu (3 * k + 2)⟩ : Mb)]) := hM.snoc (by rw [HM.out]) ⟨by simp only; omega, by simp only; omega⟩ ⟨by simp only; omega, by simp only; omega⟩ hbb2 (nR _) (nR _) (Or.inr ⟨rfl, nR _⟩) (sk_mw (by decide) (by omega) (by omega) (nW _) (nW _) (nW _))
          obtain ⟨o0, o1, u0, u1, ol⟩ := id PB2
          obtain ⟨⟨s0, s1, s2, s3, s4, s5, s6, s7, s8⟩, _, _, _, _, _, _, _, _, _, _⟩ := id MY
          simp only [Nat.zero_add] at s0 s1 s2 s3 s4 s5 s6 s7 s8
          obtain ⟨z0, z1, zf0, zf1, zl⟩ := id PB3
          simp only [mO] at hrun
          go_upto_region 15 with (at_builtin; refine skapp_eq hrun rfl _ _ rfl rfl rfl rfl ?_)
          go_wp2
          go_roundg (6 - (k + 1))
          case measure => rw [HG2.out]; omega
          case rel => exact ⟨k + 1, ms ++ [(⟨sN 109 k, 2, (a : Nat), (bb : Nat), true, true, nu (3 * k), nu (3 * k + 1), nu (3 * k + 2)⟩ : Mb)], _, by omega, rfl, by go_num, hl2, hSM, ownsRow_setCell_below hO3 hQP _, ownsRow_setCell_below hJ3 (Nat.lt_succ_self _) _, PB3.set1 _, fun h => absurd h (by simp), ((hbk.trans (bW.mono (by omega))).trans (b3.mono (Nat.le_of_lt hQP))).setCell (p := ⟨w.heap.size + 1 + 1, 1, none⟩) (Nat.le_refl _) _, by have := bW.size; have := b3.size; simp [World.setCell]; omega⟩
         ·have e5 : ((uu : Int) == 5) = false := by simpa using (by omega : ¬ (uu : Int) = 5)
          have e6 : ((uu : Int) == 6) = false := by simpa using (by omega : ¬ (uu : Int) = 6)
          have e7 : ((uu : Int) == 7) = false := by simpa using (by omega : ¬ (uu : Int) = 7)
          go_upto_region 26 with (go_at_call 14; refine (cR2 _ (XX _ bV1)).mono ?_; rintro e w2 ⟨rfl, ew⟩; subst ew)
          have MY := MX3.beam (nu (3 * k + 2)) false false
          have bW := below_beam bW3 gl (nu (3 * k + 2)) false false
          clear s0 s1 s2 s3 s4 s5 s6 s7 s8 f0 f1 f2 f3 f4 f5 f6 f7 f8 gt bV1
          generalize (((V3.setCell ⟨g, 1, none⟩ (.int .u8 2)).setCell ⟨g, 8, none⟩ (.float .f64 (nu (3 * k + 2)))).setCell ⟨g, 4, none⟩ (.bool false)).setCell ⟨g, 5, none⟩ (.bool false) = W4 at *
          simp only at MY
          have hO2 := jrown_below hOM bW
          have hJ2 := jrown_below hOJ bW
          have PB2 := PBk.belowB PBk.lt bW
          obtain ⟨v', w2, hrun, hO3, b3⟩ := sk_appm hO2 (Nat.le_trans hzk bW.size) ⟨sN 109 k, 2, (a : Nat), (bb : Nat), false, false, nu (3 * k), nu (3 * k + 1), nu (3 * k + 2)⟩ (by rw [HM.out]; omega)
          have hJ3 := jrown_belowB hJ2 hgQ b3
          have PB3 := PB2.belowB hQP b3
          obtain ⟨mo2, mc2, ev, _⟩ := skm_row hO3
          have hl2 : (ms ++ [(⟨sN 109 k, 2, (a : Nat), (bb : Nat), false, false, nu (3 * k), nu (3 * k + 1), nu (3 * k + 2)⟩ : Mb)]).length = k + 1 := by rw [List.length_append, HM.out]; rfl
          rw [hl2] at ev
          subst ev
          have hSM : SkM i (ms ++ [(⟨sN 109 k, 2, (a : Nat), (bb : Nat), false, false, nu (3 * k), nu (3 * k + 1), nu (3 * k + 2)⟩ : Mb)]) := hM.snoc (by rw [HM.out]) ⟨by simp only; omega, by simp only; omega⟩ ⟨by simp only; omega, by simp only; omega⟩ hbb2 (nR _) (nR _) (Or.inr ⟨rfl, nR _⟩) (sk_mw (by decide) (by omega) (by omega) (nW _) (nW _) (nW _))
          obtain ⟨o0, o1, u0, u1, ol⟩ := id PB2
          obtain ⟨⟨s0, s1, s2, s3, s4, s5, s6, s7, s8⟩, _, _, _, _, _, _, _, _, _, _⟩ := id MY
          simp only [Nat.zero_add] at s0 s1 s2 s3 s4 s5 s6 s7 s8
          obtain ⟨z0, z1, zf0, zf1, zl⟩ := id PB3
          simp only [mO] at hrun
          go_upto_region 15 with (at_builtin; refine skapp_eq hrun rfl _ _ rfl rfl rfl rfl ?_)
          go_wp2
          go_roundg (6 - (k + 1))
          case measure => rw [HG2.out]; omega
          case rel => exact ⟨k + 1, ms ++ [(⟨sN 109 k, 2, (a : Nat), (bb : Nat), false, false, nu (3 * k), nu (3 * k + 1), nu (3 * k + 2)⟩ : Mb)], _, by omega, rfl, by go_num, hl2, hSM, ownsRow_setCell_below hO3 hQP _, ownsRow_setCell_below hJ3 (Nat.lt_succ_self _) _, PB3.set1 _, fun h => absurd h (by simp), ((hbk.trans (bW.mono (by omega))).trans (b3.mono (Nat.le_of_lt hQP))).setCell (p := ⟨w.heap.size + 1 + 1, 1, none⟩) (Nat.le_refl _) _, by have := bW.size; have := b3.size; simp [World.setCell]; omega⟩
        ·have bW := bW3
         have MY := MX3
         simp only at MY
         go_upto_region 26 with fail
         have hO2 := jrown_below hOM bW
         have hJ2 := jrown_below hOJ bW
         have PB2 := PBk.belowB PBk.lt bW
         obtain ⟨v', w2, hrun, hO3, b3⟩ := sk_appm hO2 (Nat.le_trans hzk bW.size) ⟨sN 109 k, 1, (a : Nat), (bb : Nat), false, false, nu (3 * k), nu (3 * k + 1), 0⟩ (by rw [HM.out]; omega)
         have hJ3 := jrown_belowB hJ2 hgQ b3
         have PB3 := PB2.belowB hQP b3
         obtain ⟨mo2, mc2, ev, _⟩ := skm_row hO3
         have hl2 : (ms ++ [(⟨sN 109 k, 1, (a : Nat), (bb : Nat), false, false, nu (3 * k), nu (3 * k + 1), 0⟩ : Mb)]).length = k + 1 := by rw [List.length_append, HM.out]; rfl
         rw [hl2] at ev
         subst ev
         have hSM : SkM i (ms ++ [(⟨sN 109 k, 1, (a : Nat), (bb : Nat), false, false, nu (3 * k), nu (3 * k + 1), 0⟩ : Mb)]) := hM.snoc (by rw [HM.out]) ⟨by simp only; omega, by simp only; omega⟩ ⟨by simp only; omega, by simp only; omega⟩ hbb2 (nR _) (nR _) (Or.inl ⟨rfl, rfl, rfl, rfl⟩) (sk_mw (by decide) (by omega) (by omega) (nW _) (nW _) (by omega))
         obtain ⟨o0, o1, u0, u1, ol⟩ := id PB2
         obtain ⟨⟨s0, s1, s2, s3, s4, s5, s6, s7, s8⟩, _, _, _, _, _, _, _, _, _, _⟩ := id MY
         simp only [Nat.zero_add] at s0 s1 s2 s3 s4 s5 s6 s7 s8
         obtain ⟨z0, z1, zf0, zf1, zl⟩ := id PB3
         simp only [mO] at hrun
         go_upto_region 15 with (at_builtin; refine skapp_eq hrun rfl _ _ rfl rfl rfl rfl ?_)
         go_wp2
         go_roundg (6 - (k + 1))
         case measure => rw [HG2.out]; omega
         case rel => exact ⟨k + 1, ms ++ [(⟨sN 109 k, 1, (a : Nat), (bb : Nat), false, false, nu (3 * k), nu (3 * k + 1), 0⟩ : Mb)], _, by omega, rfl, by go_num, hl2, hSM, ownsRow_setCell_below hO3 hQP _, ownsRow_setCell_below hJ3 (Nat.lt_succ_self _) _, PB3.set1 _, fun h => absurd h (by simp), ((hbk.trans (bW.mono (by omega))).trans (b3.mono (Nat.le_of_lt hQP))).setCell (p := ⟨w.heap.size + 1 + 1, 1, none⟩) (Nat.le_refl _) _, by have := bW.size; have := b3.size; simp [World.setCell]; omega⟩
     ·have j2 : ¬ (k : Int) < 6 := by omega
      have j1 : (k : Int) < (LM : Int) := by omega
      obtain ⟨mo, mc', eqv, _⟩ := skm_row hOM
      subst eqv
      have RB2 := RB.belowB (by omega : w.heap.size + 1 < w.heap.size + 1 + 1) hbk
      obtain ⟨o0, o1, _, _, _⟩ := id PBk
      obtain ⟨r0, r1, rf0, rf1, rl⟩ := id RB2
      have hM2 := ownsRow_setCell_below (ownsRow_setCell_below hOM (show (⟨w.heap.size + 1, 0, none⟩ : Addr).block < V1.heap.size by simp only; omega) (.slice jo i jc)) (show (⟨w.heap.size + 1, 1, none⟩ : Addr).block < V1.heap.size by simp only; omega) (.slice mo ms.length mc')
      have hJ2 := ownsRow_setCell_below (ownsRow_setCell_below hOJ (show (⟨w.heap.size + 1, 0, none⟩ : Addr).block < w.heap.size + 1 + 1 + 1 by simp only; omega) (.slice jo i jc)) (show (⟨w.heap.size + 1, 1, none⟩ : Addr).block < w.heap.size + 1 + 1 + 1 by simp only; omega) (.slice mo ms.length mc')
      obtain ⟨_, _, em, mr⟩ := skm_row hM2
      have im := Value.slice.inj em
      have im1 := im.1
      have im3 := im.2.2
      subst im1 im3
      clear im em
      have hz : ms.length = 0 → mo = none ∧ mc' = 0 := fun h => by
       have q := Value.slice.inj (hq0 h)
       exact ⟨q.1, q.2.2⟩
      obtain ⟨_, _, ej, jr⟩ := skj_row hJ2
      have ij := Value.slice.inj ej
      have ij1 := ij.1
      have ij3 := ij.2.2
      subst ij1 ij3
      clear ij ej
      have hfin := (hbw.setCell (p := ⟨w.heap.size + 1, 0, none⟩) (Nat.le_succ _) (.slice jo i jc)).setCell (p := ⟨w.heap.size + 1, 1, none⟩) (Nat.le_succ _) (.slice mo ms.length mc')
      have HMR : Hid (MadeT w (.returned (.agg #[.slice jo i jc, .slice mo ms.length mc'])) ((w1.setCell ⟨w.heap.size + 1, 0, none⟩ (.slice jo i jc)).setCell ⟨w.heap.size + 1, 1, none⟩ (.slice mo ms.length mc'))) := (show MadeT _ _ _ from ⟨js, ms, jo, mo, jc, mc', by rw [HJ.out], jr, mr, hJ, ⟨by rw [HJ.out]; omega, by rw [HJ.out]; omega⟩, by rw [HJ.out]; exact hM, by rw [HM.out]; omega, hz, hfin⟩)
      clear hJ2 hM2 jr mr hfin hz hq0
      generalize ms.length = lm at *
      go_wp2
      exact bodyPost_ret (v := .agg #[.slice jo i jc, .slice mo lm mc']) (by simp [results, Tryz.results4, go_sem, r0, r1]) rfl HMR.out
    ·have j1 : ¬ (k : Int) < (LM : Int) := by omega
     obtain ⟨mo, mc', eqv, _⟩ := skm_row hOM
     subst eqv
     have RB2 := RB.belowB (by omega : w.heap.size + 1 < w.heap.size + 1 + 1) hbk
     obtain ⟨o0, o1, _, _, _⟩ := id PBk
     obtain ⟨r0, r1, rf0, rf1, rl⟩ := id RB2
     have hM2 := ownsRow_setCell_below (ownsRow_setCell_below hOM (show (⟨w.heap.size + 1, 0, none⟩ : Addr).block < V1.heap.size by simp only; omega) (.slice jo i jc)) (show (⟨w.heap.size + 1, 1, none⟩ : Addr).block < V1.heap.size by simp only; omega) (.slice mo ms.length mc')
     have hJ2 := ownsRow_setCell_below (ownsRow_setCell_below hOJ (show (⟨w.heap.size + 1, 0, none⟩ : Addr).block < w.heap.size + 1 + 1 + 1 by simp only; omega) (.slice jo i jc)) (show (⟨w.heap.size + 1, 1, none⟩ : Addr).block < w.heap.size + 1 + 1 + 1 by simp only; omega) (.slice mo ms.length mc')
     obtain ⟨_, _, em, mr⟩ := skm_row hM2
     have im := Value.slice.inj em
     have im1 := im.1
     have im3 := im.2.2
     subst im1 im3
     clear im em
     have hz : ms.length = 0 → mo = none ∧ mc' = 0 := fun h => by
      have q := Value.slice.inj (hq0 h)
      exact ⟨q.1, q.2.2⟩
     obtain ⟨_, _, ej, jr⟩ := skj_row hJ2
     have ij := Value.slice.inj ej
     have ij1 := ij.1
     have ij3 := ij.2.2
     subst ij1 ij3
     clear ij ej
     have hfin := (hbw.setCell (p := ⟨w.heap.size + 1, 0, none⟩) (Nat.le_succ _) (.slice jo i jc)).setCell (p := ⟨w.heap.size + 1, 1, none⟩) (Nat.le_succ _) (.slice mo ms.length mc')
     have HMR : Hid (MadeT w (.returned (.agg #[.slice jo i jc, .slice mo ms.length mc'])) ((w1.setCell ⟨w.heap.size + 1, 0, none⟩ (.slice jo i jc)).setCell ⟨w.heap.size + 1, 1, none⟩ (.slice mo ms.length mc'))) := (show MadeT _ _ _ from ⟨js, ms, jo, mo, jc, mc', by rw [HJ.out], jr, mr, hJ, ⟨by rw [HJ.out]; omega, by rw [HJ.out]; omega⟩, by rw [HJ.out]; exact hM, by rw [HM.out]; omega, hz, hfin⟩)
     clear hJ2 hM2 jr mr hfin hz hq0
     generalize ms.length = lm at *
     go_wp2
     exact bodyPost_ret (v := .agg #[.slice jo i jc, .slice mo lm mc']) (by simp [results, Tryz.results4, go_sem, r0, r1]) rfl HMR.out
end Go.Proofs.YtfipmopmpacdaaaGreatDoor
