/- What the reference's Compare answers. -/
import Derived.Test.YtfipmopmpacdaaaGreatDoorY6
import Derived.Test.YtfipmopmpacdaaaGreatDoorZR
import Derived.Test.YtfipmopmpacdaaaGreatDoorZp
import Derived.Test.YtfipmopmpacdaaaGreatDoorU2
import Derived.Test.YtfipmopmpacdaaaGreatDoorV1
import Derived.Deep.DeepCutAuto
namespace Go.Proofs.YtfipmopmpacdaaaGreatDoor
open Go.RowKit
theorem NS.setBox {w : World} {ao : Option Addr} {cap : Nat} {xs : List Nat} {B c : Nat} (h : NS w ao cap xs) (hf : Frs B ao) (hc : c < B) (o : Nat) (v : Value) : NS (w.setCell ⟨c, o, none⟩ v) ao cap xs := ⟨h.1.box hf hc o v, h.2⟩
set_option maxHeartbeats 1000000 in
theorem whole_any (n : Int) (h1 : -9223372036854775808 ≤ n) (h2 : n ≤ 9223372036854775807) (w : World) :
  Calls Tryz.prog 18 #[.int .i64 n] w (GaveM w ⟨decide (n < 0), lo n.natAbs, 0⟩) := by
 obtain ⟨na, hna⟩ : ∃ na, n.natAbs = na := ⟨_, rfl⟩
 rw [hna]
 have hO := fun w => natOf_any na (by omega) w
 by_cases hn : n < 0
 ·have hd : decide (n < 0) = true := decide_eq_true hn
  have hw : IntKind.u64.wrap n = 18446744073709551616 + n := by rw [IntKind.wrap_u64]; omega
  have hw2 : IntKind.u64.wrap (-(18446744073709551616 + n)) = (na : Int) := by rw [IntKind.wrap_u64]; omega
  rw [hd]
  clear hna
  go_enter Tryz.func18, Tryz.ntmps18
  go_wp2_with (go_at_call 37; refine (hO _).mono ?_; rintro e w1 ⟨ao', cap', rfl, hrow, hfr, hb1⟩; obtain ⟨⟨c0, c1, c2⟩, ⟨d0, d1, d2⟩, ⟨g0, g1, g2⟩, k0, k1, k2⟩ := box2 hb1)
  have hfr2 : Frs (w.heap.size + 2) ao' := hfr.mono (by simp)
  refine bodyPost_ret (v := .agg #[.bool true, .slice ao' (lo na).length cap', .int .i64 0]) (by simp [results, Tryz.results18, go_sem, c0, c1, c2]) rfl ⟨ao', cap', rfl, ?_, hfr2.mono (by omega), ?_⟩
  ·exact (((hrow.setBox hfr2 (by omega) _ _).setBox hfr2 (by omega) _ _).setBox hfr2 (by omega) _ _).setBox hfr2 (by omega) _ _
  ·exact ((((box2_old hb1).setCell (by simp) _).setCell (by simp) _).setCell (by simp) _).setCell (by simp) _
 ·have hd : decide (n < 0) = false := decide_eq_false hn
  have hnn : n = (na : Int) := by omega
  rw [hd]
  subst hnn
  have hw : IntKind.u64.wrap (na : Int) = (na : Int) := by rw [IntKind.wrap_u64]; omega
  clear hna
  go_enter Tryz.func18, Tryz.ntmps18
  go_wp2_with (go_at_call 37; refine (hO _).mono ?_; rintro e w1 ⟨ao', cap', rfl, hrow, hfr, hb1⟩; obtain ⟨⟨c0, c1, c2⟩, ⟨d0, d1, d2⟩, ⟨g0, g1, g2⟩, k0, k1, k2⟩ := box2 hb1)
  have hfr2 : Frs (w.heap.size + 2) ao' := hfr.mono (by simp)
  refine bodyPost_ret (v := .agg #[.bool false, .slice ao' (lo na).length cap', .int .i64 0]) (by simp [results, Tryz.results18, go_sem, c0, c1, c2]) rfl ⟨ao', cap', rfl, ?_, hfr2.mono (by omega), ?_⟩
  ·exact (((hrow.setBox hfr2 (by omega) _ _).setBox hfr2 (by omega) _ _).setBox hfr2 (by omega) _ _).setBox hfr2 (by omega) _ _
  ·exact ((((box2_old hb1).setCell (by simp) _).setCell (by simp) _).setCell (by simp) _).setCell (by simp) _
theorem NS.one (w : World) (x : Nat) : NS (w.alloc (.cells #[.int .u64 (x : Int)] 92)) (some ⟨w.heap.size, 0, none⟩) 1 [x] :=
 ⟨one_lrow w x _ rfl, fun h => (by cases h), by simp⟩
set_option maxHeartbeats 4000000 in
theorem plus_le (a b : Dy) (k : Nat) (ao bo : Option Addr) (cap bcap : Nat) (w : World) (hr : NS w ao cap a.mag) (hs : NS w bo bcap b.mag) (hL : Lm a.mag) (hM : Lm b.mag) (hn : a.mag.length ≤ 1000000) (hm : b.mag.length ≤ 1000000) (hza : vl a.mag ≠ 0) (hzb : vl b.mag ≠ 0) (hk : b.exp = a.exp + k) (hk2 : k ≤ 2000000) (ha1 : -1000000 ≤ a.exp) (ha2 : a.exp ≤ 1000000) :
  Calls Tryz.prog 23 #[.agg #[.bool a.neg, .slice ao a.mag.length cap, .int .i64 a.exp], .agg #[.bool b.neg, .slice bo b.mag.length bcap, .int .i64 b.exp]] w (GaveS w ao bo a b) := by
 have hZ := fun w' (h : NS w' ao cap a.mag) => zero_any a ao cap w' h hL (by omega)
 have hY := fun w' (h : NS w' bo bcap b.mag) => zero_any b bo bcap w' h hM (by omega)
 have e0 : (vl a.mag == 0) = false := by simpa using hza
 have e1 : (vl b.mag == 0) = false := by simpa using hzb
 rw [e0] at hZ
 rw [e1] at hY
 have hU := fun w' (h : NS w' bo bcap b.mag) => natUp_any b.mag bo bcap k w' h hM (by omega) (by omega)
 obtain ⟨hl1, hls, hll, hlm⟩ := plus_lens hL hM hn hm hk2
 have hA := fun o c w' (h1 : NS w' ao cap a.mag) (h2 : NS w' o c (lo (vl b.mag * 2 ^ k))) => natAdd_any a.mag (lo (vl b.mag * 2 ^ k)) ao o cap c w' h1 h2 hL (lo_lm _) (by omega) (by omega)
 have hC0 := fun o c w' (h1 : NS w' ao cap a.mag) (h2 : NS w' o c (lo (vl b.mag * 2 ^ k))) => natCmp_any a.mag (lo (vl b.mag * 2 ^ k)) ao o cap c w' h1 h2 hL (lo_lm _) (by omega) (by omega)
 have hS := fun o c w' (h1 : NS w' ao cap a.mag) (h2 : NS w' o c (lo (vl b.mag * 2 ^ k))) hle => natSub_any a.mag (lo (vl b.mag * 2 ^ k)) ao o cap c w' h1 h2 hL (lo_lm _) (by omega) (by omega) hle
 have hS' := fun o c w' (h1 : NS w' ao cap a.mag) (h2 : NS w' o c (lo (vl b.mag * 2 ^ k))) hle => natSub_any (lo (vl b.mag * 2 ^ k)) a.mag o ao c cap w' h2 h1 (lo_lm _) hL (by omega) (by omega) hle
 rw [vl_lo] at hA hC0 hS hS'
 have hVs := @plus_same a.neg a.mag b.mag a.exp b.exp k hk
 have hVl := @plus_less a.neg b.neg a.mag b.mag a.exp b.exp k hk
 have hVm := @plus_more a.neg b.neg a.mag b.mag a.exp b.exp k hk
 obtain ⟨n1, xs, ex⟩ := a
 obtain ⟨n2, ys, ey⟩ := b
 simp only at *
 subst hk
 have hsub : ex + (k : Int) - ex = (k : Int) := by omega
 obtain ⟨X, hX⟩ : ∃ X, vl xs = X := ⟨_, rfl⟩
 obtain ⟨V, hV⟩ : ∃ V, vl ys * 2 ^ k = V := ⟨_, rfl⟩
 rw [hV] at hU hl1 hA hC0 hS hS' hVs hVl hVm hls hll hlm
 rw [hX] at hA hC0 hS hS' hVs hVl hVm hls hll hlm
 obtain ⟨U, hUU⟩ : ∃ U, lo V = U := ⟨_, rfl⟩
 rw [hUU] at hU hl1 hA hC0 hS hS'
 have hgt : ¬ ex + (k : Int) < ex := by omega
 clear hza hzb e0 e1 hV hX hUU hL hM
 by_cases hnn : n1 = n2
 ·subst hnn
  obtain ⟨L, hL⟩ : ∃ L, lo (X + V) = L := ⟨_, rfl⟩
  rw [hL] at hVs hls hA
  have hlen : Hid _ := hls
  clear hls
  have ebb : (n1 == n1) = true := by simp
  clear hVl hVm hll hlm hS hS' hC0 hL
  go_enter Tryz.func23, Tryz.ntmps23
  go_wp2_with (first
   | (go_at_call_of 40 (Value.agg #[.bool n1, .slice ao xs.length cap, .int .i64 ex]); refine (hZ _ (hr.below al3)).mono ?_; rintro e w1 ⟨rfl, b1⟩; obtain ⟨⟨c0, c1, c2⟩, ⟨d0, d1, d2⟩, ⟨e0, e1, e2⟩, ⟨k0, k1, k2⟩, hB0⟩ := bx3 b1)
   | (go_at_call_of 40 (Value.agg #[.bool n1, .slice bo ys.length bcap, .int .i64 (ex + (k : Int))]); refine (hY _ (hs.below hB0)).mono ?_; rintro e w2 ⟨rfl, b2⟩; have B2 := b1.trans (b2.mono b1.size); clear c0 c1 c2 d0 d1 d2 e0 e1 e2 k0 k1 k2; obtain ⟨⟨c0, c1, c2⟩, ⟨d0, d1, d2⟩, ⟨e0, e1, e2⟩, ⟨k0, k1, k2⟩, hB2⟩ := bx3 B2)
   | (go_at_call 42; refine (hU _ (hs.below hB2)).mono ?_; rintro e w3 ⟨ao3, cap3, rfl, u3, f3, b3⟩; have B3 := B2.trans (b3.mono B2.size); clear c0 c1 c2 d0 d1 d2 e0 e1 e2 k0 k1 k2; obtain ⟨⟨c0, c1, c2⟩, ⟨d0, d1, d2⟩, ⟨e0, e1, e2⟩, ⟨k0, k1, k2⟩, hB3⟩ := bx3 B3))
  have q1 : ¬ w.heap.size + 1 + 1 = w.heap.size := by omega
  have q2 : ¬ w.heap.size = w.heap.size + 1 + 1 := by omega
  go_region_held3 (fun w' => w'.cell? ⟨w.heap.size, 0, none⟩ = some (.bool n1) ∧ w'.cell? ⟨w.heap.size, 2, none⟩ = some (.int .i64 ex)) (go_keep)
   (first | (go_at_call 43; refine (hA _ _ w3.drew (hr.below hB3.drew) u3).mono ?_; rintro e w5 ⟨ao5, cap5, rfl, u5, f5, b5⟩; have B5 := B3.trans ((undrew b5).mono B3.size); clear c0 c1 c2 d0 d1 d2 e0 e1 e2 k0 k1 k2; obtain ⟨⟨c0, c1, c2⟩, ⟨d0, d1, d2⟩, ⟨e0, e1, e2⟩, ⟨k0, k1, k2⟩, hB5⟩ := bx3 B5))
  clear c0 c1 c2 d0 d1 d2
  have hs5 := B3.size
  simp at hs5
  have hfr2 : Frs (w.heap.size + 3) ao5 := f5.mono (by have h : w.heap.size + 3 ≤ w3.heap.size := (by omega); exact h)
  go_wp2
  refine bodyPost_ret (v := .agg #[.bool n1, .slice ao5 L.length cap5, .int .i64 ex]) (by simp [results, Tryz.results23, go_sem, e0, e1, e2]) rfl ⟨⟨n1, L, ex⟩, ao5, cap5, rfl, hVs, ⟨hlen.out.1, Or.inl ⟨hlen.out.2, hfr2.mono (by omega)⟩⟩, fun N h1 h2 p e _ => Or.inr (by have h := hfr2 p e; omega), ?_, ((hB5.setCell (by simp; omega) _).setCell (by simp; omega) _).setCell (by simp; omega) _⟩
  exact ⟨((u5.1.box hfr2 (by omega) _ _).box hfr2 (by omega) _ _).box hfr2 (by omega) _ _, u5.2⟩
 ·have ebb : (n1 == n2) = false := by simpa using hnn
  have q1 : ¬ w.heap.size + 1 + 1 = w.heap.size := by omega
  have q2 : ¬ w.heap.size = w.heap.size + 1 + 1 := by omega
  by_cases hle : V ≤ X
  ·obtain ⟨L, hL⟩ : ∃ L, lo (X - V) = L := ⟨_, rfl⟩
   have hVl := hVl hnn hle
   have hS := fun o c w' h1 h2 => hS o c w' h1 h2 hle
   rw [hL] at hVl hll hS
   have hlen : Hid _ := hll
   clear hll
   obtain ⟨g, hg⟩ : ∃ g, sgI ((X : Int) - (V : Int)) = g := ⟨_, rfl⟩
   have hg0 : 0 ≤ g := by rw [← hg]; unfold sgI; split <;> (try split) <;> omega
   rw [hg] at hC0
   clear hVs hVm hls hlm hS' hA hL hg
   go_enter Tryz.func23, Tryz.ntmps23
   go_wp2_with (first
    | (go_at_call_of 40 (Value.agg #[.bool n1, .slice ao xs.length cap, .int .i64 ex]); refine (hZ _ (hr.below al3)).mono ?_; rintro e w1 ⟨rfl, b1⟩; obtain ⟨⟨c0, c1, c2⟩, ⟨d0, d1, d2⟩, ⟨e0, e1, e2⟩, ⟨k0, k1, k2⟩, hB0⟩ := bx3 b1)
    | (go_at_call_of 40 (Value.agg #[.bool n2, .slice bo ys.length bcap, .int .i64 (ex + (k : Int))]); refine (hY _ (hs.below hB0)).mono ?_; rintro e w2 ⟨rfl, b2⟩; have B2 := b1.trans (b2.mono b1.size); clear c0 c1 c2 d0 d1 d2 e0 e1 e2 k0 k1 k2; obtain ⟨⟨c0, c1, c2⟩, ⟨d0, d1, d2⟩, ⟨e0, e1, e2⟩, ⟨k0, k1, k2⟩, hB2⟩ := bx3 B2)
    | (go_at_call 42; refine (hU _ (hs.below hB2)).mono ?_; rintro e w3 ⟨ao3, cap3, rfl, u3, f3, b3⟩; have B3 := B2.trans (b3.mono B2.size); clear c0 c1 c2 d0 d1 d2 e0 e1 e2 k0 k1 k2; obtain ⟨⟨c0, c1, c2⟩, ⟨d0, d1, d2⟩, ⟨e0, e1, e2⟩, ⟨k0, k1, k2⟩, hB3⟩ := bx3 B3)
    | (go_at_call 44; refine (hC0 _ _ _ (hr.below hB3) u3).mono ?_; rintro e w4 ⟨rfl, b4⟩; have B4 := B3.trans (b4.mono B3.size); clear c0 c1 c2 d0 d1 d2 e0 e1 e2 k0 k1 k2; obtain ⟨⟨c0, c1, c2⟩, ⟨d0, d1, d2⟩, ⟨e0, e1, e2⟩, ⟨k0, k1, k2⟩, hB4⟩ := bx3 B4))
   go_region_held3 (fun w' => w'.cell? ⟨w.heap.size, 0, none⟩ = some (.bool n1) ∧ w'.cell? ⟨w.heap.size, 2, none⟩ = some (.int .i64 ex)) (go_keep)
    (first | (go_at_call 45; refine (hS _ _ w4.drew (hr.below hB4.drew) (u3.below b4.drew)).mono ?_; rintro e w5 ⟨ao5, cap5, rfl, u5, f5, b5⟩; have B5 := B4.trans ((undrew b5).mono B4.size); clear c0 c1 c2 d0 d1 d2 e0 e1 e2 k0 k1 k2; obtain ⟨⟨c0, c1, c2⟩, ⟨d0, d1, d2⟩, ⟨e0, e1, e2⟩, ⟨k0, k1, k2⟩, hB5⟩ := bx3 B5))
   clear c0 c1 c2 d0 d1 d2
   have hs5 := B4.size
   simp at hs5
   have hfr2 : Frs (w.heap.size + 3) ao5 := f5.mono (by have h : w.heap.size + 3 ≤ w4.heap.size := (by omega); exact h)
   go_wp2
   refine bodyPost_ret (v := .agg #[.bool n1, .slice ao5 L.length cap5, .int .i64 ex]) (by simp [results, Tryz.results23, go_sem, e0, e1, e2]) rfl ⟨⟨n1, L, ex⟩, ao5, cap5, rfl, hVl, ⟨hlen.out.1, Or.inl ⟨hlen.out.2, hfr2.mono (by omega)⟩⟩, fun N h1 h2 p e _ => Or.inr (by have h := hfr2 p e; omega), ?_, ((hB5.setCell (by simp; omega) _).setCell (by simp; omega) _).setCell (by simp; omega) _⟩
   exact ⟨((u5.1.box hfr2 (by omega) _ _).box hfr2 (by omega) _ _).box hfr2 (by omega) _ _, u5.2⟩
  ·obtain ⟨L, hL⟩ : ∃ L, lo (V - X) = L := ⟨_, rfl⟩
   have hVm := hVm hnn (by omega)
   have hS' := fun o c w' h1 h2 => hS' o c w' h1 h2 (by omega)
   rw [hL] at hVm hlm hS'
   have hlen : Hid _ := hlm
   clear hlm
   obtain ⟨g, hg⟩ : ∃ g, sgI ((X : Int) - (V : Int)) = g := ⟨_, rfl⟩
   have hg0 : ¬ 0 ≤ g := by rw [← hg]; unfold sgI; rw [if_pos (by omega)]; omega
   rw [hg] at hC0
   clear hVs hVl hls hll hS hA hL hg
   go_enter Tryz.func23, Tryz.ntmps23
   go_wp2_with (first
    | (go_at_call_of 40 (Value.agg #[.bool n1, .slice ao xs.length cap, .int .i64 ex]); refine (hZ _ (hr.below al3)).mono ?_; rintro e w1 ⟨rfl, b1⟩; obtain ⟨⟨c0, c1, c2⟩, ⟨d0, d1, d2⟩, ⟨e0, e1, e2⟩, ⟨k0, k1, k2⟩, hB0⟩ := bx3 b1)
    | (go_at_call_of 40 (Value.agg #[.bool n2, .slice bo ys.length bcap, .int .i64 (ex + (k : Int))]); refine (hY _ (hs.below hB0)).mono ?_; rintro e w2 ⟨rfl, b2⟩; have B2 := b1.trans (b2.mono b1.size); clear c0 c1 c2 d0 d1 d2 e0 e1 e2 k0 k1 k2; obtain ⟨⟨c0, c1, c2⟩, ⟨d0, d1, d2⟩, ⟨e0, e1, e2⟩, ⟨k0, k1, k2⟩, hB2⟩ := bx3 B2)
    | (go_at_call 42; refine (hU _ (hs.below hB2)).mono ?_; rintro e w3 ⟨ao3, cap3, rfl, u3, f3, b3⟩; have B3 := B2.trans (b3.mono B2.size); clear c0 c1 c2 d0 d1 d2 e0 e1 e2 k0 k1 k2; obtain ⟨⟨c0, c1, c2⟩, ⟨d0, d1, d2⟩, ⟨e0, e1, e2⟩, ⟨k0, k1, k2⟩, hB3⟩ := bx3 B3)
    | (go_at_call 44; refine (hC0 _ _ _ (hr.below hB3) u3).mono ?_; rintro e w4 ⟨rfl, b4⟩; have B4 := B3.trans (b4.mono B3.size); clear c0 c1 c2 d0 d1 d2 e0 e1 e2 k0 k1 k2; obtain ⟨⟨c0, c1, c2⟩, ⟨d0, d1, d2⟩, ⟨e0, e1, e2⟩, ⟨k0, k1, k2⟩, hB4⟩ := bx3 B4))
   go_region_held3 (fun w' => w'.cell? ⟨w.heap.size + 1, 0, none⟩ = some (.bool n2) ∧ w'.cell? ⟨w.heap.size, 2, none⟩ = some (.int .i64 ex)) (go_keep)
    (first | (go_at_call 45; refine (hS' _ _ w4.drew (hr.below hB4.drew) (u3.below b4.drew)).mono ?_; rintro e w5 ⟨ao5, cap5, rfl, u5, f5, b5⟩; have B5 := B4.trans ((undrew b5).mono B4.size); clear c0 c1 c2 d0 d1 d2 e0 e1 e2 k0 k1 k2; obtain ⟨⟨c0, c1, c2⟩, ⟨d0, d1, d2⟩, ⟨e0, e1, e2⟩, ⟨k0, k1, k2⟩, hB5⟩ := bx3 B5))
   clear c0 c1 c2 d0 d1 d2
   have hs5 := B4.size
   simp at hs5
   have hfr2 : Frs (w.heap.size + 3) ao5 := f5.mono (by have h : w.heap.size + 3 ≤ w4.heap.size := (by omega); exact h)
   go_wp2
   refine bodyPost_ret (v := .agg #[.bool n2, .slice ao5 L.length cap5, .int .i64 ex]) (by simp [results, Tryz.results23, go_sem, e0, e1, e2]) rfl ⟨⟨n2, L, ex⟩, ao5, cap5, rfl, hVm, ⟨hlen.out.1, Or.inl ⟨hlen.out.2, hfr2.mono (by omega)⟩⟩, fun N h1 h2 p e _ => Or.inr (by have h := hfr2 p e; omega), ?_, ((hB5.setCell (by simp; omega) _).setCell (by simp; omega) _).setCell (by simp; omega) _⟩
   exact ⟨((u5.1.box hfr2 (by omega) _ _).box hfr2 (by omega) _ _).box hfr2 (by omega) _ _, u5.2⟩
theorem row_blk {w : World} {ao : Option Addr} {xs : List Nat} (h : LRow w ao xs) {p : Addr} (e : ao = some p) (h0 : ¬ xs.length = 0) : p.block < w.heap.size := by
 rcases h with h | ⟨b', off', e', hc⟩
 ·exact absurd h h0
 ·rw [e] at e'
  cases e'
  exact World.block_lt_of_cell? w _ (hc 0 (by omega))
set_option maxHeartbeats 2000000 in
theorem plus_gt (a b : Dy) (k : Nat) (ao bo : Option Addr) (cap bcap : Nat) (w : World) (hr : NS w ao cap a.mag) (hs : NS w bo bcap b.mag) (hL : Lm a.mag) (hM : Lm b.mag) (hn : a.mag.length ≤ 1000000) (hm : b.mag.length ≤ 1000000) (hza : vl a.mag ≠ 0) (hzb : vl b.mag ≠ 0) (hk : a.exp = b.exp + k) (hk0 : 0 < k) (hk2 : k ≤ 2000000) (ha1 : -1000000 ≤ b.exp) (ha2 : b.exp ≤ 1000000) :
  Calls Tryz.prog 23 #[.agg #[.bool a.neg, .slice ao a.mag.length cap, .int .i64 a.exp], .agg #[.bool b.neg, .slice bo b.mag.length bcap, .int .i64 b.exp]] w (GaveS w ao bo a b) := by
 have hZ := fun w' (h : NS w' ao cap a.mag) => zero_any a ao cap w' h hL (by omega)
 have hY := fun w' (h : NS w' bo bcap b.mag) => zero_any b bo bcap w' h hM (by omega)
 have e0 : (vl a.mag == 0) = false := by simpa using hza
 have e1 : (vl b.mag == 0) = false := by simpa using hzb
 rw [e0] at hZ
 rw [e1] at hY
 have hP := fun w' (h1 : NS w' bo bcap b.mag) (h2 : NS w' ao cap a.mag) => plus_le b a k bo ao bcap cap w' h1 h2 hM hL hm hn hzb hza hk hk2 ha1 ha2
 have HS : Hid (∀ z, PlusV b a z → PlusV a b z) := fun z h => plusV_swap h
 have q1 : ∀ p, ao = some p → p.block < w.heap.size := fun p e => row_blk hr.1 e (fun h => hza (by rw [List.eq_nil_of_length_eq_zero h]; rfl))
 have q2 : ∀ p, bo = some p → p.block < w.heap.size := fun p e => row_blk hs.1 e (fun h => hzb (by rw [List.eq_nil_of_length_eq_zero h]; rfl))
 obtain ⟨n1, xs, ex⟩ := a
 obtain ⟨n2, ys, ey⟩ := b
 simp only at *
 have hgt : ey < ex := by omega
 clear hza hzb e0 e1 hk
 go_enter Tryz.func23, Tryz.ntmps23
 go_wp2_with (first
  | (go_at_call_of 40 (Value.agg #[.bool n1, .slice ao xs.length cap, .int .i64 ex]); refine (hZ _ (hr.below al3)).mono ?_; rintro e w1 ⟨rfl, b1⟩; obtain ⟨⟨c0, c1, c2⟩, ⟨d0, d1, d2⟩, ⟨e0, e1, e2⟩, ⟨k0, k1, k2⟩, hB0⟩ := bx3 b1)
  | (go_at_call_of 40 (Value.agg #[.bool n2, .slice bo ys.length bcap, .int .i64 ey]); refine (hY _ (hs.below hB0)).mono ?_; rintro e w2 ⟨rfl, b2⟩; have B2 := b1.trans (b2.mono b1.size); clear c0 c1 c2 d0 d1 d2 e0 e1 e2 k0 k1 k2; obtain ⟨⟨c0, c1, c2⟩, ⟨d0, d1, d2⟩, ⟨e0, e1, e2⟩, ⟨k0, k1, k2⟩, hB2⟩ := bx3 B2)
  | (go_at_call 23; refine (hP _ (hs.below hB2) (hr.below hB2)).mono ?_; rintro e w3 ⟨⟨zn, zm, ze⟩, ao3, cap3, rfl, hv, hzl, hbk, u3, b3⟩; have B3 := B2.trans (b3.mono B2.size); clear c0 c1 c2 d0 d1 d2 e0 e1 e2 k0 k1 k2; obtain ⟨⟨c0, c1, c2⟩, ⟨d0, d1, d2⟩, ⟨e0, e1, e2⟩, ⟨k0, k1, k2⟩, hB3⟩ := bx3 B3))
 refine bodyPost_ret (v := .agg #[.bool zn, .slice ao3 zm.length cap3, .int .i64 ze]) (by simp [results, Tryz.results23, go_sem, e0, e1, e2]) rfl ⟨⟨zn, zm, ze⟩, ao3, cap3, rfl, HS.out _ hv, ⟨by have := hzl.1; simp only at this ⊢; omega, hzl.2.imp (fun h => ⟨h.1, h.2.mono (by have := hB2.size; omega)⟩) Or.symm⟩, ?_, ?_, ((hB3.setCell (by simp; omega) _).setCell (by simp; omega) _).setCell (by simp; omega) _⟩
 ·intro N g1 g2 p e hl
  rcases hbk N g2 g1 p e hl with h | h
  ·exact Or.inl h
  ·exact Or.inr (by have := hB2.size; omega)
 ·have hne : ∀ x off, ao3 = some ⟨x, off, none⟩ → zm.length ≠ 0 → x ≠ w.heap.size + 1 + 1 := fun x off e hl => by
   have hs2 := B2.size
   simp at hs2
   rcases hbk w.heap.size (fun p e _ => q2 p e) (fun p e _ => q1 p e) _ e hl with h | h
   ·show x ≠ _
    have h' : x < w.heap.size := h
    omega
   ·show x ≠ _
    have h' : w2.heap.size ≤ x := h
    omega
  exact ⟨((u3.1.setCell _ hne).setCell _ hne).setCell _ hne, u3.2⟩
theorem plus_any (a b : Dy) (ao bo : Option Addr) (cap bcap : Nat) (w : World) (hr : NS w ao cap a.mag) (hs : NS w bo bcap b.mag) (hL : Lm a.mag) (hM : Lm b.mag) (hn : a.mag.length ≤ 1000000) (hm : b.mag.length ≤ 1000000) (ha1 : -1000000 ≤ a.exp) (ha2 : a.exp ≤ 1000000) (hb1 : -1000000 ≤ b.exp) (hb2 : b.exp ≤ 1000000) :
  Calls Tryz.prog 23 #[.agg #[.bool a.neg, .slice ao a.mag.length cap, .int .i64 a.exp], .agg #[.bool b.neg, .slice bo b.mag.length bcap, .int .i64 b.exp]] w (GaveS w ao bo a b) := by
 by_cases hza : vl a.mag = 0
 ·exact plus_zero a b ao bo cap bcap w hr hs hL hM hn hm (Or.inl hza)
 ·by_cases hzb : vl b.mag = 0
  ·exact plus_zero a b ao bo cap bcap w hr hs hL hM hn hm (Or.inr hzb)
  ·by_cases hle : a.exp ≤ b.exp
   ·exact plus_le a b (b.exp - a.exp).toNat ao bo cap bcap w hr hs hL hM hn hm hza hzb (by omega) (by omega) ha1 ha2
   ·exact plus_gt a b (a.exp - b.exp).toNat ao bo cap bcap w hr hs hL hM hn hm hza hzb (by omega) (by omega) (by omega) hb1 hb2
theorem sg_of {a b : Int} (h : a < b) : sgI (a - b) = -1 := by unfold sgI; rw [if_pos (by omega)]
theorem sg_of' {a b : Int} (h : b < a) : sgI (a - b) = 1 := by unfold sgI; rw [if_neg (by omega), if_neg (by omega)]
theorem qd_pos {d : Dy} : (0 < sv d → 0 < qd d) ∧ (sv d < 0 → qd d < 0) ∧ (sv d = 0 → qd d = 0) := by
 have hp := pow_pos_int (d.exp + 65536).toNat
 unfold qd
 exact ⟨fun h => Int.mul_pos h hp, fun h => Int.mul_neg_of_neg_of_pos h hp, fun h => by rw [h, Int.zero_mul]⟩
theorem sgI_range (x : Int) : -1 ≤ sgI x ∧ sgI x ≤ 1 := by unfold sgI; split <;> (try split) <;> omega
theorem cmp_signs {x y : Dy} : (sgI (sv x) < sgI (sv y) → sgI (qd x - qd y) = -1) ∧ (sgI (sv y) < sgI (sv x) → sgI (qd x - qd y) = 1) ∧ (sgI (sv x) = 0 → sgI (sv y) = 0 → sgI (qd x - qd y) = 0) := by
 obtain ⟨p1, p2, p3⟩ := qd_pos (d := x)
 obtain ⟨q1, q2, q3⟩ := qd_pos (d := y)
 have hx : (sgI (sv x) = -1 ∧ sv x < 0) ∨ (sgI (sv x) = 0 ∧ sv x = 0) ∨ (sgI (sv x) = 1 ∧ 0 < sv x) := by unfold sgI; split <;> (try split) <;> omega
 have hy : (sgI (sv y) = -1 ∧ sv y < 0) ∨ (sgI (sv y) = 0 ∧ sv y = 0) ∨ (sgI (sv y) = 1 ∧ 0 < sv y) := by unfold sgI; split <;> (try split) <;> omega
 rcases hx with ⟨e1, h1⟩ | ⟨e1, h1⟩ | ⟨e1, h1⟩ <;> rcases hy with ⟨e2, h2⟩ | ⟨e2, h2⟩ | ⟨e2, h2⟩ <;> rw [e1, e2] <;>
  refine ⟨fun h => ?_, fun h => ?_, fun h g => ?_⟩ <;> first
  | omega
  | (apply sg_of; first | (have := p1 h1; have := q1 h2; omega) | (have := p1 h1; have := q2 h2; omega) | (have := p1 h1; have := q3 h2; omega) | (have := p2 h1; have := q1 h2; omega) | (have := p2 h1; have := q3 h2; omega) | (have := p3 h1; have := q1 h2; omega))
  | (apply sg_of'; first | (have := p1 h1; have := q2 h2; omega) | (have := p1 h1; have := q3 h2; omega) | (have := p3 h1; have := q2 h2; omega))
  | (have a := p3 h1; have b := q3 h2; rw [a, b]; rfl)
theorem cmp_tops {x y : Dy} (hx : vl x.mag ≠ 0) (hy : vl y.mag ≠ 0) (h1 : -65536 ≤ x.exp) (h2 : -65536 ≤ y.exp) (hs : sgI (sv x) = sgI (sv y)) (ht : x.exp + (bl (vl x.mag) : Int) < y.exp + (bl (vl y.mag) : Int)) : sgI (qd x - qd y) = -sgI (sv x) ∧ sgI (qd y - qd x) = sgI (sv x) := by
 have bx := (bl_spec hx).2.1
 have by_ := (bl_spec hy).1
 have bp := bl_pos hy
 have key : vl x.mag * 2 ^ (x.exp + 65536).toNat < vl y.mag * 2 ^ (y.exp + 65536).toNat := by
  calc vl x.mag * 2 ^ (x.exp + 65536).toNat < 2 ^ bl (vl x.mag) * 2 ^ (x.exp + 65536).toNat := (Nat.mul_lt_mul_right (Nat.two_pow_pos _)).2 bx
   _ = 2 ^ (bl (vl x.mag) + (x.exp + 65536).toNat) := by rw [← Nat.pow_add]
   _ ≤ 2 ^ (bl (vl y.mag) - 1 + (y.exp + 65536).toNat) := Nat.pow_le_pow_right (by omega) (by omega)
   _ = 2 ^ (bl (vl y.mag) - 1) * 2 ^ (y.exp + 65536).toNat := by rw [Nat.pow_add]
   _ ≤ vl y.mag * 2 ^ (y.exp + 65536).toNat := Nat.mul_le_mul_right _ by_
 have k2 : (vl x.mag : Int) * 2 ^ (x.exp + 65536).toNat < (vl y.mag : Int) * 2 ^ (y.exp + 65536).toNat := by
  rw [← up_cast, ← up_cast]; omega
 have k0 : 0 ≤ (vl x.mag : Int) * 2 ^ (x.exp + 65536).toNat := Int.mul_nonneg (by omega) (Int.le_of_lt (pow_pos_int _))
 have qx : qd x = if x.neg then -((vl x.mag : Int) * 2 ^ (x.exp + 65536).toNat) else (vl x.mag : Int) * 2 ^ (x.exp + 65536).toNat := by
  unfold qd sv; cases x.neg <;> simp [Int.neg_mul]
 have qy : qd y = if y.neg then -((vl y.mag : Int) * 2 ^ (y.exp + 65536).toNat) else (vl y.mag : Int) * 2 ^ (y.exp + 65536).toNat := by
  unfold qd sv; cases y.neg <;> simp [Int.neg_mul]
 have sx : sgI (sv x) = if x.neg then -1 else 1 := by unfold sgI sv; cases x.neg <;> simp <;> omega
 have sy : sgI (sv y) = if y.neg then -1 else 1 := by unfold sgI sv; cases y.neg <;> simp <;> omega
 rw [sx, sy] at hs
 rw [qx, qy, sx]
 generalize (vl x.mag : Int) * 2 ^ (x.exp + 65536).toNat = P at *
 generalize (vl y.mag : Int) * 2 ^ (y.exp + 65536).toNat = Q at *
 cases hnx : x.neg <;> cases hny : y.neg <;> rw [hnx, hny] at hs <;> simp only [Bool.false_eq_true, if_false, if_true] at hs ⊢
 ·exact ⟨sg_of k2, sg_of' k2⟩
 ·omega
 ·omega
 ·exact ⟨sg_of' (by omega), sg_of (by omega)⟩
def W2 (w : World) (n1 n2 : Bool) (xs ys : List Nat) (ao bo : Option Addr) (cap bcap : Nat) (ex ey : Int) : World := (w.alloc (.cells #[.bool n1, .slice ao xs.length cap, .int .i64 ex] 49)).alloc (.cells #[.bool n2, .slice bo ys.length bcap, .int .i64 ey] 49)
theorem plus_cmp {x y z : Dy} (h1 : -65536 ≤ x.exp) (h2 : -65536 ≤ y.exp) (h : PlusV x ⟨!y.neg, y.mag, y.exp⟩ z) : sgI (sv z) = sgI (qd x - qd y) := by
 obtain ⟨_, he, hv⟩ := h
 have e := hv (-65536) h1 (by simp only; omega)
 have sy : sv ⟨!y.neg, y.mag, y.exp⟩ = -sv y := by unfold sv; cases y.neg <;> simp
 rw [sy] at e
 simp only at e
 have e2 : sv z * 2 ^ (z.exp - -65536).toNat = qd x - qd y := by
  rw [e, Int.neg_mul]; rfl
 rw [← e2, sg_mul]
set_option maxHeartbeats 4000000 in
theorem compare_any (x y : Dy) (ao bo : Option Addr) (cap bcap : Nat) (w : World) (hr : NS w ao cap x.mag) (hs : NS w bo bcap y.mag) (hL : Lm x.mag) (hM : Lm y.mag) (hn : x.mag.length ≤ 1000000) (hm : y.mag.length ≤ 1000000) (hx1 : -65536 ≤ x.exp) (hx2 : x.exp ≤ 65536) (hy1 : -65536 ≤ y.exp) (hy2 : y.exp ≤ 65536) :
  Calls Tryz.prog 9 #[.agg #[.bool x.neg, .slice ao x.mag.length cap, .int .i64 x.exp], .agg #[.bool y.neg, .slice bo y.mag.length bcap, .int .i64 y.exp]] w fun e w' => e = .returned (.int .i64 (sgI (qd x - qd y))) ∧ Below w.heap.size w w' := by
 have hSx := fun w' (h : NS w' ao cap x.mag) => nsign_any x ao cap w' h hL (by omega)
 have hSy := fun w' (h : NS w' bo bcap y.mag) => nsign_any y bo bcap w' h hM (by omega)
 have hTx := fun w' (h : NS w' ao cap x.mag) => ntop_any x ao cap w' h hL (by omega) (by omega)
 have hTy := fun w' (h : NS w' bo bcap y.mag) => ntop_any y bo bcap w' h hM (by omega) (by omega)
 have hMi := fun w' => minus_any y bo bcap w'
 have hP := fun w' (h1 : NS w' ao cap x.mag) (h2 : NS w' bo bcap y.mag) => plus_any x ⟨!y.neg, y.mag, y.exp⟩ ao bo cap bcap w' h1 h2 hL hM hn hm (by omega) (by omega) (by simp only; omega) (by simp only; omega)
 have HZ : Hid (∀ z, PlusV x ⟨!y.neg, y.mag, y.exp⟩ z → sgI (sv z) = sgI (qd x - qd y)) := fun z h => plus_cmp hx1 hy1 h
 obtain ⟨C1, C2, C3⟩ := cmp_signs (x := x) (y := y)
 have hbx := sgI_range (sv x)
 have hby := sgI_range (sv y)
 have D1 := fun h1 h2 hs ht => (cmp_tops (x := x) (y := y) h1 h2 hx1 hy1 hs ht).1
 have D2 := fun h1 h2 hs ht => (cmp_tops (x := y) (y := x) h1 h2 hy1 hx1 hs ht).2
 have hnz : ∀ d : Dy, sgI (sv d) ≠ 0 → vl d.mag ≠ 0 := fun d h e => h (by rw [sv_zero e]; rfl)
 have nzx := hnz x
 have nzy := hnz y
 clear hnz
 obtain ⟨g, hg⟩ : ∃ g, sgI (qd x - qd y) = g := ⟨_, rfl⟩
 rw [hg] at C1 C2 C3 HZ ⊢
 have D1' : vl x.mag ≠ 0 → vl y.mag ≠ 0 → sgI (sv x) = sgI (sv y) → x.exp + (bl (vl x.mag) : Int) < y.exp + (bl (vl y.mag) : Int) → g = -sgI (sv x) := fun h1 h2 hs ht => by rw [← hg]; exact D1 h1 h2 hs ht
 have D2' : vl x.mag ≠ 0 → vl y.mag ≠ 0 → sgI (sv x) = sgI (sv y) → y.exp + (bl (vl y.mag) : Int) < x.exp + (bl (vl x.mag) : Int) → g = sgI (sv x) := fun h1 h2 hs ht => by rw [← hg, D2 h2 h1 hs.symm ht, hs]
 clear D1 D2 hg
 obtain ⟨tx, htx⟩ : ∃ tx, x.exp + (bl (vl x.mag) : Int) = tx := ⟨_, rfl⟩
 obtain ⟨ty, hty⟩ : ∃ ty, y.exp + (bl (vl y.mag) : Int) = ty := ⟨_, rfl⟩
 rw [htx] at hTx D1' D2'
 rw [hty] at hTy D1' D2'
 obtain ⟨a, ha⟩ : ∃ a, sgI (sv x) = a := ⟨_, rfl⟩
 obtain ⟨b, hb⟩ : ∃ b, sgI (sv y) = b := ⟨_, rfl⟩
 rw [ha] at hSx C1 C2 C3 D1' D2' hbx nzx
 rw [hb] at hSy C1 C2 C3 D1' D2' hby nzy
 clear htx hty ha hb
 obtain ⟨n1, xs, ex⟩ := x
 obtain ⟨n2, ys, ey⟩ := y
 simp only at *
 go_enter Tryz.func9, Tryz.ntmps9
 go_upto_region 1 with fail
 go_cut [7, 8, 9, 10, 5, 6] (fun _ _ _ _ s5 s6 wx => s5 = .int .i64 a ∧ s6 = .int .i64 b ∧ Below (W2 w n1 n2 xs ys ao bo cap bcap ex ey).heap.size (W2 w n1 n2 xs ys ao bo cap bcap ex ey) wx)
 case first =>
  as_aux_lemma =>
   have base : Below (W2 w n1 n2 xs ys ao bo cap bcap ex ey).heap.size (W2 w n1 n2 xs ys ao bo cap bcap ex ey) (W2 w n1 n2 xs ys ao bo cap bcap ex ey) := Below.refl _ _
   obtain ⟨⟨c0, c1, c2⟩, ⟨d0, d1, d2⟩, _⟩ := box2 base
   clear D1' D2' C1 C2 C3 HZ
   go_region_held3 (fun w' => w'.cell? ⟨w.heap.size, 0, none⟩ = some (.bool n1) ∧ w'.cell? ⟨w.heap.size, 1, none⟩ = some (.slice ao xs.length cap) ∧ w'.cell? ⟨w.heap.size, 2, none⟩ = some (.int .i64 ex) ∧ w'.cell? ⟨w.heap.size + 1, 0, none⟩ = some (.bool n2) ∧ w'.cell? ⟨w.heap.size + 1, 1, none⟩ = some (.slice bo ys.length bcap) ∧ w'.cell? ⟨w.heap.size + 1, 2, none⟩ = some (.int .i64 ey)) (go_keep)
    (first
     | (go_at_call_of 21 (Value.agg #[.bool n1, .slice ao xs.length cap, .int .i64 ex]); refine (hSx _ (hr.below (box2_old base).drew)).mono ?_; rintro e wa ⟨rfl, ba⟩; have Ba := base.trans ((undrew ba).mono base.size); clear c0 c1 c2 d0 d1 d2; obtain ⟨⟨c0, c1, c2⟩, ⟨d0, d1, d2⟩, _⟩ := box2 Ba)
     | (go_at_call_of 21 (Value.agg #[.bool n2, .slice bo ys.length bcap, .int .i64 ey]); refine (hSy _ (hs.below (box2_old Ba))).mono ?_; rintro e wb ⟨rfl, bb⟩; have Bb := Ba.trans (bb.mono Ba.size); clear c0 c1 c2 d0 d1 d2; obtain ⟨⟨c0, c1, c2⟩, ⟨d0, d1, d2⟩, _⟩ := box2 Bb))
   go_wp2
   go_meet
   exact ⟨rfl, rfl, Bb⟩
 obtain ⟨rfl, rfl, B1⟩ := hcut
 obtain ⟨wq, hwq⟩ : ∃ wq, wq = wc := ⟨_, rfl⟩
 subst hwq
 obtain ⟨⟨c0, c1, c2⟩, ⟨d0, d1, d2⟩, _⟩ := box2 B1
 by_cases h1 : a < b
 ·have HE : Hid (g = -1) := C1 h1
  have t1 : (a != b) = true := by simp; omega
  clear C1 C2 C3 D1' D2' HZ nzx nzy
  go_wp2
  go_ret
  exact ⟨retI HE.out.symm, box2_old B1⟩
 ·by_cases h2 : b < a
  ·have HE : Hid (g = 1) := C2 h2
   have t1 : (a != b) = true := by simp; omega
   clear C1 C2 C3 D1' D2' HZ nzx nzy
   go_wp2
   go_ret
   exact ⟨retI HE.out.symm, box2_old B1⟩
  ·obtain rfl : a = b := by omega
   have t1 : (a != a) = false := by simp
   by_cases h0 : a = 0
   ·have HE : Hid (g = 0) := C3 h0 h0
    have t2 : (a == 0) = true := by simpa using h0
    clear C1 C2 C3 D1' D2' HZ nzx nzy h0
    go_wp2
    go_ret
    exact ⟨retI HE.out.symm, box2_old B1⟩
   ·have t2 : (a == 0) = false := by simpa using h0
    have zx := nzx h0
    have zy := nzy h0
    by_cases h3 : tx = ty
    ·subst h3
     have t3 : (tx != tx) = false := by simp
     clear C1 C2 C3 D1' D2' nzx nzy zx zy h1 h2
     go_wp2
     go_region_held3 (fun w' => w'.cell? ⟨w.heap.size, 0, none⟩ = some (.bool n1) ∧ w'.cell? ⟨w.heap.size, 1, none⟩ = some (.slice ao xs.length cap) ∧ w'.cell? ⟨w.heap.size, 2, none⟩ = some (.int .i64 ex) ∧ w'.cell? ⟨w.heap.size + 1, 0, none⟩ = some (.bool n2) ∧ w'.cell? ⟨w.heap.size + 1, 1, none⟩ = some (.slice bo ys.length bcap) ∧ w'.cell? ⟨w.heap.size + 1, 2, none⟩ = some (.int .i64 ey)) (go_keep)
      (first
       | (go_at_call_of 22 (Value.agg #[.bool n1, .slice ao xs.length cap, .int .i64 ex]); refine (hTx _ (hr.below (box2_old B1).drew)).mono ?_; rintro e wa2 ⟨rfl, ba⟩; have Ba := B1.trans ((undrew ba).mono B1.size); clear c0 c1 c2 d0 d1 d2; obtain ⟨⟨c0, c1, c2⟩, ⟨d0, d1, d2⟩, _⟩ := box2 Ba)
       | (go_at_call_of 22 (Value.agg #[.bool n2, .slice bo ys.length bcap, .int .i64 ey]); refine (hTy _ (hs.below (box2_old Ba))).mono ?_; rintro e wb2 ⟨rfl, bb⟩; have B2 := Ba.trans (bb.mono Ba.size); clear c0 c1 c2 d0 d1 d2; obtain ⟨⟨c0, c1, c2⟩, ⟨d0, d1, d2⟩, _⟩ := box2 B2))
     go_wp2
     have hr2 : NS wb2.drew ao cap xs := hr.below (box2_old B2).drew
     have hs2 : NS wb2.drew bo bcap ys := hs.below (box2_old B2).drew
     go_region_held3 (fun w' => w'.cell? ⟨w.heap.size, 0, none⟩ = some (.bool n1) ∧ w'.cell? ⟨w.heap.size, 1, none⟩ = some (.slice ao xs.length cap) ∧ w'.cell? ⟨w.heap.size, 2, none⟩ = some (.int .i64 ex) ∧ w'.cell? ⟨w.heap.size + 1, 0, none⟩ = some (.bool n2) ∧ w'.cell? ⟨w.heap.size + 1, 1, none⟩ = some (.slice bo ys.length bcap) ∧ w'.cell? ⟨w.heap.size + 1, 2, none⟩ = some (.int .i64 ey)) (go_keep)
      (first
       | (go_at_call 24; refine (hMi _).mono ?_; rintro e wm ⟨rfl, bm⟩; have Bm := B2.trans ((undrew bm).mono B2.size); clear c0 c1 c2 d0 d1 d2; obtain ⟨⟨c0, c1, c2⟩, ⟨d0, d1, d2⟩, _⟩ := box2 Bm)
       | (go_at_call 23; refine (hP _ (hr2.below bm) (hs2.below bm)).mono ?_; rintro e wp ⟨⟨zn, zm, ze⟩, zo, zc, rfl, hv, hzl, _, up, bp⟩; have Bp := Bm.trans (bp.mono Bm.size); clear c0 c1 c2 d0 d1 d2; obtain ⟨⟨c0, c1, c2⟩, ⟨d0, d1, d2⟩, _⟩ := box2 Bp)
       | (go_at_call 21; refine (nsign_any ⟨zn, zm, ze⟩ zo zc _ up hv.1 (by have := hzl.1; simp only at this ⊢; omega)).mono ?_; rw [HZ.out _ hv]; rintro e ws ⟨rfl, bs⟩; have Bs := Bp.trans (bs.mono Bp.size); clear c0 c1 c2 d0 d1 d2; obtain ⟨⟨c0, c1, c2⟩, ⟨d0, d1, d2⟩, _⟩ := box2 Bs))
     go_wp2
     go_ret
     exact ⟨rfl, box2_old Bs⟩
    ·have t3 : (tx != ty) = true := by simpa using h3
     by_cases h4 : tx < ty
     ·have HE : Hid (g = -a) := D1' zx zy rfl h4
      clear C1 C2 C3 D1' D2' nzx nzy zx zy h1 h2 HZ h0 h3
      go_wp2
      go_region_held3 (fun w' => w'.cell? ⟨w.heap.size, 0, none⟩ = some (.bool n1) ∧ w'.cell? ⟨w.heap.size, 1, none⟩ = some (.slice ao xs.length cap) ∧ w'.cell? ⟨w.heap.size, 2, none⟩ = some (.int .i64 ex) ∧ w'.cell? ⟨w.heap.size + 1, 0, none⟩ = some (.bool n2) ∧ w'.cell? ⟨w.heap.size + 1, 1, none⟩ = some (.slice bo ys.length bcap) ∧ w'.cell? ⟨w.heap.size + 1, 2, none⟩ = some (.int .i64 ey)) (go_keep)
       (first
        | (go_at_call_of 22 (Value.agg #[.bool n1, .slice ao xs.length cap, .int .i64 ex]); refine (hTx _ (hr.below (box2_old B1).drew)).mono ?_; rintro e wa2 ⟨rfl, ba⟩; have Ba := B1.trans ((undrew ba).mono B1.size); clear c0 c1 c2 d0 d1 d2; obtain ⟨⟨c0, c1, c2⟩, ⟨d0, d1, d2⟩, _⟩ := box2 Ba)
        | (go_at_call_of 22 (Value.agg #[.bool n2, .slice bo ys.length bcap, .int .i64 ey]); refine (hTy _ (hs.below (box2_old Ba))).mono ?_; rintro e wb2 ⟨rfl, bb⟩; have B2 := Ba.trans (bb.mono Ba.size); clear c0 c1 c2 d0 d1 d2; obtain ⟨⟨c0, c1, c2⟩, ⟨d0, d1, d2⟩, _⟩ := box2 B2))
      go_wp2
      go_region_held3 (fun w' => w'.cell? ⟨w.heap.size, 0, none⟩ = some (.bool n1) ∧ w'.cell? ⟨w.heap.size, 1, none⟩ = some (.slice ao xs.length cap) ∧ w'.cell? ⟨w.heap.size, 2, none⟩ = some (.int .i64 ex) ∧ w'.cell? ⟨w.heap.size + 1, 0, none⟩ = some (.bool n2) ∧ w'.cell? ⟨w.heap.size + 1, 1, none⟩ = some (.slice bo ys.length bcap) ∧ w'.cell? ⟨w.heap.size + 1, 2, none⟩ = some (.int .i64 ey)) (go_keep)
       (first
        | (go_at_call_of 22 (Value.agg #[.bool n1, .slice ao xs.length cap, .int .i64 ex]); refine (hTx _ (hr.below (box2_old B2).drew)).mono ?_; rintro e wa3 ⟨rfl, ba⟩; have Ba := B2.trans ((undrew ba).mono B2.size); clear c0 c1 c2 d0 d1 d2; obtain ⟨⟨c0, c1, c2⟩, ⟨d0, d1, d2⟩, _⟩ := box2 Ba)
        | (go_at_call_of 22 (Value.agg #[.bool n2, .slice bo ys.length bcap, .int .i64 ey]); refine (hTy _ (hs.below (box2_old Ba))).mono ?_; rintro e wb3 ⟨rfl, bb⟩; have B3 := Ba.trans (bb.mono Ba.size); clear c0 c1 c2 d0 d1 d2; obtain ⟨⟨c0, c1, c2⟩, ⟨d0, d1, d2⟩, _⟩ := box2 B3))
      go_wp2
      go_ret
      exact ⟨retI (by rw [HE.out]), box2_old B3⟩
     ·have HE : Hid (g = a) := D2' zx zy rfl (by omega)
      clear C1 C2 C3 D1' D2' nzx nzy zx zy h1 h2 HZ h0 h3
      go_wp2
      go_region_held3 (fun w' => w'.cell? ⟨w.heap.size, 0, none⟩ = some (.bool n1) ∧ w'.cell? ⟨w.heap.size, 1, none⟩ = some (.slice ao xs.length cap) ∧ w'.cell? ⟨w.heap.size, 2, none⟩ = some (.int .i64 ex) ∧ w'.cell? ⟨w.heap.size + 1, 0, none⟩ = some (.bool n2) ∧ w'.cell? ⟨w.heap.size + 1, 1, none⟩ = some (.slice bo ys.length bcap) ∧ w'.cell? ⟨w.heap.size + 1, 2, none⟩ = some (.int .i64 ey)) (go_keep)
       (first
        | (go_at_call_of 22 (Value.agg #[.bool n1, .slice ao xs.length cap, .int .i64 ex]); refine (hTx _ (hr.below (box2_old B1).drew)).mono ?_; rintro e wa2 ⟨rfl, ba⟩; have Ba := B1.trans ((undrew ba).mono B1.size); clear c0 c1 c2 d0 d1 d2; obtain ⟨⟨c0, c1, c2⟩, ⟨d0, d1, d2⟩, _⟩ := box2 Ba)
        | (go_at_call_of 22 (Value.agg #[.bool n2, .slice bo ys.length bcap, .int .i64 ey]); refine (hTy _ (hs.below (box2_old Ba))).mono ?_; rintro e wb2 ⟨rfl, bb⟩; have B2 := Ba.trans (bb.mono Ba.size); clear c0 c1 c2 d0 d1 d2; obtain ⟨⟨c0, c1, c2⟩, ⟨d0, d1, d2⟩, _⟩ := box2 B2))
      go_wp2
      go_region_held3 (fun w' => w'.cell? ⟨w.heap.size, 0, none⟩ = some (.bool n1) ∧ w'.cell? ⟨w.heap.size, 1, none⟩ = some (.slice ao xs.length cap) ∧ w'.cell? ⟨w.heap.size, 2, none⟩ = some (.int .i64 ex) ∧ w'.cell? ⟨w.heap.size + 1, 0, none⟩ = some (.bool n2) ∧ w'.cell? ⟨w.heap.size + 1, 1, none⟩ = some (.slice bo ys.length bcap) ∧ w'.cell? ⟨w.heap.size + 1, 2, none⟩ = some (.int .i64 ey)) (go_keep)
       (first
        | (go_at_call_of 22 (Value.agg #[.bool n1, .slice ao xs.length cap, .int .i64 ex]); refine (hTx _ (hr.below (box2_old B2).drew)).mono ?_; rintro e wa3 ⟨rfl, ba⟩; have Ba := B2.trans ((undrew ba).mono B2.size); clear c0 c1 c2 d0 d1 d2; obtain ⟨⟨c0, c1, c2⟩, ⟨d0, d1, d2⟩, _⟩ := box2 Ba)
        | (go_at_call_of 22 (Value.agg #[.bool n2, .slice bo ys.length bcap, .int .i64 ey]); refine (hTy _ (hs.below (box2_old Ba))).mono ?_; rintro e wb3 ⟨rfl, bb⟩; have B3 := Ba.trans (bb.mono Ba.size); clear c0 c1 c2 d0 d1 d2; obtain ⟨⟨c0, c1, c2⟩, ⟨d0, d1, d2⟩, _⟩ := box2 B3))
      go_wp2
      go_ret
      exact ⟨retI (by rw [HE.out]), box2_old B3⟩
end Go.Proofs.YtfipmopmpacdaaaGreatDoor
