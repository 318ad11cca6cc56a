/- What the reference's Plus answers of two numbers that are not 0. -/
import Derived.Test.YtjjchlfdaacddaaDoorMi
namespace Go.Proofs.YtjjchlfdaacddaaDoor
open Go.RowKit

set_option maxHeartbeats 4000000 in
theorem plus_le (a b : Dy) (k : Nat) (ao bo : Option Addr) (cap bcap : Nat) (w : World) (hr : NS w ao cap a.mag) (hs : NS w bo bcap b.mag) (hL : Lm a.mag) (hM : Lm b.mag) (hn : a.mag.length ≤ 1000000) (hm : b.mag.length ≤ 1000000) (hza : vl a.mag ≠ 0) (hzb : vl b.mag ≠ 0) (hk : b.exp = a.exp + k) (hk2 : k ≤ 2000000) (ha1 : -1000000 ≤ a.exp) (ha2 : a.exp ≤ 1000000) :
    Calls Tryd.prog 66 #[.agg #[.bool a.neg, .slice ao a.mag.length cap, .int .i64 a.exp], .agg #[.bool b.neg, .slice bo b.mag.length bcap, .int .i64 b.exp]] w (GaveS w ao bo a b) := by
  have hZ := fun w' (h : NS w' ao cap a.mag) => zero_any a ao cap w' h hL (by omega)
  have hY := fun w' (h : NS w' bo bcap b.mag) => zero_any b bo bcap w' h hM (by omega)
  have e0 : (vl a.mag == 0) = false := by simpa using hza
  have e1 : (vl b.mag == 0) = false := by simpa using hzb
  rw [e0] at hZ
  rw [e1] at hY
  have hU := fun w' (h : NS w' bo bcap b.mag) => natUp_any b.mag bo bcap k w' h hM (by omega) (by omega)
  obtain ⟨hl1, hls, hll, hlm⟩ := plus_lens hL hM hn hm hk2
  have hA := fun o c w' (h1 : NS w' ao cap a.mag) (h2 : NS w' o c (lo (vl b.mag * 2 ^ k))) => natAdd_any a.mag (lo (vl b.mag * 2 ^ k)) ao o cap c w' h1 h2 hL (lo_lm _) (by omega) (by omega)
  have hC0 := fun o c w' (h1 : NS w' ao cap a.mag) (h2 : NS w' o c (lo (vl b.mag * 2 ^ k))) => natCmp_any a.mag (lo (vl b.mag * 2 ^ k)) ao o cap c w' h1 h2 hL (lo_lm _) (by omega) (by omega)
  have hS := fun o c w' (h1 : NS w' ao cap a.mag) (h2 : NS w' o c (lo (vl b.mag * 2 ^ k))) hle => natSub_any a.mag (lo (vl b.mag * 2 ^ k)) ao o cap c w' h1 h2 hL (lo_lm _) (by omega) (by omega) hle
  have hS' := fun o c w' (h1 : NS w' ao cap a.mag) (h2 : NS w' o c (lo (vl b.mag * 2 ^ k))) hle => natSub_any (lo (vl b.mag * 2 ^ k)) a.mag o ao c cap w' h2 h1 (lo_lm _) hL (by omega) (by omega) hle
  rw [vl_lo] at hA hC0 hS hS'
  have hVs := @plus_same a.neg a.mag b.mag a.exp b.exp k hk
  have hVl := @plus_less a.neg b.neg a.mag b.mag a.exp b.exp k hk
  have hVm := @plus_more a.neg b.neg a.mag b.mag a.exp b.exp k hk
  obtain ⟨n1, xs, ex⟩ := a
  obtain ⟨n2, ys, ey⟩ := b
  simp only at *
  subst hk
  have hsub : ex + (k : Int) - ex = (k : Int) := by omega
  obtain ⟨X, hX⟩ : ∃ X, vl xs = X := ⟨_, rfl⟩
  obtain ⟨V, hV⟩ : ∃ V, vl ys * 2 ^ k = V := ⟨_, rfl⟩
  rw [hV] at hU hl1 hA hC0 hS hS' hVs hVl hVm hls hll hlm
  rw [hX] at hA hC0 hS hS' hVs hVl hVm hls hll hlm
  obtain ⟨U, hUU⟩ : ∃ U, lo V = U := ⟨_, rfl⟩
  rw [hUU] at hU hl1 hA hC0 hS hS'
  have hgt : ¬ ex + (k : Int) < ex := by omega
  clear hza hzb e0 e1 hV hX hUU hL hM
  by_cases hnn : n1 = n2
  · subst hnn
    obtain ⟨L, hL⟩ : ∃ L, lo (X + V) = L := ⟨_, rfl⟩
    rw [hL] at hVs hls hA
    have hlen : Hid _ := hls
    clear hls
    have ebb : (n1 == n1) = true := by simp
    clear hVl hVm hll hlm hS hS' hC0 hL
    go_enter Tryd.func66, Tryd.ntmps66
    go_wp2_with (first
      | (go_at_call_of 81 (Value.agg #[.bool n1, .slice ao xs.length cap, .int .i64 ex]); refine (hZ _ (hr.below al3)).mono ?_; rintro e w1 ⟨rfl, b1⟩; obtain ⟨⟨c0, c1, c2⟩, ⟨d0, d1, d2⟩, ⟨e0, e1, e2⟩, ⟨k0, k1, k2⟩, hB0⟩ := bx3 b1)
      | (go_at_call_of 81 (Value.agg #[.bool n1, .slice bo ys.length bcap, .int .i64 (ex + (k : Int))]); refine (hY _ (hs.below hB0)).mono ?_; rintro e w2 ⟨rfl, b2⟩; have B2 := b1.trans (b2.mono b1.size); clear c0 c1 c2 d0 d1 d2 e0 e1 e2 k0 k1 k2; obtain ⟨⟨c0, c1, c2⟩, ⟨d0, d1, d2⟩, ⟨e0, e1, e2⟩, ⟨k0, k1, k2⟩, hB2⟩ := bx3 B2)
      | (go_at_call 83; refine (hU _ (hs.below hB2)).mono ?_; rintro e w3 ⟨ao3, cap3, rfl, u3, f3, b3⟩; have B3 := B2.trans (b3.mono B2.size); clear c0 c1 c2 d0 d1 d2 e0 e1 e2 k0 k1 k2; obtain ⟨⟨c0, c1, c2⟩, ⟨d0, d1, d2⟩, ⟨e0, e1, e2⟩, ⟨k0, k1, k2⟩, hB3⟩ := bx3 B3))
    have q1 : ¬ w.heap.size + 1 + 1 = w.heap.size := by omega
    have q2 : ¬ w.heap.size = w.heap.size + 1 + 1 := by omega
    go_region_held3 (fun w' => w'.cell? ⟨w.heap.size, 0, none⟩ = some (.bool n1) ∧ w'.cell? ⟨w.heap.size, 2, none⟩ = some (.int .i64 ex)) (go_keep)
      (first | (go_at_call 85; refine (hA _ _ w3.drew (hr.below hB3.drew) u3).mono ?_; rintro e w5 ⟨ao5, cap5, rfl, u5, f5, b5⟩; have B5 := B3.trans ((undrew b5).mono B3.size); clear c0 c1 c2 d0 d1 d2 e0 e1 e2 k0 k1 k2; obtain ⟨⟨c0, c1, c2⟩, ⟨d0, d1, d2⟩, ⟨e0, e1, e2⟩, ⟨k0, k1, k2⟩, hB5⟩ := bx3 B5))
    clear c0 c1 c2 d0 d1 d2
    have hs5 := B3.size
    simp at hs5
    have hfr2 : Frs (w.heap.size + 3) ao5 := f5.mono (by have h : w.heap.size + 3 ≤ w3.heap.size := (by omega); exact h)
    go_wp2
    refine bodyPost_ret (v := .agg #[.bool n1, .slice ao5 L.length cap5, .int .i64 ex]) (by simp [results, Tryd.results66, go_sem, e0, e1, e2]) rfl ⟨⟨n1, L, ex⟩, ao5, cap5, rfl, hVs, ⟨hlen.out.1, Or.inl ⟨hlen.out.2, hfr2.mono (by omega)⟩⟩, fun N h1 h2 p e _ => Or.inr (by have h := hfr2 p e; omega), ?_, ((hB5.setCell (by simp; omega) _).setCell (by simp; omega) _).setCell (by simp; omega) _⟩
    exact ⟨((u5.1.box hfr2 (by omega) _ _).box hfr2 (by omega) _ _).box hfr2 (by omega) _ _, u5.2⟩
  · have ebb : (n1 == n2) = false := by simpa using hnn
    have q1 : ¬ w.heap.size + 1 + 1 = w.heap.size := by omega
    have q2 : ¬ w.heap.size = w.heap.size + 1 + 1 := by omega
    by_cases hle : V ≤ X
    · obtain ⟨L, hL⟩ : ∃ L, lo (X - V) = L := ⟨_, rfl⟩
      have hVl := hVl hnn hle
      have hS := fun o c w' h1 h2 => hS o c w' h1 h2 hle
      rw [hL] at hVl hll hS
      have hlen : Hid _ := hll
      clear hll
      obtain ⟨g, hg⟩ : ∃ g, sgI ((X : Int) - (V : Int)) = g := ⟨_, rfl⟩
      have hg0 : 0 ≤ g := by rw [← hg]; unfold sgI; split <;> (try split) <;> omega
      rw [hg] at hC0
      clear hVs hVm hls hlm hS' hA hL hg
      go_enter Tryd.func66, Tryd.ntmps66
      go_wp2_with (first
        | (go_at_call_of 81 (Value.agg #[.bool n1, .slice ao xs.length cap, .int .i64 ex]); refine (hZ _ (hr.below al3)).mono ?_; rintro e w1 ⟨rfl, b1⟩; obtain ⟨⟨c0, c1, c2⟩, ⟨d0, d1, d2⟩, ⟨e0, e1, e2⟩, ⟨k0, k1, k2⟩, hB0⟩ := bx3 b1)
        | (go_at_call_of 81 (Value.agg #[.bool n2, .slice bo ys.length bcap, .int .i64 (ex + (k : Int))]); refine (hY _ (hs.below hB0)).mono ?_; rintro e w2 ⟨rfl, b2⟩; have B2 := b1.trans (b2.mono b1.size); clear c0 c1 c2 d0 d1 d2 e0 e1 e2 k0 k1 k2; obtain ⟨⟨c0, c1, c2⟩, ⟨d0, d1, d2⟩, ⟨e0, e1, e2⟩, ⟨k0, k1, k2⟩, hB2⟩ := bx3 B2)
        | (go_at_call 83; refine (hU _ (hs.below hB2)).mono ?_; rintro e w3 ⟨ao3, cap3, rfl, u3, f3, b3⟩; have B3 := B2.trans (b3.mono B2.size); clear c0 c1 c2 d0 d1 d2 e0 e1 e2 k0 k1 k2; obtain ⟨⟨c0, c1, c2⟩, ⟨d0, d1, d2⟩, ⟨e0, e1, e2⟩, ⟨k0, k1, k2⟩, hB3⟩ := bx3 B3)
        | (go_at_call 103; refine (hC0 _ _ _ (hr.below hB3) u3).mono ?_; rintro e w4 ⟨rfl, b4⟩; have B4 := B3.trans (b4.mono B3.size); clear c0 c1 c2 d0 d1 d2 e0 e1 e2 k0 k1 k2; obtain ⟨⟨c0, c1, c2⟩, ⟨d0, d1, d2⟩, ⟨e0, e1, e2⟩, ⟨k0, k1, k2⟩, hB4⟩ := bx3 B4))
      go_region_held3 (fun w' => w'.cell? ⟨w.heap.size, 0, none⟩ = some (.bool n1) ∧ w'.cell? ⟨w.heap.size, 2, none⟩ = some (.int .i64 ex)) (go_keep)
        (first | (go_at_call 104; refine (hS _ _ w4.drew (hr.below hB4.drew) (u3.below b4.drew)).mono ?_; rintro e w5 ⟨ao5, cap5, rfl, u5, f5, b5⟩; have B5 := B4.trans ((undrew b5).mono B4.size); clear c0 c1 c2 d0 d1 d2 e0 e1 e2 k0 k1 k2; obtain ⟨⟨c0, c1, c2⟩, ⟨d0, d1, d2⟩, ⟨e0, e1, e2⟩, ⟨k0, k1, k2⟩, hB5⟩ := bx3 B5))
      clear c0 c1 c2 d0 d1 d2
      have hs5 := B4.size
      simp at hs5
      have hfr2 : Frs (w.heap.size + 3) ao5 := f5.mono (by have h : w.heap.size + 3 ≤ w4.heap.size := (by omega); exact h)
      go_wp2
      refine bodyPost_ret (v := .agg #[.bool n1, .slice ao5 L.length cap5, .int .i64 ex]) (by simp [results, Tryd.results66, go_sem, e0, e1, e2]) rfl ⟨⟨n1, L, ex⟩, ao5, cap5, rfl, hVl, ⟨hlen.out.1, Or.inl ⟨hlen.out.2, hfr2.mono (by omega)⟩⟩, fun N h1 h2 p e _ => Or.inr (by have h := hfr2 p e; omega), ?_, ((hB5.setCell (by simp; omega) _).setCell (by simp; omega) _).setCell (by simp; omega) _⟩
      exact ⟨((u5.1.box hfr2 (by omega) _ _).box hfr2 (by omega) _ _).box hfr2 (by omega) _ _, u5.2⟩
    · obtain ⟨L, hL⟩ : ∃ L, lo (V - X) = L := ⟨_, rfl⟩
      have hVm := hVm hnn (by omega)
      have hS' := fun o c w' h1 h2 => hS' o c w' h1 h2 (by omega)
      rw [hL] at hVm hlm hS'
      have hlen : Hid _ := hlm
      clear hlm
      obtain ⟨g, hg⟩ : ∃ g, sgI ((X : Int) - (V : Int)) = g := ⟨_, rfl⟩
      have hg0 : ¬ 0 ≤ g := by rw [← hg]; unfold sgI; rw [if_pos (by omega)]; omega
      rw [hg] at hC0
      clear hVs hVl hls hll hS hA hL hg
      go_enter Tryd.func66, Tryd.ntmps66
      go_wp2_with (first
        | (go_at_call_of 81 (Value.agg #[.bool n1, .slice ao xs.length cap, .int .i64 ex]); refine (hZ _ (hr.below al3)).mono ?_; rintro e w1 ⟨rfl, b1⟩; obtain ⟨⟨c0, c1, c2⟩, ⟨d0, d1, d2⟩, ⟨e0, e1, e2⟩, ⟨k0, k1, k2⟩, hB0⟩ := bx3 b1)
        | (go_at_call_of 81 (Value.agg #[.bool n2, .slice bo ys.length bcap, .int .i64 (ex + (k : Int))]); refine (hY _ (hs.below hB0)).mono ?_; rintro e w2 ⟨rfl, b2⟩; have B2 := b1.trans (b2.mono b1.size); clear c0 c1 c2 d0 d1 d2 e0 e1 e2 k0 k1 k2; obtain ⟨⟨c0, c1, c2⟩, ⟨d0, d1, d2⟩, ⟨e0, e1, e2⟩, ⟨k0, k1, k2⟩, hB2⟩ := bx3 B2)
        | (go_at_call 83; refine (hU _ (hs.below hB2)).mono ?_; rintro e w3 ⟨ao3, cap3, rfl, u3, f3, b3⟩; have B3 := B2.trans (b3.mono B2.size); clear c0 c1 c2 d0 d1 d2 e0 e1 e2 k0 k1 k2; obtain ⟨⟨c0, c1, c2⟩, ⟨d0, d1, d2⟩, ⟨e0, e1, e2⟩, ⟨k0, k1, k2⟩, hB3⟩ := bx3 B3)
        | (go_at_call 103; refine (hC0 _ _ _ (hr.below hB3) u3).mono ?_; rintro e w4 ⟨rfl, b4⟩; have B4 := B3.trans (b4.mono B3.size); clear c0 c1 c2 d0 d1 d2 e0 e1 e2 k0 k1 k2; obtain ⟨⟨c0, c1, c2⟩, ⟨d0, d1, d2⟩, ⟨e0, e1, e2⟩, ⟨k0, k1, k2⟩, hB4⟩ := bx3 B4))
      go_region_held3 (fun w' => w'.cell? ⟨w.heap.size + 1, 0, none⟩ = some (.bool n2) ∧ w'.cell? ⟨w.heap.size, 2, none⟩ = some (.int .i64 ex)) (go_keep)
        (first | (go_at_call 104; refine (hS' _ _ w4.drew (hr.below hB4.drew) (u3.below b4.drew)).mono ?_; rintro e w5 ⟨ao5, cap5, rfl, u5, f5, b5⟩; have B5 := B4.trans ((undrew b5).mono B4.size); clear c0 c1 c2 d0 d1 d2 e0 e1 e2 k0 k1 k2; obtain ⟨⟨c0, c1, c2⟩, ⟨d0, d1, d2⟩, ⟨e0, e1, e2⟩, ⟨k0, k1, k2⟩, hB5⟩ := bx3 B5))
      clear c0 c1 c2 d0 d1 d2
      have hs5 := B4.size
      simp at hs5
      have hfr2 : Frs (w.heap.size + 3) ao5 := f5.mono (by have h : w.heap.size + 3 ≤ w4.heap.size := (by omega); exact h)
      go_wp2
      refine bodyPost_ret (v := .agg #[.bool n2, .slice ao5 L.length cap5, .int .i64 ex]) (by simp [results, Tryd.results66, go_sem, e0, e1, e2]) rfl ⟨⟨n2, L, ex⟩, ao5, cap5, rfl, hVm, ⟨hlen.out.1, Or.inl ⟨hlen.out.2, hfr2.mono (by omega)⟩⟩, fun N h1 h2 p e _ => Or.inr (by have h := hfr2 p e; omega), ?_, ((hB5.setCell (by simp; omega) _).setCell (by simp; omega) _).setCell (by simp; omega) _⟩
      exact ⟨((u5.1.box hfr2 (by omega) _ _).box hfr2 (by omega) _ _).box hfr2 (by omega) _ _, u5.2⟩
end Go.Proofs.YtjjchlfdaacddaaDoor
