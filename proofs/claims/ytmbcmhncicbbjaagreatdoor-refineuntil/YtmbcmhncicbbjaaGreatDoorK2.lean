/- What the reference's Compare answers. -/
import Derived.Test.YtmbcmhncicbbjaaGreatDoorU8
import Derived.Test.YtmbcmhncicbbjaaGreatDoorNn
import Derived.Test.YtmbcmhncicbbjaaGreatDoorU3
import Derived.Test.YtmbcmhncicbbjaaGreatDoorU6
import Derived.Deep.DeepCutAuto
namespace Go.Proofs.YtmbcmhncicbbjaaGreatDoor
open Go.RowKit

set_option maxHeartbeats 4000000 in
theorem plus_le (a b : Dy) (k : Nat) (ao bo : Option Addr) (cap bcap : Nat) (w : World) (hr : NS w ao cap a.mag) (hs : NS w bo bcap b.mag) (hL : Lm a.mag) (hM : Lm b.mag) (hn : a.mag.length ≤ 1000000) (hm : b.mag.length ≤ 1000000) (hza : vl a.mag ≠ 0) (hzb : vl b.mag ≠ 0) (hk : b.exp = a.exp + k) (hk2 : k ≤ 2000000) (ha1 : -1000000 ≤ a.exp) (ha2 : a.exp ≤ 1000000) :
    Calls Tryz.prog 31 #[.agg #[.bool a.neg, .slice ao a.mag.length cap, .int .i64 a.exp], .agg #[.bool b.neg, .slice bo b.mag.length bcap, .int .i64 b.exp]] w (GaveS w ao bo a b) := by
  have hZ := fun w' (h : NS w' ao cap a.mag) => zero_any a ao cap w' h hL (by omega)
  have hY := fun w' (h : NS w' bo bcap b.mag) => zero_any b bo bcap w' h hM (by omega)
  have e0 : (vl a.mag == 0) = false := by simpa using hza
  have e1 : (vl b.mag == 0) = false := by simpa using hzb
  rw [e0] at hZ
  rw [e1] at hY
  have hU := fun w' (h : NS w' bo bcap b.mag) => natUp_any b.mag bo bcap k w' h hM (by omega) (by omega)
  obtain ⟨hl1, hls, hll, hlm⟩ := plus_lens hL hM hn hm hk2
  have hA := fun o c w' (h1 : NS w' ao cap a.mag) (h2 : NS w' o c (lo (vl b.mag * 2 ^ k))) => natAdd_any a.mag (lo (vl b.mag * 2 ^ k)) ao o cap c w' h1 h2 hL (lo_lm _) (by omega) (by omega)
  have hC0 := fun o c w' (h1 : NS w' ao cap a.mag) (h2 : NS w' o c (lo (vl b.mag * 2 ^ k))) => natCmp_any a.mag (lo (vl b.mag * 2 ^ k)) ao o cap c w' h1 h2 hL (lo_lm _) (by omega) (by omega)
  have hS := fun o c w' (h1 : NS w' ao cap a.mag) (h2 : NS w' o c (lo (vl b.mag * 2 ^ k))) hle => natSub_any a.mag (lo (vl b.mag * 2 ^ k)) ao o cap c w' h1 h2 hL (lo_lm _) (by omega) (by omega) hle
  have hS' := fun o c w' (h1 : NS w' ao cap a.mag) (h2 : NS w' o c (lo (vl b.mag * 2 ^ k))) hle => natSub_any (lo (vl b.mag * 2 ^ k)) a.mag o ao c cap w' h2 h1 (lo_lm _) hL (by omega) (by omega) hle
  rw [vl_lo] at hA hC0 hS hS'
  have hVs := @plus_same a.neg a.mag b.mag a.exp b.exp k hk
  have hVl := @plus_less a.neg b.neg a.mag b.mag a.exp b.exp k hk
  have hVm := @plus_more a.neg b.neg a.mag b.mag a.exp b.exp k hk
  obtain ⟨n1, xs, ex⟩ := a
  obtain ⟨n2, ys, ey⟩ := b
  simp only at *
  subst hk
  have hsub : ex + (k : Int) - ex = (k : Int) := by omega
  obtain ⟨X, hX⟩ : ∃ X, vl xs = X := ⟨_, rfl⟩
  obtain ⟨V, hV⟩ : ∃ V, vl ys * 2 ^ k = V := ⟨_, rfl⟩
  rw [hV] at hU hl1 hA hC0 hS hS' hVs hVl hVm hls hll hlm
  rw [hX] at hA hC0 hS hS' hVs hVl hVm hls hll hlm
  obtain ⟨U, hUU⟩ : ∃ U, lo V = U := ⟨_, rfl⟩
  rw [hUU] at hU hl1 hA hC0 hS hS'
  have hgt : ¬ ex + (k : Int) < ex := by omega
  clear hza hzb e0 e1 hV hX hUU hL hM
  by_cases hnn : n1 = n2
  · subst hnn
    obtain ⟨L, hL⟩ : ∃ L, lo (X + V) = L := ⟨_, rfl⟩
    rw [hL] at hVs hls hA
    have hlen : Hid _ := hls
    clear hls
    have ebb : (n1 == n1) = true := by simp
    clear hVl hVm hll hlm hS hS' hC0 hL
    go_enter Tryz.func31, Tryz.ntmps31
    go_wp2_with (first
      | (go_at_call_of 55 (Value.agg #[.bool n1, .slice ao xs.length cap, .int .i64 ex]); refine (hZ _ (hr.below al3)).mono ?_; rintro e w1 ⟨rfl, b1⟩; obtain ⟨⟨c0, c1, c2⟩, ⟨d0, d1, d2⟩, ⟨e0, e1, e2⟩, ⟨k0, k1, k2⟩, hB0⟩ := bx3 b1)
      | (go_at_call_of 55 (Value.agg #[.bool n1, .slice bo ys.length bcap, .int .i64 (ex + (k : Int))]); refine (hY _ (hs.below hB0)).mono ?_; rintro e w2 ⟨rfl, b2⟩; have B2 := b1.trans (b2.mono b1.size); clear c0 c1 c2 d0 d1 d2 e0 e1 e2 k0 k1 k2; obtain ⟨⟨c0, c1, c2⟩, ⟨d0, d1, d2⟩, ⟨e0, e1, e2⟩, ⟨k0, k1, k2⟩, hB2⟩ := bx3 B2)
      | (go_at_call 56; refine (hU _ (hs.below hB2)).mono ?_; rintro e w3 ⟨ao3, cap3, rfl, u3, f3, b3⟩; have B3 := B2.trans (b3.mono B2.size); clear c0 c1 c2 d0 d1 d2 e0 e1 e2 k0 k1 k2; obtain ⟨⟨c0, c1, c2⟩, ⟨d0, d1, d2⟩, ⟨e0, e1, e2⟩, ⟨k0, k1, k2⟩, hB3⟩ := bx3 B3))
    have q1 : ¬ w.heap.size + 1 + 1 = w.heap.size := by omega
    have q2 : ¬ w.heap.size = w.heap.size + 1 + 1 := by omega
    go_region_held3 (fun w' => w'.cell? ⟨w.heap.size, 0, none⟩ = some (.bool n1) ∧ w'.cell? ⟨w.heap.size, 2, none⟩ = some (.int .i64 ex)) (go_keep)
      (first | (go_at_call 57; refine (hA _ _ w3.drew (hr.below hB3.drew) u3).mono ?_; rintro e w5 ⟨ao5, cap5, rfl, u5, f5, b5⟩; have B5 := B3.trans ((undrew b5).mono B3.size); clear c0 c1 c2 d0 d1 d2 e0 e1 e2 k0 k1 k2; obtain ⟨⟨c0, c1, c2⟩, ⟨d0, d1, d2⟩, ⟨e0, e1, e2⟩, ⟨k0, k1, k2⟩, hB5⟩ := bx3 B5))
    clear c0 c1 c2 d0 d1 d2
    have hs5 := B3.size
    simp at hs5
    have hfr2 : Frs (w.heap.size + 3) ao5 := f5.mono (by have h : w.heap.size + 3 ≤ w3.heap.size := (by omega); exact h)
    go_wp2
    refine bodyPost_ret (v := .agg #[.bool n1, .slice ao5 L.length cap5, .int .i64 ex]) (by simp [results, Tryz.results31, go_sem, e0, e1, e2]) rfl ⟨⟨n1, L, ex⟩, ao5, cap5, rfl, hVs, ⟨hlen.out.1, Or.inl ⟨hlen.out.2, hfr2.mono (by omega)⟩⟩, fun N h1 h2 p e _ => Or.inr (by have h := hfr2 p e; omega), ?_, ((hB5.setCell (by simp; omega) _).setCell (by simp; omega) _).setCell (by simp; omega) _⟩
    exact ⟨((u5.1.box hfr2 (by omega) _ _).box hfr2 (by omega) _ _).box hfr2 (by omega) _ _, u5.2⟩
  · have ebb : (n1 == n2) = false := by simpa using hnn
    have q1 : ¬ w.heap.size + 1 + 1 = w.heap.size := by omega
    have q2 : ¬ w.heap.size = w.heap.size + 1 + 1 := by omega
    by_cases hle : V ≤ X
    · obtain ⟨L, hL⟩ : ∃ L, lo (X - V) = L := ⟨_, rfl⟩
      have hVl := hVl hnn hle
      have hS := fun o c w' h1 h2 => hS o c w' h1 h2 hle
      rw [hL] at hVl hll hS
      have hlen : Hid _ := hll
      clear hll
      obtain ⟨g, hg⟩ : ∃ g, sgI ((X : Int) - (V : Int)) = g := ⟨_, rfl⟩
      have hg0 : 0 ≤ g := by rw [← hg]; unfold sgI; split <;> (try split) <;> omega
      rw [hg] at hC0
      clear hVs hVm hls hlm hS' hA hL hg
      go_enter Tryz.func31, Tryz.ntmps31
      go_wp2_with (first
        | (go_at_call_of 55 (Value.agg #[.bool n1, .slice ao xs.length cap, .int .i64 ex]); refine (hZ _ (hr.below al3)).mono ?_; rintro e w1 ⟨rfl, b1⟩; obtain ⟨⟨c0, c1, c2⟩, ⟨d0, d1, d2⟩, ⟨e0, e1, e2⟩, ⟨k0, k1, k2⟩, hB0⟩ := bx3 b1)
        | (go_at_call_of 55 (Value.agg #[.bool n2, .slice bo ys.length bcap, .int .i64 (ex + (k : Int))]); refine (hY _ (hs.below hB0)).mono ?_; rintro e w2 ⟨rfl, b2⟩; have B2 := b1.trans (b2.mono b1.size); clear c0 c1 c2 d0 d1 d2 e0 e1 e2 k0 k1 k2; obtain ⟨⟨c0, c1, c2⟩, ⟨d0, d1, d2⟩, ⟨e0, e1, e2⟩, ⟨k0, k1, k2⟩, hB2⟩ := bx3 B2)
        | (go_at_call 56; refine (hU _ (hs.below hB2)).mono ?_; rintro e w3 ⟨ao3, cap3, rfl, u3, f3, b3⟩; have B3 := B2.trans (b3.mono B2.size); clear c0 c1 c2 d0 d1 d2 e0 e1 e2 k0 k1 k2; obtain ⟨⟨c0, c1, c2⟩, ⟨d0, d1, d2⟩, ⟨e0, e1, e2⟩, ⟨k0, k1, k2⟩, hB3⟩ := bx3 B3)
        | (go_at_call 58; refine (hC0 _ _ _ (hr.below hB3) u3).mono ?_; rintro e w4 ⟨rfl, b4⟩; have B4 := B3.trans (b4.mono B3.size); clear c0 c1 c2 d0 d1 d2 e0 e1 e2 k0 k1 k2; obtain ⟨⟨c0, c1, c2⟩, ⟨d0, d1, d2⟩, ⟨e0, e1, e2⟩, ⟨k0, k1, k2⟩, hB4⟩ := bx3 B4))
      go_region_held3 (fun w' => w'.cell? ⟨w.heap.size, 0, none⟩ = some (.bool n1) ∧ w'.cell? ⟨w.heap.size, 2, none⟩ = some (.int .i64 ex)) (go_keep)
        (first | (go_at_call 59; refine (hS _ _ w4.drew (hr.below hB4.drew) (u3.below b4.drew)).mono ?_; rintro e w5 ⟨ao5, cap5, rfl, u5, f5, b5⟩; have B5 := B4.trans ((undrew b5).mono B4.size); clear c0 c1 c2 d0 d1 d2 e0 e1 e2 k0 k1 k2; obtain ⟨⟨c0, c1, c2⟩, ⟨d0, d1, d2⟩, ⟨e0, e1, e2⟩, ⟨k0, k1, k2⟩, hB5⟩ := bx3 B5))
      clear c0 c1 c2 d0 d1 d2
      have hs5 := B4.size
      simp at hs5
      have hfr2 : Frs (w.heap.size + 3) ao5 := f5.mono (by have h : w.heap.size + 3 ≤ w4.heap.size := (by omega); exact h)
      go_wp2
      refine bodyPost_ret (v := .agg #[.bool n1, .slice ao5 L.length cap5, .int .i64 ex]) (by simp [results, Tryz.results31, go_sem, e0, e1, e2]) rfl ⟨⟨n1, L, ex⟩, ao5, cap5, rfl, hVl, ⟨hlen.out.1, Or.inl ⟨hlen.out.2, hfr2.mono (by omega)⟩⟩, fun N h1 h2 p e _ => Or.inr (by have h := hfr2 p e; omega), ?_, ((hB5.setCell (by simp; omega) _).setCell (by simp; omega) _).setCell (by simp; omega) _⟩
      exact ⟨((u5.1.box hfr2 (by omega) _ _).box hfr2 (by omega) _ _).box hfr2 (by omega) _ _, u5.2⟩
    · obtain ⟨L, hL⟩ : ∃ L, lo (V - X) = L := ⟨_, rfl⟩
      have hVm := hVm hnn (by omega)
      have hS' := fun o c w' h1 h2 => hS' o c w' h1 h2 (by omega)
      rw [hL] at hVm hlm hS'
      have hlen : Hid _ := hlm
      clear hlm
      obtain ⟨g, hg⟩ : ∃ g, sgI ((X : Int) - (V : Int)) = g := ⟨_, rfl⟩
      have hg0 : ¬ 0 ≤ g := by rw [← hg]; unfold sgI; rw [if_pos (by omega)]; omega
      rw [hg] at hC0
      clear hVs hVl hls hll hS hA hL hg
      go_enter Tryz.func31, Tryz.ntmps31
      go_wp2_with (first
        | (go_at_call_of 55 (Value.agg #[.bool n1, .slice ao xs.length cap, .int .i64 ex]); refine (hZ _ (hr.below al3)).mono ?_; rintro e w1 ⟨rfl, b1⟩; obtain ⟨⟨c0, c1, c2⟩, ⟨d0, d1, d2⟩, ⟨e0, e1, e2⟩, ⟨k0, k1, k2⟩, hB0⟩ := bx3 b1)
        | (go_at_call_of 55 (Value.agg #[.bool n2, .slice bo ys.length bcap, .int .i64 (ex + (k : Int))]); refine (hY _ (hs.below hB0)).mono ?_; rintro e w2 ⟨rfl, b2⟩; have B2 := b1.trans (b2.mono b1.size); clear c0 c1 c2 d0 d1 d2 e0 e1 e2 k0 k1 k2; obtain ⟨⟨c0, c1, c2⟩, ⟨d0, d1, d2⟩, ⟨e0, e1, e2⟩, ⟨k0, k1, k2⟩, hB2⟩ := bx3 B2)
        | (go_at_call 56; refine (hU _ (hs.below hB2)).mono ?_; rintro e w3 ⟨ao3, cap3, rfl, u3, f3, b3⟩; have B3 := B2.trans (b3.mono B2.size); clear c0 c1 c2 d0 d1 d2 e0 e1 e2 k0 k1 k2; obtain ⟨⟨c0, c1, c2⟩, ⟨d0, d1, d2⟩, ⟨e0, e1, e2⟩, ⟨k0, k1, k2⟩, hB3⟩ := bx3 B3)
        | (go_at_call 58; refine (hC0 _ _ _ (hr.below hB3) u3).mono ?_; rintro e w4 ⟨rfl, b4⟩; have B4 := B3.trans (b4.mono B3.size); clear c0 c1 c2 d0 d1 d2 e0 e1 e2 k0 k1 k2; obtain ⟨⟨c0, c1, c2⟩, ⟨d0, d1, d2⟩, ⟨e0, e1, e2⟩, ⟨k0, k1, k2⟩, hB4⟩ := bx3 B4))
      go_region_held3 (fun w' => w'.cell? ⟨w.heap.size + 1, 0, none⟩ = some (.bool n2) ∧ w'.cell? ⟨w.heap.size, 2, none⟩ = some (.int .i64 ex)) (go_keep)
        (first | (go_at_call 59; refine (hS' _ _ w4.drew (hr.below hB4.drew) (u3.below b4.drew)).mono ?_; rintro e w5 ⟨ao5, cap5, rfl, u5, f5, b5⟩; have B5 := B4.trans ((undrew b5).mono B4.size); clear c0 c1 c2 d0 d1 d2 e0 e1 e2 k0 k1 k2; obtain ⟨⟨c0, c1, c2⟩, ⟨d0, d1, d2⟩, ⟨e0, e1, e2⟩, ⟨k0, k1, k2⟩, hB5⟩ := bx3 B5))
      clear c0 c1 c2 d0 d1 d2
      have hs5 := B4.size
      simp at hs5
      have hfr2 : Frs (w.heap.size + 3) ao5 := f5.mono (by have h : w.heap.size + 3 ≤ w4.heap.size := (by omega); exact h)
      go_wp2
      refine bodyPost_ret (v := .agg #[.bool n2, .slice ao5 L.length cap5, .int .i64 ex]) (by simp [results, Tryz.results31, go_sem, e0, e1, e2]) rfl ⟨⟨n2, L, ex⟩, ao5, cap5, rfl, hVm, ⟨hlen.out.1, Or.inl ⟨hlen.out.2, hfr2.mono (by omega)⟩⟩, fun N h1 h2 p e _ => Or.inr (by have h := hfr2 p e; omega), ?_, ((hB5.setCell (by simp; omega) _).setCell (by simp; omega) _).setCell (by simp; omega) _⟩
      exact ⟨((u5.1.box hfr2 (by omega) _ _).box hfr2 (by omega) _ _).box hfr2 (by omega) _ _, u5.2⟩
end Go.Proofs.YtmbcmhncicbbjaaGreatDoor

namespace Go.Proofs.YtmbcmhncicbbjaaGreatDoor
open Go.RowKit

theorem row_blk {w : World} {ao : Option Addr} {xs : List Nat} (h : LRow w ao xs) {p : Addr} (e : ao = some p) (h0 : ¬ xs.length = 0) : p.block < w.heap.size := by
  rcases h with h | ⟨b', off', e', hc⟩
  · exact absurd h h0
  · rw [e] at e'
    cases e'
    exact World.block_lt_of_cell? w _ (hc 0 (by omega))
set_option maxHeartbeats 2000000 in
theorem plus_gt (a b : Dy) (k : Nat) (ao bo : Option Addr) (cap bcap : Nat) (w : World) (hr : NS w ao cap a.mag) (hs : NS w bo bcap b.mag) (hL : Lm a.mag) (hM : Lm b.mag) (hn : a.mag.length ≤ 1000000) (hm : b.mag.length ≤ 1000000) (hza : vl a.mag ≠ 0) (hzb : vl b.mag ≠ 0) (hk : a.exp = b.exp + k) (hk0 : 0 < k) (hk2 : k ≤ 2000000) (ha1 : -1000000 ≤ b.exp) (ha2 : b.exp ≤ 1000000) :
    Calls Tryz.prog 31 #[.agg #[.bool a.neg, .slice ao a.mag.length cap, .int .i64 a.exp], .agg #[.bool b.neg, .slice bo b.mag.length bcap, .int .i64 b.exp]] w (GaveS w ao bo a b) := by
  have hZ := fun w' (h : NS w' ao cap a.mag) => zero_any a ao cap w' h hL (by omega)
  have hY := fun w' (h : NS w' bo bcap b.mag) => zero_any b bo bcap w' h hM (by omega)
  have e0 : (vl a.mag == 0) = false := by simpa using hza
  have e1 : (vl b.mag == 0) = false := by simpa using hzb
  rw [e0] at hZ
  rw [e1] at hY
  have hP := fun w' (h1 : NS w' bo bcap b.mag) (h2 : NS w' ao cap a.mag) => plus_le b a k bo ao bcap cap w' h1 h2 hM hL hm hn hzb hza hk hk2 ha1 ha2
  have HS : Hid (∀ z, PlusV b a z → PlusV a b z) := fun z h => plusV_swap h
  have q1 : ∀ p, ao = some p → p.block < w.heap.size := fun p e => row_blk hr.1 e (fun h => hza (by rw [List.eq_nil_of_length_eq_zero h]; rfl))
  have q2 : ∀ p, bo = some p → p.block < w.heap.size := fun p e => row_blk hs.1 e (fun h => hzb (by rw [List.eq_nil_of_length_eq_zero h]; rfl))
  obtain ⟨n1, xs, ex⟩ := a
  obtain ⟨n2, ys, ey⟩ := b
  simp only at *
  have hgt : ey < ex := by omega
  clear hza hzb e0 e1 hk
  go_enter Tryz.func31, Tryz.ntmps31
  go_wp2_with (first
    | (go_at_call_of 55 (Value.agg #[.bool n1, .slice ao xs.length cap, .int .i64 ex]); refine (hZ _ (hr.below al3)).mono ?_; rintro e w1 ⟨rfl, b1⟩; obtain ⟨⟨c0, c1, c2⟩, ⟨d0, d1, d2⟩, ⟨e0, e1, e2⟩, ⟨k0, k1, k2⟩, hB0⟩ := bx3 b1)
    | (go_at_call_of 55 (Value.agg #[.bool n2, .slice bo ys.length bcap, .int .i64 ey]); refine (hY _ (hs.below hB0)).mono ?_; rintro e w2 ⟨rfl, b2⟩; have B2 := b1.trans (b2.mono b1.size); clear c0 c1 c2 d0 d1 d2 e0 e1 e2 k0 k1 k2; obtain ⟨⟨c0, c1, c2⟩, ⟨d0, d1, d2⟩, ⟨e0, e1, e2⟩, ⟨k0, k1, k2⟩, hB2⟩ := bx3 B2)
    | (go_at_call 31; refine (hP _ (hs.below hB2) (hr.below hB2)).mono ?_; rintro e w3 ⟨⟨zn, zm, ze⟩, ao3, cap3, rfl, hv, hzl, hbk, u3, b3⟩; have B3 := B2.trans (b3.mono B2.size); clear c0 c1 c2 d0 d1 d2 e0 e1 e2 k0 k1 k2; obtain ⟨⟨c0, c1, c2⟩, ⟨d0, d1, d2⟩, ⟨e0, e1, e2⟩, ⟨k0, k1, k2⟩, hB3⟩ := bx3 B3))
  refine bodyPost_ret (v := .agg #[.bool zn, .slice ao3 zm.length cap3, .int .i64 ze]) (by simp [results, Tryz.results31, go_sem, e0, e1, e2]) rfl ⟨⟨zn, zm, ze⟩, ao3, cap3, rfl, HS.out _ hv, ⟨by have := hzl.1; simp only at this ⊢; omega, hzl.2.imp (fun h => ⟨h.1, h.2.mono (by have := hB2.size; omega)⟩) Or.symm⟩, ?_, ?_, ((hB3.setCell (by simp; omega) _).setCell (by simp; omega) _).setCell (by simp; omega) _⟩
  · intro N g1 g2 p e hl
    rcases hbk N g2 g1 p e hl with h | h
    · exact Or.inl h
    · exact Or.inr (by have := hB2.size; omega)
  · have hne : ∀ x off, ao3 = some ⟨x, off, none⟩ → zm.length ≠ 0 → x ≠ w.heap.size + 1 + 1 := fun x off e hl => by
      have hs2 := B2.size
      simp at hs2
      rcases hbk w.heap.size (fun p e _ => q2 p e) (fun p e _ => q1 p e) _ e hl with h | h
      · show x ≠ _
        have h' : x < w.heap.size := h
        omega
      · show x ≠ _
        have h' : w2.heap.size ≤ x := h
        omega
    exact ⟨((u3.1.setCell _ hne).setCell _ hne).setCell _ hne, u3.2⟩
theorem plus_any (a b : Dy) (ao bo : Option Addr) (cap bcap : Nat) (w : World) (hr : NS w ao cap a.mag) (hs : NS w bo bcap b.mag) (hL : Lm a.mag) (hM : Lm b.mag) (hn : a.mag.length ≤ 1000000) (hm : b.mag.length ≤ 1000000) (ha1 : -1000000 ≤ a.exp) (ha2 : a.exp ≤ 1000000) (hb1 : -1000000 ≤ b.exp) (hb2 : b.exp ≤ 1000000) :
    Calls Tryz.prog 31 #[.agg #[.bool a.neg, .slice ao a.mag.length cap, .int .i64 a.exp], .agg #[.bool b.neg, .slice bo b.mag.length bcap, .int .i64 b.exp]] w (GaveS w ao bo a b) := by
  by_cases hza : vl a.mag = 0
  · exact plus_zero a b ao bo cap bcap w hr hs hL hM hn hm (Or.inl hza)
  · by_cases hzb : vl b.mag = 0
    · exact plus_zero a b ao bo cap bcap w hr hs hL hM hn hm (Or.inr hzb)
    · by_cases hle : a.exp ≤ b.exp
      · exact plus_le a b (b.exp - a.exp).toNat ao bo cap bcap w hr hs hL hM hn hm hza hzb (by omega) (by omega) ha1 ha2
      · exact plus_gt a b (a.exp - b.exp).toNat ao bo cap bcap w hr hs hL hM hn hm hza hzb (by omega) (by omega) (by omega) hb1 hb2
end Go.Proofs.YtmbcmhncicbbjaaGreatDoor

namespace Go.Proofs.YtmbcmhncicbbjaaGreatDoor
open Go.RowKit

theorem addD_at {a b : Dy} (ra : rightB a = true) (rb : rightB b = true) {k : Nat} (hk : b.exp = a.exp + k) : addD a b = nrm (sv a + sv b * 2 ^ k) a.exp := by
  have h1 := right_exp ra
  have h2 := right_exp rb
  unfold addD
  rw [ra, rb]
  simp only [Bool.and_self, if_true]
  have s := nrm_shift (sv a + sv b * 2 ^ k) a.exp (a.exp + 65536).toNat
  rw [show a.exp - ((a.exp + 65536).toNat : Int) = -65536 by omega] at s
  rw [← s]
  congr 1
  unfold qd
  rw [hk, show (a.exp + (k : Int) + 65536).toNat = k + (a.exp + 65536).toNat by omega, Int.pow_add, Int.add_mul, Int.mul_assoc]
theorem addD_turn (a b : Dy) : addD a b = addD b a := by
  unfold addD
  rw [Bool.and_comm, Int.add_comm]
theorem far_abs {A B : Nat} {k : Nat} (hA : A < 2 ^ (k - 2)) (hB : B ≠ 0) (hk : 2 ≤ k) : 2 ^ (k - 1) ≤ B * 2 ^ k - A := by
  have h1 : 2 ^ k = 2 * 2 ^ (k - 1) := by rw [← Nat.pow_succ']; congr 1; omega
  have h2 : 2 ^ (k - 1) = 2 * 2 ^ (k - 2) := by rw [← Nat.pow_succ']; congr 1; omega
  have h3 : 2 ^ k ≤ B * 2 ^ k := Nat.le_mul_of_pos_left _ (Nat.pos_of_ne_zero hB)
  omega
theorem far_add {a b : Dy} (ra : rightB a = true) (rb : rightB b = true) (la : Lm a.mag) (na : a.mag.length ≠ 0) (nb : b.mag.length ≠ 0) {k : Nat} (hk : b.exp = a.exp + k) (hf : 16385 < k) : addD a b = (dy0, 3) := by
  rw [addD_at ra rb hk]
  obtain ⟨a0, ao⟩ := right_ne ra na
  obtain ⟨b0, bo⟩ := right_ne rb nb
  have xa := right_exp ra
  have hA : vl a.mag < 2 ^ (k - 2) := Nat.lt_of_lt_of_le (vl_lt la) (Nat.pow_le_pow_right (by omega) (by omega))
  have hab := far_abs hA b0 (show 2 ≤ k by omega)
  obtain ⟨P, hP⟩ : ∃ P, vl b.mag * 2 ^ k = P := ⟨_, rfl⟩
  have hPe : P % 2 = 0 := by
    rw [← hP, show k = (k - 1) + 1 by omega, Nat.pow_succ, ← Nat.mul_assoc, Nat.mul_mod_left]
  have hPb : (sv b * 2 ^ k).natAbs = P := by
    rw [Int.natAbs_mul, sv_abs, Int.natAbs_pow, ← hP]; rfl
  have hAa := sv_abs a
  rw [hP] at hab
  obtain ⟨Y, hY⟩ : ∃ Y, sv b * 2 ^ k = Y := ⟨_, rfl⟩
  rw [hY] at hPb ⊢
  obtain ⟨Q, hQ⟩ : ∃ Q, 2 ^ (k - 1) = Q := ⟨_, rfl⟩
  rw [hQ] at hab
  have hS : Q ≤ (sv a + Y).natAbs := by omega
  have hva : vl a.mag % 2 = 1 := by rw [vl_odd la na]; omega
  have hodd : (sv a + Y).natAbs % 2 = 1 := by omega
  have hQp : 0 < Q := by rw [← hQ]; exact Nat.two_pow_pos _
  have ht : tz (sv a + Y).natAbs = 0 := tz_odd hodd
  have hbl : k ≤ bl (sv a + Y).natAbs := by
    by_cases h : k ≤ bl (sv a + Y).natAbs
    · exact h
    · have : (sv a + Y).natAbs < 2 ^ (k - 1) := bl_le_iff.1 (by omega)
      omega
  unfold nrm
  rw [if_neg (by omega), if_pos (by omega)]
/-- Are two dyads so far apart that their sum is too long? -/
def farB (a b : Dy) : Bool := decide (a.mag.length ≠ 0) && (decide (b.mag.length ≠ 0) && (decide (16385 < a.exp - b.exp) || decide (16385 < b.exp - a.exp)))
end Go.Proofs.YtmbcmhncicbbjaaGreatDoor

namespace Go.Proofs.YtmbcmhncicbbjaaGreatDoor
open Go.RowKit

/-- A product's right dyad, by the values. -/
theorem dmul_norm {a b : Dy} (ha : rightB a = true) (hb : rightB b = true) : normD ⟨a.neg != b.neg, lo (vl a.mag * vl b.mag), a.exp + b.exp⟩ = mulD a b := by
  have h1 := right_exp ha
  have h2 := right_exp hb
  unfold mulD
  rw [ha, hb]
  simp only [Bool.and_self, if_true]
  unfold normD qd
  have e : sv ⟨a.neg != b.neg, lo (vl a.mag * vl b.mag), a.exp + b.exp⟩ = sv a * sv b := by
    unfold sv
    simp only [vl_lo]
    have h := Int.natCast_mul (vl a.mag) (vl b.mag)
    cases a.neg <;> cases b.neg <;> simp [h, Int.neg_mul, Int.mul_neg]
  rw [e]
  simp only
  have s := nrm_shift (sv a * sv b) (a.exp + b.exp) ((a.exp + 65536).toNat + (b.exp + 65536).toNat)
  rw [show a.exp + b.exp - (((a.exp + 65536).toNat + (b.exp + 65536).toNat : Nat) : Int) = -131072 by omega] at s
  rw [← s]
  congr 1
  rw [Int.pow_add]
  ac_rfl
theorem mul_not {a b : Dy} (h : rightB a = false ∨ rightB b = false) : mulD a b = (dy0, 2) := by
  unfold mulD
  rcases h with h | h <;> rw [h] <;> simp
end Go.Proofs.YtmbcmhncicbbjaaGreatDoor

namespace Go.Proofs.YtmbcmhncicbbjaaGreatDoor
open Go.RowKit

theorem add_not {a b : Dy} (h : rightB a = false ∨ rightB b = false) : addD a b = (dy0, 2) := by
  unfold addD
  rcases h with h | h <;> rw [h] <;> simp
theorem far_long {a b : Dy} (ra : rightB a = true) (rb : rightB b = true) (la : Lm a.mag) (lb : Lm b.mag) (h : farB a b = true) : addD a b = (dy0, 3) := by
  unfold farB at h
  simp at h
  obtain ⟨h1, h2, h3⟩ := h
  have na : a.mag.length ≠ 0 := fun e => h1 (List.eq_nil_of_length_eq_zero e)
  have nb : b.mag.length ≠ 0 := fun e => h2 (List.eq_nil_of_length_eq_zero e)
  by_cases hle : a.exp ≤ b.exp
  · exact far_add ra rb la na nb (k := (b.exp - a.exp).toNat) (by omega) (by omega)
  · rw [addD_turn]
    exact far_add rb ra lb nb na (k := (a.exp - b.exp).toNat) (by omega) (by omega)
/-- The right dyad of a number of the sum's value. -/
theorem plus_norm {a b z : Dy} (ra : rightB a = true) (rb : rightB b = true) (h : PlusV ⟨a.neg, lo (vl a.mag), a.exp⟩ ⟨b.neg, lo (vl b.mag), b.exp⟩ z) : normD z = addD a b := by
  have h1 := right_exp ra
  have h2 := right_exp rb
  obtain ⟨_, he, hv⟩ := h
  have hz : -65536 ≤ z.exp := by simp only at he; omega
  have e := hv (-65536) (by simp only; omega) (by simp only; omega)
  have sa : sv ⟨a.neg, lo (vl a.mag), a.exp⟩ = sv a := by unfold sv; simp only [vl_lo]
  have sb : sv ⟨b.neg, lo (vl b.mag), b.exp⟩ = sv b := by unfold sv; simp only [vl_lo]
  rw [sa, sb] at e
  simp only at e
  unfold addD
  rw [ra, rb]
  simp only [Bool.and_self, if_true]
  have s := nrm_shift (sv z) z.exp (z.exp + 65536).toNat
  rw [show z.exp - ((z.exp + 65536).toNat : Int) = -65536 by omega] at s
  unfold normD
  rw [← s]
  have e2 : sv z * 2 ^ (z.exp + 65536).toNat = qd a + qd b := e
  rw [e2]
end Go.Proofs.YtmbcmhncicbbjaaGreatDoor

namespace Go.Proofs.YtmbcmhncicbbjaaGreatDoor
open Go.RowKit

def negD (d : Dy) : Dy × Int := if rightB d then (trn d, 0) else (dy0, 2)
theorem sg_right {d : Dy} (hr : rightB d = true) : sgD d = sgI (sv d) := by
  unfold sgD
  rcases right_cases hr with h | ⟨h0, _, _, h3, _⟩
  · rw [h]; rfl
  · rw [if_neg h0]
    have hv := vl_ne_last h0 h3
    unfold sgI sv
    cases d.neg <;> simp <;> omega
end Go.Proofs.YtmbcmhncicbbjaaGreatDoor

namespace Go.Proofs.YtmbcmhncicbbjaaGreatDoor
open Go.RowKit

theorem neg_norm {d : Dy} (hL : Lm d.mag) (hr : rightB d = true) : normD ⟨!d.neg, lo (vl d.mag), d.exp⟩ = negD d := by
  unfold negD
  rw [if_pos hr]
  have e : normD ⟨!d.neg, lo (vl d.mag), d.exp⟩ = normD (trn d) := by
    unfold normD
    congr 1
    unfold sv trn
    simp only [vl_lo]
    by_cases h0 : d.mag.length = 0
    · have hm : d.mag = [] := List.eq_nil_of_length_eq_zero h0
      rw [hm]; simp [vl]
    · have h1 : decide (0 < d.mag.length) = true := decide_eq_true (by omega)
      rw [h1]; simp
  rw [e]
  exact nrm_right (d := trn d) hL (trn_right hr)
end Go.Proofs.YtmbcmhncicbbjaaGreatDoor

namespace Go.Proofs.YtmbcmhncicbbjaaGreatDoor
open Go.RowKit

def scaleD (d : Dy) (n : Int) : Dy × Int :=
  if rightB d = false then (dy0, 2) else if d.mag.length = 0 then (dy0, 0) else if n < -65536 - d.exp ∨ 65536 - d.exp < n then (dy0, 3) else (⟨d.neg, d.mag, d.exp + n⟩, 0)
theorem scale_norm {d : Dy} (hL : Lm d.mag) (hr : rightB d = true) (h0 : d.mag.length ≠ 0) (n : Int) : normD ⟨d.neg, lo (vl d.mag), d.exp + n⟩ = scaleD d n := by
  unfold scaleD
  rw [if_neg (by rw [hr]; simp), if_neg h0]
  rcases right_cases hr with h | ⟨_, h1, h2, h3, h4, h5⟩
  · rw [h] at h0; exact absurd rfl h0
  · have hv := vl_ne_last h0 h3
    have hodd := vl_odd hL h0
    have ht : tz (vl d.mag) = 0 := tz_odd (by omega)
    have hlo := lo_vl hL (Or.inr h3)
    have hb := bl_limbs hL h1
    rw [hlo]
    have hz : ((tz (vl d.mag) : Nat) : Int) = 0 := by rw [ht]; rfl
    by_cases hc : n < -65536 - d.exp ∨ 65536 - d.exp < n
    · rw [if_pos hc]
      exact norm_long (d := ⟨d.neg, d.mag, d.exp + n⟩) hv (by simp only; omega)
    · rw [if_neg hc, norm_fine (d := ⟨d.neg, d.mag, d.exp + n⟩) hv (by simp only; omega)]
      simp [ht, hlo]
end Go.Proofs.YtmbcmhncicbbjaaGreatDoor

namespace Go.Proofs.YtmbcmhncicbbjaaGreatDoor
open Go.RowKit

theorem LRow.blk {w : World} {ao : Option Addr} {xs : List Nat} (h : LRow w ao xs) {b off : Nat} (e : ao = some ⟨b, off, none⟩) (h0 : xs.length ≠ 0) : b < w.heap.size := by
  rcases h with h | ⟨b', off', e', hc⟩
  · exact absurd h h0
  · rw [e] at e'
    cases e'
    exact World.block_lt_of_cell? w _ (hc 0 (by omega))
theorem one_more {W w2 w3 : World} {o : Obj} (h1 : Below W.heap.size W w2) (h2 : Below (w2.alloc o).heap.size (w2.alloc o) w3) : Below W.heap.size w2 w3 := by
  have h3 : Below w2.heap.size w2 w3 := ((Below.refl _ _).alloc (Nat.le_refl _) _).trans (h2.mono (by simp))
  exact h3.mono h1.size
end Go.Proofs.YtmbcmhncicbbjaaGreatDoor

namespace Go.Proofs.YtmbcmhncicbbjaaGreatDoor
open Go.RowKit

end Go.Proofs.YtmbcmhncicbbjaaGreatDoor

namespace Go.Proofs.YtmbcmhncicbbjaaGreatDoor
open Go.RowKit

theorem sg_of {a b : Int} (h : a < b) : sgI (a - b) = -1 := by unfold sgI; rw [if_pos (by omega)]
theorem sg_of' {a b : Int} (h : b < a) : sgI (a - b) = 1 := by unfold sgI; rw [if_neg (by omega), if_neg (by omega)]
theorem qd_pos {d : Dy} : (0 < sv d → 0 < qd d) ∧ (sv d < 0 → qd d < 0) ∧ (sv d = 0 → qd d = 0) := by
  have hp := pow_pos_int (d.exp + 65536).toNat
  unfold qd
  exact ⟨fun h => Int.mul_pos h hp, fun h => Int.mul_neg_of_neg_of_pos h hp, fun h => by rw [h, Int.zero_mul]⟩
theorem sgI_range (x : Int) : -1 ≤ sgI x ∧ sgI x ≤ 1 := by unfold sgI; split <;> (try split) <;> omega
theorem cmp_signs {x y : Dy} : (sgI (sv x) < sgI (sv y) → sgI (qd x - qd y) = -1) ∧ (sgI (sv y) < sgI (sv x) → sgI (qd x - qd y) = 1) ∧ (sgI (sv x) = 0 → sgI (sv y) = 0 → sgI (qd x - qd y) = 0) := by
  obtain ⟨p1, p2, p3⟩ := qd_pos (d := x)
  obtain ⟨q1, q2, q3⟩ := qd_pos (d := y)
  have hx : (sgI (sv x) = -1 ∧ sv x < 0) ∨ (sgI (sv x) = 0 ∧ sv x = 0) ∨ (sgI (sv x) = 1 ∧ 0 < sv x) := by unfold sgI; split <;> (try split) <;> omega
  have hy : (sgI (sv y) = -1 ∧ sv y < 0) ∨ (sgI (sv y) = 0 ∧ sv y = 0) ∨ (sgI (sv y) = 1 ∧ 0 < sv y) := by unfold sgI; split <;> (try split) <;> omega
  rcases hx with ⟨e1, h1⟩ | ⟨e1, h1⟩ | ⟨e1, h1⟩ <;> rcases hy with ⟨e2, h2⟩ | ⟨e2, h2⟩ | ⟨e2, h2⟩ <;> rw [e1, e2] <;>
    refine ⟨fun h => ?_, fun h => ?_, fun h g => ?_⟩ <;> first
    | omega
    | (apply sg_of; first | (have := p1 h1; have := q1 h2; omega) | (have := p1 h1; have := q2 h2; omega) | (have := p1 h1; have := q3 h2; omega) | (have := p2 h1; have := q1 h2; omega) | (have := p2 h1; have := q3 h2; omega) | (have := p3 h1; have := q1 h2; omega))
    | (apply sg_of'; first | (have := p1 h1; have := q2 h2; omega) | (have := p1 h1; have := q3 h2; omega) | (have := p3 h1; have := q2 h2; omega))
    | (have a := p3 h1; have b := q3 h2; rw [a, b]; rfl)
theorem cmp_tops {x y : Dy} (hx : vl x.mag ≠ 0) (hy : vl y.mag ≠ 0) (h1 : -65536 ≤ x.exp) (h2 : -65536 ≤ y.exp) (hs : sgI (sv x) = sgI (sv y)) (ht : x.exp + (bl (vl x.mag) : Int) < y.exp + (bl (vl y.mag) : Int)) : sgI (qd x - qd y) = -sgI (sv x) ∧ sgI (qd y - qd x) = sgI (sv x) := by
  have bx := (bl_spec hx).2.1
  have by_ := (bl_spec hy).1
  have bp := bl_pos hy
  have key : vl x.mag * 2 ^ (x.exp + 65536).toNat < vl y.mag * 2 ^ (y.exp + 65536).toNat := by
    calc vl x.mag * 2 ^ (x.exp + 65536).toNat < 2 ^ bl (vl x.mag) * 2 ^ (x.exp + 65536).toNat := (Nat.mul_lt_mul_right (Nat.two_pow_pos _)).2 bx
      _ = 2 ^ (bl (vl x.mag) + (x.exp + 65536).toNat) := by rw [← Nat.pow_add]
      _ ≤ 2 ^ (bl (vl y.mag) - 1 + (y.exp + 65536).toNat) := Nat.pow_le_pow_right (by omega) (by omega)
      _ = 2 ^ (bl (vl y.mag) - 1) * 2 ^ (y.exp + 65536).toNat := by rw [Nat.pow_add]
      _ ≤ vl y.mag * 2 ^ (y.exp + 65536).toNat := Nat.mul_le_mul_right _ by_
  have k2 : (vl x.mag : Int) * 2 ^ (x.exp + 65536).toNat < (vl y.mag : Int) * 2 ^ (y.exp + 65536).toNat := by
    rw [← up_cast, ← up_cast]; omega
  have k0 : 0 ≤ (vl x.mag : Int) * 2 ^ (x.exp + 65536).toNat := Int.mul_nonneg (by omega) (Int.le_of_lt (pow_pos_int _))
  have qx : qd x = if x.neg then -((vl x.mag : Int) * 2 ^ (x.exp + 65536).toNat) else (vl x.mag : Int) * 2 ^ (x.exp + 65536).toNat := by
    unfold qd sv; cases x.neg <;> simp [Int.neg_mul]
  have qy : qd y = if y.neg then -((vl y.mag : Int) * 2 ^ (y.exp + 65536).toNat) else (vl y.mag : Int) * 2 ^ (y.exp + 65536).toNat := by
    unfold qd sv; cases y.neg <;> simp [Int.neg_mul]
  have sx : sgI (sv x) = if x.neg then -1 else 1 := by unfold sgI sv; cases x.neg <;> simp <;> omega
  have sy : sgI (sv y) = if y.neg then -1 else 1 := by unfold sgI sv; cases y.neg <;> simp <;> omega
  rw [sx, sy] at hs
  rw [qx, qy, sx]
  generalize (vl x.mag : Int) * 2 ^ (x.exp + 65536).toNat = P at *
  generalize (vl y.mag : Int) * 2 ^ (y.exp + 65536).toNat = Q at *
  cases hnx : x.neg <;> cases hny : y.neg <;> rw [hnx, hny] at hs <;> simp only [Bool.false_eq_true, if_false, if_true] at hs ⊢
  · exact ⟨sg_of k2, sg_of' k2⟩
  · omega
  · omega
  · exact ⟨sg_of' (by omega), sg_of (by omega)⟩
/-- The two boxes that Compare lays. -/
def W2 (w : World) (n1 n2 : Bool) (xs ys : List Nat) (ao bo : Option Addr) (cap bcap : Nat) (ex ey : Int) : World := (w.alloc (.cells #[.bool n1, .slice ao xs.length cap, .int .i64 ex] 56)).alloc (.cells #[.bool n2, .slice bo ys.length bcap, .int .i64 ey] 56)
theorem plus_cmp {x y z : Dy} (h1 : -65536 ≤ x.exp) (h2 : -65536 ≤ y.exp) (h : PlusV x ⟨!y.neg, y.mag, y.exp⟩ z) : sgI (sv z) = sgI (qd x - qd y) := by
  obtain ⟨_, he, hv⟩ := h
  have e := hv (-65536) h1 (by simp only; omega)
  have sy : sv ⟨!y.neg, y.mag, y.exp⟩ = -sv y := by unfold sv; cases y.neg <;> simp
  rw [sy] at e
  simp only at e
  have e2 : sv z * 2 ^ (z.exp - -65536).toNat = qd x - qd y := by
    rw [e, Int.neg_mul]; rfl
  rw [← e2, sg_mul]
end Go.Proofs.YtmbcmhncicbbjaaGreatDoor
