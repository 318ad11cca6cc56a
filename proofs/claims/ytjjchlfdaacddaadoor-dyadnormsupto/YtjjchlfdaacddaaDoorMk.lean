/- What the reference's Plus answers, of any two numbers; Compare. -/
import Derived.Test.YtjjchlfdaacddaaDoorMj
namespace Go.Proofs.YtjjchlfdaacddaaDoor
open Go.RowKit

theorem row_blk {w : World} {ao : Option Addr} {xs : List Nat} (h : LRow w ao xs) {p : Addr} (e : ao = some p) (h0 : ¬ xs.length = 0) : p.block < w.heap.size := by
  rcases h with h | ⟨b', off', e', hc⟩
  · exact absurd h h0
  · rw [e] at e'
    cases e'
    exact World.block_lt_of_cell? w _ (hc 0 (by omega))
set_option maxHeartbeats 2000000 in
theorem plus_gt (a b : Dy) (k : Nat) (ao bo : Option Addr) (cap bcap : Nat) (w : World) (hr : NS w ao cap a.mag) (hs : NS w bo bcap b.mag) (hL : Lm a.mag) (hM : Lm b.mag) (hn : a.mag.length ≤ 1000000) (hm : b.mag.length ≤ 1000000) (hza : vl a.mag ≠ 0) (hzb : vl b.mag ≠ 0) (hk : a.exp = b.exp + k) (hk0 : 0 < k) (hk2 : k ≤ 2000000) (ha1 : -1000000 ≤ b.exp) (ha2 : b.exp ≤ 1000000) :
    Calls Tryd.prog 66 #[.agg #[.bool a.neg, .slice ao a.mag.length cap, .int .i64 a.exp], .agg #[.bool b.neg, .slice bo b.mag.length bcap, .int .i64 b.exp]] w (GaveS w ao bo a b) := by
  have hZ := fun w' (h : NS w' ao cap a.mag) => zero_any a ao cap w' h hL (by omega)
  have hY := fun w' (h : NS w' bo bcap b.mag) => zero_any b bo bcap w' h hM (by omega)
  have e0 : (vl a.mag == 0) = false := by simpa using hza
  have e1 : (vl b.mag == 0) = false := by simpa using hzb
  rw [e0] at hZ
  rw [e1] at hY
  have hP := fun w' (h1 : NS w' bo bcap b.mag) (h2 : NS w' ao cap a.mag) => plus_le b a k bo ao bcap cap w' h1 h2 hM hL hm hn hzb hza hk hk2 ha1 ha2
  have HS : Hid (∀ z, PlusV b a z → PlusV a b z) := fun z h => plusV_swap h
  have q1 : ∀ p, ao = some p → p.block < w.heap.size := fun p e => row_blk hr.1 e (fun h => hza (by rw [List.eq_nil_of_length_eq_zero h]; rfl))
  have q2 : ∀ p, bo = some p → p.block < w.heap.size := fun p e => row_blk hs.1 e (fun h => hzb (by rw [List.eq_nil_of_length_eq_zero h]; rfl))
  obtain ⟨n1, xs, ex⟩ := a
  obtain ⟨n2, ys, ey⟩ := b
  simp only at *
  have hgt : ey < ex := by omega
  clear hza hzb e0 e1 hk
  go_enter Tryd.func66, Tryd.ntmps66
  go_wp2_with (first
    | (go_at_call_of 81 (Value.agg #[.bool n1, .slice ao xs.length cap, .int .i64 ex]); refine (hZ _ (hr.below al3)).mono ?_; rintro e w1 ⟨rfl, b1⟩; obtain ⟨⟨c0, c1, c2⟩, ⟨d0, d1, d2⟩, ⟨e0, e1, e2⟩, ⟨k0, k1, k2⟩, hB0⟩ := bx3 b1)
    | (go_at_call_of 81 (Value.agg #[.bool n2, .slice bo ys.length bcap, .int .i64 ey]); refine (hY _ (hs.below hB0)).mono ?_; rintro e w2 ⟨rfl, b2⟩; have B2 := b1.trans (b2.mono b1.size); clear c0 c1 c2 d0 d1 d2 e0 e1 e2 k0 k1 k2; obtain ⟨⟨c0, c1, c2⟩, ⟨d0, d1, d2⟩, ⟨e0, e1, e2⟩, ⟨k0, k1, k2⟩, hB2⟩ := bx3 B2)
    | (go_at_call 66; refine (hP _ (hs.below hB2) (hr.below hB2)).mono ?_; rintro e w3 ⟨⟨zn, zm, ze⟩, ao3, cap3, rfl, hv, hzl, hbk, u3, b3⟩; have B3 := B2.trans (b3.mono B2.size); clear c0 c1 c2 d0 d1 d2 e0 e1 e2 k0 k1 k2; obtain ⟨⟨c0, c1, c2⟩, ⟨d0, d1, d2⟩, ⟨e0, e1, e2⟩, ⟨k0, k1, k2⟩, hB3⟩ := bx3 B3))
  refine bodyPost_ret (v := .agg #[.bool zn, .slice ao3 zm.length cap3, .int .i64 ze]) (by simp [results, Tryd.results66, go_sem, e0, e1, e2]) rfl ⟨⟨zn, zm, ze⟩, ao3, cap3, rfl, HS.out _ hv, ⟨by have := hzl.1; simp only at this ⊢; omega, hzl.2.imp (fun h => ⟨h.1, h.2.mono (by have := hB2.size; omega)⟩) Or.symm⟩, ?_, ?_, ((hB3.setCell (by simp; omega) _).setCell (by simp; omega) _).setCell (by simp; omega) _⟩
  · intro N g1 g2 p e hl
    rcases hbk N g2 g1 p e hl with h | h
    · exact Or.inl h
    · exact Or.inr (by have := hB2.size; omega)
  · have hne : ∀ x off, ao3 = some ⟨x, off, none⟩ → zm.length ≠ 0 → x ≠ w.heap.size + 1 + 1 := fun x off e hl => by
      have hs2 := B2.size
      simp at hs2
      rcases hbk w.heap.size (fun p e _ => q2 p e) (fun p e _ => q1 p e) _ e hl with h | h
      · show x ≠ _
        have h' : x < w.heap.size := h
        omega
      · show x ≠ _
        have h' : w2.heap.size ≤ x := h
        omega
    exact ⟨((u3.1.setCell _ hne).setCell _ hne).setCell _ hne, u3.2⟩
theorem plus_any (a b : Dy) (ao bo : Option Addr) (cap bcap : Nat) (w : World) (hr : NS w ao cap a.mag) (hs : NS w bo bcap b.mag) (hL : Lm a.mag) (hM : Lm b.mag) (hn : a.mag.length ≤ 1000000) (hm : b.mag.length ≤ 1000000) (ha1 : -1000000 ≤ a.exp) (ha2 : a.exp ≤ 1000000) (hb1 : -1000000 ≤ b.exp) (hb2 : b.exp ≤ 1000000) :
    Calls Tryd.prog 66 #[.agg #[.bool a.neg, .slice ao a.mag.length cap, .int .i64 a.exp], .agg #[.bool b.neg, .slice bo b.mag.length bcap, .int .i64 b.exp]] w (GaveS w ao bo a b) := by
  by_cases hza : vl a.mag = 0
  · exact plus_zero a b ao bo cap bcap w hr hs hL hM hn hm (Or.inl hza)
  · by_cases hzb : vl b.mag = 0
    · exact plus_zero a b ao bo cap bcap w hr hs hL hM hn hm (Or.inr hzb)
    · by_cases hle : a.exp ≤ b.exp
      · exact plus_le a b (b.exp - a.exp).toNat ao bo cap bcap w hr hs hL hM hn hm hza hzb (by omega) (by omega) ha1 ha2
      · exact plus_gt a b (a.exp - b.exp).toNat ao bo cap bcap w hr hs hL hM hn hm hza hzb (by omega) (by omega) (by omega) hb1 hb2
end Go.Proofs.YtjjchlfdaacddaaDoor
