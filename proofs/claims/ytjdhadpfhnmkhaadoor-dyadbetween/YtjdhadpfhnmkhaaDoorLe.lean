/- DyadBetween for any dyad: made right, then by whether it fits. -/
import Derived.Test.YtjdhadpfhnmkhaaDoorZq
import Derived.Test.YtjdhadpfhnmkhaaDoorLb
import Derived.Test.YtjdhadpfhnmkhaaDoorLc
import Derived.Test.YtjdhadpfhnmkhaaDoorLd
namespace Go.Proofs.YtjdhadpfhnmkhaaDoor
open Go.RowKit

set_option maxHeartbeats 2000000 in
set_option maxRecDepth 100000 in
theorem btw_early (a d : Dy) (k : Int) (ao : Option Addr) (ac : Nat) (w : World) (ra : LRow w ao a.mag) (la : Lm a.mag) (sa : ao = none → ac = 0 ∧ a.mag.length = 0) (na : a.mag.length ≤ 17592186044416) (hT : TabW w)
    (hd : normD a = (d, k)) (hk : (k != 0) = true) :
    Calls Tryd.prog 6 #[.agg #[.bool a.neg, .slice ao a.mag.length ac, .int .i64 a.exp]] w fun e w' => e = .returned (.bool true) ∧ Below w.heap.size w w' := by
  have hno := fun o' c' w' hr' hT' => norm_any a o' c' w' hr' la hT' (by omega)
  rw [hd] at hno
  have hcp := fun w' hr' => copyDyad_any a ao ac w' hr' sa na
  clear hd sa
  go_enter Tryd.func6, Tryd.ntmps6
  go_upto_region 3 with (go_at_call 7; refine (awake_any _ (tabW_alloc hT _)).mono ?_; rintro e w1 ⟨rfl, hb1⟩)
  obtain ⟨⟨c0, c1, c2⟩, ho1⟩ := one_box hb1
  clear hb1
  have rq := ra.below ho1
  have hTq := tabW_below hT ho1
  go_wp2_with (first | (go_at_call 23; refine (hcp _ rq).mono ?_; rintro e w2 ⟨co', cc', rfl, hrc', _, hbc⟩) | (go_at_call 22; refine (hno co' cc' _ hrc' (tabW_below hTq hbc)).mono ?_; rintro e w3 ⟨xo, xc, rfl, hrx, hfx, hbx⟩))
  go_ret
  have hB' := hbc.trans (hbx.mono hbc.size)
  have hB'' := hB'.alloc hB'.size (dyO d xo xc)
  exact ⟨rfl, ho1.trans (hB''.mono ho1.size)⟩

theorem same_refl (x : Nat) : sameB x x = true := by unfold sameB; cases nanB x <;> simp
theorem btw_two {lo hi : Nat} (nl : nanB lo = false) (nh : nanB hi = false) (h : place hi = place lo + 1) : btwN lo hi = 1 ∧ btwB lo hi = true := by
  have e : btwB lo hi = true := by unfold btwB; rw [nl, nh]; simp; omega
  refine ⟨?_, e⟩
  unfold btwN; rw [e]; simp; omega
/-- The two ends' words next to each other, by the sign. -/
theorem ends_next {s : Nat} (h : s < 9218868437227405312) :
    (btwN s (s + 1) = 1 ∧ btwB s (s + 1) = true) ∧ (btwN (9223372036854775808 + (s + 1)) (9223372036854775808 + s) = 1 ∧ btwB (9223372036854775808 + (s + 1)) (9223372036854775808 + s) = true) := by
  have p1 : place s = s := place_small (by omega)
  have p2 : place (s + 1) = (s : Int) + 1 := by rw [place_small (by omega)]; omega
  have big : ∀ r, r < 9223372036854775808 → place (9223372036854775808 + r) = -(r : Int) ∧ rung (9223372036854775808 + r) = r := fun r hr => by
    have e1 : rung (9223372036854775808 + r) = r := by unfold rung; omega
    have e2 : sgn (9223372036854775808 + r) = true := by unfold sgn; simp
    exact ⟨by unfold place; rw [e1, e2]; rfl, e1⟩
  have nb : ∀ r, r ≤ 9218868437227405312 → nanB (9223372036854775808 + r) = false := fun r hr => by unfold nanB; rw [(big r (by omega)).2]; simp; omega
  refine ⟨btw_two (nan_small (by omega)) (nan_small (by omega)) (by rw [p1, p2]), btw_two (nb _ (by omega)) (nb _ (by omega)) ?_⟩
  rw [(big _ (by omega)).1, (big _ (by omega)).1]; omega

/-- What does not fit, its ends and its roundings told. -/
theorem btw_core (a d : Dy) (ao : Option Addr) (ac lo hi x z : Nat) (w : World) (ra : LRow w ao a.mag) (la : Lm a.mag) (sa : ao = none → ac = 0 ∧ a.mag.length = 0) (na : a.mag.length ≤ 17592186044416) (hT : TabW w)
    (hd : normD a = (d, 0)) (ld : Lm d.mag) (rd : rightB d = true) (h1 : rndW d 1 = lo) (h2 : rndW d 2 = hi) (h3 : rndW d 0 = x) (h4 : rndW d 3 = z) (hf : fitB d = false)
    (hlo : lo < 18446744073709551616) (hhi : hi < 18446744073709551616) (hx : x = lo ∨ x = hi) (tw : Nat) (htw : (sgD d < 0 ∧ tw = hi) ∨ (¬ sgD d < 0 ∧ tw = lo)) (hz : z = tw) (hb : btwN lo hi = 1 ∧ btwB lo hi = true)
    (hq : finB lo = true → finB hi = true → qd (ofD lo).1 < qd d ∧ qd d < qd (ofD hi).1 ∧ (qd d - qd (ofD lo).1 < qd (ofD hi).1 - qd d → x = lo) ∧ (qd (ofD hi).1 - qd d < qd d - qd (ofD lo).1 → x = hi)) :
    Calls Tryd.prog 6 #[.agg #[.bool a.neg, .slice ao a.mag.length ac, .int .i64 a.exp]] w fun e w' => e = .returned (.bool true) ∧ Below w.heap.size w w' := by
  have htl : tw < 18446744073709551616 := by rcases htw with ⟨_, h⟩ | ⟨_, h⟩ <;> omega
  have hxl : x < 18446744073709551616 := by rcases hx with h | h <;> omega
  have hlh : sameB x lo = false → sameB x hi = true := by
    intro h
    rcases hx with e | e
    · rw [e, same_refl] at h; cases h
    · rw [e]; exact same_refl _
  by_cases hfi : finB lo = true ∧ finB hi = true
  · obtain ⟨q1, q2, q3, q4⟩ := hq hfi.1 hfi.2
    obtain ⟨l1, l2, l3, l4, _⟩ := of_qd hfi.1
    obtain ⟨r1, r2, r3, r4, _⟩ := of_qd hfi.2
    have el : ofD lo = ((ofD lo).1, 0) := by rw [← l1]
    have er : ofD hi = ((ofD hi).1, 0) := by rw [← r1]
    refine btw_fin a d ao ac lo hi x z w ra la sa na hT hd ld rd h1 h2 h3 h4 hf hlo hhi hxl (by omega) (sgD d) tw htl rfl htw hb.1 hb.2 (by rw [hz]; exact same_refl _) (sameB x lo) (sameB x hi) rfl rfl hlh
      hfi.1 hfi.2 (ofD lo).1 (ofD hi).1 (subD d (ofD lo).1).1 (subD (ofD hi).1 d).1 (subD d (ofD lo).1).2 (subD (ofD hi).1 d).2 (sgI (qd d - qd (ofD lo).1 - (qd (ofD hi).1 - qd d))) el er l3 r3 (subD_lm _ _) (subD_lm _ _) l2 r2 ?_ ?_ rfl rfl ?_ ?_ ?_
    · unfold sgI; rw [if_pos (by omega)]
    · unfold sgI; rw [if_pos (by omega)]
    · intro e1 e2
      obtain ⟨s1, s2⟩ := sub_val rd l2 e1
      obtain ⟨s3, s4⟩ := sub_val r2 rd e2
      exact ⟨s1, s3, by rw [s2, s4]⟩
    · intro h
      rw [q3 (by have := (sgI_lt _).1 h; omega)]; exact same_refl _
    · intro h
      have h5 : ¬ (qd d - qd (ofD lo).1 - (qd (ofD hi).1 - qd d)) ≤ 0 := fun h6 => by have := (sgI_le _).2 h6; omega
      rw [q4 (by omega)]; exact same_refl _
  · refine btw_inf a d ao ac lo hi x z w ra la sa na hT hd ld rd h1 h2 h3 h4 hf hlo hhi hxl (by omega) (sgD d) tw htl rfl htw hb.1 hb.2 (by rw [hz]; exact same_refl _) (sameB x lo) (sameB x hi) rfl rfl hlh ?_
    cases g1 : finB lo
    · exact Or.inl rfl
    · cases g2 : finB hi
      · exact Or.inr rfl
      · exact absurd ⟨g1, g2⟩ hfi
end Go.Proofs.YtjdhadpfhnmkhaaDoor
