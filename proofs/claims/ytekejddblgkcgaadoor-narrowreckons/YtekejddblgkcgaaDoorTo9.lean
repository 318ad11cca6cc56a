/- What the document's odd, Add, Sub, Mul, Div and Sqrt answer of any narrow floats. -/
import Derived.Test.YtekejddblgkcgaaDoorTo8
import Derived.Test.YtekejddblgkcgaaDoorTo4
namespace Go.Proofs.YtekejddblgkcgaaDoor
open Go.RowKit

/-- The document's odd, plain. -/
def oddF (s r : Nat) : Nat := if nanB s = true ∨ nanB r = true ∨ rung r = 0 ∨ finB s = false ∨ rung s % 2 = 1 then s else nextF s (decide (0 < place r))
theorem odd_same {v r : Nat} (hv : v < 18446744073709551616) (nv : nanB v = false) (h : nanB r = false → rung r ≠ 0 → finB v = true → ¬ Mid2 (rung v) ∧ rung v ≠ 0) : nrW (oddF v r) = nrW v ∧ nanB (oddF v r) = false ∧ oddF v r < 18446744073709551616 := by
  unfold oddF
  by_cases c : nanB v = true ∨ nanB r = true ∨ rung r = 0 ∨ finB v = false ∨ rung v % 2 = 1
  · rw [if_pos c]; exact ⟨rfl, nv, hv⟩
  · rw [if_neg c]
    have c2 : nanB r = false := by cases hn : nanB r; rfl; exact absurd (Or.inr (Or.inl hn)) c
    have c3 : rung r ≠ 0 := fun e => c (Or.inr (Or.inr (Or.inl e)))
    have c4 : finB v = true := by cases hn : finB v; exact absurd (Or.inr (Or.inr (Or.inr (Or.inl hn)))) c; rfl
    have c5 : ¬ rung v % 2 = 1 := fun e => c (Or.inr (Or.inr (Or.inr (Or.inr e))))
    obtain ⟨h1, h2⟩ := h c2 c3 c4
    have hf := fin_rung c4
    obtain ⟨u, hu⟩ : ∃ u, decide (0 < place r) = u := ⟨_, rfl⟩
    rw [hu]
    have hn : place (nextF v u) = (if u then place v + 1 else place v - 1) ∧ nanB (nextF v u) = false ∧ nextF v u < 18446744073709551616 := by
      have hp : -9218868437227405312 < place v - 1 ∧ place v + 1 < 9218868437227405312 := by unfold place; split <;> omega
      cases u
      · obtain ⟨n1, n2, n3⟩ := next_dn nv
        exact ⟨by rw [n1]; simp only [Bool.false_eq_true, if_false]; omega, n2, n3⟩
      · obtain ⟨n1, n2, n3⟩ := next_up nv
        exact ⟨by rw [n1]; simp only [if_true]; omega, n2, n3⟩
    obtain ⟨n1, n2, n3⟩ := hn
    obtain ⟨q, hq⟩ : ∃ q, nextF v u = q := ⟨_, rfl⟩
    rw [hq] at n1 n2 n3 ⊢
    have hsq : sgn q = sgn v ∧ (rung q = rung v + 1 ∨ rung v = rung q + 1) := by
      unfold place at n1
      cases hs : sgn v <;> cases ht : sgn q <;> cases u <;> rw [hs, ht] at n1 <;> simp only [Bool.false_eq_true, if_false, if_true] at n1 <;> refine ⟨by first | rfl | (exfalso; omega), by omega⟩
    have q0 : rung q ≠ 0 := by omega
    have qf : finB q = true := by unfold finB; simp; omega
    have e := nwr_near h2 q0 hsq.2 h1 (mid_step (by omega) hsq.2)
    refine ⟨?_, n2, n3⟩
    unfold nrW
    rw [hsq.1, if_neg q0, if_neg h2, qf, c4, e]
theorem ne_nan {r : Nat} (hr : r < 18446744073709551616) : (FloatKind.f64.format.order r r != some .eq) = nanB r := by
  cases hn : nanB r
  · have := eq_num hr hr hn hn
    rw [bne, this]; simp
  · rw [ord_nan hr hr (Or.inl hn)]; rfl
theorem plc_num {s : Nat} (h : nanB s = false) : plc s = place s := by unfold plc; rw [h]; rfl
set_option maxHeartbeats 1000000 in
theorem odd_any (s r : Nat) (hs : s < 18446744073709551616) (hr : r < 18446744073709551616) (w : World) :
    Calls Tryd.prog 35 #[.float .f64 s, .float .f64 r] w fun e w' => e = .returned (.float .f64 (oddF s r)) ∧ w' = w := by
  have h1 := ne_nan hr
  have HP := fun w => rplace_any s hs w
  have HF := fun w => rfinite_any s hs w
  obtain ⟨T, hT⟩ : ∃ T, oddF s r = T := ⟨_, rfl⟩
  rw [hT]
  have HT : Hid (oddF s r = T) := hT
  clear hT
  have stay : nanB s = true ∨ nanB r = true ∨ rung r = 0 ∨ finB s = false ∨ rung s % 2 = 1 → T = s := fun c => by rw [← HT.out]; unfold oddF; rw [if_pos c]
  cases ns : nanB s
  · rw [ns] at HP
    simp only [Bool.not_false] at HP
    cases nr : nanB r
    · rw [nr] at h1
      by_cases z : rung r = 0
      · have q0 : (FloatKind.f64.format.order r 0 == some .eq) = true := by
          rw [eq_num hr (by omega) nr (by decide), decide_eq_true_iff]
          unfold place
          rw [show sgn 0 = false from rfl, show rung 0 = 0 from rfl, z]
          split <;> rfl
        have e := stay (Or.inr (Or.inr (Or.inl z)))
        have HE : Hid (T = s) := e
        clear stay e z
        go_enter Tryd.func35, Tryd.ntmps35
        go_wp2_with (first | (go_at_call 56; refine (HP _).mono ?_; rintro e w' ⟨rfl, rfl⟩) | (go_at_call 26; refine (HF _).mono ?_; rintro e w' ⟨rfl, rfl⟩))
        go_ret
        exact ⟨end_flt HE.out.symm, rfl⟩
      · have q0 : (FloatKind.f64.format.order r 0 == some .eq) = false := by
          rw [eq_num hr (by omega) nr (by decide), decide_eq_false_iff_not]
          unfold place
          rw [show sgn 0 = false from rfl, show rung 0 = 0 from rfl]
          simp
          split <;> omega
        cases fs : finB s
        · rw [fs] at HF
          have e := stay (Or.inr (Or.inr (Or.inr (Or.inl fs))))
          have HE : Hid (T = s) := e
          clear stay e z
          go_enter Tryd.func35, Tryd.ntmps35
          go_wp2_with (first | (go_at_call 56; refine (HP _).mono ?_; rintro e w' ⟨rfl, rfl⟩) | (go_at_call 26; refine (HF _).mono ?_; rintro e w' ⟨rfl, rfl⟩))
          go_ret
          exact ⟨end_flt HE.out.symm, rfl⟩
        · rw [fs] at HF
          have hpp := plc_num ns
          have hb : -9218868437227405312 ≤ place s ∧ place s ≤ 9218868437227405312 := by
            have := fin_rung fs
            unfold place; split <;> omega
          rw [hpp] at HP
          have hmod : ((place s).tmod 2 != 0) = decide (rung s % 2 = 1) := by
            have e0 : ((rung s : Nat) : Int).tmod 2 = ((rung s : Nat) : Int) % 2 := Int.tmod_eq_emod_of_nonneg (by omega)
            rw [Bool.eq_iff_iff]
            unfold place
            cases sgn s
            · simp only [Bool.false_eq_true, if_false, e0]; simp; omega
            · simp only [if_true, Int.neg_tmod, e0]; simp; omega
          obtain ⟨p, hp⟩ : ∃ p, place s = p := ⟨_, rfl⟩
          rw [hp] at HP hb hmod
          by_cases ev : rung s % 2 = 1
          · have hm2 : (p.tmod 2 != 0) = true := by rw [hmod]; exact decide_eq_true ev
            have e := stay (Or.inr (Or.inr (Or.inr (Or.inr ev))))
            have HE : Hid (T = s) := e
            clear stay e z hmod ev hp hpp
            go_enter Tryd.func35, Tryd.ntmps35
            go_wp2_with (first | (go_at_call 56; refine (HP _).mono ?_; rintro e w' ⟨rfl, rfl⟩) | (go_at_call 26; refine (HF _).mono ?_; rintro e w' ⟨rfl, rfl⟩))
            go_ret
            exact ⟨end_flt HE.out.symm, rfl⟩
          · have hm2 : (p.tmod 2 != 0) = false := by rw [hmod]; exact decide_eq_false ev
            have hg := gt_num hr (show 0 < 18446744073709551616 by omega) nr (show nanB 0 = false by decide)
            rw [show place 0 = 0 from rfl] at hg
            have e : T = nextF s (decide (0 < place r)) := by
              rw [← HT.out]; unfold oddF
              rw [if_neg]
              rintro (g | g | g | g | g)
              · rw [ns] at g; cases g
              · rw [nr] at g; cases g
              · exact z g
              · rw [fs] at g; cases g
              · exact ev g
            generalize decide (0 < place r) = u at *
            have HE : Hid (T = nextF s u) := e
            clear stay e z hmod ev hp hpp
            go_enter Tryd.func35, Tryd.ntmps35
            go_wp2_with (first | (go_at_call 56; refine (HP _).mono ?_; rintro e w' ⟨rfl, rfl⟩) | (go_at_call 26; refine (HF _).mono ?_; rintro e w' ⟨rfl, rfl⟩) | (go_at_call 57; refine (rnext_any _ _ hs _).mono ?_; rintro e w' ⟨rfl, rfl⟩))
            go_ret
            exact ⟨end_flt HE.out.symm, rfl⟩
    · rw [nr] at h1
      have q0 : (FloatKind.f64.format.order r 0 == some .eq) = false := by
        rw [ord_nan hr (by omega) (Or.inl nr)]; rfl
      have e := stay (Or.inr (Or.inl nr))
      have HE : Hid (T = s) := e
      clear stay e
      go_enter Tryd.func35, Tryd.ntmps35
      go_wp2_with (first | (go_at_call 56; refine (HP _).mono ?_; rintro e w' ⟨rfl, rfl⟩) | (go_at_call 26; refine (HF _).mono ?_; rintro e w' ⟨rfl, rfl⟩))
      go_ret
      exact ⟨end_flt HE.out.symm, rfl⟩
  · rw [ns] at HP
    simp only [Bool.not_true] at HP
    have e := stay (Or.inl ns)
    have HE : Hid (T = s) := e
    clear stay e
    go_enter Tryd.func35, Tryd.ntmps35
    go_wp2_with (first | (go_at_call 56; refine (HP _).mono ?_; rintro e w' ⟨rfl, rfl⟩) | (go_at_call 26; refine (HF _).mono ?_; rintro e w' ⟨rfl, rfl⟩))
    go_ret
    exact ⟨end_flt HE.out.symm, rfl⟩
end Go.Proofs.YtekejddblgkcgaaDoor
