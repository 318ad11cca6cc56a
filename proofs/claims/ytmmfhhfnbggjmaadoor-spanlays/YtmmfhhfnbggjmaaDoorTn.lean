/- Hull and Meet of two right spans, as plain numbers: places alone. No program in this text. -/
import Derived.Test.YtmmfhhfnbggjmaaDoorZj
import Derived.Test.YtmmfhhfnbggjmaaDoorZg
namespace Go.Proofs.YtmmfhhfnbggjmaaDoor
open Go.RowKit

theorem lsF_two (a b : Nat) : lsF a b = a ∨ lsF a b = b := by unfold lsF; split; exact Or.inr rfl; exact Or.inl rfl
theorem grF_two (a b : Nat) : grF a b = a ∨ grF a b = b := by unfold grF; split; exact Or.inr rfl; exact Or.inl rfl
theorem key_place {a b : Nat} (na : nanB a = false) (nb : nanB b = false) (h : key a ≤ key b) : place a ≤ place b := by
  unfold key at h
  rw [na, nb] at h
  cases sgn a <;> cases sgn b <;> simp at h <;> omega
theorem lsF_place {a b : Nat} (na : nanB a = false) (nb : nanB b = false) : place (lsF a b) ≤ place a ∧ place (lsF a b) ≤ place b ∧ nanB (lsF a b) = false := by
  unfold lsF
  rw [ordF_key]
  by_cases h : key b < key a
  · rw [if_pos h, if_pos (by omega)]
    exact ⟨key_place nb na (by omega), Int.le_refl _, nb⟩
  · have h2 := key_place na nb (by omega)
    rw [if_neg h]
    by_cases g : key a < key b
    · rw [if_pos g, if_neg (by omega)]; exact ⟨Int.le_refl _, h2, na⟩
    · rw [if_neg g, if_neg (by omega)]; exact ⟨Int.le_refl _, h2, na⟩
theorem grF_place {a b : Nat} (na : nanB a = false) (nb : nanB b = false) : place a ≤ place (grF a b) ∧ place b ≤ place (grF a b) ∧ nanB (grF a b) = false := by
  unfold grF
  rw [ordF_key]
  by_cases h : key b < key a
  · rw [if_pos h, if_neg (by omega)]
    exact ⟨Int.le_refl _, key_place nb na (by omega), na⟩
  · have h2 := key_place na nb (by omega)
    rw [if_neg h]
    by_cases g : key a < key b
    · rw [if_pos g, if_pos (by omega)]; exact ⟨h2, Int.le_refl _, nb⟩
    · rw [if_neg g, if_neg (by omega)]
      have h3 := key_place nb na (by omega)
      exact ⟨Int.le_refl _, h3, na⟩
theorem sRt_place {l h : Nat} (hl : l < 18446744073709551616) (hh : h < 18446744073709551616) (nl : nanB l = false) (nh : nanB h = false) : sRt l h = (decide (place l ≤ place h) && decide (place l ≤ 9218868437227405311) && decide (-9218868437227405311 ≤ place h)) := by
  unfold sRt
  rw [leF_num hl hh nl nh, leF_num hl (by omega) nl (by decide), geF_num hh (by omega) nh (by decide), show place 9218868437227405311 = 9218868437227405311 by decide, show place 18442240474082181119 = -9218868437227405311 by decide]
theorem rt_place {l h : Nat} (hl : l < 18446744073709551616) (hh : h < 18446744073709551616) (r : sRt l h = true) : nanB l = false ∧ nanB h = false ∧ place l ≤ place h ∧ place l ≤ 9218868437227405311 ∧ -9218868437227405311 ≤ place h := by
  have nl : nanB l = false := by
    cases n : nanB l
    · rfl
    · rw [sRt_nan hl hh (Or.inl n)] at r; cases r
  have nh : nanB h = false := by
    cases n : nanB h
    · rfl
    · rw [sRt_nan hl hh (Or.inr n)] at r; cases r
  rw [sRt_place hl hh nl nh] at r
  simp at r
  exact ⟨nl, nh, r.1.1, r.1.2, r.2⟩
/-- The hull: right, both lie in it, its ends are ends. -/
theorem hull_facts {a b c d : Nat} (ha : a < 18446744073709551616) (hb : b < 18446744073709551616) (hc : c < 18446744073709551616) (hd : d < 18446744073709551616) (ra : sRt a b = true) (rb : sRt c d = true) :
    (sRt a b && sRt (lsF a c) (grF b d) && leF (lsF a c) a && leF b (grF b d)) = true ∧ (sRt c d && sRt (lsF a c) (grF b d) && leF (lsF a c) c && leF d (grF b d)) = true := by
  obtain ⟨na, nb, a1, a2, a3⟩ := rt_place ha hb ra
  obtain ⟨nc, nd, b1, b2, b3⟩ := rt_place hc hd rb
  obtain ⟨l1, l2, l3⟩ := lsF_place na nc
  obtain ⟨g1, g2, g3⟩ := grF_place nb nd
  have hl := lsF_lt ha hc
  have hg := grF_lt hb hd
  have e : sRt (lsF a c) (grF b d) = true := by
    rw [sRt_place hl hg l3 g3]; simp; omega
  rw [ra, rb, e, leF_num hl ha l3 na, leF_num hb hg nb g3, leF_num hl hc l3 nc, leF_num hd hg nd g3]
  simp; omega
/-- Where they have nothing in common. -/
theorem meet_none {a b c d x : Nat} (ha : a < 18446744073709551616) (hb : b < 18446744073709551616) (hc : c < 18446744073709551616) (hd : d < 18446744073709551616) (hx : x < 18446744073709551616) (ra : sRt a b = true) (rb : sRt c d = true) (o : (FloatKind.f64.format.order (grF a c) (lsF b d) == some .gt) = true) :
    ((sRt a b && finB x && leF a x && leF x b) && (sRt c d && finB x && leF c x && leF x d)) = false ∧ ((FloatKind.f64.format.order b c == some .lt) || (FloatKind.f64.format.order d a == some .lt)) = true := by
  obtain ⟨na, nb, a1, a2, a3⟩ := rt_place ha hb ra
  obtain ⟨nc, nd, b1, b2, b3⟩ := rt_place hc hd rb
  obtain ⟨g1, g2, g3⟩ := grF_place na nc
  obtain ⟨l1, l2, l3⟩ := lsF_place nb nd
  rw [gt_num (grF_lt ha hc) (lsF_lt hb hd) g3 l3] at o
  have o' : place (lsF b d) < place (grF a c) := by simpa using o
  have e1 := grF_two a c
  have e2 := lsF_two b d
  have key : place b < place c ∨ place d < place a := by
    rcases e1 with h | h <;> rcases e2 with g | g <;> rw [h, g] at o' <;> rw [h] at g1 g2 <;> rw [g] at l1 l2 <;> omega
  refine ⟨?_, ?_⟩
  · rw [ra, rb]
    cases fx : finB x
    · simp
    · have nx : nanB x = false := (by have h := fin_rung fx; unfold nanB; simp; omega)
      rw [leF_num ha hx na nx, leF_num hx hb nx nb, leF_num hc hx nc nx, leF_num hx hd nx nd]
      simp; omega
  · rw [lt_num hb hc nb nc, lt_num hd ha nd na]
    simp; exact key
/-- What they have in common. -/
theorem meet_facts {a b c d x : Nat} (ha : a < 18446744073709551616) (hb : b < 18446744073709551616) (hc : c < 18446744073709551616) (hd : d < 18446744073709551616) (hx : x < 18446744073709551616) (ra : sRt a b = true) (rb : sRt c d = true) (o : (FloatKind.f64.format.order (grF a c) (lsF b d) == some .gt) = false) :
    (sRt (grF a c) (lsF b d) && finB x && leF (grF a c) x && leF x (lsF b d)) = ((sRt a b && finB x && leF a x && leF x b) && (sRt c d && finB x && leF c x && leF x d)) ∧
    (sRt (grF a c) (lsF b d) && sRt a b && leF a (grF a c) && leF (lsF b d) b) = true ∧ (sRt (grF a c) (lsF b d) && sRt c d && leF c (grF a c) && leF (lsF b d) d) = true := by
  obtain ⟨na, nb, a1, a2, a3⟩ := rt_place ha hb ra
  obtain ⟨nc, nd, b1, b2, b3⟩ := rt_place hc hd rb
  obtain ⟨g1, g2, g3⟩ := grF_place na nc
  obtain ⟨l1, l2, l3⟩ := lsF_place nb nd
  have hg := grF_lt ha hc
  have hl := lsF_lt hb hd
  rw [gt_num hg hl g3 l3] at o
  have o' : place (grF a c) ≤ place (lsF b d) := by simpa using o
  have e1 := grF_two a c
  have e2 := lsF_two b d
  have p1 : place (grF a c) = place a ∨ place (grF a c) = place c := by rcases e1 with h | h <;> rw [h] <;> simp
  have p2 : place (lsF b d) = place b ∨ place (lsF b d) = place d := by rcases e2 with h | h <;> rw [h] <;> simp
  have e : sRt (grF a c) (lsF b d) = true := by
    rw [sRt_place hg hl g3 l3]; simp; omega
  rw [ra, rb, e, leF_num ha hg na g3, leF_num hl hb l3 nb, leF_num hc hg nc g3, leF_num hl hd l3 nd]
  refine ⟨?_, by simp; omega, by simp; omega⟩
  cases fx : finB x
  · simp
  · have nx : nanB x = false := (by have h := fin_rung fx; unfold nanB; simp; omega)
    rw [leF_num hg hx g3 nx, leF_num hx hl nx l3, leF_num ha hx na nx, leF_num hx hb nx nb, leF_num hc hx nc nx, leF_num hx hd nx nd, Bool.eq_iff_iff]
    simp; omega
/-- A float that is no NaN is itself; an end of the hull is one of both. -/
theorem ends_are {a c v : Nat} (ha : a < 18446744073709551616) (hc : c < 18446744073709551616) (na : nanB a = false) (nc : nanB c = false) (h : v = a ∨ v = c) : ((FloatKind.f64.format.order v a != some .eq) && (FloatKind.f64.format.order v c != some .eq)) = false := by
  have s : ∀ x, x < 18446744073709551616 → nanB x = false → (FloatKind.f64.format.order x x != some .eq) = false := by
    intro x hx nx
    have := eq_num hx hx nx nx
    rw [decide_eq_true rfl] at this
    simpa using this
  rcases h with rfl | rfl
  · rw [s _ ha na]; rfl
  · rw [s _ hc nc]; simp
end Go.Proofs.YtmmfhhfnbggjmaaDoor
