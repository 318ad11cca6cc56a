/- What both sides tell of two ratios, as one; is; ratios that are lent and kept. (Written by mkrx3.py.) -/
import Derived.Test.YtnclddfljghebaaGreatDoorRx0
import Derived.Test.YtnclddfljghebaaGreatDoorRx2
import Derived.Test.YtnclddfljghebaaGreatDoorMb
namespace Go.Proofs.YtnclddfljghebaaGreatDoor
open Go.RowKit

/-- Where a ratio's limbs lie. -/
structure RtS (w : World) (ao : Option Addr) (ac : Nat) (xs : List Nat) (bo : Option Addr) (bc : Nat) (ys : List Nat) : Prop where
  n : LS w ao ac xs
  d : LS w bo bc ys
theorem RtS.below {w w' : World} {ao bo : Option Addr} {ac bc : Nat} {xs ys : List Nat} (h : RtS w ao ac xs bo bc ys) (hb : Below w.heap.size w w') : RtS w' ao ac xs bo bc ys := ⟨h.n.below hb, h.d.below hb⟩
theorem toT_len {q : Option (Bool × Nat × Nat) × Int} {n : Bool} {N D : Nat} {er : Int} (hq : toT q = ((n, N, D), er)) (h : ∀ r, q.1 = some r → RqB r.1 r.2.1 r.2.2) : nl N ≤ 256 ∧ nl D ≤ 256 := by
  obtain ⟨o, k⟩ := q
  cases o with
  | none =>
    unfold toT at hq
    simp only [Prod.mk.injEq] at hq
    obtain ⟨⟨rfl, rfl, rfl⟩, rfl⟩ := hq
    exact ⟨by decide, by decide⟩
  | some r =>
    obtain ⟨a, b, c⟩ := r
    unfold toT at hq
    simp only [Prod.mk.injEq] at hq
    obtain ⟨⟨rfl, rfl, rfl⟩, rfl⟩ := hq
    have := h _ rfl
    exact ⟨this.n, this.d⟩
theorem nm_len {s : Bool} {Z Q : Nat} {n : Bool} {N D : Nat} {er : Int} (hq : toT (nmA s Z Q) = ((n, N, D), er)) : nl N ≤ 256 ∧ nl D ≤ 256 :=
  toT_len hq (fun r h => by
    obtain ⟨a, b, c⟩ := r
    exact nmA_right (er := (nmA s Z Q).2) (by rw [← h]))
theorem toT_eq (q : Option (Bool × Nat × Nat) × Int) : ∃ n N D er, toT q = ((n, N, D), er) := ⟨_, _, _, _, rfl⟩
/-- One ratio told by both sides. -/
structure Both7 (p d : World → (Ending → World → Prop) → Prop) (n : Bool) (N D : Nat) (er : Int) : Prop where
  kn : nl N ≤ 256
  kd : nl D ≤ 256
  p : ∀ w, p w (GaveV w n N D er)
  d : ∀ w, d w (GaveV w n N D er)
theorem add_both (n1 n2 : Bool) (xs ys us vs : List Nat) (hL1 : Lm xs) (hM1 : Lm ys) (hL2 : Lm us) (hM2 : Lm vs) (l1 : xs.length ≤ 300) (l2 : ys.length ≤ 300) (l3 : us.length ≤ 300) (l4 : vs.length ≤ 300) (ao1 bo1 ao2 bo2 po1 qo1 po2 qo2 : Option Addr) (ac1 bc1 ac2 bc2 pc1 qc1 pc2 qc2 : Nat) :
    ∃ (n : Bool) (N D : Nat) (er : Int), nl N ≤ 256 ∧ nl D ≤ 256 ∧ (∀ W, RtS W po1 pc1 xs qo1 qc1 ys → RtS W po2 pc2 us qo2 qc2 vs → TabW W → Calls Tryz.prog 20 #[.agg #[.bool n1, .slice po1 xs.length pc1, .slice qo1 ys.length qc1], .agg #[.bool n2, .slice po2 us.length pc2, .slice qo2 vs.length qc2]] W (GaveV W n N D er)) ∧ (∀ W, RtS W ao1 ac1 xs bo1 bc1 ys → RtS W ao2 ac2 us bo2 bc2 vs → Calls Tryz.prog 21 #[.agg #[.bool n1, .slice ao1 xs.length ac1, .slice bo1 ys.length bc1], .agg #[.bool n2, .slice ao2 us.length ac2, .slice bo2 vs.length bc2]] W (GaveV W n N D er)) := by
  cases hR : rtB n1 xs ys
  · exact ⟨false, 0, 0, 2, by decide, by decide, fun W a b hW => (raddw7_any n1 n2 xs ys us vs po1 qo1 po2 qo2 pc1 qc1 pc2 qc2 W a.n.1 a.d.1 hL1 hM1 hW hR).mono fun _ _ h => gaveV_of (q := (none, 2)) rfl h, fun W a b => daddw7_any n1 n2 xs ys us vs ao1 bo1 ao2 bo2 ac1 bc1 ac2 bc2 W (ls_ns a.n) (ls_ns a.d) (ls_ns b.n) (ls_ns b.d) hL1 hM1 hL2 hM2 l1 l2 l3 l4 hR⟩
  · cases hQ : rtB n2 us vs
    · exact ⟨false, 0, 0, 2, by decide, by decide, fun W a b hW => (raddx7_any n1 n2 xs ys us vs po1 qo1 po2 qo2 pc1 qc1 pc2 qc2 W a.n.1 a.d.1 hL1 hM1 hW hL2 hM2 b.n.1 b.d.1 hR hQ).mono fun _ _ h => gaveV_of (q := (none, 2)) rfl h, fun W a b => daddx7_any n1 n2 xs ys us vs ao1 bo1 ao2 bo2 ac1 bc1 ac2 bc2 W (ls_ns a.n) (ls_ns a.d) (ls_ns b.n) (ls_ns b.d) hL1 hM1 hL2 hM2 l1 l2 l3 l4 hR hQ⟩
    · obtain ⟨ex, ey, R1⟩ := rt_right hL1 hM1 hR
      obtain ⟨eu, ev, R2⟩ := rt_right hL2 hM2 hQ
      obtain ⟨rn, rN, rD, er, ht⟩ := toT_eq (nmA (smQ n1 n2 (vl xs * vl vs) (vl us * vl ys)).1 (smQ n1 n2 (vl xs * vl vs) (vl us * vl ys)).2 (vl ys * vl vs))
      obtain ⟨k1, k2⟩ := nm_len ht
      exact ⟨rn, rN, rD, er, k1, k2, fun W a b hW => by
        have := raddr_any n1 n2 (vl xs) (vl ys) (vl us) (vl vs) po1 qo1 po2 qo2 pc1 qc1 pc2 qc2 W (ex ▸ a.n) (ey ▸ a.d) (eu ▸ b.n) (ev ▸ b.d) hW R1 R2
        rw [← lo_length, ← lo_length, ← lo_length, ← lo_length, ← ex, ← ey, ← eu, ← ev] at this
        exact this.mono fun _ _ h => gaveV_of ht h, fun W a b => daddy7_any n1 n2 xs ys us vs ao1 bo1 ao2 bo2 ac1 bc1 ac2 bc2 W (ls_ns a.n) (ls_ns a.d) (ls_ns b.n) (ls_ns b.d) hL1 hM1 hL2 hM2 l1 l2 l3 l4 hR hQ ht⟩
theorem sub_both (n1 n2 : Bool) (xs ys us vs : List Nat) (hL1 : Lm xs) (hM1 : Lm ys) (hL2 : Lm us) (hM2 : Lm vs) (l1 : xs.length ≤ 300) (l2 : ys.length ≤ 300) (l3 : us.length ≤ 300) (l4 : vs.length ≤ 300) (ao1 bo1 ao2 bo2 po1 qo1 po2 qo2 : Option Addr) (ac1 bc1 ac2 bc2 pc1 qc1 pc2 qc2 : Nat) :
    ∃ (n : Bool) (N D : Nat) (er : Int), nl N ≤ 256 ∧ nl D ≤ 256 ∧ (∀ W, RtS W po1 pc1 xs qo1 qc1 ys → RtS W po2 pc2 us qo2 qc2 vs → TabW W → Calls Tryz.prog 22 #[.agg #[.bool n1, .slice po1 xs.length pc1, .slice qo1 ys.length qc1], .agg #[.bool n2, .slice po2 us.length pc2, .slice qo2 vs.length qc2]] W (GaveV W n N D er)) ∧ (∀ W, RtS W ao1 ac1 xs bo1 bc1 ys → RtS W ao2 ac2 us bo2 bc2 vs → Calls Tryz.prog 23 #[.agg #[.bool n1, .slice ao1 xs.length ac1, .slice bo1 ys.length bc1], .agg #[.bool n2, .slice ao2 us.length ac2, .slice bo2 vs.length bc2]] W (GaveV W n N D er)) := by
  cases hR : rtB n1 xs ys
  · exact ⟨false, 0, 0, 2, by decide, by decide, fun W a b hW => (rsubw7_any n1 n2 xs ys us vs po1 qo1 po2 qo2 pc1 qc1 pc2 qc2 W a.n.1 a.d.1 hL1 hM1 hW hR).mono fun _ _ h => gaveV_of (q := (none, 2)) rfl h, fun W a b => dsubw7_any n1 n2 xs ys us vs ao1 bo1 ao2 bo2 ac1 bc1 ac2 bc2 W (ls_ns a.n) (ls_ns a.d) (ls_ns b.n) (ls_ns b.d) hL1 hM1 hL2 hM2 l1 l2 l3 l4 hR⟩
  · cases hQ : rtB n2 us vs
    · exact ⟨false, 0, 0, 2, by decide, by decide, fun W a b hW => (rsubx7_any n1 n2 xs ys us vs po1 qo1 po2 qo2 pc1 qc1 pc2 qc2 W a.n.1 a.d.1 hL1 hM1 hW hL2 hM2 b.n.1 b.d.1 hR hQ).mono fun _ _ h => gaveV_of (q := (none, 2)) rfl h, fun W a b => dsubx7_any n1 n2 xs ys us vs ao1 bo1 ao2 bo2 ac1 bc1 ac2 bc2 W (ls_ns a.n) (ls_ns a.d) (ls_ns b.n) (ls_ns b.d) hL1 hM1 hL2 hM2 l1 l2 l3 l4 hR hQ⟩
    · obtain ⟨ex, ey, R1⟩ := rt_right hL1 hM1 hR
      obtain ⟨eu, ev, R2⟩ := rt_right hL2 hM2 hQ
      obtain ⟨rn, rN, rD, er, ht⟩ := toT_eq (nmA (smQ n1 (!n2) (vl xs * vl vs) (vl us * vl ys)).1 (smQ n1 (!n2) (vl xs * vl vs) (vl us * vl ys)).2 (vl ys * vl vs))
      obtain ⟨k1, k2⟩ := nm_len ht
      exact ⟨rn, rN, rD, er, k1, k2, fun W a b hW => by
        have := rsubr_any n1 n2 (vl xs) (vl ys) (vl us) (vl vs) po1 qo1 po2 qo2 pc1 qc1 pc2 qc2 W (ex ▸ a.n) (ey ▸ a.d) (eu ▸ b.n) (ev ▸ b.d) hW R1 R2
        rw [← lo_length, ← lo_length, ← lo_length, ← lo_length, ← ex, ← ey, ← eu, ← ev] at this
        exact this.mono fun _ _ h => gaveV_of ht h, fun W a b => dsuby7_any n1 n2 xs ys us vs ao1 bo1 ao2 bo2 ac1 bc1 ac2 bc2 W (ls_ns a.n) (ls_ns a.d) (ls_ns b.n) (ls_ns b.d) hL1 hM1 hL2 hM2 l1 l2 l3 l4 hR hQ ht⟩
theorem mul_both (n1 n2 : Bool) (xs ys us vs : List Nat) (hL1 : Lm xs) (hM1 : Lm ys) (hL2 : Lm us) (hM2 : Lm vs) (l1 : xs.length ≤ 300) (l2 : ys.length ≤ 300) (l3 : us.length ≤ 300) (l4 : vs.length ≤ 300) (ao1 bo1 ao2 bo2 po1 qo1 po2 qo2 : Option Addr) (ac1 bc1 ac2 bc2 pc1 qc1 pc2 qc2 : Nat) :
    ∃ (n : Bool) (N D : Nat) (er : Int), nl N ≤ 256 ∧ nl D ≤ 256 ∧ (∀ W, RtS W po1 pc1 xs qo1 qc1 ys → RtS W po2 pc2 us qo2 qc2 vs → TabW W → Calls Tryz.prog 24 #[.agg #[.bool n1, .slice po1 xs.length pc1, .slice qo1 ys.length qc1], .agg #[.bool n2, .slice po2 us.length pc2, .slice qo2 vs.length qc2]] W (GaveV W n N D er)) ∧ (∀ W, RtS W ao1 ac1 xs bo1 bc1 ys → RtS W ao2 ac2 us bo2 bc2 vs → Calls Tryz.prog 25 #[.agg #[.bool n1, .slice ao1 xs.length ac1, .slice bo1 ys.length bc1], .agg #[.bool n2, .slice ao2 us.length ac2, .slice bo2 vs.length bc2]] W (GaveV W n N D er)) := by
  cases hR : rtB n1 xs ys
  · exact ⟨false, 0, 0, 2, by decide, by decide, fun W a b hW => (rmulw7_any n1 n2 xs ys us vs po1 qo1 po2 qo2 pc1 qc1 pc2 qc2 W a.n.1 a.d.1 hL1 hM1 hW hR).mono fun _ _ h => gaveV_of (q := (none, 2)) rfl h, fun W a b => dmulw7_any n1 n2 xs ys us vs ao1 bo1 ao2 bo2 ac1 bc1 ac2 bc2 W (ls_ns a.n) (ls_ns a.d) (ls_ns b.n) (ls_ns b.d) hL1 hM1 hL2 hM2 l1 l2 l3 l4 hR⟩
  · cases hQ : rtB n2 us vs
    · exact ⟨false, 0, 0, 2, by decide, by decide, fun W a b hW => (rmulx7_any n1 n2 xs ys us vs po1 qo1 po2 qo2 pc1 qc1 pc2 qc2 W a.n.1 a.d.1 hL1 hM1 hW hL2 hM2 b.n.1 b.d.1 hR hQ).mono fun _ _ h => gaveV_of (q := (none, 2)) rfl h, fun W a b => dmulx7_any n1 n2 xs ys us vs ao1 bo1 ao2 bo2 ac1 bc1 ac2 bc2 W (ls_ns a.n) (ls_ns a.d) (ls_ns b.n) (ls_ns b.d) hL1 hM1 hL2 hM2 l1 l2 l3 l4 hR hQ⟩
    · obtain ⟨ex, ey, R1⟩ := rt_right hL1 hM1 hR
      obtain ⟨eu, ev, R2⟩ := rt_right hL2 hM2 hQ
      obtain ⟨rn, rN, rD, er, ht⟩ := toT_eq (nmA (n1 != n2) (vl xs * vl us) (vl ys * vl vs))
      obtain ⟨k1, k2⟩ := nm_len ht
      exact ⟨rn, rN, rD, er, k1, k2, fun W a b hW => by
        have := rmulr_any n1 n2 (vl xs) (vl ys) (vl us) (vl vs) po1 qo1 po2 qo2 pc1 qc1 pc2 qc2 W (ex ▸ a.n) (ey ▸ a.d) (eu ▸ b.n) (ev ▸ b.d) hW R1 R2
        rw [← lo_length, ← lo_length, ← lo_length, ← lo_length, ← ex, ← ey, ← eu, ← ev] at this
        exact this.mono fun _ _ h => gaveV_of ht h, fun W a b => dmuly7_any n1 n2 xs ys us vs ao1 bo1 ao2 bo2 ac1 bc1 ac2 bc2 W (ls_ns a.n) (ls_ns a.d) (ls_ns b.n) (ls_ns b.d) hL1 hM1 hL2 hM2 l1 l2 l3 l4 hR hQ ht⟩
theorem div_both (n1 n2 : Bool) (xs ys us vs : List Nat) (hL1 : Lm xs) (hM1 : Lm ys) (hL2 : Lm us) (hM2 : Lm vs) (l1 : xs.length ≤ 300) (l2 : ys.length ≤ 300) (l3 : us.length ≤ 300) (l4 : vs.length ≤ 300) (ao1 bo1 ao2 bo2 po1 qo1 po2 qo2 : Option Addr) (ac1 bc1 ac2 bc2 pc1 qc1 pc2 qc2 : Nat) :
    ∃ (n : Bool) (N D : Nat) (er : Int), nl N ≤ 256 ∧ nl D ≤ 256 ∧ (∀ W, RtS W po1 pc1 xs qo1 qc1 ys → RtS W po2 pc2 us qo2 qc2 vs → TabW W → Calls Tryz.prog 26 #[.agg #[.bool n1, .slice po1 xs.length pc1, .slice qo1 ys.length qc1], .agg #[.bool n2, .slice po2 us.length pc2, .slice qo2 vs.length qc2]] W (GaveV W n N D er)) ∧ (∀ W, RtS W ao1 ac1 xs bo1 bc1 ys → RtS W ao2 ac2 us bo2 bc2 vs → Calls Tryz.prog 27 #[.agg #[.bool n1, .slice ao1 xs.length ac1, .slice bo1 ys.length bc1], .agg #[.bool n2, .slice ao2 us.length ac2, .slice bo2 vs.length bc2]] W (GaveV W n N D er)) := by
  cases hR : rtB n1 xs ys
  · exact ⟨false, 0, 0, 2, by decide, by decide, fun W a b hW => (rdivw7_any n1 n2 xs ys us vs po1 qo1 po2 qo2 pc1 qc1 pc2 qc2 W a.n.1 a.d.1 hL1 hM1 hW hR).mono fun _ _ h => gaveV_of (q := (none, 2)) rfl h, fun W a b => ddivw7_any n1 n2 xs ys us vs ao1 bo1 ao2 bo2 ac1 bc1 ac2 bc2 W (ls_ns a.n) (ls_ns a.d) (ls_ns b.n) (ls_ns b.d) hL1 hM1 hL2 hM2 l1 l2 l3 l4 hR⟩
  · cases hQ : rtB n2 us vs
    · exact ⟨false, 0, 0, 2, by decide, by decide, fun W a b hW => (rdivx7_any n1 n2 xs ys us vs po1 qo1 po2 qo2 pc1 qc1 pc2 qc2 W a.n.1 a.d.1 hL1 hM1 hW hL2 hM2 b.n.1 b.d.1 hR hQ).mono fun _ _ h => gaveV_of (q := (none, 2)) rfl h, fun W a b => ddivx7_any n1 n2 xs ys us vs ao1 bo1 ao2 bo2 ac1 bc1 ac2 bc2 W (ls_ns a.n) (ls_ns a.d) (ls_ns b.n) (ls_ns b.d) hL1 hM1 hL2 hM2 l1 l2 l3 l4 hR hQ⟩
    · obtain ⟨ex, ey, R1⟩ := rt_right hL1 hM1 hR
      obtain ⟨eu, ev, R2⟩ := rt_right hL2 hM2 hQ
      by_cases h0 : us.length = 0
      · have hz : vl us = 0 := by rw [List.eq_nil_of_length_eq_zero h0]; rfl
        exact ⟨false, 0, 0, 7, by decide, by decide, fun W a b hW => by
        have := rdivz_any n1 n2 (vl xs) (vl ys) (vl us) (vl vs) po1 qo1 po2 qo2 pc1 qc1 pc2 qc2 W (ex ▸ a.n) (ey ▸ a.d) (eu ▸ b.n) (ev ▸ b.d) hW R1 R2 hz
        rw [← lo_length, ← lo_length, ← lo_length, ← lo_length, ← ex, ← ey, ← eu, ← ev] at this
        exact this.mono fun _ _ h => gaveV_of (q := (none, 7)) rfl h, fun W a b => ddivz7_any n1 n2 xs ys us vs ao1 bo1 ao2 bo2 ac1 bc1 ac2 bc2 W (ls_ns a.n) (ls_ns a.d) (ls_ns b.n) (ls_ns b.d) hL1 hM1 hL2 hM2 l1 l2 l3 l4 hR hQ h0⟩
      · have hz : vl us ≠ 0 := fun h => h0 (by rw [eu, h]; rfl)
        obtain ⟨rn, rN, rD, er, ht⟩ := toT_eq (nmA (n1 != n2) (vl xs * vl vs) (vl ys * vl us))
        obtain ⟨k1, k2⟩ := nm_len ht
        exact ⟨rn, rN, rD, er, k1, k2, fun W a b hW => by
        have := rdivr_any n1 n2 (vl xs) (vl ys) (vl us) (vl vs) po1 qo1 po2 qo2 pc1 qc1 pc2 qc2 W (ex ▸ a.n) (ey ▸ a.d) (eu ▸ b.n) (ev ▸ b.d) hW R1 R2 hz
        rw [← lo_length, ← lo_length, ← lo_length, ← lo_length, ← ex, ← ey, ← eu, ← ev] at this
        exact this.mono fun _ _ h => gaveV_of ht h, fun W a b => ddivy7_any n1 n2 xs ys us vs ao1 bo1 ao2 bo2 ac1 bc1 ac2 bc2 W (ls_ns a.n) (ls_ns a.d) (ls_ns b.n) (ls_ns b.d) hL1 hM1 hL2 hM2 l1 l2 l3 l4 hR hQ h0 ht⟩
theorem cm_like {n1 n2 : Bool} {N1 D1 N2 D2 : Nat} (R1 : RqB n1 N1 D1) (R2 : RqB n2 N2 D2) : sgR (smQ n1 (!n2) (N1 * D2) (N2 * D1)).1 (smQ n1 (!n2) (N1 * D2) (N2 * D1)).2 = cmR n1 n2 N1 D1 N2 D2 := by
  rw [pz_sgR, smQ_eq, pz_mul, pz_mul, cmR_eq R1 R2]
theorem cmp_both (n1 n2 : Bool) (xs ys us vs : List Nat) (hL1 : Lm xs) (hM1 : Lm ys) (hL2 : Lm us) (hM2 : Lm vs) (l1 : xs.length ≤ 300) (l2 : ys.length ≤ 300) (l3 : us.length ≤ 300) (l4 : vs.length ≤ 300) (ao1 bo1 ao2 bo2 po1 qo1 po2 qo2 : Option Addr) (ac1 bc1 ac2 bc2 pc1 qc1 pc2 qc2 : Nat) :
    ∃ (c er : Int), (∀ W, RtS W po1 pc1 xs qo1 qc1 ys → RtS W po2 pc2 us qo2 qc2 vs → TabW W → Calls Tryz.prog 28 #[.agg #[.bool n1, .slice po1 xs.length pc1, .slice qo1 ys.length qc1], .agg #[.bool n2, .slice po2 us.length pc2, .slice qo2 vs.length qc2]] W (fun e w' => e = .returned (.tuple #[.int .i64 c, .int .i64 er]) ∧ Below W.heap.size W w')) ∧ (∀ W, RtS W ao1 ac1 xs bo1 bc1 ys → RtS W ao2 ac2 us bo2 bc2 vs → Calls Tryz.prog 29 #[.agg #[.bool n1, .slice ao1 xs.length ac1, .slice bo1 ys.length bc1], .agg #[.bool n2, .slice ao2 us.length ac2, .slice bo2 vs.length bc2]] W (fun e w' => e = .returned (.tuple #[.int .i64 c, .int .i64 er]) ∧ Below W.heap.size W w')) := by
  cases hR : rtB n1 xs ys
  · exact ⟨0, 2, fun W a b hW => rcmpw7_any n1 n2 xs ys us vs po1 qo1 po2 qo2 pc1 qc1 pc2 qc2 W a.n.1 a.d.1 hL1 hM1 hW hR, fun W a b => dcmpw7_any n1 n2 xs ys us vs ao1 bo1 ao2 bo2 ac1 bc1 ac2 bc2 W (ls_ns a.n) (ls_ns a.d) (ls_ns b.n) (ls_ns b.d) hL1 hM1 hL2 hM2 l1 l2 l3 l4 hR⟩
  · cases hQ : rtB n2 us vs
    · exact ⟨0, 2, fun W a b hW => rcmpx7_any n1 n2 xs ys us vs po1 qo1 po2 qo2 pc1 qc1 pc2 qc2 W a.n.1 a.d.1 hL1 hM1 hW hL2 hM2 b.n.1 b.d.1 hR hQ, fun W a b => dcmpx7_any n1 n2 xs ys us vs ao1 bo1 ao2 bo2 ac1 bc1 ac2 bc2 W (ls_ns a.n) (ls_ns a.d) (ls_ns b.n) (ls_ns b.d) hL1 hM1 hL2 hM2 l1 l2 l3 l4 hR hQ⟩
    · obtain ⟨ex, ey, R1⟩ := rt_right hL1 hM1 hR
      obtain ⟨eu, ev, R2⟩ := rt_right hL2 hM2 hQ
      refine ⟨cmR n1 n2 (vl xs) (vl ys) (vl us) (vl vs), 0, fun W a b hW => ?_, fun W a b => ?_⟩
      · have := rcmp_any n1 n2 (vl xs) (vl ys) (vl us) (vl vs) po1 qo1 po2 qo2 pc1 qc1 pc2 qc2 W (ex ▸ a.n) (ey ▸ a.d) (eu ▸ b.n) (ev ▸ b.d) hW R1 R2
        rw [← lo_length, ← lo_length, ← lo_length, ← lo_length, ← ex, ← ey, ← eu, ← ev] at this
        exact this
      · have := dcmpy7_any n1 n2 xs ys us vs ao1 bo1 ao2 bo2 ac1 bc1 ac2 bc2 W (ls_ns a.n) (ls_ns a.d) (ls_ns b.n) (ls_ns b.d) hL1 hM1 hL2 hM2 l1 l2 l3 l4 hR hQ
        rw [cm_like R1 R2] at this
        exact this
theorem sign_both (n1 : Bool) (xs ys : List Nat) (hL1 : Lm xs) (hM1 : Lm ys) (l1 : xs.length ≤ 300) (l2 : ys.length ≤ 300) (ao1 bo1 po1 qo1 : Option Addr) (ac1 bc1 pc1 qc1 : Nat) :
    ∃ (c er : Int), (∀ W, RtS W po1 pc1 xs qo1 qc1 ys → TabW W → Calls Tryz.prog 30 #[.agg #[.bool n1, .slice po1 xs.length pc1, .slice qo1 ys.length qc1]] W (fun e w' => e = .returned (.tuple #[.int .i64 c, .int .i64 er]) ∧ Below W.heap.size W w')) ∧ (∀ W, RtS W ao1 ac1 xs bo1 bc1 ys → Calls Tryz.prog 31 #[.agg #[.bool n1, .slice ao1 xs.length ac1, .slice bo1 ys.length bc1]] W (fun e w' => e = .returned (.tuple #[.int .i64 c, .int .i64 er]) ∧ Below W.heap.size W w')) := by
  have hd := fun W (a : RtS W ao1 ac1 xs bo1 bc1 ys) => dsign7_any n1 xs ys ao1 bo1 ac1 bc1 W (ls_ns a.n) (ls_ns a.d) hL1 hM1 (by omega) (by omega)
  cases hR : rtB n1 xs ys
  · rw [hR] at hd
    simp only [Bool.false_eq_true, if_false] at hd
    exact ⟨0, 2, fun W a hW => rsignw_any n1 xs ys po1 qo1 pc1 qc1 W a.n.1 a.d.1 hL1 hM1 hW hR, hd⟩
  · rw [hR] at hd
    simp only [if_true] at hd
    obtain ⟨ex, ey, R1⟩ := rt_right hL1 hM1 hR
    refine ⟨sgR n1 (vl xs), 0, fun W a hW => ?_, hd⟩
    have := rsign_any n1 (vl xs) (vl ys) po1 qo1 pc1 qc1 W (ex ▸ a.n.1) (ey ▸ a.d.1) hW R1
    rw [← lo_length, ← lo_length, ← ex, ← ey] at this
    exact this
set_option maxHeartbeats 400000 in
theorem isV_any (n : Bool) (N D : Nat) (er : Int) (k1 : nl N ≤ 256) (k2 : nl D ≤ 256) (ao1 bo1 ao2 bo2 : Option Addr) (ac1 bc1 ac2 bc2 : Nat) (w : World) (a1 : LRow w ao1 (lo N)) (b1 : LRow w bo1 (lo D)) (a2 : LRow w ao2 (lo N)) (b2 : LRow w bo2 (lo D)) :
    Calls Tryz.prog 10 #[.agg #[.bool n, .slice ao1 (nl N) ac1, .slice bo1 (nl D) bc1], .int .i64 er, .agg #[.bool n, .slice ao2 (nl N) ac2, .slice bo2 (nl D) bc2], .int .i64 er] w fun e w' => e = .returned (.bool true) ∧ Below w.heap.size w w' := by
  have AB := (B3q.new w (.bool n) (.slice ao1 (nl N) ac1) (.slice bo1 (nl D) bc1) 24).alloc (.cells #[.bool n, .slice ao2 (nl N) ac2, .slice bo2 (nl D) bc2] 24)
  have BB := B3q.new (w.alloc (.cells #[.bool n, .slice ao1 (nl N) ac1, .slice bo1 (nl D) bc1] 24)) (.bool n) (.slice ao2 (nl N) ac2) (.slice bo2 (nl D) bc2) 24
  have hs1 : (w.alloc (.cells #[.bool n, .slice ao1 (nl N) ac1, .slice bo1 (nl D) bc1] 24)).heap.size = w.heap.size + 1 := by simp
  rw [hs1] at BB
  have hb0 : Below w.heap.size w ((w.alloc (.cells #[.bool n, .slice ao1 (nl N) ac1, .slice bo1 (nl D) bc1] 24)).alloc (.cells #[.bool n, .slice ao2 (nl N) ac2, .slice bo2 (nl D) bc2] 24)) := ((Below.refl _ _).alloc (Nat.le_refl _) _).alloc (by rw [hs1]; omega) _
  have c1 := sameR_any n n N D N D ao1 bo1 ao2 bo2 ac1 bc1 ac2 bc2 _ (a1.below hb0) (b1.below hb0) (a2.below hb0) (b2.below hb0) k1 k2
  have es : smB n n N D N D = true := by unfold smB; simp
  rw [es] at c1
  have i0 : (er == er) = true := beq_self_eq_true er
  clear es hs1
  go_enter Tryz.func10, Tryz.ntmps10
  go_upto_region 1 with fail
  generalize (w.alloc (.cells #[.bool n, .slice ao1 (nl N) ac1, .slice bo1 (nl D) bc1] 24)).alloc (.cells #[.bool n, .slice ao2 (nl N) ac2, .slice bo2 (nl D) bc2] 24) = W0 at *
  obtain ⟨x0, x1, x2, _, _, _, _, _⟩ := id AB
  obtain ⟨y0, y1, y2, _, _, _, _, _⟩ := id BB
  go_wp2_with (go_at_call 44; refine c1.mono ?_; rintro e w2 ⟨rfl, b2⟩)
  go_ret
  exact ⟨rfl, hb0.trans (b2.mono hb0.size)⟩
set_option maxRecDepth 100000 in
set_option maxHeartbeats 1000000 in
theorem lentR_any (n : Bool) (xs ys : List Nat) (ao bo : Option Addr) (ac bc : Nat) (w : World) (a : RtS w ao ac xs bo bc ys) (l1 : xs.length ≤ 300) (l2 : ys.length ≤ 300) :
    Calls Tryz.prog 7 #[.agg #[.bool n, .slice ao xs.length ac, .slice bo ys.length bc]] w fun e w' => ∃ g h, e = .returned (.agg #[.bool n, .slice (some ⟨g, 0, none⟩) xs.length (xs.length + 12), .slice (some ⟨h, 0, none⟩) ys.length (ys.length + 12)]) ∧ Lent w' g xs ∧ Lent w' h ys ∧ Below w.heap.size w w' := by
  have AB := (B3q.new w (.bool n) (.slice ao xs.length ac) (.slice bo ys.length bc) 24).alloc (.cells #[.bool false, .slice none 0 0, .slice none 0 0] 24)
  have OB := B3q.new (w.alloc (.cells #[.bool n, .slice ao xs.length ac, .slice bo ys.length bc] 24)) (.bool false) (.slice none 0 0) (.slice none 0 0) 24
  have hs1 : (w.alloc (.cells #[.bool n, .slice ao xs.length ac, .slice bo ys.length bc] 24)).heap.size = w.heap.size + 1 := by simp
  rw [hs1] at OB
  have hb0 : Below w.heap.size w ((w.alloc (.cells #[.bool n, .slice ao xs.length ac, .slice bo ys.length bc] 24)).alloc (.cells #[.bool false, .slice none 0 0, .slice none 0 0] 24)) := ((Below.refl _ _).alloc (Nat.le_refl _) _).alloc (by rw [hs1]; omega) _
  have A0 := a.below hb0
  have sn : ao = none → ac = 0 ∧ xs.length = 0 := (ls_ns a.n).2.1
  have sd : bo = none → bc = 0 ∧ ys.length = 0 := (ls_ns a.d).2.1
  have c1 := fun W (h : LRow W ao xs) => lentLimbs_any xs ao ac W h sn (by omega)
  have c2 := fun W (h : LRow W bo ys) => lentLimbs_any ys bo bc W h sd (by omega)
  clear hs1 a sn sd
  go_enter Tryz.func7, Tryz.ntmps7
  go_upto_region 1 with fail
  generalize (w.alloc (.cells #[.bool n, .slice ao xs.length ac, .slice bo ys.length bc] 24)).alloc (.cells #[.bool false, .slice none 0 0, .slice none 0 0] 24) = W0 at *
  obtain ⟨x0, x1, x2, f0, f1, f2, _, xlt⟩ := id AB
  go_upto_region 2 with (go_at_call 34; refine (c1 _ A0.n.1).mono ?_; rintro e w1 ⟨rfl, hl1, b1⟩; have AB1 := AB.below b1; obtain ⟨y0, y1, y2, g0, g1, g2, _, ylt⟩ := id AB1)
  have hb1 := hb0.trans (b1.mono hb0.size)
  have OB1 := OB.below b1
  have A1 := A0.below b1
  have olt := OB.lt
  have hw1 : w.heap.size + 1 < W0.heap.size := olt
  have AB2 := AB1.set1 (.slice (some ⟨W0.heap.size, 0, none⟩) xs.length (xs.length + 12))
  have OB2 := OB1.far (g := w.heap.size) (by omega) (i := 1) (.slice (some ⟨W0.heap.size, 0, none⟩) xs.length (xs.length + 12))
  have hl2 := hl1.setBox (c := w.heap.size) (by omega) 1 (.slice (some ⟨W0.heap.size, 0, none⟩) xs.length (xs.length + 12))
  have hb2 : Below w.heap.size w (w1.setCell ⟨w.heap.size, 1, none⟩ (.slice (some ⟨W0.heap.size, 0, none⟩) xs.length (xs.length + 12))) := hb1.setCell (p := ⟨w.heap.size, 1, none⟩) (Nat.le_refl _) _
  have A2 : LRow (w1.setCell ⟨w.heap.size, 1, none⟩ (.slice (some ⟨W0.heap.size, 0, none⟩) xs.length (xs.length + 12))) bo ys := (A1.d.boxed AB1 1 _).1
  have hs2 : Hid ((w1.setCell ⟨w.heap.size, 1, none⟩ (.slice (some ⟨W0.heap.size, 0, none⟩) xs.length (xs.length + 12))).heap.size = w1.heap.size) := (show _ = _ by simp [World.setCell])
  have hg1 : W0.heap.size < w1.heap.size := hl1.lt
  generalize w1.setCell ⟨w.heap.size, 1, none⟩ (.slice (some ⟨W0.heap.size, 0, none⟩) xs.length (xs.length + 12)) = W2 at *
  generalize W0.heap.size = g at *
  clear x0 x1 x2 f0 f1 f2 y0 y1 y2 g0 g1 g2 AB AB1 OB OB1 A0 A1 hb0 hb1 b1 hl1 c1
  obtain ⟨y0, y1, y2, g0, g1, g2, _, zlt⟩ := id AB2
  go_upto_region 3 with (go_at_call 34; refine (c2 _ A2).mono ?_; rintro e w3 ⟨rfl, hl3, b3⟩; have AB3 := AB2.below b3; obtain ⟨u0, u1, u2, h0, h1, h2, _, ult⟩ := id AB3)
  have hb3 := hb2.trans (b3.mono hb2.size)
  have OB3 := OB2.below b3
  have hl23 := hl2.below b3
  have AB4 := AB3.set2 (.slice (some ⟨W2.heap.size, 0, none⟩) ys.length (ys.length + 12))
  have OB4 := OB3.far (g := w.heap.size) (by omega) (i := 2) (.slice (some ⟨W2.heap.size, 0, none⟩) ys.length (ys.length + 12))
  have hl4 := hl23.setBox (c := w.heap.size) (by omega) 2 (.slice (some ⟨W2.heap.size, 0, none⟩) ys.length (ys.length + 12))
  have hl34 := hl3.setBox (c := w.heap.size) (by omega) 2 (.slice (some ⟨W2.heap.size, 0, none⟩) ys.length (ys.length + 12))
  have hb4 : Below w.heap.size w (w3.setCell ⟨w.heap.size, 2, none⟩ (.slice (some ⟨W2.heap.size, 0, none⟩) ys.length (ys.length + 12))) := hb3.setCell (p := ⟨w.heap.size, 2, none⟩) (Nat.le_refl _) _
  generalize w3.setCell ⟨w.heap.size, 2, none⟩ (.slice (some ⟨W2.heap.size, 0, none⟩) ys.length (ys.length + 12)) = W4 at *
  have hh : W2.heap.size ≠ w.heap.size + 1 := by have := hs2.out; omega
  clear hs2
  generalize W2.heap.size = hh0 at *
  clear y0 y1 y2 g0 g1 g2 u0 u1 u2 h0 h1 h2 AB2 AB3 OB2 OB3 hl2 hl23 hl3 b3 c2
  obtain ⟨y0, y1, y2, g0, g1, g2, _, _⟩ := id AB4
  obtain ⟨o0, o1, o2, q0, q1, q2, _, _⟩ := id OB4
  go_wp2
  refine bodyPost_ret (v := .agg #[.bool n, .slice (some ⟨g, 0, none⟩) xs.length (xs.length + 12), .slice (some ⟨hh0, 0, none⟩) ys.length (ys.length + 12)]) (by simp [results, Tryz.results7, go_sem, o0, o1, o2]) rfl ⟨g, hh0, rfl, ?_, ?_, below_three hb4 (by omega) _ _ _⟩
  · exact ((hl4.setBox (by omega) _ _).setBox (by omega) _ _).setBox (by omega) _ _
  · exact ((hl34.setBox (Ne.symm hh) _ _).setBox (Ne.symm hh) _ _).setBox (Ne.symm hh) _ _
theorem Lent.ls {w : World} {g : Nat} {xs : List Nat} (h : Lent w g xs) : LS w (some ⟨g, 0, none⟩) (xs.length + 12) xs := ⟨h.lrow, by omega, fun e => by cases e⟩
set_option maxRecDepth 100000 in
set_option maxHeartbeats 1000000 in
theorem sameRl_any (n : Bool) (xs ys : List Nat) (ao1 bo1 ao2 bo2 : Option Addr) (ac1 bc1 ac2 bc2 : Nat) (w : World) (a1 : LRow w ao1 xs) (b1 : LRow w bo1 ys) (a2 : LRow w ao2 xs) (b2 : LRow w bo2 ys) (l1 : xs.length ≤ 300) (l2 : ys.length ≤ 300) :
    Calls Tryz.prog 44 #[.agg #[.bool n, .slice ao1 xs.length ac1, .slice bo1 ys.length bc1], .agg #[.bool n, .slice ao2 xs.length ac2, .slice bo2 ys.length bc2]] w fun e w' => e = .returned (.bool true) ∧ Below w.heap.size w w' := by
  have AB := (B3q.new w (.bool n) (.slice ao1 xs.length ac1) (.slice bo1 ys.length bc1) 24).alloc (.cells #[.bool n, .slice ao2 xs.length ac2, .slice bo2 ys.length bc2] 24)
  have BB := B3q.new (w.alloc (.cells #[.bool n, .slice ao1 xs.length ac1, .slice bo1 ys.length bc1] 24)) (.bool n) (.slice ao2 xs.length ac2) (.slice bo2 ys.length bc2) 24
  have hs1 : (w.alloc (.cells #[.bool n, .slice ao1 xs.length ac1, .slice bo1 ys.length bc1] 24)).heap.size = w.heap.size + 1 := by simp
  rw [hs1] at BB
  have hb0 : Below w.heap.size w ((w.alloc (.cells #[.bool n, .slice ao1 xs.length ac1, .slice bo1 ys.length bc1] 24)).alloc (.cells #[.bool n, .slice ao2 xs.length ac2, .slice bo2 ys.length bc2] 24)) := ((Below.refl _ _).alloc (Nat.le_refl _) _).alloc (by rw [hs1]; omega) _
  have c1 := sameLimbs_any xs xs ao1 ao2 ac1 ac2 _ (a1.below hb0) (a2.below hb0) (by omega)
  rw [decide_eq_true rfl] at c1
  have c2 := fun W (h : Below w.heap.size w W) => sameLimbs_any ys ys bo1 bo2 bc1 bc2 W (b1.below h) (b2.below h) (by omega)
  simp only [decide_true] at c2
  have i0 : (n == n) = true := beq_self_eq_true n
  clear hs1 a1 a2
  go_enter Tryz.func44, Tryz.ntmps44
  go_upto_region 1 with fail
  generalize (w.alloc (.cells #[.bool n, .slice ao1 xs.length ac1, .slice bo1 ys.length bc1] 24)).alloc (.cells #[.bool n, .slice ao2 xs.length ac2, .slice bo2 ys.length bc2] 24) = W0 at *
  obtain ⟨x0, x1, x2, _, _, _, _, _⟩ := id AB
  obtain ⟨y0, y1, y2, _, _, _, _, _⟩ := id BB
  go_wp2_with (first
    | (go_at_call_of 83 (Value.slice ao1 xs.length ac1); refine c1.mono ?_; rintro e w2 ⟨rfl, b3⟩; have hb2 := hb0.trans (b3.mono hb0.size); obtain ⟨x0', x1', x2', _, _, _, _, _⟩ := AB.below b3; obtain ⟨y0', y1', y2', _, _, _, _, _⟩ := BB.below b3)
    | (go_at_call_of 83 (Value.slice bo1 ys.length bc1); refine (c2 _ hb2).mono ?_; rintro e w3 ⟨rfl, b4⟩))
  go_ret
  exact ⟨rfl, hb2.trans (b4.mono hb2.size)⟩
set_option maxRecDepth 100000 in
set_option maxHeartbeats 2000000 in
theorem keptR_any (n : Bool) (xs ys : List Nat) (g h : Nat) (ao bo : Option Addr) (ac bc : Nat) (w : World) (h1 : Lent w g xs) (h2 : Lent w h ys) (a : RtS w ao ac xs bo bc ys) (l1 : xs.length ≤ 300) (l2 : ys.length ≤ 300) :
    Calls Tryz.prog 13 #[.agg #[.bool n, .slice (some ⟨g, 0, none⟩) xs.length (xs.length + 12), .slice (some ⟨h, 0, none⟩) ys.length (ys.length + 12)], .agg #[.bool n, .slice ao xs.length ac, .slice bo ys.length bc]] w fun e w' => e = .returned (.bool true) ∧ Below w.heap.size w w' := by
  have AB := (B3q.new w (.bool n) (.slice (some ⟨g, 0, none⟩) xs.length (xs.length + 12)) (.slice (some ⟨h, 0, none⟩) ys.length (ys.length + 12)) 24).alloc (.cells #[.bool n, .slice ao xs.length ac, .slice bo ys.length bc] 24)
  have BB := B3q.new (w.alloc (.cells #[.bool n, .slice (some ⟨g, 0, none⟩) xs.length (xs.length + 12), .slice (some ⟨h, 0, none⟩) ys.length (ys.length + 12)] 24)) (.bool n) (.slice ao xs.length ac) (.slice bo ys.length bc) 24
  have hs1 : (w.alloc (.cells #[.bool n, .slice (some ⟨g, 0, none⟩) xs.length (xs.length + 12), .slice (some ⟨h, 0, none⟩) ys.length (ys.length + 12)] 24)).heap.size = w.heap.size + 1 := by simp
  rw [hs1] at BB
  have hb0 : Below w.heap.size w ((w.alloc (.cells #[.bool n, .slice (some ⟨g, 0, none⟩) xs.length (xs.length + 12), .slice (some ⟨h, 0, none⟩) ys.length (ys.length + 12)] 24)).alloc (.cells #[.bool n, .slice ao xs.length ac, .slice bo ys.length bc] 24)) := ((Below.refl _ _).alloc (Nat.le_refl _) _).alloc (by rw [hs1]; omega) _
  have cs := fun W (hW : Below w.heap.size w W) => sameRl_any n xs ys (some ⟨g, 0, none⟩) (some ⟨h, 0, none⟩) ao bo (xs.length + 12) (ys.length + 12) ac bc W (h1.below hW).lrow (h2.below hW).lrow (a.below hW).n.1 (a.below hW).d.1 l1 l2
  have ck := fun W (hW : Below w.heap.size w W) => keptLimbs_any xs ao ac g W (a.below hW).n.1 (h1.below hW) (by omega)
  have cl := fun W (hW : Below w.heap.size w W) => keptLimbs_any ys bo bc h W (a.below hW).d.1 (h2.below hW) (by omega)
  obtain ⟨lx, elx⟩ : ∃ l, xs.length = l := ⟨_, rfl⟩
  obtain ⟨ly, ely⟩ : ∃ l, ys.length = l := ⟨_, rfl⟩
  rw [elx] at cs ck AB BB hb0 ⊢
  rw [ely] at cs cl AB BB hb0 ⊢
  clear hs1 elx ely h1 h2 a l1 l2
  go_enter Tryz.func13, Tryz.ntmps13
  go_upto_region 1 with fail
  generalize (w.alloc (.cells #[.bool n, .slice (some ⟨g, 0, none⟩) lx (lx + 12), .slice (some ⟨h, 0, none⟩) ly (ly + 12)] 24)).alloc (.cells #[.bool n, .slice ao lx ac, .slice bo ly bc] 24) = W0 at *
  obtain ⟨x0, x1, x2, _, _, _, _, _⟩ := id AB
  obtain ⟨y0, y1, y2, _, _, _, _, _⟩ := id BB
  go_wp2_with (first
    | (go_at_call 44; refine (cs _ hb0).mono ?_; rintro e w2 ⟨rfl, b2⟩; have hb2 := hb0.trans (b2.mono hb0.size); have AB2 := AB.below b2; have BB2 := BB.below b2; obtain ⟨x0', x1', x2', _, _, _, _, _⟩ := id AB2; obtain ⟨y0', y1', y2', _, _, _, _, _⟩ := id BB2)
    | (go_at_call_of 50 (Value.slice ao lx ac); refine (ck _ hb2).mono ?_; rintro e w3 ⟨rfl, b3⟩; have hb3 := hb2.trans (b3.mono hb2.size); obtain ⟨x0'', x1'', x2'', _, _, _, _, _⟩ := AB2.below b3; obtain ⟨y0'', y1'', y2'', _, _, _, _, _⟩ := BB2.below b3)
    | (go_at_call_of 50 (Value.slice bo ly bc); refine (cl _ hb3).mono ?_; rintro e w4 ⟨rfl, b4⟩; have hb4 := hb3.trans (b4.mono hb3.size)))
  go_ret
  exact ⟨rfl, hb4⟩
end Go.Proofs.YtnclddfljghebaaGreatDoor
