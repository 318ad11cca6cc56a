/- Layer 13: the unit's list: a number put into a list that has grown (for SolveWhole). -/
import Derived.Test.YtclldmdhpojciaaS7
import Derived.Test.YtclldmdhpojciaaSq1
namespace Go.Proofs.Ytclldmdhpojciaa
open Go.RowKit

theorem fin_nan {x : Nat} (h : Fin' x) : nanB x = false := by
  unfold nanB
  have := h.2
  simp
  omega
theorem wz_toO {E x : Nat} {X : Int} (h : Wz E x X) : Wo E (toO x) X := ⟨x, by unfold toO; rw [fin_nan h.1]; rfl, h⟩
theorem wz_place {E x : Nat} {X : Int} (h : Wz E x X) {y : Nat} (g : Wz E y X) : place x = place y := by
  have h1 := h.abs
  have g1 := g.abs
  have hr : rung x = rung y := val_inj (by rw [h1, g1])
  have hp := pw_posZ E
  by_cases x0 : X = 0
  · have hx : rung x = 0 := by
      refine val_inj ?_
      rw [h1, x0, val_zero]; simp
    unfold place
    rw [← hr, hx]
    cases sgn x <;> cases sgn y <;> rfl
  · have sx : sgn x = sgn y := by
      rw [vZ_neg (by rw [h.2]; exact Int.mul_ne_zero x0 (by omega)), vZ_neg (x := y) (by rw [g.2]; exact Int.mul_ne_zero x0 (by omega)), h.2, g.2]
    unfold place
    rw [hr, sx]
theorem EqN_wz {E x y : Nat} {X : Int} (h : Wz E x X) (g : Wz E y X) : EqN x y := by
  left
  show (Ieee.double.order x y != some .eq) = false
  have hc : compare (place x) (place y) = .eq := by rw [wz_place h g, cmp_int, if_neg (Int.lt_irrefl _), if_pos rfl]
  rw [order_eq x y h.1.1 g.1.1, fin_nan h.1, fin_nan g.1, hc]
  rfl
theorem wz_zB {E x : Nat} {X : Int} (h : Wz E x X) (hx : X ≠ 0) : zB x = false := by
  unfold zB
  show (Ieee.double.order x 0 == some .eq) = false
  rw [order_eq x 0 h.1.1 (by decide), fin_nan h.1, cmp_int]
  have hr : rung x ≠ 0 := fun e => by
    have := h.abs
    rw [e, val_zero] at this
    rcases Nat.mul_eq_zero.1 this.symm with c | c
    · exact hx (by omega)
    · have := Nat.two_pow_pos E; omega
  have hp : place x ≠ place 0 := by
    have e0 : place 0 = 0 := by decide
    rw [e0]
    unfold place
    cases sgn x <;> simp <;> omega
  have n0 : nanB 0 = false := by decide
  rw [n0]
  by_cases c : place x < place 0
  · rw [if_pos c]; rfl
  · rw [if_neg c, if_neg hp]; rfl
/-- A factor of whole numbers. -/
structure WhF (N : Nat) (ls ds : List Nat) (L : Nat → Nat → Int) (D : Nat → Int) : Prop where
  few : N ≤ 6
  ll : ls.length = tri N
  dl : ds.length = N
  hL : ∀ i k, k < i → i < N → (L i k).natAbs ≤ 3 ∧ Wz 1074 (lsF ls i k) (L i k)
  hD : ∀ i, i < N → (D i).natAbs ≤ 50 ∧ D i ≠ 0 ∧ Wz 1074 (ds.getD i 0) (D i)
  fL : FW ls
  fD : FW ds
/-- A list of whole numbers, and no error, handed back. -/
def GaveZ (w : World) (N : Nat) (Y : Nat → Int) (e : Ending) (w' : World) : Prop := ∃ (yo : Option Addr) (yc : Nat) (ys : List Nat), e = .returned (.tuple #[.slice yo ys.length yc, .int .i64 0]) ∧ ys.length = N ∧ (∀ i, i < N → Wz 1074 (ys.getD i 0) (Y i)) ∧ GRow w' yo ys ∧ Below w.heap.size w w'
theorem WhF.fit {N : Nat} {ls ds : List Nat} {L : Nat → Nat → Int} {D : Nat → Int} (h : WhF N ls ds L D) {bn : Nat} (hb : bn = N) : fitF N ls.length ds.length bn = true := by
  have := h.few
  unfold fitF rightF okN
  rw [h.ll, h.dl, hb, Int.toNat_natCast]
  simp
  omega
theorem gaveZ {w w' : World} {N : Nat} {o : Nat → Option Nat} {Y : Nat → Int} {e : Ending} (ho : ∀ i, i < N → Wo 1074 (o i) (Y i)) (h : GaveLe w (tab N o, 0) e w') : GaveZ w N Y e w' := by
  obtain ⟨v, rfl, ao, cap, rs, rfl, h1, h2, _, _, h3⟩ := h
  have hl : rs.length = N := by rw [h1.1, tab_len]
  refine ⟨ao, cap, rs, rfl, hl, fun i hi => ?_, h2, h3⟩
  have hn := h1.2 i (by rw [tab_len]; exact hi)
  have et : (tab N o).getD i none = o i := by
    unfold tab
    rw [List.getD_eq_getElem?_getD, List.getElem?_map, List.getElem?_range hi]
    rfl
  obtain ⟨x, x1, x2⟩ := ho i hi
  rw [et, x1] at hn
  have : rs.getD i 0 = x := hn.2
  rw [this]
  exact x2
section
variable {N : Nat} {ls ds bs : List Nat} {L : Nat → Nat → Int} {D X : Nat → Int}
theorem WhF.sl (h : WhF N ls ds L D) (hX : ∀ i, i < N → (X i).natAbs ≤ 50) (hv : ∀ i, i < N → Wz 1074 (bs.getD i 0) (ldZ L D (tuZ L X N) N i)) : (∀ i, i < N → Wo 1074 (fwO (lsF ls) (fun i => toO (bs.getD i 0)) i) (D i * tuZ L X N i)) ∧ (∀ i, i < N → Wo 1074 (slO ls ds N (fun i => toO (bs.getD i 0)) i) (X i)) :=
  wo_sl rfl (by have := h.few; omega) (fun i k hk hi => wz_toO (h.hL i k hk hi).2) (fun i k hk hi => (h.hL i k hk hi).1) (fun i hi => wz_toO (h.hD i hi).2.2) (fun i hi => (h.hD i hi).1) (fun i hi => (h.hD i hi).2.1) hX (fun i hi => wz_toO (hv i hi))
theorem forward_wz (h : WhF N ls ds L D) (hX : ∀ i, i < N → (X i).natAbs ≤ 50) (hbl : bs.length = N) (hv : ∀ i, i < N → Wz 1074 (bs.getD i 0) (ldZ L D (tuZ L X N) N i)) (lo dO bo : Option Addr) (lc dc bc : Nat) (w : World) (rL : GRow w lo ls) (rB : GRow w bo bs) :
    Calls Try.prog 8 #[fcV N lo ls.length lc dO ds.length dc, .slice bo bs.length bc] w fun e w' => GaveZ w N (fun i => D i * tuZ L X N i) e w' := by
  refine (sforward_any N ls bs lo dO bo lc ds.length dc bc (fun i => toO (bs.getD i 0)) w rL rB h.fL (fun i hi => toO_NR (hv i (by omega)).1.1)).mono fun e w' hg => ?_
  have eA : fwA N ls ds.length bs.length (fun i => toO (bs.getD i 0)) = (tab N (fwO (lsF ls) (fun i => toO (bs.getD i 0))), 0) := by unfold fwA; rw [h.fit hbl, Int.toNat_natCast]; rfl
  rw [eA] at hg
  exact gaveZ (h.sl hX hv).1 hg
theorem solve_wz (h : WhF N ls ds L D) (hX : ∀ i, i < N → (X i).natAbs ≤ 50) (hbl : bs.length = N) (hv : ∀ i, i < N → Wz 1074 (bs.getD i 0) (ldZ L D (tuZ L X N) N i)) (lo dO bo : Option Addr) (lc dc bc : Nat) (w : World) (rL : GRow w lo ls) (rD : GRow w dO ds) (rB : GRow w bo bs) :
    Calls Try.prog 10 #[fcV N lo ls.length lc dO ds.length dc, .slice bo bs.length bc] w fun e w' => GaveZ w N X e w' := by
  refine (ssolve_any N ls ds bs lo dO bo lc dc bc (fun i => toO (bs.getD i 0)) w rL rD rB h.fL h.fD (fun i hi => toO_NR (hv i (by omega)).1.1)).mono fun e w' hg => ?_
  have hz : zL ds = false := zL_all (fun i hi => wz_zB (h.hD i (by have := h.dl; omega)).2.2 (h.hD i (by have := h.dl; omega)).2.1)
  have eA : slA N ls ds bs.length (fun i => toO (bs.getD i 0)) = (tab N (slO ls ds N (fun i => toO (bs.getD i 0))), 0) := by unfold slA; rw [h.fit hbl, hz, Int.toNat_natCast]; rfl
  rw [eA] at hg
  exact gaveZ (h.sl hX hv).2 hg
end
theorem equal_wz {N : Nat} {xs ys : List Nat} {Y : Nat → Int} (hN : N ≤ 6) (hx : xs.length = N) (hy : ys.length = N) (h : ∀ i, i < N → Wz 1074 (xs.getD i 0) (Y i)) (g : ∀ i, i < N → Wz 1074 (ys.getD i 0) (Y i)) (ao bo : Option Addr) (cap cap2 : Nat) (w : World) (hr : GRow w ao xs) (hs : GRow w bo ys) :
    Calls Try.prog 30 #[.slice ao xs.length cap, .slice bo ys.length cap2] w fun e w' => e = .returned (.bool true) ∧ Below w.heap.size w w' :=
  equal13_any xs ys ao bo cap cap2 w hr hs (by omega) (by omega) (fun i hi => EqN_wz (h i (by omega)) (g i (by omega)))
end Go.Proofs.Ytclldmdhpojciaa

namespace Go.Proofs.Ytclldmdhpojciaa
open Go.RowKit

theorem TwG.put {w wr : World} {B n m : Nat} {v u : Value} {xs ys : List Nat} (h : TwG w wr B n m v u xs ys) (hn : xs.length = n) (hm : ys.length = m) {j : Nat} (hj : j < ys.length) :
    ∃ (co : Option Addr) (cc ub uc : Nat), v = .slice co xs.length cc ∧ u = .slice (some ⟨ub, 0, none⟩) ys.length uc ∧ wr.cell? ⟨ub, j, none⟩ = some (.float .f64 (ys.getD j 0)) ∧ wr.frozen? ⟨ub, j, none⟩ = false ∧ w.heap.size ≤ ub ∧
      ∀ r, GRow (wr.setCell ⟨ub, j, none⟩ (.float .f64 r)) co xs ∧ GRow (wr.setCell ⟨ub, j, none⟩ (.float .f64 r)) (some ⟨ub, 0, none⟩) (ys.set j r) ∧ Below w.heap.size w (wr.setCell ⟨ub, j, none⟩ (.float .f64 r)) := by
  subst hn hm
  obtain ⟨ub, uc, rfl, _⟩ := h.ou.form (by omega)
  have hlt := h.ou.lt ub rfl
  have hs := fun r => h.ou.stored j (.float .f64 r)
  have hne : v.ownBlock = none ∨ v.ownBlock ≠ some ub := by
    cases c : v.ownBlock with
    | none => exact Or.inl rfl
    | some a =>
      right
      intro e
      exact h.apart ub (by rw [c]; exact e) rfl
  have hk := fun r => h.ov.kept (hs r).2 hne
  obtain ⟨co, cc, rfl, _, _, _⟩ := owned_grow h.ov
  refine ⟨co, cc, ub, uc, rfl, rfl, ?_, h.ou.frozenAt j, Nat.le_trans h.lo.1 hlt.1, fun r => ⟨?_, ?_, ?_⟩⟩
  · rw [h.ou.cellAt j (by omega), fv_at hj]
  · obtain ⟨a2, c2, e2, g2, _, _⟩ := owned_grow (hk r)
    cases e2
    exact g2
  · have e : (fv ys).set j (.float .f64 r) = fv (ys.set j r) := by unfold fv; rw [List.map_set]
    have h1 := (hs r).1
    rw [e] at h1
    have h2 : (wr.setCell ⟨ub, j, none⟩ (.float .f64 r)).ownsRow B 29 1 (.slice (some ⟨ub, 0, none⟩) (ys.set j r).length uc) (ys.set j r).length (fv (ys.set j r)) := by rw [List.length_set]; exact h1
    obtain ⟨a2, c2, e2, g2, _, _⟩ := owned_grow h2
    cases e2
    exact g2
  · exact h.below.setCell (Nat.le_trans h.lo.1 hlt.1) _
theorem one_wz : Wz 1074 4607182418800017408 1 := by
  have e : floatOfInt .f64 1 = 4607182418800017408 := by kernel_rfl
  rw [← e]
  exact ofint_wz rfl (by decide)
theorem nought_wz : Wz 1074 0 0 := by
  have e : floatOfInt .f64 0 = 0 := by kernel_rfl
  have h := ofint_wz (E := 1074) rfl (n := 0) (by decide)
  rw [e] at h
  exact h
theorem unit_wz {us : List Nat} {j N : Nat} (hl : us.length = N) (h : ∀ p, p < N → us.getD p 0 = 0) : ∀ i, i < N → Wz 1074 ((us.set j 4607182418800017408).getD i 0) (unZ j i) := fun i hi => by
  have e : (us.set j 4607182418800017408).getD i 0 = if i = j then 4607182418800017408 else us.getD i 0 := by
    rw [List.getD_eq_getElem?_getD, List.getD_eq_getElem?_getD, List.getElem?_set]
    by_cases c : j = i
    · subst c
      simp [show j < us.length by omega]
    · have c' : ¬ i = j := fun q => c q.symm
      simp [c, c']
  rw [e]
  unfold unZ
  by_cases c : i = j
  · rw [if_pos c, if_pos c]; exact one_wz
  · rw [if_neg c, if_neg c, h i hi]; exact nought_wz
theorem unZ_bd (j i : Nat) : (unZ j i).natAbs ≤ 50 := by
  unfold unZ
  by_cases c : i = j
  · rw [if_pos c]; decide
  · rw [if_neg c]; decide
end Go.Proofs.Ytclldmdhpojciaa
