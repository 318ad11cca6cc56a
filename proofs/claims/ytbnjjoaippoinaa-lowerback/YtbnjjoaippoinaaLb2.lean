/- LowerBack: its walk. -/
import Derived.Test.YtbnjjoaippoinaaLb1
import Derived.Test.YtbnjjoaippoinaaLw16
namespace Go.Proofs.Ytbnjjoaippoinaa
open Go.RowKit

/-- The factor's box while L grows. -/
structure LbS (w wr : World) (N P B k : Nat) (v : Value) (xs : List Nat) : Prop where
  fb : B3 wr P (.int .i64 N) v (.slice none 0 0)
  own : wr.ownsRow B 38 1 v k (fv xs)
  lo : w.heap.size ≤ P ∧ P < B ∧ B ≤ wr.heap.size
  below : Below w.heap.size w wr
theorem LbS.next {w wr w1 : World} {N P B k r : Nat} {v v' : Value} {xs : List Nat} (h : LbS w wr N P B k v xs) (o : Obj) (hown : w1.ownsRow B 38 1 v' (k + 1) (fv xs ++ [.float .f64 r])) (hg : (wr.alloc o).grownBy w1 v.ownBlock) :
    B3 w1 P (.int .i64 N) v (.slice none 0 0) ∧ LbS w (w1.setCell ⟨P, 1, none⟩ v') N P B (k + 1) v' (xs ++ [r]) := by
  have hb : Below B wr w1 := ((Below.refl B wr).alloc h.lo.2.2 o).grown hg (by have := h.lo.2.2; simp; omega) (fun k hk => (h.own.lt k hk).1)
  have hM := h.fb.past hb h.lo.2.1
  refine ⟨hM, hM.putM _, ?_, ⟨h.lo.1, h.lo.2.1, ?_⟩, ?_⟩
  · rw [fv_snoc]
    exact ownsRow_setCell_below hown (a := ⟨P, 1, none⟩) h.lo.2.1 _
  · have := hb.size; have := h.lo.2.2; simp [World.setCell]; omega
  · exact (h.below.trans (hb.mono (by have := h.lo; omega))).setCell h.lo.1 _
/-- The same while D grows: L stands. -/
structure LdS (w wr : World) (N P B k : Nat) (lo : Option Addr) (ln lc : Nat) (ls : List Nat) (v : Value) (xs : List Nat) : Prop where
  fb : B3 wr P (.int .i64 N) (.slice lo ln lc) v
  row : GRow wr lo ls
  own : wr.ownsRow B 38 1 v k (fv xs)
  lo' : w.heap.size ≤ P ∧ P < B ∧ B ≤ wr.heap.size
  far : ∀ q, lo = some q → P < q.block ∧ q.block < B
  below : Below w.heap.size w wr
theorem GRow.under {w w1 : World} {lo : Option Addr} {xs : List Nat} {B : Nat} (h : GRow w lo xs) (hb : Below B w w1) (hB : ∀ q, lo = some q → q.block < B) : GRow w1 lo xs := by
  rcases h with h | ⟨b, off, rfl, hc⟩
  · exact Or.inl h
  · exact Or.inr ⟨b, off, rfl, fun j hj => by rw [hb.cell (p := ⟨b, off + j, none⟩) (show b < B from hB ⟨b, off, none⟩ rfl)]; exact hc j hj⟩
theorem GRow.notP {w : World} {lo : Option Addr} {xs : List Nat} {P : Nat} (h : GRow w lo xs) (hP : ∀ q, lo = some q → P < q.block) (q : Nat) (v : Value) : GRow (w.setCell ⟨P, q, none⟩ v) lo xs := by
  rcases h with h | ⟨b, off, rfl, hc⟩
  · exact Or.inl h
  · have := hP _ rfl
    simp only at this
    refine Or.inr ⟨b, off, rfl, fun j hj => ?_⟩
    exact (World.cell?_setCell_other _ _ _ v (fun e => by cases e; omega)).trans (hc j hj)
theorem LdS.next {w wr w1 : World} {N P B k r : Nat} {lo : Option Addr} {ln lc : Nat} {ls : List Nat} {v v' : Value} {xs : List Nat} (h : LdS w wr N P B k lo ln lc ls v xs) (o : Obj) (hown : w1.ownsRow B 38 1 v' (k + 1) (fv xs ++ [.float .f64 r])) (hg : (wr.alloc o).grownBy w1 v.ownBlock) :
    B3 w1 P (.int .i64 N) (.slice lo ln lc) v ∧ LdS w (w1.setCell ⟨P, 2, none⟩ v') N P B (k + 1) lo ln lc ls v' (xs ++ [r]) := by
  have hb : Below B wr w1 := ((Below.refl B wr).alloc h.lo'.2.2 o).grown hg (by have := h.lo'.2.2; simp; omega) (fun k hk => (h.own.lt k hk).1)
  have hM := h.fb.past hb h.lo'.2.1
  refine ⟨hM, hM.put2 _, ?_, ?_, ⟨h.lo'.1, h.lo'.2.1, ?_⟩, h.far, ?_⟩
  · exact (h.row.under hb (fun q e => (h.far q e).2)).notP (fun q e => (h.far q e).1) _ _
  · rw [fv_snoc]
    exact ownsRow_setCell_below hown (a := ⟨P, 2, none⟩) h.lo'.2.1 _
  · have := hb.size; have := h.lo'.2.2; simp [World.setCell]; omega
  · exact (h.below.trans (hb.mono (by have := h.lo'; omega))).setCell h.lo'.1 _
theorem LdS.drew {w wr : World} {N P B k : Nat} {lo : Option Addr} {ln lc : Nat} {ls : List Nat} {v : Value} {xs : List Nat} (h : LdS w wr N P B k lo ln lc ls v xs) : LdS w wr.drew N P B k lo ln lc ls v xs :=
  ⟨h.fb.drew, h.row.below (Below.refl _ _).drew, h.own.drew, h.lo', h.far, h.below.drew⟩
theorem snoc_at {p : Nat → Prop} {rs : List Nat} {r k : Nat} (hl : rs.length = k) (h : ∀ i, i < k → p (rs.getD i 0)) (hr : p r) : ∀ i, i < k + 1 → p ((rs ++ [r]).getD i 0) := fun i hi => by
  by_cases e : i = k
  · subst e; subst hl
    rw [List.getD_eq_getElem?_getD, List.getElem?_append_right (Nat.le_refl _), Nat.sub_self]
    exact hr
  · have e2 : (rs ++ [r]).getD i 0 = rs.getD i 0 := by rw [List.getD_eq_getElem?_getD, List.getD_eq_getElem?_getD, List.getElem?_append_left (by omega)]
    rw [e2]
    exact h i (by omega)
/-- The factor that comes back is the same. -/
def GaveBk (w : World) (N T : Nat) (rs ds : List Nat) (e : Ending) (w' : World) : Prop := ∃ (ls' ds' : List Nat) (lo : Option Addr) (lc : Nat) (dO : Option Addr) (dc : Nat), e = .returned (.tuple #[fcV N lo T lc dO N dc, .int .i64 0, .int .i64 0]) ∧ ls'.length = T ∧ ds'.length = N ∧ GRow w' lo ls' ∧ GRow w' dO ds' ∧ FW ls' ∧ FW ds' ∧ sameL rs ls' = true ∧ sameL ds ds' = true ∧ Below w.heap.size w w'
theorem back_fac {N NN : Nat} {rs ds ms : List Nat} (hN : N ≤ 9) (hNN : ms.length = NN) (hl : rs.length = tri N) (hL : ∀ i, i < rs.length → Fi (rs.getD i 0)) (hd : ds.length = N) (hD : ∀ i, i < ds.length → Fp (ds.getD i 0)) (hm : LN (tabM N N (tmO (lsF rs) (dsF ds))) ms) (hb : NN ≤ 2304) (mo : Option Addr) (mc : Nat) (w : World) (hr : GRow w mo ms) :
    Calls Try.prog 8 #[mxV N N mo NN mc] w fun e w' => GaveBk w N rs.length rs ds e w' := by
  have h := lfactor_any N N ms mo mc w hr hm.fw (by omega)
  rw [hNN] at h
  refine Calls.mono h ?_
  rintro e w' ⟨er, row, f, d, v, hR, rfl, hB, _, h0⟩
  obtain ⟨e1, e2, e3⟩ := res_one hR (back_res hN hl hL hd hD hm)
  obtain ⟨hf, hdd⟩ := e3 e1
  rw [Int.toNat_natCast] at hf hdd
  obtain ⟨_, N', hN', _, ls', ds', lo, lc, dO, dc, rfl, g1, g2, g3, g4, g5, g6, _, _, _, _, _, _, g8, g9⟩ := h0 e1
  have eN : N' = N := by omega
  subst eN
  obtain ⟨s1, s2⟩ := back_same (N := N') (ls := rs) (ds := ds) (ls' := ls') (ds' := ds') hl hd g5 g6 (fun i k hk hi => by rw [g8 i k hk hi]; exact hf k i hk hi) (fun k hk => by rw [g9 k hk]; exact hdd k hk)
  subst e1 e2
  exact ⟨ls', ds', lo, lc, dO, dc, by rw [g5, g6, hl]; rfl, by rw [g5, hl], g6, g1, g2, g3, g4, s1, s2, hB⟩
end Go.Proofs.Ytbnjjoaippoinaa
