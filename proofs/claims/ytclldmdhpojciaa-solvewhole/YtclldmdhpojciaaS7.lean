/- Layer 13: rows of ints; lists that grow in slots, one or two at a time (for SolveWhole). -/
import Derived.Test.YtclldmdhpojciaaSol14
import Derived.Test.YtclldmdhpojciaaS6
import Derived.Test.YtclldmdhpojciaaLw16
import Derived.Maps.AppendAt
namespace Go.Proofs.Ytclldmdhpojciaa
open Go.RowKit

theorem B3.pastW {w w1 : World} {b B : Nat} {x y z : Value} (h : B3 w b x y z) (hb : Below B w w1) (hB : b < B) : B3 w1 b x y z := by
  obtain ⟨h0, h1, h2, g0, g1, g2, h5⟩ := h
  exact ⟨by rw [hb.cell (p := ⟨b, 0, none⟩) hB]; exact h0, by rw [hb.cell (p := ⟨b, 1, none⟩) hB]; exact h1, by rw [hb.cell (p := ⟨b, 2, none⟩) hB]; exact h2, by rw [hb.frozen (p := ⟨b, 0, none⟩) hB]; exact g0, by rw [hb.frozen (p := ⟨b, 1, none⟩) hB]; exact g1, by rw [hb.frozen (p := ⟨b, 2, none⟩) hB]; exact g2, Nat.lt_of_lt_of_le h5 hb.size⟩
/-- The factor's box while L grows. -/
structure WbS (w wr : World) (N P B k : Nat) (v : Value) (xs : List Nat) : Prop where
  fb : B3 wr P (.int .i64 N) v (.slice none 0 0)
  own : wr.ownsRow B 29 1 v k (fv xs)
  lo : w.heap.size ≤ P ∧ P < B ∧ B ≤ wr.heap.size
  below : Below w.heap.size w wr
theorem WbS.next {w wr w1 : World} {N P B k r : Nat} {v v' : Value} {xs : List Nat} (h : WbS w wr N P B k v xs) (o : Obj) (hown : w1.ownsRow B 29 1 v' (k + 1) (fv xs ++ [.float .f64 r])) (hg : (wr.alloc o).grownBy w1 v.ownBlock) :
    B3 w1 P (.int .i64 N) v (.slice none 0 0) ∧ WbS w (w1.setCell ⟨P, 1, none⟩ v') N P B (k + 1) v' (xs ++ [r]) := by
  have hb : Below B wr w1 := ((Below.refl B wr).alloc h.lo.2.2 o).grown hg (by have := h.lo.2.2; simp; omega) (fun k hk => (h.own.lt k hk).1)
  have hM := h.fb.pastW hb h.lo.2.1
  refine ⟨hM, hM.putB _, ?_, ⟨h.lo.1, h.lo.2.1, ?_⟩, ?_⟩
  · rw [fv_snoc]
    exact ownsRow_setCell_below hown (a := ⟨P, 1, none⟩) h.lo.2.1 _
  · have := hb.size; have := h.lo.2.2; simp [World.setCell]; omega
  · exact (h.below.trans (hb.mono (by have := h.lo; omega))).setCell h.lo.1 _
/-- The same while D grows: L stands. -/
structure WdS (w wr : World) (N P B k : Nat) (lo : Option Addr) (ln lc : Nat) (ls : List Nat) (v : Value) (xs : List Nat) : Prop where
  fb : B3 wr P (.int .i64 N) (.slice lo ln lc) v
  row : GRow wr lo ls
  own : wr.ownsRow B 29 1 v k (fv xs)
  lo' : w.heap.size ≤ P ∧ P < B ∧ B ≤ wr.heap.size
  far : ∀ q, lo = some q → P < q.block ∧ q.block < B
  below : Below w.heap.size w wr
theorem GRow.underW {w w1 : World} {lo : Option Addr} {xs : List Nat} {B : Nat} (h : GRow w lo xs) (hb : Below B w w1) (hB : ∀ q, lo = some q → q.block < B) : GRow w1 lo xs := by
  rcases h with h | ⟨b, off, rfl, hc⟩
  · exact Or.inl h
  · exact Or.inr ⟨b, off, rfl, fun j hj => by rw [hb.cell (p := ⟨b, off + j, none⟩) (show b < B from hB ⟨b, off, none⟩ rfl)]; exact hc j hj⟩
theorem GRow.notW {w : World} {lo : Option Addr} {xs : List Nat} {P : Nat} (h : GRow w lo xs) (hP : ∀ q, lo = some q → P < q.block) (q : Nat) (v : Value) : GRow (w.setCell ⟨P, q, none⟩ v) lo xs := by
  rcases h with h | ⟨b, off, rfl, hc⟩
  · exact Or.inl h
  · have := hP _ rfl
    simp only at this
    refine Or.inr ⟨b, off, rfl, fun j hj => ?_⟩
    exact (World.cell?_setCell_other _ _ _ v (fun e => by cases e; omega)).trans (hc j hj)
theorem WdS.next {w wr w1 : World} {N P B k r : Nat} {lo : Option Addr} {ln lc : Nat} {ls : List Nat} {v v' : Value} {xs : List Nat} (h : WdS w wr N P B k lo ln lc ls v xs) (o : Obj) (hown : w1.ownsRow B 29 1 v' (k + 1) (fv xs ++ [.float .f64 r])) (hg : (wr.alloc o).grownBy w1 v.ownBlock) :
    B3 w1 P (.int .i64 N) (.slice lo ln lc) v ∧ WdS w (w1.setCell ⟨P, 2, none⟩ v') N P B (k + 1) lo ln lc ls v' (xs ++ [r]) := by
  have hb : Below B wr w1 := ((Below.refl B wr).alloc h.lo'.2.2 o).grown hg (by have := h.lo'.2.2; simp; omega) (fun k hk => (h.own.lt k hk).1)
  have hM := h.fb.pastW hb h.lo'.2.1
  refine ⟨hM, hM.putC _, ?_, ?_, ⟨h.lo'.1, h.lo'.2.1, ?_⟩, h.far, ?_⟩
  · exact (h.row.underW hb (fun q e => (h.far q e).2)).notW (fun q e => (h.far q e).1) _ _
  · rw [fv_snoc]
    exact ownsRow_setCell_below hown (a := ⟨P, 2, none⟩) h.lo'.2.1 _
  · have := hb.size; have := h.lo'.2.2; simp [World.setCell]; omega
  · exact (h.below.trans (hb.mono (by have := h.lo'; omega))).setCell h.lo'.1 _
theorem WdS.drew {w wr : World} {N P B k : Nat} {lo : Option Addr} {ln lc : Nat} {ls : List Nat} {v : Value} {xs : List Nat} (h : WdS w wr N P B k lo ln lc ls v xs) : WdS w wr.drew N P B k lo ln lc ls v xs :=
  ⟨h.fb.drew, h.row.below (Below.refl _ _).drew, h.own.drew, h.lo', h.far, h.below.drew⟩
theorem snoc_W {p : Nat → Prop} {rs : List Nat} {r k : Nat} (hl : rs.length = k) (h : ∀ i, i < k → p (rs.getD i 0)) (hr : p r) : ∀ i, i < k + 1 → p ((rs ++ [r]).getD i 0) := fun i hi => by
  by_cases e : i = k
  · subst e; subst hl
    rw [List.getD_eq_getElem?_getD, List.getElem?_append_right (Nat.le_refl _), Nat.sub_self]
    exact hr
  · have e2 : (rs ++ [r]).getD i 0 = rs.getD i 0 := by rw [List.getD_eq_getElem?_getD, List.getD_eq_getElem?_getD, List.getElem?_append_left (by omega)]
    rw [e2]
    exact h i (by omega)
theorem ofint_wz {E : Nat} (hE : E = 1074) {n : Int} (hn : n.natAbs < 9007199254740992) : Wz E (floatOfInt .f64 n) n := by
  obtain ⟨k, k1, k2⟩ := ladder_ex hE hn
  have e : floatOfInt .f64 n = Ieee.double.nearest (decide (n < 0)) n.natAbs 0 := rfl
  rw [e, near_exact (decide (n < 0)) (K := 0) k1 (by omega) (by rw [show ((0 : Int) + 1074 + ((0 : Nat) : Int)).toNat = E by omega, k2]; simp)]
  obtain ⟨w1, w2⟩ := vZ_word (decide (n < 0)) k1
  refine ⟨w1, ?_⟩
  rw [w2, k2]
  push_cast
  by_cases c : n < 0
  · rw [decide_eq_true c, if_pos rfl, ← Int.neg_mul]; congr 1; omega
  · rw [decide_eq_false c]
    simp only [Bool.false_eq_true, if_false]
    congr 1
    omega
set_option maxHeartbeats 200000 in
theorem pickC (x : Int) (c : Nat) (h1 : 1 ≤ c) (h2 : c ≤ 1000) (w : World) : Calls Try.prog 34 #[.int .i64 x, .int .i64 c] w fun e w' => ∃ m : Int, e = .returned (.int .i64 m) ∧ 0 ≤ m ∧ m < c ∧ w' = w := by
  have b1 : x.tmod c < c := Int.tmod_lt_of_pos x (by omega)
  have b2 : -(c : Int) < x.tmod c := by
    have := Int.tmod_lt_of_pos (-x) (show (0 : Int) < c by omega)
    rw [Int.neg_tmod] at this
    omega
  have c0 : ¬ (c : Int) = 0 := by omega
  by_cases h : x.tmod c < 0
  · generalize hy : x.tmod c = y at *
    go_enter Try.func34, Try.ntmps34
    go_wp2
    go_ret
    exact ⟨_, rfl, by omega, by omega, rfl⟩
  · generalize hy : x.tmod c = y at *
    go_enter Try.func34, Try.ntmps34
    go_wp2
    go_ret
    exact ⟨_, rfl, by omega, by omega, rfl⟩
set_option maxHeartbeats 1000000 in
theorem at13_any (ks : List Int) (ko : Option Addr) (kc k most : Nat) (w : World) (hK : IRow w ko ks) (_hk : k ≤ 1000000) (h1 : 1 ≤ most) (h2 : most ≤ 100) :
    Calls Try.prog 28 #[.slice ko ks.length kc, .int .i64 k, .int .i64 most] w fun e w' => ∃ m : Int, e = .returned (.int .i64 m) ∧ m.natAbs ≤ most ∧ w' = w := by
  have cp := fun x => pickC x (2 * most + 1) (by omega) (by omega)
  rw [show ((2 * most + 1 : Nat) : Int) = 2 * (most : Int) + 1 by push_cast; rfl] at cp
  by_cases h0 : ks.length = 0
  · have i1 : ((ks.length : Int) == 0) = true := beq_iff_eq.2 (by omega)
    clear h0 hK
    go_enter Try.func28, Try.ntmps28
    go_wp2
    go_ret
    exact ⟨_, rfl, by omega, rfl⟩
  · have i1 : ((ks.length : Int) == 0) = false := beq_eq_false_iff_ne.2 (by omega)
    have i0 : ¬ (ks.length : Int) = 0 := by omega
    have hq := Nat.mod_lt k (show 0 < ks.length by omega)
    obtain ⟨p, hp⟩ : ∃ p, k % ks.length = p := ⟨_, rfl⟩
    have e2 : (k : Int).tmod (ks.length : Int) = (p : Int) := by rw [← hp]; exact Int.ofNat_tmod k ks.length
    rw [hp] at hq
    have hpI : (p : Int) < (ks.length : Int) := by omega
    rcases hK with h | ⟨b, off, rfl, hc⟩
    · omega
    have g1 := hc p hq
    generalize ks.getD p 0 = y at *
    clear hp hc h0
    go_enter Try.func28, Try.ntmps28
    go_wp2_with (go_at_call 34; refine (cp _ _).mono ?_; rintro e w' ⟨m, rfl, pm1, pm2, h'⟩; subst w')
    go_ret
    exact ⟨_, rfl, by omega, rfl⟩
end Go.Proofs.Ytclldmdhpojciaa

namespace Go.Proofs.Ytclldmdhpojciaa
open Go.RowKit

theorem WbS.drew {w wr : World} {N P B k : Nat} {v : Value} {xs : List Nat} (h : WbS w wr N P B k v xs) : WbS w wr.drew N P B k v xs := ⟨h.fb.drew, h.own.drew, h.lo, h.below.drew⟩
/-- A whole number of a size of at most C, as a float; not 0. -/
def Wf (C x : Nat) : Prop := ∃ X : Int, X.natAbs ≤ C ∧ x = floatOfInt .f64 X
def Wn (C x : Nat) : Prop := ∃ X : Int, X.natAbs ≤ C ∧ X ≠ 0 ∧ x = floatOfInt .f64 X
/-- A factor of whole numbers handed back. -/
def GaveW (w : World) (e : Ending) (w' : World) : Prop := ∃ (N : Nat) (ls ds : List Nat) (lo dO : Option Addr) (lc dc : Nat), e = .returned (fcV N lo ls.length lc dO ds.length dc) ∧ N ≤ 6 ∧ ls.length = tri N ∧ ds.length = N ∧ (∀ i, i < ls.length → Wf 3 (ls.getD i 0)) ∧ (∀ i, i < ds.length → Wn 50 (ds.getD i 0)) ∧ GRow w' lo ls ∧ GRow w' dO ds ∧ ls.length ≤ lc ∧ ds.length ≤ dc ∧ Frs w.heap.size lo ∧ Frs w.heap.size dO ∧ Below w.heap.size w w'
set_option maxRecDepth 100000 in
set_option maxHeartbeats 4000000 in
theorem whole13_any (n : Int) (ks : List Int) (ko : Option Addr) (kc : Nat) (w : World) (hK : IRow w ko ks) :
    Calls Try.prog 27 #[.int .i64 n, .slice ko ks.length kc] w fun e w' => GaveW w e w' := by
  obtain ⟨i0, hi, hz0, hz1, hz2⟩ := info_parts Try.infoF
  have cp := fun W => pickC n 7 (by omega) (by omega) W
  rw [show ((7 : Nat) : Int) = 7 from rfl] at cp
  have RB := B3.new w (.int .i64 0) (.slice none 0 0) (.slice none 0 0) 27
  have BB := below_one w (.cells #[.int .i64 0, .slice none 0 0, .slice none 0 0] 27)
  go_enter Try.func27, Try.ntmps27
  go_upto_region 1 with fail
  have hsz : (w.alloc (.cells #[.int .i64 0, .slice none 0 0, .slice none 0 0] 27)).heap.size = w.heap.size + 1 := by simp
  generalize w.alloc (.cells #[.int .i64 0, .slice none 0 0, .slice none 0 0] 27) = w0 at *
  go_upto_region 2 with (go_at_call 34; refine (cp _).mono ?_; rintro e w' ⟨m, rfl, pm1, pm2, h'⟩; subst w')
  obtain ⟨N, rfl⟩ : ∃ N : Nat, m = (N : Int) := ⟨m.toNat, by omega⟩
  have hN6 : N ≤ 6 := by omega
  have hK0 := hK.below BB
  have S0 : WbS w0 (w0.alloc (.cells #[.int .i64 N, .slice none 0 0, .slice none 0 0] 27)) N w0.heap.size (w0.heap.size + 1) 0 (.slice none 0 0) [] :=
    ⟨B3.new _ _ _ _ _, World.ownsRow_nil _ _ _ _, ⟨Nat.le_refl _, by omega, by simp⟩, below_one _ _⟩
  generalize w0.alloc (.cells #[.int .i64 N, .slice none 0 0, .slice none 0 0] 27) = WX1 at *
  rw [hsz] at S0
  obtain ⟨P, hP⟩ : ∃ P, w.heap.size + 1 = P := ⟨_, rfl⟩
  obtain ⟨B, hB⟩ : ∃ B, P + 1 = B := ⟨_, rfl⟩
  rw [hP] at S0 ⊢
  rw [hB] at S0
  have HP : Hid (w.heap.size + 1 = P) := hP
  have HSZ : Hid (w0.heap.size = w.heap.size + 1) := hsz
  clear hP hB hsz
  have e0 := tri_two N
  have hT := tri_le (show N ≤ 49 by omega)
  obtain ⟨T, hTe⟩ : ∃ T, tri N = T := ⟨_, rfl⟩
  rw [hTe] at e0 hT
  have HT : Hid (tri N = T) := hTe
  obtain ⟨q, hq⟩ : ∃ q : Int, q = 2 * (T : Int) := ⟨_, rfl⟩
  rw [← hq] at e0
  clear hTe cp pm1 pm2
  go_wp2
  go_loopg [6] T (fun gg s6 wr => ∃ (k : Nat) (v : Value) (rs : List Nat), k ≤ T ∧ gg = T - k ∧ s6 = .int .i64 k ∧ Hid (rs.length = k) ∧ Hid (∀ i, i < k → Wf 3 (rs.getD i 0)) ∧ WbS w0 wr N P B k v rs)
  case atStart => exact ⟨0, .slice none 0 0, [], Nat.zero_le _, rfl, rfl, rfl, fun i hi => by omega, S0⟩
  case round =>
    clear S0
    obtain ⟨k, v, rs, hk, hg, rfl, hrl, hF, hS⟩ := hrel
    have HG : Hid (gk = T - k) := hg
    clear hg
    obtain ⟨m0, m1, m2, f0, f1, f2, _⟩ := id hS.fb
    by_cases hlt : k < T
    · have i1 : (k : Int) < (T : Int) := by omega
      have hSD := hS.drew
      have hlo := hS.lo
      have hO : ∀ o, (World.alloc wr.drew o).ownsRow B 29 1 v k (fv rs) := fun o => hSD.own.alloc o
      have HW : ∀ o, B ≤ (World.alloc wr.drew o).heap.size := fun o => by have := hlo.2.2; simp; omega
      have ca := fun W h => at13_any ks ko kc k 3 W h (by omega) (by omega) (by omega)
      rw [show ((3 : Nat) : Int) = 3 from rfl] at ca
      have hKr := hK0.below hSD.below
      go_wp2
      go_region_law (first
        | (refine step_own rfl (.tmp 24) (.tmp 29) 22 rfl B 29 i0 (.float .f64 0) 1 8 Try.underlying22 hi hz0 hz1 hz2 rfl (by decide) _ _ _ rfl (hO _) _ 1 1 [.float .f64 x] rfl rfl (World.news_of_block (cs := #[.float .f64 x]) (t := 29) (fr := (0, 0)) (heap_alloc_new _ _)) (by simp [Value.oneCell']) (by unfold maxLen; omega) (by omega) (HW _) ?_; intro v' w2 hown1 hgrow _; obtain ⟨gg, gc, rfl, _⟩ := hown1.form (by omega); have hnx := hSD.next _ hown1 hgrow; obtain ⟨m0', m1', m2', f0', f1', f2', _⟩ := id hnx.1)
        | (go_simp; go_at_call 28; refine (ca _ hKr).mono ?_; rintro e w' ⟨m, rfl, pm1, h'⟩; subst w'; obtain ⟨x, hx⟩ : ∃ x, floatOfInt .f64 m = x := ⟨_, rfl⟩; have HX : Hid (Wf 3 x) := ⟨m, pm1, hx.symm⟩))
      all_goals
        go_wp2
        go_roundg (T - (k + 1))
        case measure => rw [HG.out]; omega
        case rel => exact ⟨k + 1, _, rs ++ [x], by omega, rfl, by go_num, (show (rs ++ [x]).length = k + 1 by simp [hrl.out]), snoc_W hrl.out hF.out HX.out, hnx.2⟩
    · have ek : k = T := by omega
      have i1 : ¬ (k : Int) < (T : Int) := by omega
      obtain ⟨lo, lc, rfl, q1, q2, q3⟩ := owned_grow (xs := rs) (by rw [hrl.out]; exact hS.own)
      have hlo := hS.lo
      have hlt' : ∀ a, lo = some a → a.block < wr.heap.size := fun a ea => by
        subst ea
        have := hS.own.lt a.block rfl
        exact this.2
      have S1 : WdS w0 wr N P wr.heap.size 0 lo rs.length lc rs (.slice none 0 0) [] :=
        ⟨hS.fb, q1, World.ownsRow_nil _ _ _ _, ⟨hlo.1, by omega, Nat.le_refl _⟩, fun a ea => ⟨by have := q3 a ea; omega, hlt' a ea⟩, hS.below⟩
      have HLS : Hid (rs.length = T) := (show rs.length = T by rw [hrl.out]; exact ek)
      have HFL : Hid (∀ i, i < rs.length → Wf 3 (rs.getD i 0)) := fun i hi => hF.out i (by have := hrl.out; omega)
      have HQ2 : Hid (rs.length ≤ lc) := q2
      have HQ3 : Hid (∀ a, lo = some a → P < a.block) := fun a ea => (S1.far a ea).1
      clear hrl hF hS m0 m1 m2 f0 f1 f2 ek q1 q2 q3 hlo hlt'
      generalize wr.heap.size = B2 at *
      obtain ⟨m0, m1, m2, _⟩ := id S1.fb
      go_wp2
      clear m0 m1 m2
      go_loopg [7] N (fun gg s7 wv => ∃ (k : Nat) (v : Value) (es' : List Nat), k ≤ N ∧ gg = N - k ∧ s7 = .int .i64 k ∧ Hid (es'.length = k) ∧ Hid (∀ i, i < k → Wn 50 (es'.getD i 0)) ∧ WdS w0 wv N P B2 k lo rs.length lc rs v es')
      case atStart => exact ⟨0, .slice none 0 0, [], Nat.zero_le _, rfl, rfl, rfl, fun i hi => by omega, S1⟩
      case round =>
        clear S1
        obtain ⟨k2', v, ds, hk', hg, rfl, hrl, hF, hS⟩ := hrel
        have HG2 : Hid (gk = N - k2') := hg
        clear hg
        obtain ⟨m0, m1, m2, f0, f1, f2, _⟩ := id hS.fb
        by_cases hlt : k2' < N
        · have i2 : (k2' : Int) < (N : Int) := by omega
          have ca := fun W h => at13_any ks ko kc (3 * k2' + 1) 50 W h (by omega) (by omega) (by omega)
          rw [show ((50 : Nat) : Int) = 50 from rfl, show ((3 * k2' + 1 : Nat) : Int) = 3 * (k2' : Int) + 1 by push_cast; rfl] at ca
          have hKr := hK0.below hS.below
          have hown := hS.own
          have hlo := hS.lo'
          have HW : ∀ o, B2 ≤ (wr.alloc o).heap.size := fun o => by have := hlo.2.2; simp; omega
          go_upto_region 10 with (go_at_call 28; refine (ca _ hKr).mono ?_; rintro e w' ⟨m, rfl, pm1, h'⟩; subst w')
          by_cases hm0 : m = 0
          · have b1 : (m == 0) = true := beq_iff_eq.2 hm0
            obtain ⟨x, hx⟩ : ∃ x, floatOfInt .f64 7 = x := ⟨_, rfl⟩
            have HX : Hid (Wn 50 x) := ⟨7, by decide, by decide, hx.symm⟩
            clear hm0
            go_wp2_with (at_builtin; refine wpList_append_own _ rfl _ _ 22 rfl B2 29 i0 (.float .f64 0) 1 8 Try.underlying22 hi hz0 hz1 hz2 rfl (by decide) _ _ _ rfl (hown.alloc _) _ 1 1 [.float .f64 x] rfl rfl (World.news_of_block (cs := #[.float .f64 x]) (t := 29) (fr := (0, 0)) (heap_alloc_new _ _)) (by simp [Value.oneCell']) (by unfold maxLen; omega) (by omega) (HW _) ?_; intro v' w2 hown1 hgrow _; obtain ⟨gg, gc, rfl, _⟩ := hown1.form (by omega); have hnx := hS.next _ hown1 hgrow; obtain ⟨m0', m1', m2', f0', f1', f2', _⟩ := id hnx.1)
            go_roundg (N - (k2' + 1))
            case measure => rw [HG2.out]; omega
            case rel => exact ⟨k2' + 1, _, ds ++ [x], by omega, rfl, by go_num, (show (ds ++ [x]).length = k2' + 1 by simp [hrl.out]), snoc_W hrl.out hF.out HX.out, hnx.2⟩
          · have b1 : (m == 0) = false := beq_eq_false_iff_ne.2 hm0
            obtain ⟨x, hx⟩ : ∃ x, floatOfInt .f64 m = x := ⟨_, rfl⟩
            have HX : Hid (Wn 50 x) := ⟨m, pm1, hm0, hx.symm⟩
            clear hm0
            go_wp2_with (at_builtin; refine wpList_append_own _ rfl _ _ 22 rfl B2 29 i0 (.float .f64 0) 1 8 Try.underlying22 hi hz0 hz1 hz2 rfl (by decide) _ _ _ rfl (hown.alloc _) _ 1 1 [.float .f64 x] rfl rfl (World.news_of_block (cs := #[.float .f64 x]) (t := 29) (fr := (0, 0)) (heap_alloc_new _ _)) (by simp [Value.oneCell']) (by unfold maxLen; omega) (by omega) (HW _) ?_; intro v' w2 hown1 hgrow _; obtain ⟨gg, gc, rfl, _⟩ := hown1.form (by omega); have hnx := hS.next _ hown1 hgrow; obtain ⟨m0', m1', m2', f0', f1', f2', _⟩ := id hnx.1)
            go_roundg (N - (k2' + 1))
            case measure => rw [HG2.out]; omega
            case rel => exact ⟨k2' + 1, _, ds ++ [x], by omega, rfl, by go_num, (show (ds ++ [x]).length = k2' + 1 by simp [hrl.out]), snoc_W hrl.out hF.out HX.out, hnx.2⟩
        · have ek : k2' = N := by omega
          have i2 : ¬ (k2' : Int) < (N : Int) := by omega
          obtain ⟨dO, dc, rfl, q1, q2, q3⟩ := owned_grow (xs := ds) (by rw [hrl.out]; exact hS.own)
          have hlo := hS.lo'
          have HRB := RB.below hS.below
          have hPw := HP.out
          have hsz := HSZ.out
          have hds : ds.length = N := by rw [hrl.out]; exact ek
          have HD : Hid (∀ i, i < ds.length → Wn 50 (ds.getD i 0)) := fun i hi => hF.out i (by have := hrl.out; omega)
          obtain ⟨t0, t1, t2, s0, s1, s2, _⟩ := id HRB
          have hend : ∀ x y z, GaveW w (.returned (fcV N lo rs.length lc dO ds.length dc)) (((wr.setCell ⟨w.heap.size, 0, none⟩ x).setCell ⟨w.heap.size, 1, none⟩ y).setCell ⟨w.heap.size, 2, none⟩ z) := fun x y z =>
            ⟨N, rs, ds, lo, dO, lc, dc, rfl, hN6, by rw [HLS.out]; exact HT.out.symm, hds, HFL.out, HD.out,
              ((hS.row.notW (fun a ea => by have := HQ3.out a ea; omega) 0 x).notW (fun a ea => by have := HQ3.out a ea; omega) 1 y).notW (fun a ea => by have := HQ3.out a ea; omega) 2 z,
              ((q1.notW (fun a ea => by have := q3 a ea; omega) 0 x).notW (fun a ea => by have := q3 a ea; omega) 1 y).notW (fun a ea => by have := q3 a ea; omega) 2 z,
              HQ2.out, q2, fun a ea => by have := HQ3.out a ea; omega, fun a ea => by have := q3 a ea; omega, set_three (BB.trans (hS.below.mono BB.size)) (Nat.le_refl _) x y z⟩
          clear hrl hF ek hds hPw hsz
          go_wp2
          exact bodyPost_ret (v := fcV N lo rs.length lc dO ds.length dc) (by simp [results, Try.results27, go_sem, t0, t1, t2]) rfl (hend _ _ _)
end Go.Proofs.Ytclldmdhpojciaa

namespace Go.Proofs.Ytclldmdhpojciaa
open Go.RowKit

theorem to_int {E x : Nat} {X : Int} (hE : E = 1074) (h : Wz E x X) : (Ieee.double.read x).toInt .zero = some X := by
  have ha := h.abs
  rw [read_f h.1]
  show some (Ieee.signed (sgn x) (Ieee.Toward.zero.cut (sgn x) (mg (rung x) <<< (-1074 + (up (rung x) : Int)).toNat) (-(-1074 + (up (rung x) : Int))).toNat) 0) = some X
  have hc : Ieee.Toward.zero.cut (sgn x) (mg (rung x) <<< (-1074 + (up (rung x) : Int)).toNat) (-(-1074 + (up (rung x) : Int))).toNat = X.natAbs := by
    show (mg (rung x) <<< (-1074 + (up (rung x) : Int)).toNat) / (1 <<< min (-(-1074 + (up (rung x) : Int))).toNat ((mg (rung x) <<< (-1074 + (up (rung x) : Int)).toNat).log2 + 2)) + (false).toNat = X.natAbs
    rw [Nat.shiftLeft_eq, Nat.shiftLeft_eq, Nat.one_mul]
    rw [← mg_up (rung x)] at ha
    by_cases c : E ≤ up (rung x)
    · rw [show (-1074 + (up (rung x) : Int)).toNat = up (rung x) - E by omega, show (-(-1074 + (up (rung x) : Int))).toNat = 0 by omega, Nat.zero_min, Nat.pow_zero, Nat.div_one]
      rw [show up (rung x) = (up (rung x) - E) + E by omega, Nat.pow_add, ← Nat.mul_assoc] at ha
      have := Nat.eq_of_mul_eq_mul_right (Nat.two_pow_pos E) ha
      rw [this]; rfl
    · rw [show (-1074 + (up (rung x) : Int)).toNat = 0 by omega, Nat.pow_zero, Nat.mul_one]
      obtain ⟨d, hd⟩ : ∃ d, (-(-1074 + (up (rung x) : Int))).toNat = d := ⟨_, rfl⟩
      rw [hd]
      have hm : mg (rung x) = X.natAbs * 2 ^ d := by
        rw [show E = d + up (rung x) by omega, Nat.pow_add, ← Nat.mul_assoc] at ha
        exact Nat.eq_of_mul_eq_mul_right (Nat.two_pow_pos _) ha
      by_cases x0 : X.natAbs = 0
      · rw [hm, x0, Nat.zero_mul, Nat.zero_div]; rfl
      · have hl : d ≤ (mg (rung x)).log2 := by
          refine (Nat.le_log2 (by rw [hm]; exact Nat.mul_ne_zero x0 (by have := Nat.two_pow_pos d; omega))).2 ?_
          rw [hm]
          exact Nat.le_mul_of_pos_left _ (by omega)
        rw [Nat.min_eq_left (by omega), hm, Nat.mul_div_cancel _ (Nat.two_pow_pos d)]; rfl
  rw [hc]
  congr 1
  unfold Ieee.signed
  rw [Nat.shiftLeft_eq, Nat.pow_zero, Nat.mul_one]
  by_cases x0 : X = 0
  · subst x0; cases sgn x <;> rfl
  · have hp := pw_posZ E
    have sx : sgn x = decide (X < 0) := by
      rw [vZ_neg (by rw [h.2]; exact Int.mul_ne_zero x0 (by omega)), h.2]
      by_cases c : X < 0
      · rw [decide_eq_true c, decide_eq_true (Int.mul_neg_of_neg_of_pos c hp)]
      · rw [decide_eq_false c, decide_eq_false (by have := Int.mul_nonneg (show 0 ≤ X by omega) (Int.le_of_lt hp); omega)]
    rw [sx]
    by_cases c : X < 0
    · rw [decide_eq_true c, if_pos rfl]; omega
    · rw [decide_eq_false c]
      simp only [Bool.false_eq_true, if_false]
      omega
theorem run_toint {E x : Nat} {X : Int} (hE : E = 1074) (h : Wz E x X) (hb : X.natAbs < 9007199254740992) (w : World) : (convert 29 3 (.float .f64 x)).run Try.prog w = .ok (.int .i64 X) w := by
  have e1 : (convert 29 3 (.float .f64 x)).run Try.prog w = (Conv.floatToInt .f64 x .i64).run Try.prog w := by
    simp [convert, run_underlying Try.underlying29, run_underlying Try.underlying3, Result.andThen]
  rw [e1]
  unfold Conv.floatToInt
  have e2 : (FloatKind.decode .f64 x).toInt .zero = some X := to_int hE h
  rw [e2]
  have m1 : IntKind.i64.min = -9223372036854775808 := by decide
  have m2 : IntKind.i64.max = 9223372036854775807 := by decide
  simp only [m1, m2]
  rw [if_pos (by omega)]
  rfl
/-- L's number, as a whole one; ones on the diagonal. -/
def enZ (L : Nat → Nat → Int) (i k : Nat) : Int := if k = i then 1 else if i < k then 0 else L i k
set_option maxHeartbeats 1000000 in
theorem entry13_any (n : Int) (ls : List Nat) (lo : Option Addr) (lc : Nat) (d : Option Addr) (dn dc i k : Nat) (L : Nat → Nat → Int) (w : World) (hr : GRow w lo ls) (hi : i ≤ 48) (hk : k ≤ 48) (hl : tri (i + 1) ≤ ls.length) (hL : k < i → Wz 1074 (lsF ls i k) (L i k) ∧ (L i k).natAbs ≤ 3) :
    Calls Try.prog 29 #[fcV n lo ls.length lc d dn dc, .int .i64 i, .int .i64 k] w fun e w' => e = .returned (.int .i64 (enZ L i k)) ∧ Below w.heap.size w w' := by
  have hb := below_one w
  unfold enZ
  by_cases e : k = i
  · rw [if_pos e]
    have b1 : ((i : Int) == (k : Int)) = true := beq_iff_eq.2 (by omega)
    clear e
    go_enter Try.func29, Try.ntmps29
    go_wp2
    go_ret
    exact ⟨rfl, hb _⟩
  · rw [if_neg e]
    have b1 : ((i : Int) == (k : Int)) = false := beq_eq_false_iff_ne.2 (by omega)
    by_cases c : i < k
    · rw [if_pos c]
      have i1 : (i : Int) < (k : Int) := by omega
      clear e c
      go_enter Try.func29, Try.ntmps29
      go_wp2
      go_ret
      exact ⟨rfl, hb _⟩
    · rw [if_neg c]
      have i1 : ¬ (i : Int) < (k : Int) := by omega
      have hki : k < i := by omega
      obtain ⟨hW, hX⟩ := hL hki
      have hcv := fun W => run_toint rfl hW (by omega) W
      have e0 := tri_two i
      have h0 := tri_le (show i ≤ 49 by omega)
      unfold lsF at hcv
      rw [tri] at hl
      obtain ⟨t, ht⟩ : ∃ t, tri i = t := ⟨_, rfl⟩
      rw [ht] at e0 h0 hl hcv
      obtain ⟨q, hq⟩ : ∃ q : Int, q = 2 * (t : Int) := ⟨_, rfl⟩
      rw [← hq] at e0
      clear ht hW
      rcases hr with h | ⟨b, off, rfl, hc⟩
      · omega
      have g := hc (t + k) (by omega)
      have lt := World.block_lt_of_cell? w _ g
      have g2 := fun o => (hb o).cell lt
      rw [g] at g2
      have iw : ((t : Int) + (k : Int)) < (ls.length : Int) := by omega
      have nq : ((t : Int) + (k : Int)).toNat = t + k := by omega
      have g3 : ∀ o, (w.alloc o).cell? ⟨b, off + (t + k), none⟩ = some (.float .f64 (ls.getD (t + k) 0)) := g2
      generalize ls.getD (t + k) 0 = x at *
      generalize L i k = X at *
      clear hc g g2 hL e c
      go_enter Try.func29, Try.ntmps29
      go_wp2
      go_ret
      exact ⟨rfl, hb _⟩
end Go.Proofs.Ytclldmdhpojciaa

namespace Go.Proofs.Ytclldmdhpojciaa
open Go.RowKit

theorem Try.infoI : (Try.prog.info? 3).map (fun i => (i.zero, i.size, i.bytes)) = some (some (.int .i64 0), 1, 8) := by kernel_rfl
/-- A new row of ints. -/
def IRw (w : World) (b n : Nat) (f : Nat → Int) : Prop := w.rowIs b 3 n (fun j => .int .i64 (f j))
theorem IRw.set {w : World} {b n : Nat} {f : Nat → Int} (h : IRw w b n f) (i : Nat) (v : Int) : IRw (w.setCell ⟨b, i, none⟩ (.int .i64 v)) b n (fun j => if j = i then v else f j) := by
  have := World.rowIs.set h i (.int .i64 v)
  refine World.rowIs.congr this fun j _ => ?_
  by_cases hj : j = i <;> simp [hj]
theorem IRw.made (w : World) (n : Nat) : IRw (w.alloc (.cells (madeCells #[.int .i64 0] n) 3)) w.heap.size n (fun _ => 0) := World.rowIs_made w (.int .i64 0) n 3
theorem IRw.below {w w' : World} {b n B : Nat} {f : Nat → Int} (h : IRw w b n f) (hb : Below B w w') (hB : b < B) : IRw w' b n f := World.rowIs.of_block h (hb.block b hB)
/-- A list that grows in a slot. -/
structure GwS (w wr : World) (B k : Nat) (v : Value) (xs : List Nat) : Prop where
  own : wr.ownsRow B 29 1 v k (fv xs)
  lo : w.heap.size ≤ B ∧ B ≤ wr.heap.size
  below : Below w.heap.size w wr
theorem GwS.next {w wr w1 : World} {B k r : Nat} {v v' : Value} {xs : List Nat} (h : GwS w wr B k v xs) (o : Obj) (hown : w1.ownsRow B 29 1 v' (k + 1) (fv xs ++ [.float .f64 r])) (hg : (wr.alloc o).grownBy w1 v.ownBlock) : GwS w w1 B (k + 1) v' (xs ++ [r]) := by
  have hb : Below B wr w1 := ((Below.refl B wr).alloc h.lo.2 o).grown hg (by have := h.lo.2; simp; omega) (fun k hk => (h.own.lt k hk).1)
  exact ⟨by rw [fv_snoc]; exact hown, ⟨h.lo.1, Nat.le_trans h.lo.2 hb.size⟩, h.below.trans (hb.mono h.lo.1)⟩
/-- An int row that is written. -/
structure TuS (w wr : World) (g N : Nat) (z : Nat → Int) : Prop where
  row : IRw wr g N z
  lo : w.heap.size ≤ g ∧ g < wr.heap.size
  below : Below w.heap.size w wr
theorem TuS.later {w wr w1 : World} {g N : Nat} {z : Nat → Int} (h : TuS w wr g N z) (hb : Below wr.heap.size wr w1) : TuS w w1 g N z :=
  ⟨h.row.below hb h.lo.2, ⟨h.lo.1, Nat.lt_of_lt_of_le h.lo.2 hb.size⟩, h.below.trans (hb.mono h.below.size)⟩
theorem TuS.set {w wr : World} {g N : Nat} {z : Nat → Int} (h : TuS w wr g N z) (q : Nat) (r : Int) : TuS w (wr.setCell ⟨g, q, none⟩ (.int .i64 r)) g N (fun p => if p = q then r else z p) :=
  ⟨h.row.set q r, ⟨h.lo.1, by rw [sset_size]; exact h.lo.2⟩, h.below.setCell h.lo.1 _⟩
/-- Two lists that grow, apart. -/
structure TwG (w wr : World) (B k m : Nat) (v u : Value) (xs ys : List Nat) : Prop where
  ov : wr.ownsRow B 29 1 v k (fv xs)
  ou : wr.ownsRow B 29 1 u m (fv ys)
  apart : ∀ a, v.ownBlock = some a → u.ownBlock = some a → False
  lo : w.heap.size ≤ B ∧ B ≤ wr.heap.size
  below : Below w.heap.size w wr
theorem TwG.turn {w wr : World} {B k m : Nat} {v u : Value} {xs ys : List Nat} (h : TwG w wr B k m v u xs ys) : TwG w wr B m k u v ys xs := ⟨h.ou, h.ov, fun a p q => h.apart a q p, h.lo, h.below⟩
theorem TwG.next {w wr w1 : World} {B k m r : Nat} {v v' u : Value} {xs ys : List Nat} (h : TwG w wr B k m v u xs ys) (o : Obj) (hown : w1.ownsRow B 29 1 v' (k + 1) (fv xs ++ [.float .f64 r])) (hg : (wr.alloc o).grownBy w1 v.ownBlock) (ha : v'.ownBlock = v.ownBlock ∨ v'.ownBlock = some (wr.alloc o).heap.size) : TwG w w1 B (k + 1) m v' u (xs ++ [r]) ys := by
  have hb : Below B wr w1 := ((Below.refl B wr).alloc h.lo.2 o).grown hg (by have := h.lo.2; simp; omega) (fun k hk => (h.ov.lt k hk).1)
  refine ⟨by rw [fv_snoc]; exact hown, ?_, fun a p q => ?_, ⟨h.lo.1, Nat.le_trans h.lo.2 hb.size⟩, h.below.trans (hb.mono h.lo.1)⟩
  · refine (h.ou.alloc o).kept hg ?_
    cases c : u.ownBlock with
    | none => exact Or.inl rfl
    | some a =>
      right
      intro e
      exact h.apart a e.symm c
  · rcases ha with ha | ha
    · exact h.apart a (by rw [← ha]; exact p) q
    · have h1 := (h.ou.lt a q).2
      rw [ha] at p
      have := Option.some.inj p
      simp at this
      omega
theorem TwG.drew {w wr : World} {B k m : Nat} {v u : Value} {xs ys : List Nat} (h : TwG w wr B k m v u xs ys) : TwG w wr.drew B k m v u xs ys := ⟨h.ov.drew, h.ou.drew, h.apart, h.lo, h.below.drew⟩
theorem TwG.later {w wr w1 : World} {B k m : Nat} {v u : Value} {xs ys : List Nat} (h : TwG w wr B k m v u xs ys) (hb : Below wr.heap.size wr w1) : TwG w w1 B k m v u xs ys := by
  have hk : ∀ {t : Value} {n : Nat} {zs : List Value}, wr.ownsRow B 29 1 t n zs → w1.ownsRow B 29 1 t n zs := fun {t n zs} q => by
    obtain ⟨q1, q2⟩ := q
    refine ⟨q1, ?_⟩
    rcases q2 with q2 | ⟨g, cap, cur, e, b1, b2, b3⟩
    · exact Or.inl q2
    · refine Or.inr ⟨g, cap, cur, e, b1, ?_, b3⟩
      have hlt : g < wr.heap.size := by
        rcases Nat.lt_or_ge g wr.heap.size with c | c
        · exact c
        · rw [Array.getElem?_eq_none c] at b2; cases b2
      rw [hb.block g hlt]; exact b2
  exact ⟨hk h.ov, hk h.ou, h.apart, ⟨h.lo.1, Nat.le_trans h.lo.2 hb.size⟩, h.below.trans (hb.mono h.below.size)⟩
/-- append to a row of the call's own, as one step of a region that draws its order: where the row lies then is told. -/
theorem step_own_at {P : Program} {ops : Array Oper} {o : Oper} {a : Act} {w : World} {K : Act → World → Prop} {Q : Exit → Act → World → Prop} {E : Prop}
    (hg : o.guard = none) (s x : Operand) (t : TypeId) (ho : o.op = .call { callee := .builtin .append, args := #[s, x], argTypes := #[t, t] })
    (base : Nat) (e : TypeId) (i : TypeInfo) (z : Value) (size bytes : Nat) (ht : P.underlying t = some (.slice e)) (hi : P.info? e = some i) (hz : i.zero = some z)
    (hsize : i.size = size) (hby : i.bytes = bytes) (hzs : z.cells.size = size) (hsz : 0 < size)
    (v : Value) (n : Nat) (xs : List Value) (hs : a.eval s = v) (hown : w.ownsRow base e size v n xs)
    (ad : Addr) (m c : Nat) (news : List Value) (hx : a.eval x = .slice (some ad) m c) (hl : news.length = m * size) (hnews : ∀ j u, news[j]? = some u → w.cell? (ad.add j) = some u) (h1 : ∀ u ∈ news, u.oneCell' = true)
    (h63 : n + m ≤ maxLen) (hbytes : (n + m) * bytes ≤ 140737488355328) (hbase : base ≤ w.heap.size)
    (h : ∀ v' w', w'.ownsRow base e size v' (n + m) (xs ++ news) → w.grownBy w' v.ownBlock → (v'.ownBlock = v.ownBlock ∨ v'.ownBlock = some w.heap.size) → K (a.put o.dst v') w') :
    if Region.wanted o (yielded ops a.tmps) = true then Oper.wp P o a w K Q else E := by
  have hw : Region.wanted o (yielded ops a.tmps) = true := by simp [Region.wanted, hg]
  rw [if_pos hw]
  obtain ⟨v', w', hr, h2, h3, _, h5⟩ := run_append_own_at (P := P) w base t o.type e i z size bytes ht hi hz hsize hby hzs hsz v n xs hown ad m c news hl hnews h1 h63 hbytes hbase
  unfold Oper.wp execOp
  simp only [ho, resolve, invoke, builtin, Sem.run_bind, Sem.run_pure, Result.andThen_ok, List.map_toArray, List.map_cons, List.map_nil, hs, hx, hr]
  exact h v' w' h2 h3 h5
end Go.Proofs.Ytclldmdhpojciaa
