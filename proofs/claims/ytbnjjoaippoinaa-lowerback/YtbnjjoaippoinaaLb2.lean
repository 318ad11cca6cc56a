/- LowerBack: its walk. -/
import Derived.Test.YtbnjjoaippoinaaLb1
import Derived.Test.YtbnjjoaippoinaaLw16
namespace Go.Proofs.Ytbnjjoaippoinaa
open Go.RowKit

/-- The factor's box while L grows. -/
structure LbS (w wr : World) (N P B k : Nat) (v : Value) (xs : List Nat) : Prop where
  fb : B3 wr P (.int .i64 N) v (.slice none 0 0)
  own : wr.ownsRow B 38 1 v k (fv xs)
  lo : w.heap.size ≤ P ∧ P < B ∧ B ≤ wr.heap.size
  below : Below w.heap.size w wr
theorem LbS.next {w wr w1 : World} {N P B k r : Nat} {v v' : Value} {xs : List Nat} (h : LbS w wr N P B k v xs) (o : Obj) (hown : w1.ownsRow B 38 1 v' (k + 1) (fv xs ++ [.float .f64 r])) (hg : (wr.alloc o).grownBy w1 v.ownBlock) :
    B3 w1 P (.int .i64 N) v (.slice none 0 0) ∧ LbS w (w1.setCell ⟨P, 1, none⟩ v') N P B (k + 1) v' (xs ++ [r]) := by
  have hb : Below B wr w1 := ((Below.refl B wr).alloc h.lo.2.2 o).grown hg (by have := h.lo.2.2; simp; omega) (fun k hk => (h.own.lt k hk).1)
  have hM := h.fb.past hb h.lo.2.1
  refine ⟨hM, hM.putM _, ?_, ⟨h.lo.1, h.lo.2.1, ?_⟩, ?_⟩
  · rw [fv_snoc]
    exact ownsRow_setCell_below hown (a := ⟨P, 1, none⟩) h.lo.2.1 _
  · have := hb.size; have := h.lo.2.2; simp [World.setCell]; omega
  · exact (h.below.trans (hb.mono (by have := h.lo; omega))).setCell h.lo.1 _
/-- The same while D grows: L stands. -/
structure LdS (w wr : World) (N P B k : Nat) (lo : Option Addr) (ln lc : Nat) (ls : List Nat) (v : Value) (xs : List Nat) : Prop where
  fb : B3 wr P (.int .i64 N) (.slice lo ln lc) v
  row : GRow wr lo ls
  own : wr.ownsRow B 38 1 v k (fv xs)
  lo' : w.heap.size ≤ P ∧ P < B ∧ B ≤ wr.heap.size
  far : ∀ q, lo = some q → P < q.block ∧ q.block < B
  below : Below w.heap.size w wr
theorem GRow.under {w w1 : World} {lo : Option Addr} {xs : List Nat} {B : Nat} (h : GRow w lo xs) (hb : Below B w w1) (hB : ∀ q, lo = some q → q.block < B) : GRow w1 lo xs := by
  rcases h with h | ⟨b, off, rfl, hc⟩
  · exact Or.inl h
  · exact Or.inr ⟨b, off, rfl, fun j hj => by rw [hb.cell (p := ⟨b, off + j, none⟩) (show b < B from hB ⟨b, off, none⟩ rfl)]; exact hc j hj⟩
theorem GRow.notP {w : World} {lo : Option Addr} {xs : List Nat} {P : Nat} (h : GRow w lo xs) (hP : ∀ q, lo = some q → P < q.block) (q : Nat) (v : Value) : GRow (w.setCell ⟨P, q, none⟩ v) lo xs := by
  rcases h with h | ⟨b, off, rfl, hc⟩
  · exact Or.inl h
  · have := hP _ rfl
    simp only at this
    refine Or.inr ⟨b, off, rfl, fun j hj => ?_⟩
    exact (World.cell?_setCell_other _ _ _ v (fun e => by cases e; omega)).trans (hc j hj)
theorem LdS.next {w wr w1 : World} {N P B k r : Nat} {lo : Option Addr} {ln lc : Nat} {ls : List Nat} {v v' : Value} {xs : List Nat} (h : LdS w wr N P B k lo ln lc ls v xs) (o : Obj) (hown : w1.ownsRow B 38 1 v' (k + 1) (fv xs ++ [.float .f64 r])) (hg : (wr.alloc o).grownBy w1 v.ownBlock) :
    B3 w1 P (.int .i64 N) (.slice lo ln lc) v ∧ LdS w (w1.setCell ⟨P, 2, none⟩ v') N P B (k + 1) lo ln lc ls v' (xs ++ [r]) := by
  have hb : Below B wr w1 := ((Below.refl B wr).alloc h.lo'.2.2 o).grown hg (by have := h.lo'.2.2; simp; omega) (fun k hk => (h.own.lt k hk).1)
  have hM := h.fb.past hb h.lo'.2.1
  refine ⟨hM, hM.put2 _, ?_, ?_, ⟨h.lo'.1, h.lo'.2.1, ?_⟩, h.far, ?_⟩
  · exact (h.row.under hb (fun q e => (h.far q e).2)).notP (fun q e => (h.far q e).1) _ _
  · rw [fv_snoc]
    exact ownsRow_setCell_below hown (a := ⟨P, 2, none⟩) h.lo'.2.1 _
  · have := hb.size; have := h.lo'.2.2; simp [World.setCell]; omega
  · exact (h.below.trans (hb.mono (by have := h.lo'; omega))).setCell h.lo'.1 _
theorem LdS.drew {w wr : World} {N P B k : Nat} {lo : Option Addr} {ln lc : Nat} {ls : List Nat} {v : Value} {xs : List Nat} (h : LdS w wr N P B k lo ln lc ls v xs) : LdS w wr.drew N P B k lo ln lc ls v xs :=
  ⟨h.fb.drew, h.row.below (Below.refl _ _).drew, h.own.drew, h.lo', h.far, h.below.drew⟩
theorem snoc_at {p : Nat → Prop} {rs : List Nat} {r k : Nat} (hl : rs.length = k) (h : ∀ i, i < k → p (rs.getD i 0)) (hr : p r) : ∀ i, i < k + 1 → p ((rs ++ [r]).getD i 0) := fun i hi => by
  by_cases e : i = k
  · subst e; subst hl
    rw [List.getD_eq_getElem?_getD, List.getElem?_append_right (Nat.le_refl _), Nat.sub_self]
    exact hr
  · have e2 : (rs ++ [r]).getD i 0 = rs.getD i 0 := by rw [List.getD_eq_getElem?_getD, List.getD_eq_getElem?_getD, List.getElem?_append_left (by omega)]
    rw [e2]
    exact h i (by omega)
/-- The factor that comes back is the same. -/
def GaveBk (w : World) (N T : Nat) (rs ds : List Nat) (e : Ending) (w' : World) : Prop := ∃ (ls' ds' : List Nat) (lo : Option Addr) (lc : Nat) (dO : Option Addr) (dc : Nat), e = .returned (.tuple #[fcV N lo T lc dO N dc, .int .i64 0, .int .i64 0]) ∧ ls'.length = T ∧ ds'.length = N ∧ GRow w' lo ls' ∧ GRow w' dO ds' ∧ FW ls' ∧ FW ds' ∧ sameL rs ls' = true ∧ sameL ds ds' = true ∧ Below w.heap.size w w'
theorem back_fac {N NN : Nat} {rs ds ms : List Nat} (hN : N ≤ 9) (hNN : ms.length = NN) (hl : rs.length = tri N) (hL : ∀ i, i < rs.length → Fi (rs.getD i 0)) (hd : ds.length = N) (hD : ∀ i, i < ds.length → Fp (ds.getD i 0)) (hm : LN (tabM N N (tmO (lsF rs) (dsF ds))) ms) (hb : NN ≤ 2304) (mo : Option Addr) (mc : Nat) (w : World) (hr : GRow w mo ms) :
    Calls Try.prog 8 #[mxV N N mo NN mc] w fun e w' => GaveBk w N rs.length rs ds e w' := by
  have h := lfactor_any N N ms mo mc w hr hm.fw (by omega)
  rw [hNN] at h
  refine Calls.mono h ?_
  rintro e w' ⟨er, row, f, d, v, hR, rfl, hB, _, h0⟩
  obtain ⟨e1, e2, e3⟩ := res_one hR (back_res hN hl hL hd hD hm)
  obtain ⟨hf, hdd⟩ := e3 e1
  rw [Int.toNat_natCast] at hf hdd
  obtain ⟨_, N', hN', _, ls', ds', lo, lc, dO, dc, rfl, g1, g2, g3, g4, g5, g6, _, _, _, _, _, _, g8, g9⟩ := h0 e1
  have eN : N' = N := by omega
  subst eN
  obtain ⟨s1, s2⟩ := back_same (N := N') (ls := rs) (ds := ds) (ls' := ls') (ds' := ds') hl hd g5 g6 (fun i k hk hi => by rw [g8 i k hk hi]; exact hf k i hk hi) (fun k hk => by rw [g9 k hk]; exact hdd k hk)
  subst e1 e2
  exact ⟨ls', ds', lo, lc, dO, dc, by rw [g5, g6, hl]; rfl, by rw [g5, hl], g6, g1, g2, g3, g4, s1, s2, hB⟩
set_option maxRecDepth 100000 in
set_option maxHeartbeats 4000000 in
theorem back_law (ks : List Int) (ko : Option Addr) (kc : Nat) (es : List Int) (eo : Option Addr) (ec : Nat) (w : World) (hK : IRow w ko ks) (_fK : IW ks) (_k1 : ks.length ≤ kc) (_k2 : kc ≤ 17592186044416) (hE : IRow w eo es) (_fE : IW es) (_e1 : es.length ≤ ec) (e2 : ec ≤ 17592186044416) :
    Calls Try.prog 7 #[.slice ko ks.length kc, .slice eo es.length ec] w fun e w' => e = .returned (.bool true) ∧ Below w.heap.size w w' := by
  obtain ⟨i0, hi, hz0, hz1, hz2⟩ := info_parts Try.infoF
  obtain ⟨N, hN⟩ : ∃ N : Nat, N = min es.length 9 := ⟨_, rfl⟩
  have hN9 : N ≤ 9 := by omega
  have hNe : N ≤ es.length := by omega
  go_enter Try.func7, Try.ntmps7
  go_upto_region 3 with (go_at_call 12; refine (lawake _).mono ?_; rintro e w1 ⟨rfl, b1⟩)
  go_cut [5] from 17 (fun s5 wx => s5 = .int .i64 N ∧ wx = w1)
  case first =>
    by_cases h : es.length ≤ 9
    · have i1 : (es.length : Int) ≤ 9 := by omega
      have i2 : ¬ (9 : Int) < (es.length : Int) := by omega
      have eN : N = es.length := by omega
      subst eN
      clear hN h
      go_wp2
      all_goals
        go_meet
        exact ⟨by first | rfl | go_num, rfl⟩
    · have i1 : ¬ (es.length : Int) ≤ 9 := by omega
      have i2 : (9 : Int) < (es.length : Int) := by omega
      have eN : N = 9 := by omega
      subst eN
      clear hN h
      go_wp2
      all_goals
        go_meet
        exact ⟨by first | rfl | go_num, rfl⟩
  obtain ⟨rfl, h'⟩ := hcut
  subst wc
  clear hN
  go_upto_region 5 with fail
  have S0 : LbS w (w1.alloc (.cells #[.int .i64 N, .slice none 0 0, .slice none 0 0] 26)) N w1.heap.size (w1.heap.size + 1) 0 (.slice none 0 0) [] :=
    ⟨B3.new _ _ _ _ _, World.ownsRow_nil _ _ _ _, ⟨b1.size, by omega, by simp⟩, b1.alloc b1.size _⟩
  generalize w1.alloc (.cells #[.int .i64 N, .slice none 0 0, .slice none 0 0] 26) = WX1 at *
  generalize w1.heap.size = P at *
  generalize P + 1 = B at *
  have e0 := tri_two N
  have hT := tri_le (show N ≤ 49 by omega)
  obtain ⟨T, hTe⟩ : ∃ T, tri N = T := ⟨_, rfl⟩
  rw [hTe] at e0 hT
  have HT : Hid (tri N = T) := hTe
  obtain ⟨q, hq⟩ : ∃ q : Int, q = 2 * (T : Int) := ⟨_, rfl⟩
  rw [← hq] at e0
  clear hTe b1
  go_wp2
  go_loopg [7] T (fun gg s7 wr => ∃ (k : Nat) (v : Value) (rs : List Nat), k ≤ T ∧ gg = T - k ∧ s7 = .int .i64 k ∧ Hid (rs.length = k) ∧ Hid (∀ i, i < k → Fi (rs.getD i 0)) ∧ Hid (k = 0 → v = .slice none 0 0) ∧ LbS w wr N P B k v rs)
  case atStart => exact ⟨0, .slice none 0 0, [], Nat.zero_le _, rfl, rfl, rfl, fun i hi => by omega, fun _ => rfl, S0⟩
  case round =>
    clear S0
    obtain ⟨k, v, rs, hk, hg, rfl, hrl, hF, hv0, hS⟩ := hrel
    have HG : Hid (gk = T - k) := hg
    clear hg
    obtain ⟨m0, m1, m2, f0, f1, f2, _⟩ := id hS.fb
    by_cases hlt : k < T
    · have i1 : (k : Int) < (T : Int) := by omega
      have hown := hS.own
      have hlo := hS.lo
      have HW : ∀ o, B ≤ (wr.alloc o).heap.size := fun o => by have := hlo.2.2; simp; omega
      by_cases h0 : ks.length = 0
      · have i2 : ¬ (0 : Int) < (ks.length : Int) := by omega
        obtain ⟨x, hx⟩ : ∃ x, floatOfInt .f64 0 = x := ⟨_, rfl⟩
        have HX : Hid (Fi x) := ⟨0, by decide, hx.symm⟩
        clear h0
        go_wp2_with (at_builtin; refine wpList_append_own _ rfl _ _ 22 rfl B 38 i0 (.float .f64 0) 1 8 Try.underlying22 hi hz0 hz1 hz2 rfl (by decide) _ _ _ rfl (hown.alloc _) _ 1 1 [.float .f64 x] rfl rfl (World.news_of_block (cs := #[.float .f64 x]) (t := 38) (fr := (0, 0)) (heap_alloc_new _ _)) (by simp [Value.oneCell']) (by unfold maxLen; omega) (by omega) (HW _) ?_; intro v' w2 hown1 hgrow _; obtain ⟨gg, gc, rfl, _⟩ := hown1.form (by omega); have hnx := hS.next _ hown1 hgrow; obtain ⟨m0, m1, m2, f0, f1, f2, _⟩ := id hnx.1)
        go_roundg (T - (k + 1))
        case measure => rw [HG.out]; omega
        case rel => exact ⟨k + 1, _, rs ++ [x], by omega, rfl, by go_num, (show (rs ++ [x]).length = k + 1 by simp [hrl.out]), snoc_at hrl.out hF.out HX.out, (fun h => by omega), hnx.2⟩
      · have i2 : (0 : Int) < (ks.length : Int) := by omega
        have hq' := Nat.mod_lt k (show 0 < ks.length by omega)
        obtain ⟨p, hp⟩ : ∃ p, k % ks.length = p := ⟨_, rfl⟩
        have e2' : (k : Int).tmod (ks.length : Int) = (p : Int) := by rw [← hp]; exact Int.ofNat_tmod k ks.length
        rw [hp] at hq'
        have hpI : (p : Int) < (ks.length : Int) := by omega
        rcases hK.below hS.below with h | ⟨b, off, rfl, hc⟩
        · omega
        have g1 := hc p hq'
        generalize ks.getD p 0 = y at *
        clear hp hc h0
        go_wp2_with (first
          | (go_at_call 24; refine (pick9 _ _).mono ?_; rintro e w' ⟨m, rfl, pm1, pm2, h'⟩; subst w'; obtain ⟨x, hx⟩ : ∃ x, floatOfInt .f64 (m - 4) = x := ⟨_, rfl⟩; have HX : Hid (Fi x) := ⟨m - 4, by omega, hx.symm⟩)
          | (at_builtin; refine wpList_append_own _ rfl _ _ 22 rfl B 38 i0 (.float .f64 0) 1 8 Try.underlying22 hi hz0 hz1 hz2 rfl (by decide) _ _ _ rfl (hown.alloc _) _ 1 1 [.float .f64 x] rfl rfl (World.news_of_block (cs := #[.float .f64 x]) (t := 38) (fr := (0, 0)) (heap_alloc_new _ _)) (by simp [Value.oneCell']) (by unfold maxLen; omega) (by omega) (HW _) ?_; intro v' w2 hown1 hgrow _; obtain ⟨gg, gc, rfl, _⟩ := hown1.form (by omega); have hnx := hS.next _ hown1 hgrow; obtain ⟨m0, m1, m2, f0, f1, f2, _⟩ := id hnx.1))
        go_roundg (T - (k + 1))
        case measure => rw [HG.out]; omega
        case rel => exact ⟨k + 1, _, rs ++ [x], by omega, rfl, by go_num, (show (rs ++ [x]).length = k + 1 by simp [hrl.out]), snoc_at hrl.out hF.out HX.out, (fun h => by omega), hnx.2⟩
    · have ek : k = T := by omega
      have i1 : ¬ (k : Int) < (T : Int) := by omega
      obtain ⟨lo, lc, rfl, q1, q2, q3⟩ := owned_grow (xs := rs) (by rw [hrl.out]; exact hS.own)
      have hls : rs.length = T := by rw [hrl.out]; exact ek
      have hlz : rs.length = 0 → lo = none ∧ lc = 0 := fun h => by
        have := hv0.out (by rw [← hrl.out]; exact h)
        simp only [Value.slice.injEq] at this
        exact ⟨this.1, this.2.2⟩
      have hFL : ∀ i, i < rs.length → Fi (rs.getD i 0) := fun i hi => hF.out i (by have := hrl.out; omega)
      have hlo := hS.lo
      have S1 : LdS w wr N P wr.heap.size 0 lo rs.length lc rs (.slice none 0 0) [] :=
        ⟨hS.fb, q1, World.ownsRow_nil _ _ _ _, ⟨hlo.1, by omega, Nat.le_refl _⟩, fun a ea => ⟨by have := q3 a ea; omega, by
          rcases q1 with h | ⟨b, off, e', hc⟩
          · rw [(hlz h).1] at ea; cases ea
          · rw [e'] at ea
            cases ea
            by_cases h0 : rs.length = 0
            · rw [(hlz h0).1] at e'; cases e'
            · exact World.block_lt_of_cell? wr _ (hc 0 (by omega))⟩, hS.below⟩
      have HLS : Hid (rs.length = T) := hls
      have HLZ : Hid (rs.length = 0 → lo = none ∧ lc = 0) := hlz
      have HFL : Hid (∀ i, i < rs.length → Fi (rs.getD i 0)) := hFL
      clear hls hlz hFL hrl hF hv0 hS m0 m1 m2 f0 f1 f2 ek q1 q3 hlo
      generalize wr.heap.size = B2 at *
      go_wp2
      go_loopg [9] N (fun gg s9 wv => ∃ (k : Nat) (v : Value) (es' : List Nat), k ≤ N ∧ gg = N - k ∧ s9 = .int .i64 k ∧ Hid (es'.length = k) ∧ Hid (∀ i, i < k → Fp (es'.getD i 0)) ∧ Hid (k = 0 → v = .slice none 0 0) ∧ LdS w wv N P B2 k lo rs.length lc rs v es')
      case atStart => exact ⟨0, .slice none 0 0, [], Nat.zero_le _, rfl, rfl, rfl, fun i hi => by omega, fun _ => rfl, S1⟩
      case round =>
        clear S1
        obtain ⟨k2', v, ds, hk', hg, rfl, hrl, hF, hv0, hS⟩ := hrel
        have HG2 : Hid (gk = N - k2') := hg
        clear hg
        by_cases hlt : k2' < N
        · have i2 : (k2' : Int) < (N : Int) := by omega
          have i3 : (k2' : Int) < (es.length : Int) := by omega
          have hke : k2' < es.length := by omega
          rcases hE.below hS.below with h | ⟨b, off, rfl, hc⟩
          · omega
          have g1 := hc k2' hke
          generalize es.getD k2' 0 = y at *
          have hSD := hS.drew
          obtain ⟨m0, m1, m2, f0, f1, f2, _⟩ := id hS.fb
          have hlo := hS.lo'
          have hO : ∀ o, (World.alloc wr.drew o).ownsRow B2 38 1 v k2' (fv ds) := fun o => hSD.own.alloc o
          have HW : ∀ o, B2 ≤ (World.alloc wr.drew o).heap.size := fun o => by have := hlo.2.2; simp; omega
          clear hc hke
          go_wp2
          go_region_law (first
            | (refine step_own rfl (.tmp 58) (.tmp 66) 22 rfl B2 38 i0 (.float .f64 0) 1 8 Try.underlying22 hi hz0 hz1 hz2 rfl (by decide) _ _ _ rfl (hO _) _ 1 1 [.float .f64 M] rfl rfl (World.news_of_block (cs := #[.float .f64 M]) (t := 38) (fr := (0, 0)) (heap_alloc_new _ _)) (by simp [Value.oneCell']) (by unfold maxLen; omega) (by omega) (HW _) ?_; intro v' w2 hown1 hgrow _; obtain ⟨gg, gc, rfl, _⟩ := hown1.form (by omega); have hnx := hSD.next _ hown1 hgrow; obtain ⟨m0', m1', m2', f0', f1', f2', _⟩ := id hnx.1)
            | (go_simp; go_at_call 24; refine (pick9 _ _).mono ?_; rintro e w' ⟨m, rfl, pm1, pm2, h'⟩; subst w'; have wm : IntKind.i64.wrap (m - 4) = m - 4 := (by rw [IntKind.wrap_i64]; omega))
            | (go_simp; go_at_call 23; obtain ⟨M, hM⟩ : ∃ M : Nat, (M : Int) = 4607182418800017408 + (m - 4) * 4503599627370496 := ⟨(4607182418800017408 + (m - 4) * 4503599627370496).toNat, by omega⟩; refine (ldexp_pw (m - 4) M (by omega) (by omega) hM _).mono ?_; rintro e w' ⟨rfl, h'⟩; subst w'; have HM : Hid (Fp M) := ⟨m.toNat, by omega, by rw [hM]; omega⟩))
          all_goals
            go_wp2
            go_roundg (N - (k2' + 1))
            case measure => rw [HG2.out]; omega
            case rel => exact ⟨k2' + 1, _, ds ++ [M], by omega, rfl, by go_num, (show (ds ++ [M]).length = k2' + 1 by simp [hrl.out]), snoc_at hrl.out hF.out HM.out, (fun h => by omega), hnx.2⟩
        · have ek : k2' = N := by omega
          have i2 : ¬ (k2' : Int) < (N : Int) := by omega
          obtain ⟨dO, dc, rfl, q1, q2', q3⟩ := owned_grow (xs := ds) (by rw [hrl.out]; exact hS.own)
          have hds : ds.length = N := by rw [hrl.out]; exact ek
          have hdz : ds.length = 0 → dO = none ∧ dc = 0 := fun h => by
            have := hv0.out (by rw [← hrl.out]; exact h)
            simp only [Value.slice.injEq] at this
            exact ⟨this.1, this.2.2⟩
          have hFD : ∀ i, i < ds.length → Fp (ds.getD i 0) := fun i hi => hF.out i (by have := hrl.out; omega)
          have hlT : rs.length = tri N := by rw [HT.out]; exact HLS.out
          have hlb : rs.length ≤ 1200 := by rw [HLS.out]; omega
          have fL : FW rs := fun x hx => by
            obtain ⟨i, hi', rfl⟩ := List.getElem_of_mem hx
            obtain ⟨X, h1, h2⟩ := HFL.out i hi'
            rw [← getD_at hi', h2]
            exact (fi_ex h1).1.1
          have fD : FW ds := fun x hx => by
            obtain ⟨i, hi', rfl⟩ := List.getElem_of_mem hx
            obtain ⟨X, h1, h2⟩ := hFD i hi'
            rw [← getD_at hi']
            omega
          have cC := copyF_any N rs ds lo dO lc dc wr hS.row q1 (by omega) (by omega) HLZ.out hdz
          have cT := fun W lo' lc' dO' dc' h1 h2 h3 => ltimes_any N rs ds lo' dO' lc' dc' W h1 h2 fL fD h3
          rw [show tiA N rs ds = ⟨N, N, tabM N N (tmO (lsF rs) (dsF ds)), 0⟩ by
            unfold tiA rightF
            rw [okN_iff.2 ⟨by omega, by omega⟩, Int.toNat_natCast, decide_eq_true hlT, decide_eq_true (show (ds.length : Int) = (N : Int) by omega)]
            rfl] at cT
          obtain ⟨NN, hNN⟩ : ∃ NN, N * N = NN := ⟨_, rfl⟩
          have hNb : NN ≤ 2304 := by rw [← hNN]; exact mul48 (by omega) (by omega)
          have hml : ∀ ms : List Nat, LN (tabM N N (tmO (lsF rs) (dsF ds))) ms → ms.length = NN := fun ms h => by rw [h.1, tabM_len, hNN]
          have cR := fun (ms : List Nat) (hm : LN (tabM N N (tmO (lsF rs) (dsF ds))) ms) mo mc W h => back_fac (by omega) (hml ms hm) hlT HFL.out hds hFD hm hNb mo mc W h
          have cG := fun (ls' ds' : List Nat) (lo' dO' : Option Addr) (lc' dc' : Nat) W h1 h2 h3 h4 (f3 : FW ls') (f4 : FW ds') (n3 : ls'.length = rs.length) (n4 : ds'.length = N) e1 e2 => sfac_any N rs ds ls' ds' lo dO lo' dO' lc dc lc' dc' W h1 h2 h3 h4 fL fD f3 f4 (by omega) (by omega) (by omega) (by omega) e1 e2
          have HFB := hS.fb
          have HROW := hS.row
          have HBE := hS.below
          have hdb : ds.length ≤ 1200 := by omega
          have HDN : Hid (ds.length = N) := hds
          clear hds hdz hFD hlT HFL HLZ hF hv0 hrl ek hNN HT HLS q3
          generalize tabM N N (tmO (lsF rs) (dsF ds)) = os at *
          obtain ⟨m0, m1, m2, f0, f1, f2, _⟩ := id HFB
          go_upto_region 17 with (first
            | (go_at_call 28; refine cC.mono ?_; rintro e w3 ⟨lo', lc', dO', dc', rfl, c1, c2, c3, b3⟩)
            | (go_at_call 13; refine (cT _ _ _ _ _ c1 c2 c3).mono ?_; rintro e w4 ⟨_, rfl, mo, mc, ms, rfl, x1, x2, _, _, b4⟩))
          have MB := B3.new w4 (.int .i64 N) (.int .i64 N) (.slice mo ms.length mc) 24
          have b5 := (b3.trans (b4.mono b3.size)).trans ((below_one w4 (.cells #[.int .i64 N, .int .i64 N, .slice mo ms.length mc] 24)).mono (b3.trans (b4.mono b3.size)).size)
          have x3 := x2.below (below_one w4 (.cells #[.int .i64 N, .int .i64 N, .slice mo ms.length mc] 24))
          rw [hml ms x1] at MB b5 x3
          have cF := fun W h => cR ms x1 mo mc W h
          generalize w4.alloc (.cells #[.int .i64 N, .int .i64 N, .slice mo NN mc] 24) = WX4 at *
          generalize w4.heap.size = P4 at *
          replace HFB := HFB.below b5
          replace HROW := HROW.below b5
          replace q1 := q1.below b5
          replace HBE := HBE.trans (b5.mono HBE.size)
          clear m0 m1 m2 f0 f1 f2 b3 b4 b5 c1 c2 c3 x2 cC cT cR hml
          obtain ⟨m0, m1, m2, _⟩ := id MB
          go_upto_region 18 with (go_at_call 8; refine (cF _ x3).mono ?_; rintro e w5 ⟨ls', ds', lo', lc', dO', dc', rfl, y1, y2, y3, y4, y5, y6, y7, y8, b6⟩)
          have GB := B3.new w5 (.int .i64 N) (.slice lo' rs.length lc') (.slice dO' N dc') 26
          have b7 := b6.trans ((below_one w5 (.cells #[.int .i64 N, .slice lo' rs.length lc', .slice dO' N dc'] 26)).mono b6.size)
          replace y3 := y3.below (below_one w5 (.cells #[.int .i64 N, .slice lo' rs.length lc', .slice dO' N dc'] 26))
          replace y4 := y4.below (below_one w5 (.cells #[.int .i64 N, .slice lo' rs.length lc', .slice dO' N dc'] 26))
          generalize w5.alloc (.cells #[.int .i64 N, .slice lo' rs.length lc', .slice dO' N dc'] 26) = WX5 at *
          generalize w5.heap.size = P5 at *
          replace HFB := HFB.below b7
          replace HROW := HROW.below b7
          replace q1 := q1.below b7
          replace HBE := HBE.trans (b7.mono HBE.size)
          have cE := cG ls' ds' lo' dO' lc' dc' WX5 HROW q1 y3 y4 y5 y6 y1 y2 y7 y8
          rw [y1, y2] at cE
          clear m0 m1 m2 b6 b7 cF cG MB
          obtain ⟨m0, m1, m2, _⟩ := id HFB
          obtain ⟨r0, r1, r2, _⟩ := id GB
          go_wp2_with (go_at_call 10; refine cE.mono ?_; rintro e w6 ⟨rfl, b8⟩)
          go_ret
          exact ⟨rfl, HBE.trans (b8.mono HBE.size)⟩
end Go.Proofs.Ytbnjjoaippoinaa
