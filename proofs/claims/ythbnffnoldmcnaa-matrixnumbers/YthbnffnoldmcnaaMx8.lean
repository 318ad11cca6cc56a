/- What the law's laid answers (as the numbers are): a matrix out of a list, round and round. -/
import Derived.Test.YthbnffnoldmcnaaMx7
import Derived.Test.YthbnffnoldmcnaaAh
namespace Go.Proofs.Ythbnffnoldmcnaa
open Go.RowKit

/-- A number brought below 7. -/
def pk7 (x : Int) : Nat := (if x.tmod 7 < 0 then x.tmod 7 + 7 else x.tmod 7).toNat
theorem tmod7 (x : Int) : -7 < x.tmod 7 ∧ x.tmod 7 < 7 := by
  have b1 : x.tmod 7 < 7 := Int.tmod_lt_of_pos x (by omega)
  have b2 := Int.tmod_lt_of_pos (-x) (show (0 : Int) < 7 by omega)
  rw [Int.neg_tmod] at b2
  omega
theorem pk7_le (x : Int) : pk7 x ≤ 6 := by
  have := tmod7 x
  unfold pk7
  split <;> omega
set_option maxHeartbeats 400000 in
theorem pick7 (x : Int) (w : World) : Calls Try.prog 69 #[.int .i64 x, .int .i64 7] w fun e w' => e = .returned (.int .i64 (pk7 x : Nat)) ∧ w' = w := by
  have b := tmod7 x
  by_cases h : x.tmod 7 < 0
  · have HP : Hid (((pk7 x : Nat) : Int) = x.tmod 7 + 7) := (show _ = _ by unfold pk7; rw [if_pos h]; omega)
    generalize hy : x.tmod 7 = y at *
    generalize pk7 x = p at *
    have b1 := b.1
    clear b
    go_enter Try.func69, Try.ntmps69
    go_wp2
    go_ret
    exact ⟨end_int HP.out.symm, rfl⟩
  · have HP : Hid (((pk7 x : Nat) : Int) = x.tmod 7) := (show _ = _ by unfold pk7; rw [if_neg h]; omega)
    generalize hy : x.tmod 7 = y at *
    generalize pk7 x = p at *
    have b1 := b.2
    clear b
    go_enter Try.func69, Try.ntmps69
    go_wp2
    go_ret
    exact ⟨end_int HP.out.symm, rfl⟩
/-- The number at place k, round and round. -/
def rndA (l : List Nat) (k : Nat) : Nat := if l.length = 0 then 4607182418800017408 else l.getD (k % l.length) 0
def rndL (l : List Nat) (n : Nat) : List Nat := (List.range n).map (rndA l)
theorem rndL_len (l : List Nat) (n : Nat) : (rndL l n).length = n := by simp [rndL]
theorem rndL_succ (l : List Nat) (n : Nat) : rndL l (n + 1) = rndL l n ++ [rndA l n] := by simp [rndL, List.range_succ]
theorem rndA_lt {l : List Nat} (h : FW l) (k : Nat) : rndA l k < 18446744073709551616 := by
  unfold rndA
  split
  · omega
  · exact h.at (Nat.mod_lt _ (by omega))
theorem rndL_fw {l : List Nat} (h : FW l) (n : Nat) : FW (rndL l n) := fun x hx => by
  obtain ⟨k, _, rfl⟩ := List.mem_map.1 hx
  exact rndA_lt h k
theorem rndL_at {l : List Nat} {n k : Nat} (h : k < n) : (rndL l n).getD k 0 = rndA l k := by simp [rndL, List.getD_eq_getElem?_getD, h]
theorem B3.past {w w1 : World} {b B : Nat} {x y z : Value} (h : B3 w b x y z) (hb : Below B w w1) (hB : b < B) : B3 w1 b x y z := by
  obtain ⟨h0, h1, h2, g0, g1, g2, h5⟩ := h
  exact ⟨by rw [hb.cell (p := ⟨b, 0, none⟩) hB]; exact h0, by rw [hb.cell (p := ⟨b, 1, none⟩) hB]; exact h1, by rw [hb.cell (p := ⟨b, 2, none⟩) hB]; exact h2, by rw [hb.frozen (p := ⟨b, 0, none⟩) hB]; exact g0, by rw [hb.frozen (p := ⟨b, 1, none⟩) hB]; exact g1, by rw [hb.frozen (p := ⟨b, 2, none⟩) hB]; exact g2, Nat.lt_of_lt_of_le h5 hb.size⟩
theorem B3.put2 {w : World} {b : Nat} {x y z : Value} (h : B3 w b x y z) (v : Value) : B3 (w.setCell ⟨b, 2, none⟩ v) b x y v := by
  obtain ⟨h0, h1, h2, g0, g1, g2, h5⟩ := h
  refine ⟨(World.cell?_setCell_other _ _ _ v (by simp)).trans h0, (World.cell?_setCell_other _ _ _ v (by simp)).trans h1, World.cell?_setCell_same _ _ v h2, ?_, ?_, ?_, ?_⟩
  · simp [go_sem, g0]
  · simp [go_sem, g1]
  · simp [go_sem, g2]
  · simp [go_sem]; exact h5
/-- What stands in memory while a matrix is laid. -/
structure LaidS (w wr : World) (R C M B k : Nat) (v : Value) (xs : List Nat) : Prop where
  res : B3 wr w.heap.size (.int .i64 0) (.int .i64 0) (.slice none 0 0)
  mbox : B3 wr M (.int .i64 R) (.int .i64 C) v
  own : wr.ownsRow B 31 1 v k (fv xs)
  lo : w.heap.size < B ∧ M < B ∧ B ≤ wr.heap.size ∧ w.heap.size < M
  below : Below w.heap.size w wr
theorem LaidS.next {w wr w1 : World} {R C M B k r : Nat} {v v' : Value} {xs : List Nat} (h : LaidS w wr R C M B k v xs) (o : Obj) (hown : w1.ownsRow B 31 1 v' (k + 1) (fv xs ++ [.float .f64 r])) (hg : (wr.alloc o).grownBy w1 v.ownBlock) :
    B3 w1 M (.int .i64 R) (.int .i64 C) v ∧ LaidS w (w1.setCell ⟨M, 2, none⟩ v') R C M B (k + 1) v' (xs ++ [r]) := by
  have hb : Below B wr w1 := ((Below.refl B wr).alloc h.lo.2.2.1 o).grown hg (by have := h.lo.2.2.1; simp; omega) (fun k hk => (h.own.lt k hk).1)
  have hM := h.mbox.past hb h.lo.2.1
  refine ⟨hM, (h.res.past hb h.lo.1).far (by have := h.lo.2.2.2; omega) _, hM.put2 _, ?_, ⟨h.lo.1, h.lo.2.1, ?_, h.lo.2.2.2⟩, ?_⟩
  · rw [fv_snoc]
    exact ownsRow_setCell_below hown (a := ⟨M, 2, none⟩) h.lo.2.1 _
  · have := hb.size; have := h.lo.2.2.1; simp [World.setCell]; omega
  · exact (h.below.trans (hb.mono (Nat.le_of_lt h.lo.1))).setCell (Nat.le_of_lt h.lo.2.2.2) _
set_option maxHeartbeats 2000000 in
theorem laid_any (n m : Int) (l : List Nat) (ao : Option Addr) (cap : Nat) (w : World) (hr : GRow w ao l) (hn : l.length ≤ 17592186044416) :
    Calls Try.prog 41 #[.int .i64 n, .int .i64 m, .slice ao l.length cap, .bool false] w fun e w' => ∃ zo zc, e = .returned (mxV (pk7 n) (pk7 m) zo (pk7 n * pk7 m) zc) ∧ GRow w' zo (rndL l (pk7 n * pk7 m)) ∧ pk7 n * pk7 m ≤ zc ∧ Frs w.heap.size zo ∧ Below w.heap.size w w' := by
  have p1 := fun w => pick7 n w
  have p2 := fun w => pick7 m w
  have hR := pk7_le n
  have hC := pk7_le m
  generalize pk7 n = R at *
  generalize pk7 m = C at *
  obtain ⟨N, hN⟩ : ∃ N, R * C = N := ⟨_, rfl⟩
  have hNb : N ≤ 36 := by rw [← hN]; exact Nat.le_trans (Nat.mul_le_mul hR hC) (by decide)
  have eN : (R : Int) * (C : Int) = (N : Int) := by rw [mulI, hN]
  rw [hN]
  obtain ⟨i0, hi, hz0, hz1, hz2⟩ := info_parts Try.infoF
  clear hN
  go_enter Try.func41, Try.ntmps41
  go_upto_region 2 with (first
    | (go_at_call_of 69 (Value.int IntKind.i64 n); refine (p1 _).mono ?_; rintro e w' ⟨rfl, h'⟩; subst w')
    | (go_at_call_of 69 (Value.int IntKind.i64 m); refine (p2 _).mono ?_; rintro e w' ⟨rfl, h'⟩; subst w')
    | (go_at_call 12; refine (lof_any _ _ _ _ _ _).mono ?_; rintro e w1 ⟨rfl, b1⟩; have RB := (B3.new w _ _ _ _).below b1; have bb := old_one b1; have hsz := b1.size))
  have S0 : LaidS w (w1.alloc (.cells #[.int .i64 R, .int .i64 C, .slice none 0 0] 24)) R C w1.heap.size (w1.heap.size + 1) 0 (.slice none 0 0) [] := by
    have := RB.2.2.2.2.2.2
    exact ⟨RB.alloc _, B3.new _ _ _ _ _, World.ownsRow_nil _ _ _ _, ⟨by omega, by omega, by simp, this⟩, bb.alloc bb.size _⟩
  clear RB bb hsz b1 p1 p2
  generalize w1.alloc (.cells #[.int .i64 R, .int .i64 C, .slice none 0 0] 24) = wS at *
  generalize w1.heap.size = M at *
  generalize M + 1 = B at *
  go_wp2
  go_loopg [10] N (fun g i wr => ∃ (k : Nat) (v : Value), k ≤ N ∧ g = N - k ∧ i = .int .i64 k ∧ LaidS w wr R C M B k v (rndL l k))
  case atStart => exact ⟨0, .slice none 0 0, Nat.zero_le _, rfl, rfl, S0⟩
  case round =>
    obtain ⟨k, v, hk, hg, rfl, hS⟩ := hrel
    have HG : Hid (gk = N - k) := hg
    clear hg S0
    obtain ⟨m0, m1, m2, f0, f1, f2, hM⟩ := id hS.mbox
    by_cases hlt : k < N
    · have i1 : (k : Int) < (N : Int) := by omega
      obtain ⟨x, hx⟩ : ∃ x, rndA l k = x := ⟨_, rfl⟩
      have HL : Hid (rndL l (k + 1) = rndL l k ++ [x]) := (show _ = _ by rw [rndL_succ, hx])
      have hown := hS.own
      have hlo := hS.lo
      have HW : ∀ o, B ≤ (wr.alloc o).heap.size := fun o => by have := hlo.2.2.1; simp; omega
      by_cases h0 : l.length = 0
      · have e1 : x = 4607182418800017408 := by rw [← hx]; unfold rndA; rw [if_pos h0]
        subst e1
        have i2 : ¬ (0 : Int) < (l.length : Int) := by omega
        clear hx h0
        go_wp2_with (at_builtin; refine wpList_append_own _ rfl _ _ 22 rfl B 31 i0 (.float .f64 0) 1 8 Try.underlying22 hi hz0 hz1 hz2 rfl (by decide) _ _ _ rfl (hown.alloc _) _ 1 1 [.float .f64 4607182418800017408] rfl rfl (World.news_of_block (cs := #[.float .f64 4607182418800017408]) (t := 31) (fr := (0, 0)) (heap_alloc_new _ _)) (by simp [Value.oneCell']) (by unfold maxLen; omega) (by omega) (HW _) ?_; intro v' w2 hown1 hgrow _; obtain ⟨gg, gc, rfl, _⟩ := hown1.form (by omega); have hnx := hS.next _ hown1 hgrow; obtain ⟨m0, m1, m2, f0, f1, f2, _⟩ := id hnx.1)
        go_roundg (N - (k + 1))
        case measure => rw [HG.out]; omega
        case rel => exact ⟨k + 1, _, by omega, rfl, by go_num, by rw [HL.out]; exact hnx.2⟩
      · have i2 : (0 : Int) < (l.length : Int) := by omega
        have hq := Nat.mod_lt k (show 0 < l.length by omega)
        have e1 : l.getD (k % l.length) 0 = x := by rw [← hx]; unfold rndA; rw [if_neg h0]
        obtain ⟨q, hqq⟩ : ∃ q, k % l.length = q := ⟨_, rfl⟩
        have e2 : (k : Int).tmod (l.length : Int) = (q : Int) := by rw [← hqq]; exact Int.ofNat_tmod k l.length
        rw [hqq] at hq e1
        have hqI : (q : Int) < (l.length : Int) := by omega
        rcases hr.below hS.below with h | ⟨b, off, rfl, hc⟩
        · omega
        have g1 := hc q hq
        rw [e1] at g1
        clear hx hc hqq e1
        go_wp2_with (at_builtin; refine wpList_append_own _ rfl _ _ 22 rfl B 31 i0 (.float .f64 0) 1 8 Try.underlying22 hi hz0 hz1 hz2 rfl (by decide) _ _ _ rfl (hown.alloc _) _ 1 1 [.float .f64 x] rfl rfl (World.news_of_block (cs := #[.float .f64 x]) (t := 31) (fr := (0, 0)) (heap_alloc_new _ _)) (by simp [Value.oneCell']) (by unfold maxLen; omega) (by omega) (HW _) ?_; intro v' w2 hown1 hgrow _; obtain ⟨gg, gc, rfl, _⟩ := hown1.form (by omega); have hnx := hS.next _ hown1 hgrow; obtain ⟨m0, m1, m2, f0, f1, f2, _⟩ := id hnx.1)
        go_roundg (N - (k + 1))
        case measure => rw [HG.out]; omega
        case rel => exact ⟨k + 1, _, by omega, rfl, by go_num, by rw [HL.out]; exact hnx.2⟩
    · have ek : k = N := by omega
      subst ek
      have i1 : ¬ (k : Int) < (k : Int) := by omega
      obtain ⟨zo, zc, rfl, hz1', hz2', hz3'⟩ := owned_grow (xs := rndL l k) (by rw [rndL_len]; exact hS.own)
      rw [rndL_len] at m2 hz2'
      obtain ⟨t0, t1, t2, s0, s1, s2, _⟩ := id hS.res
      have hfin : ∀ x y z, GRow (((wr.setCell ⟨w.heap.size, 0, none⟩ x).setCell ⟨w.heap.size, 1, none⟩ y).setCell ⟨w.heap.size, 2, none⟩ z) zo (rndL l k) ∧ Below w.heap.size w (((wr.setCell ⟨w.heap.size, 0, none⟩ x).setCell ⟨w.heap.size, 1, none⟩ y).setCell ⟨w.heap.size, 2, none⟩ z) := fun x y z => ⟨hz1'.boxed hz3' hS.lo.1 x y z, set_three hS.below (Nat.le_refl _) _ _ _⟩
      have hfr : Frs w.heap.size zo := hz3'.mono (Nat.le_of_lt hS.lo.1)
      clear hz1' hS hz3'
      go_wp2
      exact bodyPost_ret (v := mxV R C zo k zc) (by simp [results, Try.results41, go_sem, t0, t1, t2]) rfl ⟨zo, zc, rfl, (hfin _ _ _).1, hz2', hfr, (hfin _ _ _).2⟩
end Go.Proofs.Ythbnffnoldmcnaa
