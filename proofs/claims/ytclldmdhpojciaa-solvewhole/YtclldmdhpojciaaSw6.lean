/- SolveWhole: its walk. -/
import Derived.Test.YtclldmdhpojciaaS8
namespace Go.Proofs.Ytclldmdhpojciaa
open Go.RowKit

theorem fn_of {n : Nat} {p : Nat → Int → Prop} (h : ∀ i, i < n → ∃ X, p i X) : ∃ f : Nat → Int, ∀ i, i < n → p i (f i) := by
  induction n with
  | zero => exact ⟨fun _ => 0, fun i hi => by omega⟩
  | succ n ih =>
    obtain ⟨f, hf⟩ := ih (fun i hi => h i (by omega))
    obtain ⟨x, hx⟩ := h n (by omega)
    refine ⟨fun i => if i = n then x else f i, fun i hi => ?_⟩
    by_cases e : i = n
    · subst e; simpa using hx
    · simp only [e, if_false]; exact hf i (by omega)
theorem wr64 {n : Int} (h : -9223372036854775808 ≤ n ∧ n ≤ 9223372036854775807) : IntKind.i64.wrap n = n := by rw [IntKind.wrap_i64]; omega
theorem fw_of {xs : List Nat} (h : ∀ i, i < xs.length → xs.getD i 0 < 18446744073709551616) : FW xs := fun x hx => by
  obtain ⟨i, hi, rfl⟩ := List.getElem_of_mem hx
  have := h i hi
  rwa [getD_at hi] at this
/-- L turned over times X: the first k. -/
def tuP (L : Nat → Nat → Int) (X : Nat → Int) (i k : Nat) : Int := smZ (fun k => enL L k i * X k) k
theorem enL_enZ (L : Nat → Nat → Int) (i k : Nat) : enZ L i k = enL L i k := by
  unfold enZ enL
  by_cases h : k = i
  · rw [if_pos h, if_pos h.symm]
  · have h' : ¬ i = k := fun e => h e.symm
    rw [if_neg h, if_neg h']
theorem enL_bd {L : Nat → Nat → Int} {i k : Nat} (h : k < i → (L i k).natAbs ≤ 3) : (enL L i k).natAbs ≤ 3 := by
  unfold enL
  by_cases e : i = k
  · rw [if_pos e]; decide
  · rw [if_neg e]
    by_cases c : i < k
    · rw [if_pos c]; decide
    · rw [if_neg c]; exact h (by omega)
theorem tuP_bd {L : Nat → Nat → Int} {X : Nat → Int} {i k N : Nat} (hN : N ≤ 48) (hk : k ≤ N) (hL : ∀ i k, k < i → i < N → (L i k).natAbs ≤ 3) (hX : ∀ i, i < N → (X i).natAbs ≤ 50) : (tuP L X i k).natAbs ≤ 7250 := by
  have := smZ_bd (f := fun k => enL L k i * X k) (n := k) (C := 150) (fun q hq => mul_abs (enL_bd (fun c => hL q i c (by omega))) (hX q (by omega)))
  unfold tuP
  omega
/-- L times D times T: the first k. -/
def ldP (L : Nat → Nat → Int) (D T : Nat → Int) (i k : Nat) : Int := smZ (fun k => enL L i k * D k * T k) k
theorem ldP_bd {L : Nat → Nat → Int} {D T : Nat → Int} {i k N : Nat} (hN : N ≤ 48) (hi : i < N) (hk : k ≤ N) (hL : ∀ i k, k < i → i < N → (L i k).natAbs ≤ 3) (hD : ∀ i, i < N → (D i).natAbs ≤ 50) (hT : ∀ i, i < N → (T i).natAbs ≤ 7250) : (ldP L D T i k).natAbs ≤ 52200000 := by
  have := smZ_bd (f := fun k => enL L i k * D k * T k) (n := k) (C := 3 * 50 * 7250) (fun q hq => mul_abs (mul_abs (enL_bd (fun c => hL i q c hi)) (hD q (by omega))) (hT q (by omega)))
  unfold ldP
  omega
theorem snoc_I {p : Nat → Nat → Prop} {rs : List Nat} {r k : Nat} (hl : rs.length = k) (h : ∀ i, i < k → p i (rs.getD i 0)) (hr : p k r) : (rs ++ [r]).length = k + 1 ∧ ∀ i, i < k + 1 → p i ((rs ++ [r]).getD i 0) := by
  refine ⟨by simp [hl], fun i hi => ?_⟩
  by_cases e : i = k
  · subst e; subst hl
    rw [List.getD_eq_getElem?_getD, List.getElem?_append_right (Nat.le_refl _), Nat.sub_self]
    exact hr
  · have e2 : (rs ++ [r]).getD i 0 = rs.getD i 0 := by rw [List.getD_eq_getElem?_getD, List.getD_eq_getElem?_getD, List.getElem?_append_left (by omega)]
    rw [e2]
    exact h i (by omega)
set_option maxRecDepth 100000 in
set_option maxHeartbeats 40000000 in
theorem whole13_law (n : Int) (ks xs : List Int) (ko xo : Option Addr) (kc xc : Nat) (w : World) (hK : IRow w ko ks) (hX : IRow w xo xs) :
    Calls Try.prog 5 #[.int .i64 n, .slice ko ks.length kc, .slice xo xs.length xc] w fun e w' => e = .returned (.bool true) ∧ Below w.heap.size w w' := by
  obtain ⟨i0, hi, hz0, hz1, hz2⟩ := info_parts Try.infoF
  have cw := fun W h => whole13_any n ks ko kc W h
  go_enter Try.func5, Try.ntmps5
  go_upto_region 2 with (go_at_call 27; refine (cw _ hK).mono ?_; rintro e w1 ⟨N, ls, ds, lo, dO, lc, dc, rfl, hN, hl, hd, hL, hD, rL, rD, _, _, _, _, b1⟩; have HL : Hid (ls.length = tri N) := hl; have HD : Hid (ds.length = N) := hd; clear hl hd)
  have M1 := B3.new w1 (.int .i64 N) (.slice lo ls.length lc) (.slice dO ds.length dc) 27
  have A1 := below_one w1 (.cells #[.int .i64 N, .slice lo ls.length lc, .slice dO ds.length dc] 27)
  have hX1 := (hX.below b1).below A1
  have HB0 : Hid (Below w.heap.size w (w1.alloc (.cells #[.int .i64 N, .slice lo ls.length lc, .slice dO ds.length dc] 27))) := b1.trans (A1.mono b1.size)
  have rL1 := rL.below A1
  have rD1 := rD.below A1
  generalize w1.alloc (.cells #[.int .i64 N, .slice lo ls.length lc, .slice dO ds.length dc] 27) = w0 at *
  generalize w1.heap.size = P at *
  clear hX rL rD A1 b1 hK cw
  have S0 : GwS w0 w0 w0.heap.size 0 (.slice none 0 0) [] := ⟨World.ownsRow_nil _ _ _ _, ⟨Nat.le_refl _, Nat.le_refl _⟩, Below.refl _ _⟩
  obtain ⟨B, hB⟩ : ∃ B, w0.heap.size = B := ⟨_, rfl⟩
  have HB : Hid (w0.heap.size = B) := hB
  rw [hB] at S0
  clear hB
  go_wp2
  go_loopg [8, 9] N (fun gg s8 s9 wr => ∃ (k : Nat) (rs : List Nat), k ≤ N ∧ gg = N - k ∧ s9 = .int .i64 k ∧ Hid (rs.length = k) ∧ Hid (∀ i, i < k → Wf 50 (rs.getD i 0)) ∧ GwS w0 wr B k s8 rs)
  case atStart => exact ⟨0, [], Nat.zero_le _, rfl, rfl, rfl, fun i hi => by omega, S0⟩
  case round =>
    clear S0
    obtain ⟨k, rs, hk, hg, rfl, hrl, hF, hS⟩ := hrel
    have HG : Hid (gk = N - k) := hg
    clear hg
    have hX2 := hX1.below hS.below
    obtain ⟨m0, m1, m2, f0, f1, f2, _⟩ := id (M1.below hS.below)
    by_cases hlt : k < N
    · have i1 : (k : Int) < (N : Int) := by omega
      have hown := hS.own
      have hlo := hS.lo
      have HW : ∀ o, B ≤ (wr.alloc o).heap.size := fun o => by have := hlo.2; simp; omega
      have ca := fun W h => at13_any xs xo xc k 50 W h (by omega) (by omega) (by omega)
      rw [show ((50 : Nat) : Int) = 50 from rfl] at ca
      go_wp2_with (first
        | (go_at_call 28; refine (ca _ hX2).mono ?_; rintro e w' ⟨m, rfl, pm1, h'⟩; subst w'; obtain ⟨x, hx⟩ : ∃ x, floatOfInt .f64 m = x := ⟨_, rfl⟩; have HX : Hid (Wf 50 x) := ⟨m, pm1, hx.symm⟩)
        | (at_builtin; refine wpList_append_own _ rfl _ _ 22 rfl B 29 i0 (.float .f64 0) 1 8 Try.underlying22 hi hz0 hz1 hz2 rfl (by decide) _ _ _ rfl (hown.alloc _) _ 1 1 [.float .f64 x] rfl rfl (World.news_of_block (cs := #[.float .f64 x]) (t := 29) (fr := (0, 0)) (heap_alloc_new _ _)) (by simp [Value.oneCell']) (by unfold maxLen; omega) (by omega) (HW _) ?_; intro v' w2 hown1 hgrow _; have hnx := hS.next _ hown1 hgrow))
      go_roundg (N - (k + 1))
      case measure => rw [HG.out]; omega
      case rel => exact ⟨k + 1, rs ++ [x], by omega, rfl, by go_num, (show (rs ++ [x]).length = k + 1 by simp [hrl.out]), snoc_W hrl.out hF.out HX.out, hnx⟩
    · have ek : k = N := by omega
      have i1 : ¬ (k : Int) < (N : Int) := by omega
      obtain ⟨wo, wc, rfl, rW, _, _⟩ := owned_grow (xs := rs) (by rw [hrl.out]; exact hS.own)
      obtain ⟨X, fX⟩ := fn_of (p := fun i X => X.natAbs ≤ 50 ∧ rs.getD i 0 = floatOfInt .f64 X) hF.out
      obtain ⟨D, fD⟩ := fn_of (p := fun i X => X.natAbs ≤ 50 ∧ X ≠ 0 ∧ ds.getD i 0 = floatOfInt .f64 X) hD
      obtain ⟨A, fA⟩ := fn_of (p := fun i X => X.natAbs ≤ 3 ∧ ls.getD i 0 = floatOfInt .f64 X) hL
      obtain ⟨L, hLd⟩ : ∃ L : Nat → Nat → Int, ∀ i k, L i k = A (tri i + k) := ⟨fun i k => A (tri i + k), fun _ _ => rfl⟩
      have HXs : Hid (∀ i, i < N → (X i).natAbs ≤ 50 ∧ Wz 1074 (rs.getD i 0) (X i)) := fun i hi => by
        obtain ⟨q1, q2⟩ := fX i (by omega)
        exact ⟨q1, by rw [q2]; exact ofint_wz rfl (by omega)⟩
      have HDs : Hid (∀ i, i < N → (D i).natAbs ≤ 50 ∧ D i ≠ 0 ∧ Wz 1074 (ds.getD i 0) (D i)) := fun i hi => by
        obtain ⟨q1, q2, q3⟩ := fD i (by rw [HD.out]; exact hi)
        exact ⟨q1, q2, by rw [q3]; exact ofint_wz rfl (by omega)⟩
      have HLs : Hid (∀ i k, k < i → i < N → (L i k).natAbs ≤ 3 ∧ Wz 1074 (lsF ls i k) (L i k)) := fun i k hk hi => by
        obtain ⟨q1, q2⟩ := fA (tri i + k) (by rw [HL.out]; exact tri_in hk hi)
        rw [hLd]
        exact ⟨q1, by unfold lsF; rw [q2]; exact ofint_wz rfl (by omega)⟩
      have HWF : Hid (WhF N ls ds L D) := ⟨hN, HL.out, HD.out, HLs.out, HDs.out, fw_of (fun i hi => by obtain ⟨q1, q2⟩ := fA i hi; rw [q2]; exact (ofint_wz (E := 1074) rfl (by omega)).1.1), fw_of (fun i hi => by obtain ⟨q1, _, q2⟩ := fD i hi; rw [q2]; exact (ofint_wz (E := 1074) rfl (by omega)).1.1)⟩
      have M2 := M1.below hS.below
      have HB1 : Hid (Below w.heap.size w wr) := HB0.out.trans (hS.below.mono HB0.out.size)
      have rL2 := rL1.below hS.below
      have rD2 := rD1.below hS.below
      have HRS : Hid (rs.length = N) := (show rs.length = N by rw [hrl.out]; exact ek)
      have PB : P < wr.heap.size := M2.2.2.2.2.2.2
      clear fX fD fA hLd hF hrl hS hL hD M1 rL1 rD1 hX1 hX2 HB ek hk HG f0 f1 f2
      obtain ⟨wz, hwz⟩ : ∃ x, x = wr := ⟨_, rfl⟩
      subst hwz
      have hmk := run_make_row' (P := Try.prog) 45 3 (.int .i64 0) 8 Try.underlying45 Try.infoI rfl .i64 .i64 N (by omega) (by omega)
      have T0 : TuS wz (wz.alloc (.cells (madeCells #[.int .i64 0] N) 3)) wz.heap.size N (fun _ => 0) := ⟨IRw.made wz N, ⟨Nat.le_refl _, by simp⟩, below_one _ _⟩
      go_upto_region 9 with fail
      obtain ⟨g, hgd⟩ : ∃ g, wz.heap.size = g := ⟨_, rfl⟩
      rw [hgd] at T0 ⊢
      have HGS : Hid (wz.heap.size = g) := hgd
      rw [hgd] at PB
      clear hgd hmk m0 m1 m2 i1 hlt
      generalize wz.alloc (.cells (madeCells #[.int .i64 0] N) 3) = W1 at *
      go_wp2
      go_loopg [11] N (fun gg s11 wv => ∃ (i : Nat) (z : Nat → Int), i ≤ N ∧ gg = N - i ∧ s11 = .int .i64 i ∧ Hid (∀ p, p < i → z p = tuZ L X N p) ∧ Hid (∀ p, i ≤ p → z p = 0) ∧ TuS wz wv g N z)
      case atStart => exact ⟨0, _, Nat.zero_le _, rfl, rfl, fun p hp => by omega, fun _ _ => rfl, T0⟩
      case round =>
        clear T0
        obtain ⟨i, z, hi', hg, rfl, hZ, hZ0, S⟩ := hrel
        have HG : Hid (gk = N - i) := hg
        clear hg
        obtain ⟨m0, m1, m2, _⟩ := id (M2.below S.below)
        by_cases hlt : i < N
        · have i1 : (i : Int) < (N : Int) := by omega
          have hZ1 : Hid (z i = tuP L X i 0) := hZ0.out i (Nat.le_refl _)
          go_wp2
          clear m0 m1 m2
          go_loopg [12] N (fun gg s12 wv => ∃ (k : Nat) (z : Nat → Int), k ≤ N ∧ gg = N - k ∧ s12 = .int .i64 k ∧ Hid (∀ p, p < i → z p = tuZ L X N p) ∧ Hid (∀ p, i + 1 ≤ p → z p = 0) ∧ Hid (z i = tuP L X i k) ∧ TuS wz wv g N z)
          case atStart => exact ⟨0, z, Nat.zero_le _, rfl, rfl, hZ, (fun p hp => hZ0.out p (by omega)), hZ1, S⟩
          case round =>
            clear hZ hZ0 hZ1 S
            obtain ⟨k, z, hk', hg, rfl, hZ, hZ0, hZ1, S⟩ := hrel
            have HG2 : Hid (gk = N - k) := hg
            clear hg
            obtain ⟨m0, m1, m2, _⟩ := id (M2.below S.below)
            by_cases hlt2 : k < N
            · have i2 : (k : Int) < (N : Int) := by omega
              have ce := fun W h => entry13_any N ls lo lc dO ds.length dc k i L W h (by omega) (by omega) (by rw [HL.out]; exact tri_mono (by omega)) (fun q => (HLs.out k i q (by omega)).symm)
              rw [enL_enZ] at ce
              have ben := enL_bd (L := L) (i := k) (k := i) (fun q => (HLs.out k i q (by omega)).1)
              obtain ⟨bx, wx⟩ := HXs.out k hlt2
              have hcv := fun W => run_toint rfl wx (by omega) W
              have bz := tuP_bd (L := L) (X := X) (i := i) (k := k) (N := N) (by omega) (by omega) (fun p q hq hp => (HLs.out p q hq hp).1) (fun p hp => (HXs.out p hp).1)
              rw [← hZ1.out] at bz
              have HNX : Hid (z i + enL L k i * X k = tuP L X i (k + 1)) := (show _ = _ by rw [hZ1.out]; rfl)
              have bp := mul_abs ben bx
              have hkr : k < rs.length := by rw [HRS.out]; exact hlt2
              have i3 : (k : Int) < (rs.length : Int) := by omega
              have HZX : Hid (∀ r : Int, ∀ p, p < i → (if p = i then r else z p) = tuZ L X N p) := fun r p hp => by rw [if_neg (by omega)]; exact hZ.out p hp
              have HZY : Hid (∀ r : Int, ∀ p, i + 1 ≤ p → (if p = i then r else z p) = 0) := fun r p hp => by rw [if_neg (by omega)]; exact hZ0.out p hp
              have SD := S.later (Below.refl _ _).drew
              have hrow := rL2.below SD.below
              have hrw := rW.below SD.below
              obtain ⟨wb, wof, rfl⟩ : ∃ b off, wo = some ⟨b, off, none⟩ := by
                rcases rW with h | ⟨b, off, rfl, _⟩
                · omega
                · exact ⟨b, off, rfl⟩
              have HC : ∀ w1, Below wr.drew.heap.size wr.drew w1 → w1.cell? ⟨P, 0, none⟩ = some (.int .i64 N) ∧ w1.cell? ⟨P, 1, none⟩ = some (.slice lo ls.length lc) ∧ w1.cell? ⟨P, 2, none⟩ = some (.slice dO ds.length dc) ∧ w1.cell? ⟨g, i, none⟩ = some (.int .i64 (z i)) ∧ w1.cell? ⟨wb, wof + k, none⟩ = some (.float .f64 (rs.getD k 0)) := fun w1 hb => by
                have S2 := SD.later hb
                obtain ⟨x0, x1, x2, _⟩ := id (M2.below S2.below)
                exact ⟨x0, x1, x2, World.rowIs.cell S2.row hlt, srow_to (w0 := wz) rW S2.below hkr⟩
              have HS3 : ∀ w1, Below wr.drew.heap.size wr.drew w1 → w1.frozen? ⟨g, i, none⟩ = false := fun w1 hb => World.rowIs.frozen (SD.later hb).row i
              have mm := HC _ (Below.refl _ _)
              have n0 := S.lo
              have n1 : ¬ g = P := by omega
              have n2 : ¬ P = g := by omega
              generalize rs.getD k 0 = x at *
              generalize enL L k i = en at *
              generalize X k = Xk at *
              obtain ⟨pr, hpr⟩ : ∃ pr, en * Xk = pr := ⟨_, rfl⟩
              rw [hpr] at bp HNX
              have hw1 : IntKind.i64.wrap pr = pr := wr64 (by omega)
              have hw2 : IntKind.i64.wrap (z i + pr) = z i + pr := wr64 (by omega)
              clear hZ hZ0 hZ1 S wx
              go_wp2
              clear m0 m1 m2
              go_region_with (first
                | (go_at_call 29; refine (ce _ hrow).mono ?_; rintro e w3 ⟨rfl, b3⟩; have m3 := HC _ b3; have f3 := HS3 _ b3))
              all_goals
                have S4 := (SD.later b3).set i (z i + pr)
                try simp only [hw1, hw2]
                go_wp2
                go_roundg (N - (k + 1))
                case measure => rw [HG2.out]; omega
                case rel => exact ⟨k + 1, _, by omega, rfl, by go_num, HZX.out _, HZY.out _, (show (if i = i then z i + pr else z i) = _ by rw [if_pos rfl]; exact HNX.out), S4⟩
            · have ek : k = N := by omega
              have i2 : ¬ (k : Int) < (N : Int) := by omega
              have HZ3 : Hid (∀ p, p < i + 1 → z p = tuZ L X N p) := fun p hp => by
                by_cases e : p = i
                · rw [e, hZ1.out, ek]; rfl
                · exact hZ.out p (by omega)
              clear hZ hZ1 ek
              go_wp2
              go_roundg (N - (i + 1))
              case measure => rw [HG.out]; omega
              case rel => exact ⟨i + 1, z, by omega, rfl, by go_num, HZ3, hZ0, S⟩
        · have ei : i = N := by omega
          have i1 : ¬ (i : Int) < (N : Int) := by omega
          obtain ⟨T, hTd⟩ : ∃ T : Nat → Int, ∀ p, T p = tuZ L X N p := ⟨fun p => tuZ L X N p, fun _ => rfl⟩
          have HT : Hid (∀ p, T p = tuZ L X N p) := hTd
          have HZT : Hid (∀ p, p < N → z p = T p) := fun p hp => by rw [hTd]; exact hZ.out p (by omega)
          have HTb : Hid (∀ p, p < N → (T p).natAbs ≤ 7250) := fun p hp => by rw [hTd]; exact tuZ_bd (by omega) hp (fun p q hq hp => (HLs.out p q hq hp).1) (fun p hp => (HXs.out p hp).1)
          have M3 := M2.below S.below
          have HBy : Hid (Below w.heap.size w wr) := HB1.out.trans (S.below.mono HB1.out.size)
          have rL3 := rL2.below S.below
          have rD3 := rD2.below S.below
          have rW3 := rW.below S.below
          have rZ := S.row
          have gB := S.lo.2
          clear hTd hZ hZ0 S HG M2 rL2 rD2 rW HGS PB ei
          obtain ⟨wy, hwy⟩ : ∃ x, x = wr := ⟨_, rfl⟩
          subst hwy
          have U0 : TwG wy wy wy.heap.size 0 0 (.slice none 0 0) (.slice none 0 0) [] [] := ⟨World.ownsRow_nil _ _ _ _, World.ownsRow_nil _ _ _ _, (fun a e _ => by cases e), ⟨Nat.le_refl _, Nat.le_refl _⟩, Below.refl _ _⟩
          obtain ⟨B2, hB2⟩ : ∃ B, wy.heap.size = B := ⟨_, rfl⟩
          have HB2 : Hid (wy.heap.size = B2) := hB2
          rw [hB2] at U0
          clear hB2
          go_wp2
          clear m0 m1 m2
          go_loopg [13, 14, 15] N (fun gg s13 s14 s15 wv => ∃ (i : Nat) (bs ms : List Nat), i ≤ N ∧ gg = N - i ∧ s15 = .int .i64 i ∧ Hid (bs.length = i) ∧ Hid (ms.length = i) ∧ Hid (∀ p, p < i → bs.getD p 0 = floatOfInt .f64 (ldP L D T p N)) ∧ Hid (∀ p, p < i → ms.getD p 0 = floatOfInt .f64 (D p * T p)) ∧ TwG wy wv B2 i i s13 s14 bs ms)
          case atStart => exact ⟨0, [], [], Nat.zero_le _, rfl, rfl, rfl, rfl, fun p hp => by omega, fun p hp => by omega, U0⟩
          case round =>
            clear U0 i1 hlt
            obtain ⟨i, bs, ms, hi', hg, rfl, hbl, hml, hbv, hmv, S⟩ := hrel
            have HG : Hid (gk = N - i) := hg
            clear hg
            obtain ⟨m0, m1, m2, _⟩ := id (M3.below S.below)
            by_cases hlt : i < N
            · have i1 : (i : Int) < (N : Int) := by omega
              go_wp2
              clear m0 m1 m2
              go_loopg [16, 17] N (fun gg s16 s17 wv => ∃ (k : Nat), k ≤ N ∧ gg = N - k ∧ s17 = .int .i64 k ∧ s16 = .int .i64 (ldP L D T i k) ∧ TwG wy wv B2 i i u13 u14 bs ms)
              case atStart => exact ⟨0, Nat.zero_le _, rfl, rfl, rfl, S⟩
              case round =>
                clear S
                obtain ⟨k, hk', hg, rfl, rfl, S⟩ := hrel
                have HG2 : Hid (gk = N - k) := hg
                clear hg
                obtain ⟨m0, m1, m2, _⟩ := id (M3.below S.below)
                by_cases hlt2 : k < N
                · have i2 : (k : Int) < (N : Int) := by omega
                  have ce := fun W h => entry13_any N ls lo lc dO ds.length dc i k L W h (by omega) (by omega) (by rw [HL.out]; exact tri_mono (by omega)) (fun q => (HLs.out i k q (by omega)).symm)
                  rw [enL_enZ] at ce
                  have ben := enL_bd (L := L) (i := i) (k := k) (fun q => (HLs.out i k q (by omega)).1)
                  obtain ⟨bd, _, wd⟩ := HDs.out k hlt2
                  have hcv := fun W => run_toint rfl wd (by omega) W
                  have bt := HTb.out k hlt2
                  have bs1 := ldP_bd (L := L) (D := D) (T := T) (i := i) (k := k) (N := N) (by omega) hlt (by omega) (fun p q hq hp => (HLs.out p q hq hp).1) (fun p hp => (HDs.out p hp).1) HTb.out
                  have HNX : Hid (ldP L D T i k + enL L i k * D k * T k = ldP L D T i (k + 1)) := (show _ = _ by rfl)
                  have bp := mul_abs ben bd
                  have bq := mul_abs bp bt
                  have hkd : k < ds.length := by rw [HD.out]; exact hlt2
                  have i3 : (k : Int) < (ds.length : Int) := by omega
                  have hrow := rL3.below S.below
                  obtain ⟨db, dof, rfl⟩ : ∃ b off, dO = some ⟨b, off, none⟩ := by
                    rcases rD3 with h | ⟨b, off, rfl, _⟩
                    · omega
                    · exact ⟨b, off, rfl⟩
                  have c3 := srow_to (w0 := wy) rD3 S.below hkd
                  have c4 := World.rowIs.cell (rZ.below S.below gB) hlt2
                  rw [HZT.out k hlt2] at c4
                  generalize ds.getD k 0 = x at *
                  generalize enL L i k = en at *
                  generalize D k = Dk at *
                  generalize T k = Tk at *
                  generalize ldP L D T i k = sm at *
                  obtain ⟨pr, hpr⟩ : ∃ pr, en * Dk = pr := ⟨_, rfl⟩
                  rw [hpr] at bp bq HNX
                  obtain ⟨qr, hqr⟩ : ∃ qr, pr * Tk = qr := ⟨_, rfl⟩
                  rw [hqr] at bq HNX
                  have hw1 : IntKind.i64.wrap pr = pr := wr64 (by omega)
                  have hw2 : IntKind.i64.wrap qr = qr := wr64 (by omega)
                  have hw3 : IntKind.i64.wrap (sm + qr) = sm + qr := wr64 (by omega)
                  clear wd
                  go_wp2
                  have hne : Nonempty (LOf wr) := LOf.any _
                  have k0 : ∀ u : LOf wr, u.val.cell? ⟨P, 0, none⟩ = some (.int .i64 N) := fun u => u.cell m0
                  have k1 : ∀ u : LOf wr, u.val.cell? ⟨P, 1, none⟩ = some (.slice lo ls.length lc) := fun u => u.cell m1
                  have k2 : ∀ u : LOf wr, u.val.cell? ⟨P, 2, none⟩ = some (.slice (some ⟨db, dof, none⟩) ds.length dc) := fun u => u.cell m2
                  have k3 : ∀ u : LOf wr, u.val.cell? ⟨db, dof + k, none⟩ = some (.float .f64 x) := fun u => u.cell c3
                  have k4 : ∀ u : LOf wr, u.val.cell? ⟨g, k, none⟩ = some (.int .i64 Tk) := fun u => u.cell c4
                  refine region_later (by kernel_rfl) (by kernel_rfl) ?_
                  repeat (quiet_step ((go_at_call 29; exact later_of (ce _ (LOf.row _ hrow)))))
                  refine wpQuiet_nil ?_
                  intro w' hw'
                  obtain ⟨u, rfl⟩ := hw'
                  have S4 := S.later u.below
                  clear k0 k1 k2 k3 k4 m0 m1 m2 c3 c4 hrow S ce hcv
                  go_wp2
                  go_roundg (N - (k + 1))
                  case measure => rw [HG2.out]; omega
                  case rel => exact ⟨k + 1, by omega, rfl, by go_num, (by rw [← HNX.out]), S4⟩
                · have ek : k = N := by omega
                  have i2 : ¬ (k : Int) < (N : Int) := by omega
                  have HK : Hid (k = N) := ek
                  clear ek hk' HG2
                  have hid : i < ds.length := by rw [HD.out]; exact hlt
                  have i3 : (i : Int) < (ds.length : Int) := by omega
                  obtain ⟨db, dof, rfl⟩ : ∃ b off, dO = some ⟨b, off, none⟩ := by
                    rcases rD3 with h | ⟨b, off, rfl, _⟩
                    · omega
                    · exact ⟨b, off, rfl⟩
                  obtain ⟨bd, _, wd⟩ := HDs.out i hlt
                  have hcv := fun W => run_toint rfl wd (by omega) W
                  have bt := HTb.out i hlt
                  have bp := mul_abs bd bt
                  have c3 := fun W h => srow_to (w0 := wy) (wr := W) rD3 h hid
                  have c4 := fun W h => World.rowIs.cell (rZ.below (w' := W) h gB) hlt
                  rw [HZT.out i hlt] at c4
                  have HM : Hid (∀ y, floatOfInt .f64 (D i * T i) = y → y = floatOfInt .f64 (D i * T i)) := fun y e => e.symm
                  have HY : Hid (∀ pr, D i * T i = pr → ∀ y, floatOfInt .f64 pr = y → (ms ++ [y]).length = i + 1 ∧ ∀ p, p < i + 1 → (ms ++ [y]).getD p 0 = floatOfInt .f64 (D p * T p)) := fun pr e y e2 => snoc_I (p := fun p r => r = floatOfInt .f64 (D p * T p)) hml.out hmv.out (by rw [e, e2])
                  have HXb : Hid (∀ x, floatOfInt .f64 (ldP L D T i k) = x → (bs ++ [x]).length = i + 1 ∧ ∀ p, p < i + 1 → (bs ++ [x]).getD p 0 = floatOfInt .f64 (ldP L D T p N)) := fun x e => snoc_I (p := fun p r => r = floatOfInt .f64 (ldP L D T p N)) hbl.out hbv.out (by rw [← e, HK.out])
                  clear hbl hml hbv hmv HM
                  obtain ⟨x, hx⟩ : ∃ x, floatOfInt .f64 (ldP L D T i k) = x := ⟨_, rfl⟩
                  have hxx := HXb.out x hx
                  have HXX : Hid ((bs ++ [x]).length = i + 1 ∧ ∀ p, p < i + 1 → (bs ++ [x]).getD p 0 = floatOfInt .f64 (ldP L D T p N)) := hxx
                  clear HXb hxx
                  generalize ldP L D T i k = sm at *
                  generalize ds.getD i 0 = dx at *
                  obtain ⟨pr, hpr⟩ : ∃ pr, D i * T i = pr := ⟨_, rfl⟩
                  have HY2 := HY.out pr hpr
                  rw [hpr] at bp
                  clear HY
                  generalize D i = Di at *
                  generalize T i = Ti at *
                  obtain ⟨y, hy⟩ : ∃ y, floatOfInt .f64 pr = y := ⟨_, rfl⟩
                  have HYY : Hid ((ms ++ [y]).length = i + 1 ∧ ∀ p, p < i + 1 → (ms ++ [y]).getD p 0 = floatOfInt .f64 (D p * T p)) := HY2 y hy
                  clear HY2
                  have hw1 : IntKind.i64.wrap pr = pr := wr64 (by omega)
                  have hown := S.ov
                  have hlo := S.lo
                  have HW : ∀ o, B2 ≤ (wr.alloc o).heap.size := fun o => by have := hlo.2; simp; omega
                  clear wd
                  go_upto_region 25 with (at_builtin; refine wpList_append_own_at _ rfl _ _ 22 rfl B2 29 i0 (.float .f64 0) 1 8 Try.underlying22 hi hz0 hz1 hz2 rfl (by decide) _ _ _ rfl (hown.alloc _) _ 1 1 [.float .f64 x] rfl rfl (World.news_of_block (cs := #[.float .f64 x]) (t := 29) (fr := (0, 0)) (heap_alloc_new _ _)) (by simp [Value.oneCell']) (by unfold maxLen; omega) (by omega) (HW _) ?_; intro v' w2 hown1 hgrow _ hat1; have S1 := (S.next _ hown1 hgrow hat1).drew)
                  clear hown hlo HW hown1 hgrow hat1 S m0 m1 m2
                  obtain ⟨m0, m1, m2, _⟩ := id (M3.below S1.below)
                  have d3 := c3 _ S1.below
                  have d4 := c4 _ S1.below
                  have hO : ∀ o, (World.alloc w2.drew o).ownsRow B2 29 1 u14 i (fv ms) := fun o => S1.turn.ov.alloc o
                  have HW : ∀ o, B2 ≤ (World.alloc w2.drew o).heap.size := fun o => by have h9 : B2 ≤ w2.heap.size := S1.lo.2; simp; omega
                  clear c3 c4
                  go_wp2
                  go_region_law (refine step_own_at rfl (.tmp 114) (.tmp 127) 22 rfl B2 29 i0 (.float .f64 0) 1 8 Try.underlying22 hi hz0 hz1 hz2 rfl (by decide) _ _ _ rfl (hO _) _ 1 1 [.float .f64 y] rfl rfl (World.news_of_block (cs := #[.float .f64 y]) (t := 29) (fr := (0, 0)) (heap_alloc_new _ _)) (by simp [Value.oneCell']) (by unfold maxLen; omega) (by omega) (HW _) ?_; intro v'' w3 hown2 hgrow2 hat2; have S2 := (S1.turn.next _ hown2 hgrow2 hat2).turn)
                  all_goals
                    go_wp2
                    go_roundg (N - (i + 1))
                    case measure => rw [HG.out]; omega
                    case rel => exact ⟨i + 1, bs ++ [x], ms ++ [y], by omega, rfl, by go_num, HXX.out.1, HYY.out.1, HXX.out.2, HYY.out.2, S2⟩
            · have ei : i = N := by omega
              have i1 : ¬ (i : Int) < (N : Int) := by omega
              obtain ⟨bo, bc, rfl, rB, _, _⟩ := owned_grow (xs := bs) (by rw [hbl.out]; exact S.ov)
              obtain ⟨mo, mc, rfl, rM, _, _⟩ := owned_grow (xs := ms) (by rw [hml.out]; exact S.ou)
              have hTe : T = tuZ L X N := funext HT.out
              have hbl' : bs.length = N := by rw [hbl.out]; exact ei
              have hml' : ms.length = N := by rw [hml.out]; exact ei
              have hBv : ∀ p, p < N → Wz 1074 (bs.getD p 0) (ldZ L D (tuZ L X N) N p) := fun p hp => by
                have bnd := ldP_bd (L := L) (D := D) (T := T) (i := p) (k := N) (N := N) (by omega) hp (Nat.le_refl _) (fun p q hq hp => (HLs.out p q hq hp).1) (fun p hp => (HDs.out p hp).1) HTb.out
                rw [hbv.out p (by omega), ← hTe]
                exact ofint_wz rfl (by omega)
              have hMv : ∀ p, p < N → Wz 1074 (ms.getD p 0) (D p * tuZ L X N p) := fun p hp => by
                have bnd := mul_abs (HDs.out p hp).1 (HTb.out p hp)
                rw [hmv.out p (by omega), ← hTe]
                exact ofint_wz rfl (by omega)
              have cf := fun W h1 h2 => forward_wz HWF.out (fun p hp => (HXs.out p hp).1) hbl' hBv lo dO bo lc dc bc W h1 h2
              have cs := fun W h1 h2 h3 => solve_wz HWF.out (fun p hp => (HXs.out p hp).1) hbl' hBv lo dO bo lc dc bc W h1 h2 h3
              have c1 := fun ys (yo : Option Addr) (yc : Nat) h1 h2 W h3 h4 => equal_wz (xs := ys) hN h1 hml' h2 hMv yo mo yc mc W h3 h4
              have c2 := fun ys (yo : Option Addr) (yc : Nat) h1 h2 W h3 h4 => equal_wz (xs := ys) hN h1 HRS.out h2 (fun p hp => (HXs.out p hp).2) yo wo yc wc W h3 h4
              have M4 := M3.below S.below
              have HBx : Hid (Below w.heap.size w wr) := HBy.out.trans (S.below.mono HBy.out.size)
              have rL4 := rL3.below S.below
              have rD4 := rD3.below S.below
              have rW4 := rW3.below S.below
              clear hbl hml hbv hmv hBv hMv hTe HT HZT HTb HG S M3 rL3 rD3 rW3 rZ gB HB2 ei m1 m2 hbl' hml'
              obtain ⟨wx, hwx⟩ : ∃ x, x = wr := ⟨_, rfl⟩
              subst hwx
              go_upto_region 26 with fail
              obtain ⟨m0, m1, m2, _⟩ := id M4
              go_upto_region 27 with (go_at_call 8; refine (cf _ rL4 rB).mono ?_; rintro e w5 ⟨yo, yc, ys, rfl, yl, yv, ry, b5⟩; obtain ⟨p0, p1, p2, _⟩ := id (M4.below b5); have HYL : Hid (ys.length = N) := yl; clear yl)
              go_upto_region 28 with (go_at_call 10; refine (cs _ (rL4.below b5) (rD4.below b5) (rB.below b5)).mono ?_; rintro e w6 ⟨zo, zc, zs, rfl, zl, zv, rz, b6⟩; have ry6 := ry.below b6; have b56 := b5.trans (b6.mono b5.size); have HZL : Hid (zs.length = N) := zl; clear zl)
              go_upto_region 30 with (go_at_call 30; first
                | (have q7 := b7; refine (c2 zs zo zc HZL.out zv _ (rz.below b7) (rW4.below b57)).mono ?_; rintro e w8 ⟨rfl, b8⟩; have b58 := b57.trans (b8.mono b57.size))
                | (refine (c1 ys yo yc HYL.out yv _ ry6 (rM.below b56)).mono ?_; rintro e w7 ⟨rfl, b7⟩; have b57 := b56.trans (b7.mono b56.size)))
              clear cf cs c1 c2 yv zv ry rz ry6 b5 b6 b7 b8 b56 b57 p0 p1 p2 m0 m1 m2 HYL HZL rB rM rW4 q7
              go_wp2
              go_loopg [22] N (fun gg s22 wv => ∃ (j : Nat), j ≤ N ∧ gg = N - j ∧ s22 = .int .i64 j ∧ Below wx.heap.size wx wv)
              case atStart => exact ⟨0, Nat.zero_le _, rfl, rfl, b58⟩
              case round =>
                clear b58 i1 hlt
                obtain ⟨j, hj', hg, rfl, S⟩ := hrel
                have HG : Hid (gk = N - j) := hg
                clear hg
                obtain ⟨m0, m1, m2, _⟩ := id (M4.below S)
                by_cases hlt : j < N
                · have i1 : (j : Int) < (N : Int) := by omega
                  have M5 := M4.below S
                  have rL5 := rL4.below S
                  have rD5 := rD4.below S
                  obtain ⟨T, hTd⟩ : ∃ T : Nat → Int, ∀ p, T p = enL L j p := ⟨fun p => enL L j p, fun _ => rfl⟩
                  have HT : Hid (∀ p, T p = enL L j p) := hTd
                  have HTb : Hid (∀ p, p < N → (T p).natAbs ≤ 3) := fun p hp => by rw [hTd]; exact enL_bd (fun q => (HLs.out j p q hlt).1)
                  clear hTd
                  obtain ⟨wj, hwj⟩ : ∃ x, x = wr := ⟨_, rfl⟩
                  subst hwj
                  have U0 : TwG wj wj wj.heap.size 0 0 (.slice none 0 0) (.slice none 0 0) [] [] := ⟨World.ownsRow_nil _ _ _ _, World.ownsRow_nil _ _ _ _, (fun a e _ => by cases e), ⟨Nat.le_refl _, Nat.le_refl _⟩, Below.refl _ _⟩
                  obtain ⟨B4, hB4⟩ : ∃ B, wj.heap.size = B := ⟨_, rfl⟩
                  rw [hB4] at U0
                  have HB4 : Hid (wj.heap.size = B4) := hB4
                  clear hB4
                  go_wp2
                  clear m0 m1 m2
                  go_loopg [23, 24, 25] N (fun gg s23 s24 s25 wv => ∃ (i : Nat) (cs us : List Nat), i ≤ N ∧ gg = N - i ∧ s25 = .int .i64 i ∧ Hid (cs.length = i) ∧ Hid (us.length = i) ∧ Hid (∀ p, p < i → cs.getD p 0 = floatOfInt .f64 (ldP L D T p N)) ∧ Hid (∀ p, p < i → us.getD p 0 = 0) ∧ TwG wj wv B4 i i s23 s24 cs us)
                  case atStart => exact ⟨0, [], [], Nat.zero_le _, rfl, rfl, rfl, rfl, fun p hp => by omega, fun p hp => by omega, U0⟩
                  case round =>
                    clear U0 i1
                    obtain ⟨i, cs, us, hi', hg, rfl, hcl, hul, hcv', huv, S⟩ := hrel
                    have HG2 : Hid (gk = N - i) := hg
                    clear hg
                    obtain ⟨m0, m1, m2, _⟩ := id (M5.below S.below)
                    by_cases hlti : i < N
                    · have i1 : (i : Int) < (N : Int) := by omega
                      go_wp2
                      clear m0 m1 m2
                      go_loopg [26, 27] N (fun gg s26 s27 wv => ∃ (k : Nat), k ≤ N ∧ gg = N - k ∧ s27 = .int .i64 k ∧ s26 = .int .i64 (ldP L D T i k) ∧ TwG wj wv B4 i i u23 u24 cs us)
                      case atStart => exact ⟨0, Nat.zero_le _, rfl, rfl, rfl, S⟩
                      case round =>
                        clear S
                        obtain ⟨k, hk', hg, rfl, rfl, S⟩ := hrel
                        have HG3 : Hid (gk = N - k) := hg
                        clear hg
                        obtain ⟨m0, m1, m2, _⟩ := id (M5.below S.below)
                        by_cases hlt2 : k < N
                        · have i2 : (k : Int) < (N : Int) := by omega
                          have ce := fun (a : Nat) (W : World) (h : GRow W lo ls) (ha : a < N) => entry13_any N ls lo lc dO ds.length dc a k L W h (by omega) (by omega) (by rw [HL.out]; exact tri_mono (by omega)) (fun q => (HLs.out a k q ha).symm)
                          simp only [enL_enZ] at ce
                          have ben := enL_bd (L := L) (i := i) (k := k) (fun q => (HLs.out i k q (by omega)).1)
                          obtain ⟨bd, _, wd⟩ := HDs.out k hlt2
                          have hcv := fun W => run_toint rfl wd (by omega) W
                          have bt := HTb.out k hlt2
                          have bs1 := ldP_bd (L := L) (D := D) (T := T) (i := i) (k := k) (N := N) (by omega) hlti (by omega) (fun p q hq hp => (HLs.out p q hq hp).1) (fun p hp => (HDs.out p hp).1) (fun p hp => by have := HTb.out p hp; omega)
                          have HNX : Hid (ldP L D T i k + enL L i k * D k * T k = ldP L D T i (k + 1)) := (show _ = _ by rfl)
                          have bp := mul_abs ben bd
                          have bq := mul_abs bp bt
                          rw [HT.out k] at bq HNX
                          have hkd : k < ds.length := by rw [HD.out]; exact hlt2
                          have i3 : (k : Int) < (ds.length : Int) := by omega
                          have hrow := rL5.below S.below
                          obtain ⟨db, dof, rfl⟩ : ∃ b off, dO = some ⟨b, off, none⟩ := by
                            rcases rD5 with h | ⟨b, off, rfl, _⟩
                            · omega
                            · exact ⟨b, off, rfl⟩
                          have c3 := srow_to (w0 := wj) rD5 S.below hkd
                          generalize ds.getD k 0 = x at *
                          generalize D k = Dk at *
                          generalize ldP L D T i k = sm at *
                          obtain ⟨pr, hpr⟩ : ∃ pr, enL L i k * Dk = pr := ⟨_, rfl⟩
                          rw [hpr] at bp bq HNX
                          obtain ⟨qr, hqr⟩ : ∃ qr, pr * enL L j k = qr := ⟨_, rfl⟩
                          rw [hqr] at bq HNX
                          have hw1 : IntKind.i64.wrap pr = pr := wr64 (by omega)
                          have hw2 : IntKind.i64.wrap qr = qr := wr64 (by omega)
                          have hw3 : IntKind.i64.wrap (sm + qr) = sm + qr := wr64 (by omega)
                          clear wd
                          go_wp2
                          have hne : Nonempty (LOf wr) := LOf.any _
                          have k0 : ∀ u : LOf wr, u.val.cell? ⟨P, 0, none⟩ = some (.int .i64 N) := fun u => u.cell m0
                          have k1 : ∀ u : LOf wr, u.val.cell? ⟨P, 1, none⟩ = some (.slice lo ls.length lc) := fun u => u.cell m1
                          have k2 : ∀ u : LOf wr, u.val.cell? ⟨P, 2, none⟩ = some (.slice (some ⟨db, dof, none⟩) ds.length dc) := fun u => u.cell m2
                          have k3 : ∀ u : LOf wr, u.val.cell? ⟨db, dof + k, none⟩ = some (.float .f64 x) := fun u => u.cell c3
                          refine region_later (by kernel_rfl) (by kernel_rfl) ?_
                          repeat (quiet_step ((go_at_call 29; exact later_of (ce _ _ (LOf.row _ hrow) (by omega)))))
                          refine wpQuiet_nil ?_
                          intro w' hw'
                          obtain ⟨u, rfl⟩ := hw'
                          have S4 := S.later u.below
                          clear k0 k1 k2 k3 m0 m1 m2 c3 hrow S ce hcv
                          go_wp2
                          go_roundg (N - (k + 1))
                          case measure => rw [HG3.out]; omega
                          case rel => exact ⟨k + 1, by omega, rfl, by go_num, (by rw [← HNX.out]), S4⟩
                        · have ek : k = N := by omega
                          have i2 : ¬ (k : Int) < (N : Int) := by omega
                          have HXb : Hid (∀ x, floatOfInt .f64 (ldP L D T i k) = x → (cs ++ [x]).length = i + 1 ∧ ∀ p, p < i + 1 → (cs ++ [x]).getD p 0 = floatOfInt .f64 (ldP L D T p N)) := fun x e => snoc_I (p := fun p r => r = floatOfInt .f64 (ldP L D T p N)) hcl.out hcv'.out (by rw [← e, ek])
                          have HYY : Hid ((us ++ [0]).length = i + 1 ∧ ∀ p, p < i + 1 → (us ++ [0]).getD p 0 = 0) := snoc_I (p := fun _ r => r = 0) hul.out huv.out rfl
                          clear ek hk' HG3 hcl hul hcv' huv
                          obtain ⟨x, hx⟩ : ∃ x, floatOfInt .f64 (ldP L D T i k) = x := ⟨_, rfl⟩
                          have HXX : Hid ((cs ++ [x]).length = i + 1 ∧ ∀ p, p < i + 1 → (cs ++ [x]).getD p 0 = floatOfInt .f64 (ldP L D T p N)) := HXb.out x hx
                          clear HXb
                          generalize ldP L D T i k = sm at *
                          have hown := S.ov
                          have hlo := S.lo
                          have HW : ∀ o, B4 ≤ (wr.alloc o).heap.size := fun o => by have := hlo.2; simp; omega
                          go_upto_region 43 with (at_builtin; refine wpList_append_own_at _ rfl _ _ 22 rfl B4 29 i0 (.float .f64 0) 1 8 Try.underlying22 hi hz0 hz1 hz2 rfl (by decide) _ _ _ rfl (hown.alloc _) _ 1 1 [.float .f64 x] rfl rfl (World.news_of_block (cs := #[.float .f64 x]) (t := 29) (fr := (0, 0)) (heap_alloc_new _ _)) (by simp [Value.oneCell']) (by unfold maxLen; omega) (by omega) (HW _) ?_; intro v' w2 hown1 hgrow _ hat1; have S1 := S.next _ hown1 hgrow hat1)
                          clear hown hlo HW hown1 hgrow hat1 S m0 m1 m2
                          have hO := S1.turn.ov
                          have HW : ∀ o, B4 ≤ (w2.alloc o).heap.size := fun o => by have := S1.lo.2; simp; omega
                          go_wp2_with (at_builtin; refine wpList_append_own_at _ rfl _ _ 22 rfl B4 29 i0 (.float .f64 0) 1 8 Try.underlying22 hi hz0 hz1 hz2 rfl (by decide) _ _ _ rfl (hO.alloc _) _ 1 1 [.float .f64 0] rfl rfl (World.news_of_block (cs := #[.float .f64 0]) (t := 29) (fr := (0, 0)) (heap_alloc_new _ _)) (by simp [Value.oneCell']) (by unfold maxLen; omega) (by omega) (HW _) ?_; intro v'' w3 hown2 hgrow2 _ hat2; have S2 := (S1.turn.next _ hown2 hgrow2 hat2).turn)
                          go_roundg (N - (i + 1))
                          case measure => rw [HG2.out]; omega
                          case rel => exact ⟨i + 1, cs ++ [x], us ++ [0], by omega, rfl, by go_num, HXX.out.1, HYY.out.1, HXX.out.2, HYY.out.2, S2⟩
                    · have ei : i = N := by omega
                      have i1 : ¬ (i : Int) < (N : Int) := by omega
                      have hcl' : cs.length = N := by rw [hcl.out]; exact ei
                      have hul' : us.length = N := by rw [hul.out]; exact ei
                      have hTe : T = tuZ L (unZ j) N := funext (fun p => by rw [HT.out, tuZ_unit hlt])
                      have hCv : ∀ p, p < N → Wz 1074 (cs.getD p 0) (ldZ L D (tuZ L (unZ j) N) N p) := fun p hp => by
                        have bnd := ldP_bd (L := L) (D := D) (T := T) (i := p) (k := N) (N := N) (by omega) hp (Nat.le_refl _) (fun p q hq hp => (HLs.out p q hq hp).1) (fun p hp => (HDs.out p hp).1) (fun p hp => by have := HTb.out p hp; omega)
                        rw [hcv'.out p (by omega), ← hTe]
                        exact ofint_wz rfl (by omega)
                      have hUv := unit_wz (j := j) hul' (fun p hp => huv.out p (by omega))
                      obtain ⟨co, cc, ub, uc, rfl, rfl, g1, g2, hub, hput⟩ := S.put hcl.out hul.out (j := j) (by omega)
                      obtain ⟨rC, rU, bU⟩ := hput 4607182418800017408
                      have cs' := fun W h1 h2 h3 => solve_wz HWF.out (fun p _ => unZ_bd j p) hcl' hCv lo dO co lc dc cc W h1 h2 h3
                      have c1 := fun ys (yo : Option Addr) (yc : Nat) h1 h2 W h3 h4 => equal_wz (xs := ys) (ys := us.set j 4607182418800017408) hN h1 (by rw [List.length_set]; exact hul') h2 hUv yo (some ⟨ub, 0, none⟩) yc uc W h3 h4
                      simp only [List.length_set] at c1
                      have i2 : (j : Int) < (us.length : Int) := by omega
                      have hst := vstoref Try.prog
                      have HE : Hid (Below wx.heap.size wx wj) := ‹Below wx.heap.size wx wj›
                      clear hcl hul hcv' huv hCv hUv hTe HT HTb hput S ei hcl' hul' HG2
                      go_upto_region 45 with fail
                      have M6 := M5.below bU
                      have rL6 := rL5.below bU
                      have rD6 := rD5.below bU
                      generalize wr.setCell ⟨ub, j, none⟩ (.float .f64 4607182418800017408) = W6 at *
                      clear m0 m1 m2 g1 g2
                      obtain ⟨m0, m1, m2, _⟩ := id M6
                      go_upto_region 46 with (go_at_call 10; refine (cs' _ rL6 rD6 rC).mono ?_; rintro e w6 ⟨zo, zc, zs, rfl, zl, zv, rz, b6⟩; have HZL : Hid (zs.length = N) := zl; clear zl)
                      go_wp2_with (go_at_call 30; refine (c1 zs zo zc HZL.out zv _ rz (rU.below b6)).mono ?_; rintro e w7 ⟨rfl, b7⟩; have b67 := b6.trans (b7.mono b6.size))
                      have bE := bU.trans (b67.mono bU.size)
                      have bF := HE.out.trans (bE.mono HE.out.size)
                      go_roundg (N - (j + 1))
                      case measure => rw [HG.out]; omega
                      case rel => exact ⟨j + 1, by omega, rfl, by go_num, bF⟩
                · have ej : j = N := by omega
                  have i1 : ¬ (j : Int) < (N : Int) := by omega
                  have ca := fun W => awake13 W
                  go_wp2_with (go_at_call 18; refine (ca _).mono ?_; rintro e w9 ⟨rfl, b9⟩)
                  have bZ := HBx.out.trans (S.mono HBx.out.size)
                  go_ret
                  exact ⟨rfl, bZ.trans (b9.mono bZ.size)⟩
theorem whole13_row (n : Int) (ks : List Int) (ko : Option Addr) (kc : Nat) (xs : List Int) (xo : Option Addr) (xc : Nat) (w : World) (hK : IRow w ko ks) (_ : IW ks) (_ : ks.length ≤ kc) (_ : kc ≤ 17592186044416) (hX : IRow w xo xs) (_ : IW xs) (_ : xs.length ≤ xc) (_ : xc ≤ 17592186044416) :
    Calls Try.prog 5 #[.int .i64 n, .slice ko ks.length kc, .slice xo xs.length xc] w fun e w' => e = .returned (.bool true) ∧ Below w.heap.size w w' := whole13_law n ks xs ko xo kc xc w hK hX
end Go.Proofs.Ytclldmdhpojciaa
