/- SumsExact, of any list and any way: both sides are one. -/
import Derived.Test.YtflbglbhmdpmoaaGreatDoorRB
import Derived.Test.YtflbglbhmdpmoaaGreatDoorCi
import Derived.Test.YtflbglbhmdpmoaaGreatDoorZ10
namespace Go.Proofs.YtflbglbhmdpmoaaGreatDoor
open Go.RowKit

theorem nan_fin {s : Nat} (h : nanB s = true) : finB s = false := by
  unfold nanB at h; unfold finB
  simp only [decide_eq_true_eq] at h
  simp; omega
/-- A sum, both sides at once, by what they are. -/
theorem addTwo (o : Option Nat) (b : Nat) (m : Int) (hb : b < 18446744073709551616) :
    ∃ p, ∀ s, NR o s → (∀ w, Calls Tryz.prog 48 #[.float .f64 s, .float .f64 b, .int .i8 m] w fun e w' => ∃ r, e = .returned (.float .f64 r) ∧ NR p r ∧ Below w.heap.size w w') ∧
      (∀ w, Calls Tryz.prog 51 #[.float .f64 s, .float .f64 b, .int .i8 m] w fun e w' => ∃ r, e = .returned (.float .f64 r) ∧ NR p r ∧ Below w.heap.size w w') := by
  cases o with
  | none =>
    refine ⟨none, fun s hs => ?_⟩
    have hn : nanB s = true := hs.2
    have hq := op_nan (op := .add) (Or.inl rfl) hs.1 hb (Or.inl hn)
    refine ⟨fun w => (radd_inf s b m hs.1 hb (Or.inl (nan_fin hn)) w).mono ?_, fun w => (dadd_inf s b m hs.1 hb (Or.inl (nan_fin hn)) w).mono ?_⟩
    all_goals
      rintro e w' ⟨⟨r, h1, h2⟩, h3⟩
      rw [hq] at h2
      exact ⟨r, h1, h2, h3⟩
  | some v =>
    by_cases hv : v < 18446744073709551616
    · obtain ⟨p, p1, p2⟩ := radd_NR v b m hv hb
      refine ⟨p, fun s hs => ?_⟩
      have e : s = v := hs.2
      subst e
      exact ⟨p1, p2⟩
    · refine ⟨none, fun s hs => ?_⟩
      have e : s = v := hs.2
      have := hs.1
      omega
theorem mulTwo (a : Nat) (o : Option Nat) (m : Int) (ha : a < 18446744073709551616) :
    ∃ p, ∀ s, NR o s → (∀ w, TabW w → Calls Tryz.prog 50 #[.float .f64 a, .float .f64 s, .int .i8 m] w fun e w' => ∃ r, e = .returned (.float .f64 r) ∧ NR p r ∧ Below w.heap.size w w') ∧
      (∀ w, Calls Tryz.prog 52 #[.float .f64 a, .float .f64 s, .int .i8 m] w fun e w' => ∃ r, e = .returned (.float .f64 r) ∧ NR p r ∧ Below w.heap.size w w') := by
  cases o with
  | none =>
    refine ⟨none, fun s hs => ?_⟩
    have hn : nanB s = true := hs.2
    have hq := op_nan (op := .mul) (Or.inr (Or.inr (Or.inl rfl))) ha hs.1 (Or.inr hn)
    have hsp : (someB a && someB s) = false := by rw [some_parts (a := s), nan_fin hn]; simp
    refine ⟨fun w _ => (rmul_sp a s m ha hs.1 hsp w).mono ?_, fun w => (dmul_sp a s m ha hs.1 hsp w).mono ?_⟩
    all_goals
      rintro e w' ⟨r, h1, h2, h3⟩
      rw [hq] at h2
      exact ⟨r, h1, h2, h3⟩
  | some v =>
    by_cases hv : v < 18446744073709551616
    · obtain ⟨p, p1, p2⟩ := mul_NR a v m ha hv
      refine ⟨p, fun s hs => ?_⟩
      have e : s = v := hs.2
      subst e
      exact ⟨p1, p2⟩
    · refine ⟨none, fun s hs => ?_⟩
      have e : s = v := hs.2
      have := hs.1
      omega
theorem rung64 (a : Nat) : rung a < 18446744073709551616 := by have := rung_lt a; omega
/-- The sizes of the first k floats summed, each sum upwards. -/
noncomputable def szO (xs : List Nat) : Nat → Option Nat
  | 0 => some 0
  | k + 1 => Classical.choose (addTwo (szO xs k) (rung (xs.getD k 0)) 2 (rung64 _))
theorem szO_step (xs : List Nat) (k s : Nat) (h : NR (szO xs k) s) : (∀ w, Calls Tryz.prog 48 #[.float .f64 s, .float .f64 (rung (xs.getD k 0)), .int .i8 2] w fun e w' => ∃ r, e = .returned (.float .f64 r) ∧ NR (szO xs (k + 1)) r ∧ Below w.heap.size w w') ∧
      (∀ w, Calls Tryz.prog 51 #[.float .f64 s, .float .f64 (rung (xs.getD k 0)), .int .i8 2] w fun e w' => ∃ r, e = .returned (.float .f64 r) ∧ NR (szO xs (k + 1)) r ∧ Below w.heap.size w w') :=
  Classical.choose_spec (addTwo (szO xs k) (rung (xs.getD k 0)) 2 (rung64 _)) s h
noncomputable def bO (xs : List Nat) : Option Nat := if h : cW xs.length < 18446744073709551616 then Classical.choose (mulTwo (cW xs.length) (szO xs xs.length) 2 h) else none
theorem bO_both (xs : List Nat) (h : xs.length ≤ 4096) (s : Nat) (hs : NR (szO xs xs.length) s) : (∀ w, TabW w → Calls Tryz.prog 50 #[.float .f64 (cW xs.length), .float .f64 s, .int .i8 2] w fun e w' => ∃ r, e = .returned (.float .f64 r) ∧ NR (bO xs) r ∧ Below w.heap.size w w') ∧
      (∀ w, Calls Tryz.prog 52 #[.float .f64 (cW xs.length), .float .f64 s, .int .i8 2] w fun e w' => ∃ r, e = .returned (.float .f64 r) ∧ NR (bO xs) r ∧ Below w.heap.size w w') := by
  have hc := (cOk_at h).2.2
  unfold bO
  rw [dif_pos hc]
  exact Classical.choose_spec (mulTwo (cW xs.length) (szO xs xs.length) 2 hc) s hs
def finO : Option Nat → Bool
  | none => false
  | some v => finB v
theorem NR_fin {o : Option Nat} {r : Nat} (h : NR o r) : finB r = finO o := by
  cases o with
  | none => exact nan_fin h.2
  | some v => have e : r = v := h.2; rw [e]; rfl
theorem NR_num {o : Option Nat} {r : Nat} (h : NR o r) (hf : finO o = true) : r = o.getD 0 := by
  cases o with
  | none => cases hf
  | some v => exact h.2
end Go.Proofs.YtflbglbhmdpmoaaGreatDoor

namespace Go.Proofs.YtflbglbhmdpmoaaGreatDoor
open Go.RowKit

noncomputable def nW (xs : List Nat) : Nat × Nat × Int := if xs.all finB then (if finO (naiveO xs) && finO (bO xs) then ((naiveO xs).getD 0, (bO xs).getD 0, 0) else (0, 0, 6)) else (0, 0, 5)
theorem nW_not {xs : List Nat} (h : xs.all finB = false) : nW xs = (0, 0, 5) := by unfold nW; rw [h]; rfl
theorem nW_over {xs : List Nat} (h : xs.all finB = true) {v b : Nat} (hv : NR (naiveO xs) v) (hb : NR (bO xs) b) (hf : (finB v && finB b) = false) : nW xs = (0, 0, 6) := by
  rw [NR_fin hv, NR_fin hb] at hf
  unfold nW; rw [h, hf]; rfl
theorem nW_fine {xs : List Nat} (h : xs.all finB = true) {v b : Nat} (hv : NR (naiveO xs) v) (hb : NR (bO xs) b) (hf : (finB v && finB b) = true) : nW xs = (v, b, 0) := by
  rw [NR_fin hv, NR_fin hb] at hf
  have h2 := hf
  simp only [Bool.and_eq_true] at h2
  unfold nW; rw [h, hf, ← NR_num hv h2.1, ← NR_num hb h2.2]; rfl
theorem NR_none0 : NR (some 0) 0 := ⟨by omega, rfl⟩
set_option maxRecDepth 100000 in
set_option maxHeartbeats 2000000 in
theorem snear_any (xs : List Nat) (ao : Option Addr) (cap : Nat) (w : World) (hT : TabW w) (hr : GRow w ao xs) (hF : FW xs) (hn : xs.length ≤ 4096) :
    Calls Tryz.prog 17 #[.slice ao xs.length cap] w fun e w' => e = .returned (.tuple #[.float .f64 (nW xs).1, .float .f64 (nW xs).2.1, .int .i64 (nW xs).2.2]) ∧ (nW xs).1 < 18446744073709551616 ∧ (nW xs).2.1 < 18446744073709551616 ∧ Below w.heap.size w w' := by
  have ca := allfin_any xs ao cap w hr hF (by omega)
  cases hf : xs.all finB
  · rw [hf] at ca
    rw [nW_not hf]
    go_enter Tryz.func17, Tryz.ntmps17
    go_wp2_with (go_at_call 34; refine ca.mono ?_; rintro e wz ⟨rfl, hz⟩; subst wz)
    exact bodyPost_ret (v := .tuple #[.float .f64 0, .float .f64 0, .int .i64 5]) (by simp [results, Tryz.results17, go_sem]) rfl ⟨rfl, by show (0 : Nat) < _; omega, by show (0 : Nat) < _; omega, Below.refl _ _⟩
  · rw [hf] at ca
    have cn := fun W h => naive_any xs ao cap W h hF (by omega)
    obtain ⟨m1, _, m3⟩ := cOk_at hn
    have hmul := fun w => run_float_arith (P := Tryz.prog) w .mul 26 .f64 _ _ _ m1
    have hbm := fun s hs => (bO_both xs hn s hs).1
    have hcv := conv64
    have n1 : FloatKind.f64 = FloatKind.f64 := rfl
    generalize cW xs.length = C at *
    obtain ⟨R, hR⟩ : ∃ R, nW xs = R := ⟨_, rfl⟩
    have HO : Hid (∀ v b, NR (naiveO xs) v → NR (bO xs) b → (finB v && finB b) = false → R = (0, 0, 6)) := fun v b h1 h2 h3 => by rw [← hR]; exact nW_over hf h1 h2 h3
    have HY : Hid (∀ v b, NR (naiveO xs) v → NR (bO xs) b → (finB v && finB b) = true → R = (v, b, 0)) := fun v b h1 h2 h3 => by rw [← hR]; exact nW_fine hf h1 h2 h3
    rw [hR]
    clear hR m1 m3 n1
    go_enter Tryz.func17, Tryz.ntmps17
    go_upto_region 4 with (go_at_call 34; refine ca.mono ?_; rintro e wz ⟨rfl, hz⟩; subst wz)
    go_wp2
    go_loopg [5, 6, 15] xs.length (fun g s _ i wr => ∃ k r : Nat, k ≤ xs.length ∧ g = xs.length - k ∧ s = .float .f64 r ∧ i = .int .i64 k ∧ Hid (NR (szO xs k) r) ∧ Hid (Below w.heap.size w wr))
    case atStart => exact ⟨0, 0, Nat.zero_le _, rfl, rfl, rfl, NR_none0, Below.refl _ _⟩
    case round =>
      obtain ⟨k, r, hk, hg, rfl, rfl, hN, hB⟩ := hrel
      have HG : Hid (gk = xs.length - k) := hg
      clear hg
      by_cases hlt : k < xs.length
      · rcases hr.below hB.out with h | ⟨b, off, rfl, hc⟩
        · omega
        · have g1 := hc k hlt
          have hx := hF.at hlt
          have hst := (szO_step xs k r hN.out).1
          generalize xs.getD k 0 = x at *
          have cb := abs_any x hx
          have i1 : (k : Int) < (xs.length : Int) := by omega
          clear hc cn hbm HO HY hmul
          go_wp2_with (first
            | (go_at_call 49; refine (cb _).mono ?_; rintro e w' ⟨rfl, rfl⟩)
            | (go_at_call 48; refine (hst _).mono ?_; rintro e w2 ⟨r2, rfl, h2, b2⟩))
          go_roundg (xs.length - (k + 1))
          case measure => rw [HG.out]; omega
          case rel => exact ⟨k + 1, r2, by omega, rfl, rfl, by go_num, h2, hB.out.trans (b2.mono hB.out.size)⟩
      · have ek : k = xs.length := by omega
        subst ek
        have hbr := hbm r hN.out
        have B0 := hB.out
        have i1 : ¬ (xs.length : Int) < (xs.length : Int) := by omega
        clear hbm hN hB
        have cf := fun (v b : Nat) (hv : v < 18446744073709551616) (hb : b < 18446744073709551616) (W : World) => allfin_any [v, b] (some ⟨W.heap.size, 0, none⟩) 2 _ (two_row W v b 26) (fun x hx => by simp at hx; omega) (by simp)
        simp only [List.length_cons, List.length_nil, Nat.zero_add, Nat.reduceAdd, List.all_cons, List.all_nil, Bool.and_true] at cf
        go_upto_region 12 with (first
          | (go_at_call 19; refine (cn _ (hr.below B0)).mono ?_; rintro e w2 ⟨v, rfl, hv, b2⟩; have B2 := B0.trans (b2.mono B0.size))
          | (go_at_call 50; refine (hbr _ (tabW_below hT B2)).mono ?_; rintro e w3 ⟨b, rfl, hb, b3⟩; have B3 := B2.trans (b3.mono B2.size)))
        have cf2 := fun W => cf v b hv.1 hb.1 W
        have H1 := HO.out v b hv hb
        have H2 := HY.out v b hv hb
        clear HO HY cf
        generalize (finB v && finB b) = q at *
        cases q
        · have hR := H1 rfl
          subst hR
          clear H1 H2
          go_wp2_with (go_at_call 34; refine (cf2 _).mono ?_; rintro e w4 ⟨rfl, rfl⟩)
          exact bodyPost_ret (v := .tuple #[.float .f64 0, .float .f64 0, .int .i64 6]) (by simp [results, Tryz.results17, go_sem]) rfl ⟨rfl, B3.alloc B3.size _⟩
        · have hR := H2 rfl
          subst hR
          clear H1 H2
          go_wp2_with (go_at_call 34; refine (cf2 _).mono ?_; rintro e w4 ⟨rfl, rfl⟩)
          exact bodyPost_ret (v := .tuple #[.float .f64 v, .float .f64 b, .int .i64 0]) (by simp [results, Tryz.results17, go_sem]) rfl ⟨rfl, hv.1, hb.1, B3.alloc B3.size _⟩
end Go.Proofs.YtflbglbhmdpmoaaGreatDoor

namespace Go.Proofs.YtflbglbhmdpmoaaGreatDoor
open Go.RowKit

set_option maxRecDepth 100000 in
set_option maxHeartbeats 2000000 in
theorem rnear_any (xs : List Nat) (ao : Option Addr) (cap : Nat) (w : World) (hr : GRow w ao xs) (hF : FW xs) (hn : xs.length ≤ 4096) :
    Calls Tryz.prog 18 #[.slice ao xs.length cap] w fun e w' => e = .returned (.tuple #[.float .f64 (nW xs).1, .float .f64 (nW xs).2.1, .int .i64 (nW xs).2.2]) ∧ Below w.heap.size w w' := by
  have ca := rall_any xs ao cap w hr hF (by omega)
  cases hf : xs.all finB
  · rw [hf] at ca
    rw [nW_not hf]
    go_enter Tryz.func18, Tryz.ntmps18
    go_wp2_with (go_at_call 39; refine ca.mono ?_; rintro e wz ⟨rfl, bz⟩)
    exact bodyPost_ret (v := .tuple #[.float .f64 0, .float .f64 0, .int .i64 5]) (by simp [results, Tryz.results18, go_sem]) rfl ⟨rfl, bz⟩
  · rw [hf] at ca
    have cn := fun W h => rnaive_any xs ao cap W h hF (by omega)
    obtain ⟨_, m2, m3⟩ := cOk_at hn
    have hquo := fun w => run_float_arith (P := Tryz.prog) w .quo 26 .f64 _ _ _ m2
    have hbm := fun s hs => (bO_both xs hn s hs).2
    generalize cW xs.length = C at *
    obtain ⟨R, hR⟩ : ∃ R, nW xs = R := ⟨_, rfl⟩
    have HO : Hid (∀ v b, NR (naiveO xs) v → NR (bO xs) b → (finB v && finB b) = false → R = (0, 0, 6)) := fun v b h1 h2 h3 => by rw [← hR]; exact nW_over hf h1 h2 h3
    have HY : Hid (∀ v b, NR (naiveO xs) v → NR (bO xs) b → (finB v && finB b) = true → R = (v, b, 0)) := fun v b h1 h2 h3 => by rw [← hR]; exact nW_fine hf h1 h2 h3
    rw [hR]
    clear hR m2 m3
    go_enter Tryz.func18, Tryz.ntmps18
    go_upto_region 5 with (first
      | (go_at_call 39; refine ca.mono ?_; rintro e wz ⟨rfl, bz⟩)
      | (go_at_call 20; refine (cn _ (hr.below bz)).mono ?_; rintro e w1 ⟨v, rfl, hv, b1⟩; have B1 := bz.trans (b1.mono bz.size)))
    have HV : Hid (NR (naiveO xs) v) := hv
    clear hv cn ca
    go_wp2
    go_loopg [6, 7] xs.length (fun g s i wr => ∃ k r : Nat, k ≤ xs.length ∧ g = xs.length - k ∧ s = .float .f64 r ∧ i = .int .i64 k ∧ Hid (NR (szO xs k) r) ∧ Hid (Below w.heap.size w wr))
    case atStart => exact ⟨0, 0, Nat.zero_le _, rfl, rfl, rfl, NR_none0, B1⟩
    case round =>
      clear bz b1 B1
      obtain ⟨k, r, hk, hg, rfl, rfl, hN, hB⟩ := hrel
      have HG : Hid (gk = xs.length - k) := hg
      clear hg
      by_cases hlt : k < xs.length
      · rcases hr.below hB.out with h | ⟨b, off, rfl, hc⟩
        · omega
        · have g1 := hc k hlt
          have hx := hF.at hlt
          have hst := (szO_step xs k r hN.out).2
          generalize xs.getD k 0 = x at *
          have cb := abs_any x hx
          have i1 : (k : Int) < (xs.length : Int) := by omega
          clear hc hbm HO HY hquo
          go_wp2_with (first
            | (go_at_call 49; refine (cb _).mono ?_; rintro e w' ⟨rfl, rfl⟩)
            | (go_at_call 51; refine (hst _).mono ?_; rintro e w2 ⟨r2, rfl, h2, b2⟩))
          go_roundg (xs.length - (k + 1))
          case measure => rw [HG.out]; omega
          case rel => exact ⟨k + 1, r2, by omega, rfl, rfl, by go_num, h2, hB.out.trans (b2.mono hB.out.size)⟩
      · have ek : k = xs.length := by omega
        subst ek
        have hbr := hbm r hN.out
        have B0 := hB.out
        have i1 : ¬ (xs.length : Int) < (xs.length : Int) := by omega
        clear hbm hN hB
        go_upto_region 10 with (first
          | (go_at_call 52; refine (hbr _).mono ?_; rintro e w3 ⟨b, rfl, hb, b3⟩; have B3 := B0.trans (b3.mono B0.size)))
        have cfv := fun W => dfin_all v HV.out.1 W
        have cfb := fun W => dfin_all b hb.1 W
        have H1 := HO.out v b HV.out hb
        have H2 := HY.out v b HV.out hb
        clear HO HY HV hb hbr hquo
        cases fv : finB v <;> rw [fv] at H1 H2 cfv
        · have hR := H1 rfl
          subst hR
          clear H1 H2
          go_wp2_with (first
            | (go_at_call 53; refine (cfv _).mono ?_; rintro e w4 ⟨rfl, b4⟩; have B4 := B3.trans (b4.mono B3.size)))
          exact bodyPost_ret (v := .tuple #[.float .f64 0, .float .f64 0, .int .i64 6]) (by simp [results, Tryz.results18, go_sem]) rfl ⟨rfl, B4⟩
        · cases fb : finB b <;> rw [fb] at H1 H2 cfb
          · have hR := H1 rfl
            subst hR
            clear H1 H2
            go_wp2_with (first
              | (go_at_call_of 53 (Value.float FloatKind.f64 v); refine (cfv _).mono ?_; rintro e w4 ⟨rfl, b4⟩; have B4 := B3.trans (b4.mono B3.size))
              | (go_at_call_of 53 (Value.float FloatKind.f64 b); refine (cfb _).mono ?_; rintro e w5 ⟨rfl, b5⟩; have B5 := B4.trans (b5.mono B4.size)))
            exact bodyPost_ret (v := .tuple #[.float .f64 0, .float .f64 0, .int .i64 6]) (by simp [results, Tryz.results18, go_sem]) rfl ⟨rfl, B5⟩
          · have hR := H2 rfl
            subst hR
            clear H1 H2
            go_wp2_with (first
              | (go_at_call_of 53 (Value.float FloatKind.f64 v); refine (cfv _).mono ?_; rintro e w4 ⟨rfl, b4⟩; have B4 := B3.trans (b4.mono B3.size))
              | (go_at_call_of 53 (Value.float FloatKind.f64 b); refine (cfb _).mono ?_; rintro e w5 ⟨rfl, b5⟩; have B5 := B4.trans (b5.mono B4.size)))
            exact bodyPost_ret (v := .tuple #[.float .f64 v, .float .f64 b, .int .i64 0]) (by simp [results, Tryz.results18, go_sem]) rfl ⟨rfl, B5⟩
end Go.Proofs.YtflbglbhmdpmoaaGreatDoor

namespace Go.Proofs.YtflbglbhmdpmoaaGreatDoor
open Go.RowKit

theorem exW_lt {xs : List Nat} (h : xs.all finB = true) (hn : xs.length ≤ 1125899906842624) (m : Int) : exW xs m < 18446744073709551616 := by
  obtain ⟨r1, _, _⟩ := sD_qd h hn (Nat.le_refl xs.length) (K := 64462) rfl
  unfold exW rndW
  by_cases hl : (sD xs xs.length).mag.length = 0
  · rw [if_pos hl]; omega
  · rw [if_neg hl]
    have h0 := (right_ne r1 hl).1
    have := rSz_lt (vl (sD xs xs.length).mag) (sD xs xs.length).exp (szm (sD xs xs.length).neg m) h0
    split <;> omega
theorem samef_one (a : Nat) (ha : a < 18446744073709551616) (w : World) : Calls Tryz.prog 11 #[.float .f64 a, .float .f64 a] w fun e w' => e = .returned (.bool true) ∧ w' = w := by
  have h := samef_any a a ha ha w
  rw [show sameB a a = true by unfold sameB; cases nanB a <;> simp] at h
  exact h
set_option maxRecDepth 100000 in
set_option maxHeartbeats 1000000 in
theorem exact_law (l : List Nat) (m : Int) (ao : Option Addr) (cap : Nat) (w : World) (hT : TabW w) (hr : GRow w ao l) (hF : FW l) (hc : l.length ≤ cap) (hn : cap ≤ 1125899906842624) :
    Calls Tryz.prog 29 #[.slice ao l.length cap, .int .i8 m] w fun e w' => e = .returned (.bool true) ∧ Below w.heap.size w w' := by
  have hr0 := hr.take 4096
  have hF0 := hF.take 4096
  have hl0 := few_len l
  have cf := few_any l.length cap ao w hc hn
  rw [← hl0] at cf
  have hx2 : (l.take 4096).length ≤ 4096 := by rw [List.length_take]; omega
  generalize l.take 4096 = k at hr0 hF0 hl0 cf hx2
  have l1 : k.length ≤ 1125899906842624 := by omega
  have c1 := fun w h1 h2 => exact_any k ao cap m w h1 h2 hF0 l1
  have c2 := fun w h => rexact_any k ao cap m w h hF0 l1
  have c3 := fun w h1 h2 => snear_any k ao cap w h1 h2 hF0 hx2
  have c4 := fun w h => rnear_any k ao cap w h hF0 hx2
  have hxb : (if k.all finB then exW k m else 0) < 18446744073709551616 := by
    cases hf : k.all finB
    · simp
    · simp only [if_true]; exact exW_lt hf l1 m
  have s1 := fun W => samef_one _ hxb W
  generalize (if k.all finB then exW k m else 0) = X at *
  generalize (if k.all finB then (0 : Int) else 5) = E at *
  have s2 := fun W h => samef_one (nW k).1 h W
  have s3 := fun W h => samef_one (nW k).2.1 h W
  generalize nW k = R at *
  obtain ⟨v, b, g⟩ := R
  simp only at c3 c4 s2 s3
  have q1 : (E == E) = true := by simp
  have q2 : (g == g) = true := by simp
  clear hr hF hl0 hx2 l1 hc hn hF0 hxb
  go_enter Tryz.func29, Tryz.ntmps29
  go_wp2_with (first
    | (go_at_call 6; refine cf.mono ?_; rintro e w0 ⟨rfl, h0⟩; subst w0)
    | (go_at_call 15; refine (c1 _ hT hr0).mono ?_; rintro e w1 ⟨rfl, b1⟩; have g1 := hr0.below b1)
    | (go_at_call 16; refine (c2 _ g1).mono ?_; rintro e w2 ⟨rfl, b2⟩; have g2 := g1.below b2; have o2 := b1.trans (b2.mono b1.size))
    | (go_at_call 17; refine (c3 _ (tabW_below hT o2) g2).mono ?_; rintro e w3 ⟨rfl, hv, hb, b3⟩; have g3 := g2.below b3; have o3 := o2.trans (b3.mono o2.size))
    | (go_at_call 18; refine (c4 _ g3).mono ?_; rintro e w4 ⟨rfl, b4⟩; have o4 := o3.trans (b4.mono o3.size))
    | (go_at_call_of 11 (Value.float FloatKind.f64 X); refine (s1 _).mono ?_; rintro e w' ⟨rfl, h'⟩; subst w')
    | (go_at_call_of 11 (Value.float FloatKind.f64 v); refine (s2 _ hv).mono ?_; rintro e w' ⟨rfl, h'⟩; subst w')
    | (go_at_call_of 11 (Value.float FloatKind.f64 b); refine (s3 _ hb).mono ?_; rintro e w' ⟨rfl, h'⟩; subst w')
    | (go_at_call 12; refine (uawake _ (tabW_below hT o4)).mono ?_; rintro e w7 ⟨rfl, b7⟩))
  go_ret
  exact ⟨rfl, o4.trans (b7.mono o4.size)⟩
end Go.Proofs.YtflbglbhmdpmoaaGreatDoor
