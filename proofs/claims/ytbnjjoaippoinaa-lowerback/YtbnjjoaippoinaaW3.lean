/- What Factor of the document answers. -/
import Derived.Test.YtbnjjoaippoinaaW2
import Derived.Test.YtbnjjoaippoinaaXm2
import Derived.Test.YtbnjjoaippoinaaU4
import Derived.Test.YtbnjjoaippoinaaMx9
namespace Go.Proofs.Ytbnjjoaippoinaa
open Go.RowKit

set_option maxHeartbeats 1000000 in
theorem rlat_any (xs : List Nat) (i k t cap : Nat) (ao : Option Addr) (w : World) (hr : GRow w ao xs) (hi : i ≤ 48) (hk : k < i) (ht : tri i = t) (hl : t + k < xs.length) :
    Calls Try.prog 35 #[.slice ao xs.length cap, .int .i64 i, .int .i64 k] w fun e w' => e = .returned (.float .f64 (xs.getD (t + k) 0)) ∧ w' = w := by
  have e0 := tri_two i
  have h0 := tri_le (show i ≤ 49 by omega)
  rw [ht] at e0 h0
  obtain ⟨q, hq⟩ : ∃ q : Int, q = 2 * (t : Int) := ⟨_, rfl⟩
  rw [← hq] at e0
  clear ht
  rcases hr with h | ⟨b, off, rfl, hc⟩
  · omega
  have g := hc (t + k) hl
  have n1 : ((i : Int) == (k : Int)) = false := by simp; omega
  have iw : ((t : Int) + (k : Int)) < (xs.length : Int) := by omega
  have nq : ((t : Int) + (k : Int)).toNat = t + k := by omega
  generalize xs.getD (t + k) 0 = x at *
  clear hc
  go_enter Try.func35, Try.ntmps35
  go_wp2
  go_ret
  exact ⟨rfl, rfl⟩
/-- The matrix's box, the answer's, that of none; L, D. -/
structure RfS (w wr : World) (N T : Nat) (ao : Option Addr) (n cap gL gD : Nat) (fl d : Nat → Nat) : Prop where
  mbox : B3 wr w.heap.size (.int .i64 N) (.int .i64 N) (.slice ao n cap)
  res : B3 wr (w.heap.size + 1) (.int .i64 0) (.slice none 0 0) (.slice none 0 0)
  non : B3 wr (w.heap.size + 1 + 1) (.int .i64 0) (.slice none 0 0) (.slice none 0 0)
  lrow : RRow wr gL T fl
  drow : RRow wr gD N d
  lt : gL < wr.heap.size ∧ gD < wr.heap.size
  lo : w.heap.size + 1 + 1 < gL ∧ w.heap.size + 1 + 1 < gD
  ne : gL ≠ gD
  below : Below w.heap.size w wr
variable {w wr w1 : World} {N T : Nat} {ao : Option Addr} {n cap gL gD : Nat} {fl d : Nat → Nat}
theorem RfS.later (h : RfS w wr N T ao n cap gL gD fl d) (hb : Below wr.heap.size wr w1) : RfS w w1 N T ao n cap gL gD fl d :=
  ⟨h.mbox.below hb, h.res.below hb, h.non.below hb, h.lrow.below hb h.lt.1, h.drow.below hb h.lt.2, ⟨Nat.lt_of_lt_of_le h.lt.1 hb.size, Nat.lt_of_lt_of_le h.lt.2 hb.size⟩, h.lo, h.ne, h.below.trans (hb.mono h.below.size)⟩
theorem RfS.drew (h : RfS w wr N T ao n cap gL gD fl d) : RfS w wr.drew N T ao n cap gL gD fl d := h.later (Below.refl _ _).drew
theorem RfS.setL (h : RfS w wr N T ao n cap gL gD fl d) (q r : Nat) : RfS w (wr.setCell ⟨gL, q, none⟩ (.float .f64 r)) N T ao n cap gL gD (fun p => if p = q then r else fl p) d := by
  have := h.lo
  exact ⟨h.mbox.far (by omega) _, h.res.far (by omega) _, h.non.far (by omega) _, h.lrow.set q r, World.rowIs.setOther h.drow (by exact h.ne.symm) _, by rw [set_same_size]; exact h.lt, h.lo, h.ne, h.below.setCell (by show w.heap.size ≤ gL; omega) _⟩
theorem RfS.setD (h : RfS w wr N T ao n cap gL gD fl d) (q r : Nat) : RfS w (wr.setCell ⟨gD, q, none⟩ (.float .f64 r)) N T ao n cap gL gD fl (fun p => if p = q then r else d p) := by
  have := h.lo
  exact ⟨h.mbox.far (by omega) _, h.res.far (by omega) _, h.non.far (by omega) _, World.rowIs.setOther h.lrow (by exact h.ne) _, h.drow.set q r, by rw [set_same_size]; exact h.lt, h.lo, h.ne, h.below.setCell (by show w.heap.size ≤ gD; omega) _⟩
/-- The same, and v. -/
structure RvS (w wr : World) (N T : Nat) (ao : Option Addr) (n cap gL gD gV J : Nat) (v fl d : Nat → Nat) : Prop where
  st : RfS w wr N T ao n cap gL gD fl d
  vrow : RRow wr gV J v
  vlt : gV < wr.heap.size
  vlo : w.heap.size + 1 + 1 < gV
  vne : gV ≠ gL ∧ gV ≠ gD
variable {gV J : Nat} {v : Nat → Nat}
theorem RvS.later (h : RvS w wr N T ao n cap gL gD gV J v fl d) (hb : Below wr.heap.size wr w1) : RvS w w1 N T ao n cap gL gD gV J v fl d :=
  ⟨h.st.later hb, h.vrow.below hb h.vlt, Nat.lt_of_lt_of_le h.vlt hb.size, h.vlo, h.vne⟩
theorem RvS.drew (h : RvS w wr N T ao n cap gL gD gV J v fl d) : RvS w wr.drew N T ao n cap gL gD gV J v fl d := h.later (Below.refl _ _).drew
theorem RvS.setL (h : RvS w wr N T ao n cap gL gD gV J v fl d) (q r : Nat) : RvS w (wr.setCell ⟨gL, q, none⟩ (.float .f64 r)) N T ao n cap gL gD gV J v (fun p => if p = q then r else fl p) d :=
  ⟨h.st.setL q r, World.rowIs.setOther h.vrow (by exact h.vne.1) _, by rw [set_same_size]; exact h.vlt, h.vlo, h.vne⟩
theorem RvS.setD (h : RvS w wr N T ao n cap gL gD gV J v fl d) (q r : Nat) : RvS w (wr.setCell ⟨gD, q, none⟩ (.float .f64 r)) N T ao n cap gL gD gV J v fl (fun p => if p = q then r else d p) :=
  ⟨h.st.setD q r, World.rowIs.setOther h.vrow (by exact h.vne.2) _, by rw [set_same_size]; exact h.vlt, h.vlo, h.vne⟩
theorem RvS.setV (h : RvS w wr N T ao n cap gL gD gV J v fl d) (q r : Nat) : RvS w (wr.setCell ⟨gV, q, none⟩ (.float .f64 r)) N T ao n cap gL gD gV J (fun p => if p = q then r else v p) fl d := by
  have := h.vlo
  have hs := h.st
  exact ⟨⟨hs.mbox.far (by omega) _, hs.res.far (by omega) _, hs.non.far (by omega) _, World.rowIs.setOther hs.lrow (by exact h.vne.1.symm) _, World.rowIs.setOther hs.drow (by exact h.vne.2.symm) _, by rw [set_same_size]; exact hs.lt, hs.lo, hs.ne, hs.below.setCell (by show w.heap.size ≤ gV; omega) _⟩, h.vrow.set q r, by rw [set_same_size]; exact h.vlt, h.vlo, h.vne⟩
theorem pos_gt {r : Nat} (h : posB r = true) : (FloatKind.f64.format.order r 0 == some .gt) = true := by
  obtain ⟨f, hr⟩ := posB_fin h
  have h2 := not_pos hr f
  rw [h] at h2
  have nr : nanB r = false := by unfold finB at f; unfold nanB; simp at f ⊢; omega
  have hlt : 0 < place r := by
    unfold posB at h
    unfold place sgn rung
    simp at h ⊢
    split <;> omega
  rw [ord_gt hr (by omega) nr (by decide) (by rw [show place 0 = 0 by decide]; omega)]; rfl
theorem gt_inf {r : Nat} (hr : r < 18446744073709551616) (h : posB r = false) (g : (FloatKind.f64.format.order r 0 == some .gt) = true) : finB r = false := by
  cases f : finB r
  · rfl
  · have h2 := not_pos hr f
    rw [h] at h2
    cases o : FloatKind.f64.format.order r 0 with
    | none => rw [o] at g; cases g
    | some x => rw [o] at g h2; cases x <;> simp at g h2
end Go.Proofs.Ytbnjjoaippoinaa

namespace Go.Proofs.Ytbnjjoaippoinaa
open Go.RowKit

theorem lesO_comm (s : Option Nat) (a b : Nat → Option Nat) (n : Nat) : lesO s a b n = lesO s b a n := by
  induction n with
  | zero => rfl
  | succ k ih => rw [lesO, lesO, ih, mulO_comm']
/-- The rows of column j from the pivot's on. -/
def Ph (m : Nat → Nat → Nat) (N : Nat) (fl d v : Nat → Nat) (j i : Nat) : Prop :=
  (i = j ∧ Col m N (LF fl) d j ∧ (∀ p, d p < 18446744073709551616) ∧ (∀ p, fl p < 18446744073709551616) ∧ ∀ q, q < j → NR (vO (LF fl) d j q) (v q)) ∨ (j < i ∧ RowI m N fl d v j i)
theorem Ph.facts {m : Nat → Nat → Nat} {N : Nat} {fl d v : Nat → Nat} {j i : Nat} (h : Ph m N fl d v j i) : (∀ p, d p < 18446744073709551616) ∧ (∀ p, fl p < 18446744073709551616) ∧ ∀ q, q < j → NR (vO (LF fl) d j q) (v q) := by
  rcases h with ⟨_, _, h1, h2, h3⟩ | ⟨_, h⟩
  · exact ⟨h1, h2, h3⟩
  · exact ⟨h.wd, h.wl, h.vs⟩
set_option maxRecDepth 100000 in
set_option maxHeartbeats 8000000 in
theorem rfactor_any (r c : Int) (xs : List Nat) (ao : Option Addr) (cap : Nat) (w : World) (hr : GRow w ao xs) (hF : FW xs) :
    Calls Try.prog 9 #[mxV r c ao xs.length cap] w (GaveR w r c xs) := by
  have cs := fun W h => rsym_any r c xs ao cap W h hF
  have M0 := ((B3.new w (.int .i64 r) (.int .i64 c) (.slice ao xs.length cap) 24).alloc (.cells #[.int .i64 0, .slice none 0 0, .slice none 0 0] 26)).alloc (.cells #[.int .i64 0, .slice none 0 0, .slice none 0 0] 26)
  have R0 := (B3.newAt (w := w.alloc (.cells #[.int .i64 r, .int .i64 c, .slice ao xs.length cap] 24)) (n := w.heap.size + 1) (by go_simp) (.int .i64 0) (.slice none 0 0) (.slice none 0 0) 26).alloc (.cells #[.int .i64 0, .slice none 0 0, .slice none 0 0] 26)
  have O0 := (B3.newAt (w := (w.alloc (.cells #[.int .i64 r, .int .i64 c, .slice ao xs.length cap] 24)).alloc (.cells #[.int .i64 0, .slice none 0 0, .slice none 0 0] 26)) (n := w.heap.size + 1 + 1) (by go_simp) (.int .i64 0) (.slice none 0 0) (.slice none 0 0) 26)
  have B0 := old_three (Below.refl _ (((w.alloc (.cells #[.int .i64 r, .int .i64 c, .slice ao xs.length cap] 24)).alloc (.cells #[.int .i64 0, .slice none 0 0, .slice none 0 0] 26)).alloc (.cells #[.int .i64 0, .slice none 0 0, .slice none 0 0] 26)))
  have hr0 := hr.below B0
  cases hs : symM r c xs
  · rw [hs] at cs
    have HR : Hid (Res r c xs 4 0 (fun _ _ => 0) (fun _ => 0)) := (show Res r c xs 4 0 (fun _ _ => 0) (fun _ => 0) from Or.inl ⟨hs, rfl, rfl⟩)
    clear hs
    go_enter Try.func9, Try.ntmps9
    go_wp2_with (go_at_call 33; refine (cs _ hr0).mono ?_; rintro e w1 ⟨rfl, b1⟩; have R1 := R0.below b1; have O1 := O0.below b1; have B1 := B0.trans (b1.mono B0.size); obtain ⟨t0, t1, t2, s0, s1, s2, _⟩ := id R1; obtain ⟨o0, o1, o2, _⟩ := id O1)
    exact bodyPost_ret (v := .tuple #[fcV 0 none 0 0 none 0 0, .int .i64 4, .int .i64 0]) (by simp [results, Try.results9, go_sem, t0, t1, t2]) rfl ⟨4, 0, _, _, _, HR.out, rfl, set_three B1 (by omega) _ _ _, fun _ => rfl, fun h => by cases h⟩
  · rw [hs] at cs
    obtain ⟨hR, hC⟩ : rightM r c xs.length = true ∧ r = c := by
      unfold symM at hs
      simp only [Bool.and_eq_true, decide_eq_true_eq] at hs
      exact ⟨hs.1.1, hs.1.2⟩
    obtain ⟨N, C, rfl, hCc, hN48, _, hl⟩ := rightM_nat hR
    have eC : C = N := by rw [hCc] at hC; omega
    subst eC
    clear hR hC
    subst hCc
    have HS : Hid (symM C C xs = true) := hs
    have HL : Hid (xs.length = C * C) := hl
    have hxb : xs.length ≤ 2304 := by rw [hl]; exact mul48 hN48 hN48
    clear hs hl
    go_enter Try.func9, Try.ntmps9
    go_wp2_with (go_at_call 33; refine (cs _ hr0).mono ?_; rintro e w1 ⟨rfl, b1⟩; have M1 := M0.below b1; have R1 := R0.below b1; have O1 := O0.below b1; have B1 := B0.trans (b1.mono B0.size); obtain ⟨m0, m1, m2, _⟩ := id M1)
    clear m0 m1 m2 M0 R0 O0 B0 hr0 cs b1
    have HAL : Hid (∀ k, k < xs.length → finB (xs.getD k 0) = false → xs.all finB = false) := fun k hk h => all_not hk h
    have HAY : Hid ((∀ k, k < xs.length → finB (xs.getD k 0) = true) → xs.all finB = true) := all_yes
    go_loopg [6] xs.length (fun g s6 wr => ∃ k : Nat, k ≤ xs.length ∧ g = xs.length - k ∧ s6 = .int .i64 k ∧ Hid (∀ p, p < k → finB (xs.getD p 0) = true) ∧ wr = w1)
    case atStart => exact ⟨0, Nat.zero_le _, rfl, rfl, fun p hp => by omega, rfl⟩
    case round =>
      obtain ⟨k, hk, hg, rfl, hA, h'⟩ := hrel
      subst wr
      have HG : Hid (gk = xs.length - k) := hg
      clear hg
      obtain ⟨m0, m1, m2, _⟩ := id M1
      by_cases hlt : k < xs.length
      · rcases hr.below B1 with h | ⟨b, off, rfl, hc⟩
        · omega
        have g1 := hc k hlt
        have hx := hF.at hlt
        have H0 := HAL.out k hlt
        have HN : Hid (finB (xs.getD k 0) = true → ∀ p, p < k + 1 → finB (xs.getD p 0) = true) := fun h p hp => by
          by_cases e : p = k
          · rw [e]; exact h
          · exact hA.out p (by omega)
        have i1 : (k : Int) < (xs.length : Int) := by omega
        generalize xs.getD k 0 = x at *
        clear hc hA
        cases hfx : finB x
        · have cfi := fun W => dfin_no x hx hfx W
          have HR : Hid (Res C C xs 5 0 (fun _ _ => 0) (fun _ => 0)) := (show Res C C xs 5 0 (fun _ _ => 0) (fun _ => 0) from Or.inr (Or.inl ⟨HS.out, H0 hfx, rfl, rfl⟩))
          obtain ⟨t0, t1, t2, s0, s1, s2, _⟩ := id R1
          obtain ⟨o0, o1, o2, _⟩ := id O1
          have B2 := B1.drew
          clear hfx H0 HAL HAY HN
          go_wp2_with (go_at_call 34; refine (cfi _).mono ?_; rintro e w' ⟨rfl, h'⟩; subst w')
          exact bodyPost_ret (v := .tuple #[fcV 0 none 0 0 none 0 0, .int .i64 5, .int .i64 0]) (by simp [results, Try.results9, go_sem, t0, t1, t2]) rfl ⟨5, 0, _, _, _, HR.out, rfl, set_three B2 (by omega) _ _ _, fun _ => rfl, fun h => by cases h⟩
        · have cfi := fun W => dfin_yes x hx hfx W
          have HN2 : Hid (∀ p, p < k + 1 → finB (xs.getD p 0) = true) := HN.out hfx
          clear hfx H0 HN
          go_wp2_with (go_at_call 34; refine (cfi _).mono ?_; rintro e w' ⟨rfl, h'⟩; subst w')
          go_roundg (xs.length - (k + 1))
          case measure => rw [HG.out]; omega
          case rel => exact ⟨k + 1, by omega, rfl, by go_num, HN2, rfl⟩
      · have ek : k = xs.length := by omega
        subst ek
        have i1 : ¬ (xs.length : Int) < (xs.length : Int) := by omega
        have HF' : Hid (xs.all finB = true) := HAY.out hA.out
        clear HAL HAY hA
        have e0 := tri_two C
        have hT := tri_le (show C ≤ 49 by omega)
        obtain ⟨T, hTT⟩ : ∃ T, tri C = T := ⟨_, rfl⟩
        rw [hTT] at e0 hT
        obtain ⟨q, hq⟩ : ∃ q : Int, q = 2 * (T : Int) := ⟨_, rfl⟩
        rw [← hq] at e0
        have HT : Hid (tri C = T) := hTT
        clear hTT
        have hmk := run_make_row' (P := Try.prog) 22 38 (.float .f64 0) 8 Try.underlying22 Try.infoF rfl .i64 .i64 C (by omega) (by omega)
        have hmk2 := run_make_row' (P := Try.prog) 22 38 (.float .f64 0) 8 Try.underlying22 Try.infoF rfl .i64 .i64 T (by omega) (by omega)
        go_upto_region 13 with fail
        have hs1 := B1.size
        have sz1 : w.heap.size + 1 + 1 < w1.heap.size := O1.2.2.2.2.2.2
        have S0 : RfS w ((w1.alloc (.cells (madeCells #[.float .f64 0] T) 38)).alloc (.cells (madeCells #[.float .f64 0] C) 38)) C T ao xs.length cap w1.heap.size (w1.heap.size + 1) (fun _ => 0) (fun _ => 0) := by
          have b3 := old_two (Below.refl _ ((w1.alloc (.cells (madeCells #[.float .f64 0] T) 38)).alloc (.cells (madeCells #[.float .f64 0] C) 38)))
          have e1 := RRow.made (w1.alloc (.cells (madeCells #[.float .f64 0] T) 38)) C
          rw [show (w1.alloc (.cells (madeCells #[.float .f64 0] T) 38)).heap.size = w1.heap.size + 1 by go_simp] at e1
          exact ⟨M1.below b3, R1.below b3, O1.below b3, (RRow.made w1 T).below (below_one _ _) (by go_simp), e1, ⟨by go_simp, by go_simp⟩, ⟨by omega, by omega⟩, by omega, B1.trans (b3.mono hs1)⟩
        generalize (w1.alloc (.cells (madeCells #[.float .f64 0] T) 38)).alloc (.cells (madeCells #[.float .f64 0] C) 38) = W1 at *
        generalize w1.heap.size + 1 = gD at *
        generalize w1.heap.size = gL at *
        clear M1 R1 O1 B1 m0 m1 m2 hmk hmk2 e0 hq i1 hs1 sz1 hk
        have h1 := fun x y w => run_op4 (P := Try.prog) (op := .mul) opMu 38 x y w
        have h2 := fun x y w => run_op4 (P := Try.prog) (op := .quo) opQu 38 x y w
        have h3 := fun x y w => run_op4 (P := Try.prog) (op := .sub) opSu 38 x y w
        have hst := vstoref Try.prog
        obtain ⟨n, hn⟩ : ∃ n, xs.length = n := ⟨_, rfl⟩
        have HNL : Hid (xs.length = n) := hn
        rw [hn] at S0 hxb
        rw [hn]
        clear hn
        go_loopg [10] C (fun g s10 wr => ∃ (j : Nat) (fl d : Nat → Nat), j ≤ C ∧ g = C - j ∧ s10 = .int .i64 j ∧ Hid (Col (mE C xs) C (LF fl) d j) ∧ Hid ((∀ p, d p < 18446744073709551616) ∧ ∀ p, fl p < 18446744073709551616) ∧ RfS w wr C T ao n cap gL gD fl d)
        case atStart => exact ⟨0, _, _, Nat.zero_le _, rfl, rfl, fun j hj => by omega, ⟨fun _ => by omega, fun _ => by omega⟩, S0⟩
        case round =>
          clear S0
          obtain ⟨j, fl, d, hj, hg, rfl, hC, hW, S⟩ := hrel
          have HG2 : Hid (gk = C - j) := hg
          clear hg
          by_cases hlt : j < C
          · have i1 : (j : Int) < (C : Int) := by omega
            have hmk := run_make_row' (P := Try.prog) 22 38 (.float .f64 0) 8 Try.underlying22 Try.infoF rfl .i64 .i64 j (by omega) (by omega)
            go_wp2
            have SV : RvS w (wr.alloc (.cells (madeCells #[.float .f64 0] j) 38)) C T ao n cap gL gD wr.heap.size j (fun _ => 0) fl d := by
              have l1 := S.lt
              have l2 := S.lo
              exact ⟨S.later (below_one _ _), RRow.made _ _, by go_simp, by omega, ⟨by omega, by omega⟩⟩
            obtain ⟨t, ht⟩ : ∃ t, tri j = t := ⟨_, rfl⟩
            have htT : t + j ≤ T := by
              have := tri_mono (show j + 1 ≤ C by omega)
              rw [tri, ht, HT.out] at this
              exact this
            have HTJ : Hid (tri j = t) := ht
            clear ht
            generalize wr.alloc (.cells (madeCells #[.float .f64 0] j) 38) = W2 at *
            generalize wr.heap.size = gV at *
            clear S hmk
            go_loopg [12] j (fun g s12 wv => ∃ (k : Nat) (v : Nat → Nat), k ≤ j ∧ g = j - k ∧ s12 = .int .i64 k ∧ Hid (∀ q, q < k → NR (vO (LF fl) d j q) (v q)) ∧ RvS w wv C T ao n cap gL gD gV j v fl d)
            case atStart => exact ⟨0, _, Nat.zero_le _, rfl, rfl, fun q hq => by omega, SV⟩
            case round =>
              clear SV
              obtain ⟨k, v, hk, hg, rfl, hV, S⟩ := hrel
              have HG3 : Hid (gk = j - k) := hg
              clear hg
              by_cases hkj : k < j
              · have i2 : (k : Int) < (j : Int) := by omega
                have i3 : (k : Int) < (C : Int) := by omega
                have HS := S.drew
                have lt : (toL' T fl).length = T := toL'_len _ _
                have cat := fun W h => rlat_any (toL' T fl) j k t T (some ⟨gL, 0, none⟩) W h (by omega) hkj HTJ.out (by rw [lt]; omega)
                rw [lt, toL'_at (show t + k < T by omega)] at cat
                have hrl : GRow wr.drew (some ⟨gL, 0, none⟩) (toL' T fl) := HS.st.lrow.grow lt (fun p hp => toL'_at hp)
                have g2 := World.rowIs.cell HS.st.drow (show k < C by omega)
                have g3 := World.rowIs.cell HS.vrow (show k < j by omega)
                have g4 := World.rowIs.frozen HS.vrow k
                have HNV : Hid (∀ W, ∀ q, q < k + 1 → NR (vO (LF fl) d j q) ((fun p => if p = k then opR .mul (fl (t + k)) (d k) W else v p) q)) := fun W q hq => by
                  show NR _ (if q = k then opR .mul (fl (t + k)) (d k) W else v q)
                  by_cases e : q = k
                  · rw [if_pos e, e]
                    have : LF fl j k = fl (t + k) := by unfold LF; rw [HTJ.out]
                    unfold vO
                    rw [this]
                    exact opO_NR opMu (toO_NR (hW.out.2 _)) (toO_NR (hW.out.1 _)) W
                  · rw [if_neg e]; exact hV.out q (by omega)
                obtain ⟨n1, n2⟩ := S.vne
                have n2' := n2.symm
                have n1' := n1.symm
                clear hV lt
                generalize fl (t + k) = x at *
                generalize d k = y at *
                have hop : ∀ W a, (opW .mul x y W).cell? a = W.cell? a := fun W a => by unfold World.cell?; rw [opW_heap]
                have hof : ∀ W a, (opW .mul x y W).frozen? a = W.frozen? a := fun W a => by unfold World.frozen?; rw [opW_heap]
                go_wp2
                first | (go_region_held (fun w' => w'.cell? ⟨gD, k, none⟩ = some (.float .f64 y)) (go_keep) (first | (go_at_call 35; refine (cat _ hrl).mono ?_; rintro e w' ⟨rfl, h'⟩; subst w'))) | fail
                have S3 := (HS.later (opW_below .mul x y (Below.refl wr.drew.heap.size wr.drew))).setV k (opR .mul x y wr.drew)
                go_wp2
                go_roundg (j - (k + 1))
                case measure => rw [HG3.out]; omega
                case rel => exact ⟨k + 1, _, by omega, rfl, by go_num, HNV.out _, S3⟩
              · have ek : k = j := by omega
                subst ek
                have i2 : ¬ (k : Int) < (k : Int) := by omega
                go_wp2
                have PH : Ph (mE C xs) C fl d v k k := Or.inl ⟨rfl, hC.out, hW.out.1, hW.out.2, hV.out⟩
                clear hC hW hV
                go_loopg [13] (C - k) (fun g s13 wv => ∃ (i : Nat) (fl d : Nat → Nat), k ≤ i ∧ i ≤ C ∧ g = C - i ∧ s13 = .int .i64 i ∧ Ph (mE C xs) C fl d v k i ∧ RvS w wv C T ao n cap gL gD gV k v fl d)
                case atStart => exact ⟨k, fl, d, by omega, by omega, rfl, rfl, PH, S⟩
                case round =>
                  clear PH S
                  obtain ⟨i, fl, d, hki, hiC, hg, rfl, PH, S⟩ := hrel
                  have HG4 : Hid (gk = C - i) := hg
                  clear hg
                  by_cases hlt2 : i < C
                  · have j1 : (i : Int) < (C : Int) := by omega
                    obtain ⟨q2, hq2⟩ : ∃ q, i * C = q := ⟨_, rfl⟩
                    have eM2 : (i : Int) * (C : Int) = (q2 : Int) := by rw [mulI, hq2]
                    have hqn2 : q2 + k < n := by
                      rw [← HNL.out, HL.out, ← hq2]
                      exact at_lt hlt2 hlt
                    have hqb2 := mul48 (show i ≤ 48 by omega) hN48
                    rw [hq2] at hqb2
                    have iq2 : (q2 : Int) + (k : Int) < (n : Int) := by omega
                    have nq2 : ((q2 : Int) + (k : Int)).toNat = q2 + k := by omega
                    have HM : Hid (mE C xs i k = xs.getD (q2 + k) 0) := (show mE C xs i k = xs.getD (q2 + k) 0 by unfold mE; rw [hq2])
                    clear hq2
                    have HX : Hid (NR (toO (xs.getD (q2 + k) 0)) (xs.getD (q2 + k) 0)) := fin_wordL hF (by rw [HNL.out]; exact hqn2)
                    obtain ⟨b, off, rfl⟩ : ∃ b off, ao = some ⟨b, off, none⟩ := by
                      rcases hr with h | ⟨b, off, rfl, _⟩
                      · have := HNL.out; omega
                      · exact ⟨b, off, rfl⟩
                    have gx := row_to hr S.st.below (show q2 + k < xs.length by rw [HNL.out]; exact hqn2)
                    generalize xs.getD (q2 + k) 0 = x at *
                    obtain ⟨m0, m1, m2, _⟩ := id S.st.mbox
                    go_wp2
                    obtain ⟨fwd, fwl, fvs⟩ := PH.facts
                    obtain ⟨t2, ht2⟩ : ∃ t, tri i = t := ⟨_, rfl⟩
                    have htT2 : t2 + i ≤ T := by
                      have := tri_mono (show i + 1 ≤ C by omega)
                      rw [tri, ht2, HT.out] at this
                      exact this
                    have HTI : Hid (tri i = t2) := ht2
                    clear ht2
                    have lt : (toL' T fl).length = T := toL'_len _ _
                    go_loopg [14, 15] k (fun g s14 s15 wv => ∃ kk r : Nat, kk ≤ k ∧ g = k - kk ∧ s14 = .float .f64 r ∧ s15 = .int .i64 kk ∧ Hid (NR (lesO (toO x) (fun p => toO (LF fl i p)) (vO (LF fl) d k) kk) r) ∧ Hid (Below wr.heap.size wr wv))
                    case atStart => exact ⟨0, x, Nat.zero_le _, rfl, rfl, rfl, HX.out, Below.refl _ _⟩
                    case round =>
                      obtain ⟨kk, r, hkk, hg, rfl, rfl, hN, hBl⟩ := hrel
                      have HG5 : Hid (gk = k - kk) := hg
                      clear hg
                      by_cases hlt3 : kk < k
                      · have i4 : (kk : Int) < (k : Int) := by omega
                        have cat := fun W h => rlat_any (toL' T fl) i kk t2 T (some ⟨gL, 0, none⟩) W h (by omega) (by omega) HTI.out (by rw [lt]; omega)
                        rw [lt, toL'_at (show t2 + kk < T by omega)] at cat
                        have SB := (S.later hBl.out).drew
                        have hrl := SB.st.lrow.grow lt (fun p hp => toL'_at hp)
                        have g2 := World.rowIs.cell SB.vrow hlt3
                        have HD := hBl.out.drew
                        have HSU : Hid (∀ W W', NR (lesO (toO x) (fun p => toO (LF fl i p)) (vO (LF fl) d k) (kk + 1)) (opR .sub r (opR .mul (fl (t2 + kk)) (v kk) W) W')) := fun W W' => by
                          rw [lesO]
                          refine opO_NR opSu hN.out (opO_NR opMu ?_ (fvs kk hlt3) W) W'
                          show NR (toO (LF fl i kk)) _
                          unfold LF
                          rw [HTI.out]
                          exact toO_NR (fwl _)
                        generalize fl (t2 + kk) = y at *
                        generalize v kk = z at *
                        clear hN
                        go_wp2
                        go_region_with (go_at_call 35; refine (cat _ hrl).mono ?_; rintro e w' ⟨rfl, h'⟩; subst w')
                        all_goals
                         go_wp2
                         go_roundg (k - (kk + 1))
                         case measure => rw [HG5.out]; omega
                         case rel => exact ⟨kk + 1, _, by omega, rfl, rfl, by go_num, HSU.out _ _, opW_below .sub _ _ (opW_below .mul y z HD)⟩
                      · have ek : kk = k := by omega
                        subst ek
                        have i4 : ¬ (kk : Int) < (kk : Int) := by omega
                        have SB := S.later hBl.out
                        rcases PH with ⟨hik, hCol, _⟩ | ⟨hik, RI⟩
                        · subst hik
                          have b1 : ((i : Int) == (i : Int)) = true := by simp
                          have HP : NR (pivO (mE C xs) (LF fl) d i) r := by
                            have := hN.out
                            rw [lesO_comm] at this
                            unfold pivO
                            rw [HM.out]
                            exact this
                          have hr31 := HP.1
                          have BB := SB.st.below
                          obtain ⟨t0, t1, t2, s0, s1, s2, _⟩ := id SB.st.res
                          obtain ⟨o0, o1, o2, _⟩ := id SB.st.non
                          have hiCI : (i : Int) < (C : Int) := by omega
                          clear hN HM HX gx m0 m1 m2
                          cases hp : posB r
                          · have HO : Hid (Res C C xs 220 i (LF fl) d) := (show Res C C xs 220 i (LF fl) d from Or.inr (Or.inr ⟨HS.out, HF'.out, by rw [Int.toNat_natCast]; exact Or.inr (Or.inl ⟨rfl, hlt, hCol, posO_not HP hp⟩)⟩))
                            cases hgt : (FloatKind.f64.format.order r 0 == some .gt)
                            · clear HP hp hCol fvs fwl fwd
                              go_wp2
                              exact bodyPost_ret (v := .tuple #[fcV 0 none 0 0 none 0 0, .int .i64 220, .int .i64 i]) (by simp [results, Try.results9, go_sem, t0, t1, t2]) rfl ⟨220, i, _, _, _, HO.out, rfl, set_three BB (by omega) _ _ _, fun _ => rfl, fun h => by cases h⟩
                            · have cfi := fun W => dfin_no r hr31 (gt_inf hr31 hp hgt) W
                              clear HP hp hCol fvs fwl fwd
                              go_wp2_with (go_at_call 34; refine (cfi _).mono ?_; rintro e w' ⟨rfl, h'⟩; subst w')
                              exact bodyPost_ret (v := .tuple #[fcV 0 none 0 0 none 0 0, .int .i64 220, .int .i64 i]) (by simp [results, Try.results9, go_sem, t0, t1, t2]) rfl ⟨220, i, _, _, _, HO.out, rfl, set_three BB.drew (by omega) _ _ _, fun _ => rfl, fun h => by cases h⟩
                          · have hgt := pos_gt hp
                            have hfr := (posB_fin hp).1
                            have cfi := fun W => dfin_yes r hr31 hfr W
                            have g5 := World.rowIs.cell SB.st.drow hlt
                            have g6 := World.rowIs.frozen SB.st.drow i
                            have S5 := SB.setD i r
                            have RI : RowI (mE C xs) C fl (fun p => if p = i then r else d p) v i (i + 1) := ⟨hCol.setD (by omega), by rw [piv_setD, NR_fin HP hfr]; simp, by simpa using hp, fun i' h1 h2 => by omega, word_setD fwd hr31, fwl, vs_setD fvs⟩
                            clear HP hp hCol fvs fwl fwd
                            go_wp2_with (go_at_call 34; refine (cfi _).mono ?_; rintro e w' ⟨rfl, h'⟩; subst w')
                            go_roundg (C - (i + 1))
                            case measure => rw [HG4.out]; omega
                            case rel => exact ⟨i + 1, fl, _, by omega, by omega, rfl, by go_num, Or.inr ⟨by omega, RI⟩, S5⟩
                        · have b1 : ((i : Int) == (kk : Int)) = false := by simp; omega
                          have hiCI : (kk : Int) < (C : Int) := by omega
                          have g5 := World.rowIs.cell SB.st.drow hlt
                          have HQ : NR (quoO (mE C xs) (LF fl) d kk i) (opR .quo r (d kk) wr) := by
                            unfold quoO
                            rw [HM.out]
                            exact opO_NR opQu hN.out (toO_NR (fwd kk)) wr
                          have S6 := SB.later (opW_below .quo r (d kk) (Below.refl wr.heap.size wr))
                          clear hN HM HX gx m0 m1 m2
                          generalize d kk = dk at *
                          go_upto_region 34 with fail
                          generalize opW .quo r dk wr = W6 at *
                          generalize opR .quo r dk wr = y at *
                          clear g5
                          have BB := S6.st.below
                          have e0 := tri_two i
                          have h0 := tri_le (show i ≤ 49 by omega)
                          rw [HTI.out] at e0 h0
                          obtain ⟨qq, hqq⟩ : ∃ qq : Int, qq = 2 * (t2 : Int) := ⟨_, rfl⟩
                          rw [← hqq] at e0
                          obtain ⟨t0, t1, t2', s0, s1, s2, _⟩ := id S6.st.res
                          obtain ⟨o0, o1, o2, _⟩ := id S6.st.non
                          cases hfy : finB y
                          · have cfi := fun W => dfin_no y HQ.1 hfy W
                            have HB2 := RI.bad hik hlt2 HQ hfy
                            have HO : Hid (Res C C xs 6 kk (LF fun p => if p = tri i + kk then y else fl p) d) := (show Res C C xs 6 kk _ d from Or.inr (Or.inr ⟨HS.out, HF'.out, by rw [Int.toNat_natCast]; exact HB2⟩))
                            clear HQ RI fvs fwl fwd HB2 hfy
                            go_wp2_with (go_at_call 34; refine (cfi _).mono ?_; rintro e w' ⟨rfl, h'⟩; subst w')
                            exact bodyPost_ret (v := .tuple #[fcV 0 none 0 0 none 0 0, .int .i64 6, .int .i64 kk]) (by simp [results, Try.results9, go_sem, t0, t1, t2']) rfl ⟨6, kk, _, _, _, HO.out, rfl, set_three BB.drew (by omega) _ _ _, fun _ => rfl, fun h => by cases h⟩
                          · have cfi := fun W => dfin_yes y HQ.1 hfy W
                            have RS := RI.step hik hlt2 HQ hfy
                            rw [HTI.out] at RS
                            have g7 := World.rowIs.cell S6.st.lrow (show t2 + kk < T by omega)
                            have g8 := World.rowIs.frozen S6.st.lrow (t2 + kk)
                            have S7 := S6.setL (t2 + kk) y
                            have iw : ((t2 : Int) + (kk : Int)) < (T : Int) := by omega
                            have nq : ((t2 : Int) + (kk : Int)).toNat = t2 + kk := by omega
                            clear HQ RI fvs fwl fwd hfy
                            go_wp2_with (go_at_call 34; refine (cfi _).mono ?_; rintro e w' ⟨rfl, h'⟩; subst w')
                            go_roundg (C - (i + 1))
                            case measure => rw [HG4.out]; omega
                            case rel => exact ⟨i + 1, _, _, by omega, by omega, rfl, by go_num, Or.inr ⟨by omega, RS⟩, S7⟩
                  · have ei : i = C := by omega
                    have j1 : ¬ (i : Int) < (C : Int) := by omega
                    have RI : RowI (mE C xs) C fl d v k i := by
                      rcases PH with ⟨h, _⟩ | ⟨_, h⟩
                      · omega
                      · exact h
                    have HE : Hid (i = C) := ei
                    clear ei PH
                    go_wp2
                    go_roundg (C - (k + 1))
                    case measure => rw [HG2.out]; omega
                    case rel =>
                      rw [HE.out] at RI
                      exact ⟨k + 1, fl, d, by omega, rfl, by go_num, RI.done, ⟨RI.wd, RI.wl⟩, S.st⟩
          · have ej : j = C := by omega
            have i1 : ¬ (j : Int) < (C : Int) := by omega
            have HE : Hid (j = C) := ej
            clear ej
            obtain ⟨t0, t1, t2, s0, s1, s2, _⟩ := id S.res
            have hO : Res C C xs 0 0 (LF fl) d := Or.inr (Or.inr ⟨HS.out, HF'.out, by rw [Int.toNat_natCast]; exact Or.inl ⟨rfl, rfl, by have := hC.out; rw [HE.out] at this; exact this⟩⟩)
            have nL := S.lo.1
            have nD := S.lo.2
            have r2L := S.lrow
            have r2D := S.drow
            have BB := S.below
            have wl := hW.out.2
            have wd := hW.out.1
            clear hC hW
            go_wp2
            refine bodyPost_ret (v := .tuple #[fcV C (some ⟨gL, 0, none⟩) T T (some ⟨gD, 0, none⟩) C C, .int .i64 0, .int .i64 0]) (by simp [results, Try.results9, go_sem, t0, t1, t2]) rfl ⟨0, 0, LF fl, d, _, hO, rfl, set_three BB (by omega) _ _ _, fun h => absurd rfl h, fun _ => ⟨rfl, C, rfl, hN48, toL' T fl, toL' C d, some ⟨gL, 0, none⟩, T, some ⟨gD, 0, none⟩, C, by rw [toL'_len, toL'_len], (row_three r2L (by omega) _ _ _).grow (toL'_len _ _) (fun j hj => toL'_at hj), (row_three r2D (by omega) _ _ _).grow (toL'_len _ _) (fun j hj => toL'_at hj), toL'_fw wl, toL'_fw wd, by rw [toL'_len, HT.out], toL'_len _ _, by rw [toL'_len]; exact Nat.le_refl _, by rw [toL'_len]; exact Nat.le_refl _, by omega, by omega, fun a e => by cases e; show w.heap.size ≤ gL; omega, fun a e => by cases e; show w.heap.size ≤ gD; omega, fun i k h1 h2 => ?_, fun k hk => toL'_at hk⟩⟩
            rw [toL'_at (by rw [← HT.out]; exact tri_in h1 h2)]
            rfl
end Go.Proofs.Ytbnjjoaippoinaa
