/- What Inverse of the document answers. -/
import Derived.Test.YtclldmdhpojciaaS3
import Derived.Test.YtclldmdhpojciaaMx9
import Derived.Laws.IdiomCopy
import Derived.Test.YtclldmdhpojciaaMx13
namespace Go.Proofs.Ytclldmdhpojciaa
open Go.RowKit

theorem srow_three {w : World} {g m b : Nat} {f : Nat → Nat} (h : RRow w g m f) (hn : g ≠ b) (x y z : Value) : RRow (((w.setCell ⟨b, 0, none⟩ x).setCell ⟨b, 1, none⟩ y).setCell ⟨b, 2, none⟩ z) g m f :=
  World.rowIs.setOther (World.rowIs.setOther (World.rowIs.setOther h (by exact hn) _) (by exact hn) _) (by exact hn) _
theorem ssize_three (w : World) (b : Nat) (x y z : Value) : (((w.setCell ⟨b, 0, none⟩ x).setCell ⟨b, 1, none⟩ y).setCell ⟨b, 2, none⟩ z).heap.size = w.heap.size := by simp [World.setCell]
theorem sdiv_lt {R C p : Nat} (h : p < R * C) : p / C < R ∧ p % C < C := by
  have hC : 0 < C := Nat.pos_of_ne_zero (fun e => by subst e; simp at h)
  exact ⟨Nat.div_lt_of_lt_mul (by rw [Nat.mul_comm]; exact h), Nat.mod_lt _ hC⟩
theorem RRow.gaveS {w w' : World} {g R C N : Nat} {f : Nat → Nat} {o : Nat → Nat → Option Nat} (h : RRow w' g N f) (hN : R * C = N) (hv : ∀ p, p < N → NR (o (p / C) (p % C)) (f p)) (hg : w.heap.size ≤ g) (hb : Below w.heap.size w w') : GaveF w (tabM R C o) (.slice (some ⟨g, 0, none⟩) N N) w' := by
  unfold tabM
  rw [hN]
  exact ⟨some ⟨g, 0, none⟩, N, toL' N f, by rw [toL'_len], LN_tab (toL'_len _ _) (fun i hi => by rw [toL'_at hi]; exact hv i hi), h.grow (toL'_len _ _) (fun j hj => toL'_at hj), by rw [toL'_len]; exact Nat.le_refl _, fun a e => by cases e; exact hg, hb⟩
set_option maxHeartbeats 2000000 in
theorem mfillI_row (o : Nat → Nat → Option Nat) (R C : Nat) (w : World) (hR : R ≤ 48) (hC : C ≤ 48) (hcl : ∀ (i j : Nat) (wr : World), i < R → j < C → Below w.heap.size w wr → Calls Try.prog 55 #[.int .i64 i, .int .i64 j] wr fun e w' => ∃ r, e = .returned (.float .f64 r) ∧ NR (o i j) r ∧ Below wr.heap.size wr w') :
    Calls Try.prog 54 #[.int .i64 R, .int .i64 C, .func (.func 55) #[] #[]] w fun e w' => ∃ g f, e = .returned (mxV R C (some ⟨g, 0, none⟩) (R * C) (R * C)) ∧ RRow w' g (R * C) f ∧ (∀ p, p < R * C → NR (o (p / C) (p % C)) (f p)) ∧ w.heap.size ≤ g ∧ g < w'.heap.size ∧ Below w.heap.size w w' := by
  obtain ⟨N, hN⟩ : ∃ N, R * C = N := ⟨_, rfl⟩
  have hNb : N ≤ 2304 := by rw [← hN]; exact mul48 hR hC
  have ccn := fun w => mcount_any R C N hR hC hN w
  have hpl := fun (i j p : Nat) (hi : i < R) (hj : j < C) (hp : i * C + j = p) W => mplace_any R C i j p N N (some ⟨w.heap.size + 1, 0, none⟩) (by omega) hC (by omega) hp W
  have hmk := run_make_row' (P := Try.prog) 22 29 (.float .f64 0) 8 Try.underlying22 Try.infoF rfl .i64 .i64 N (by omega) (by omega)
  have hq : ∀ i j, i < R → j < C → i * C + j < N := fun i j hi hj => by rw [← hN]; exact at_lt hi hj
  have HT : Hid (∀ f w', RRow w' (w.heap.size + 1) N f → (∀ p, p < N → NR (o (p / C) (p % C)) (f p)) → w.heap.size + 1 < w'.heap.size → Below w.heap.size w w' → ∃ g f, Ending.returned (mxV R C (some ⟨w.heap.size + 1, 0, none⟩) N N) = .returned (mxV R C (some ⟨g, 0, none⟩) (R * C) (R * C)) ∧ RRow w' g (R * C) f ∧ (∀ p, p < R * C → NR (o (p / C) (p % C)) (f p)) ∧ w.heap.size ≤ g ∧ g < w'.heap.size ∧ Below w.heap.size w w') := fun f w' h1 h2 h3 h4 => by
    rw [hN]
    exact ⟨w.heap.size + 1, f, rfl, h1, h2, by omega, h3, h4⟩
  have HE : Hid (R * C = N) := hN
  clear hN
  go_enter Try.func54, Try.ntmps54
  go_wp2_with (go_at_call 59; refine (ccn _).mono ?_; rintro e w' ⟨rfl, h'⟩; subst w')
  have hst := vstoref Try.prog
  have HS0 : FillS w (((w.alloc (.cells #[.int .i64 0, .int .i64 0, .slice none 0 0] 34)).alloc (.cells (madeCells #[.float .f64 0] N) 29)).alloc (.cells #[.int .i64 R, .int .i64 C, .slice (some ⟨w.heap.size + 1, 0, none⟩) N N] 34)) R C N (fun _ => 0) := FillS.start w R C N _ _
  clear hmk ccn
  go_loopg [18] R (fun g i wr => ∃ (k : Nat) (f : Nat → Nat), k ≤ R ∧ g = R - k ∧ i = .int .i64 k ∧ Hid (∀ p, p < k * C → NR (o (p / C) (p % C)) (f p)) ∧ Hid (FillS w wr R C N f))
  case atStart => exact ⟨0, fun _ => 0, Nat.zero_le _, rfl, rfl, fun p hp => by omega, HS0⟩
  case round =>
    obtain ⟨k, f, hk, hg, rfl, hN, hF⟩ := hrel
    have HG : Hid (gk = R - k) := hg
    clear hg HS0
    by_cases hlt : k < R
    · have i1 : (k : Int) < (R : Int) := by omega
      go_wp2
      go_loopg [22] C (fun g j wv => ∃ (l : Nat) (f : Nat → Nat), l ≤ C ∧ g = C - l ∧ j = .int .i64 l ∧ Hid (∀ p, p < k * C + l → NR (o (p / C) (p % C)) (f p)) ∧ Hid (FillS w wv R C N f))
      case atStart => exact ⟨0, f, Nat.zero_le _, rfl, rfl, fun p hp => hN.out p (by omega), hF⟩
      case round =>
        clear hN hF f
        obtain ⟨l, f, hl, hg, rfl, hN, hF⟩ := hrel
        have HG2 : Hid (gk = C - l) := hg
        clear hg
        by_cases hlt2 : l < C
        · obtain ⟨q, hqq⟩ : ∃ q, k * C + l = q := ⟨_, rfl⟩
          have hqN : q < N := by rw [← hqq]; exact hq k l hlt hlt2
          have hqI : (q : Int) < (N : Int) := by omega
          have cp := hpl k l q hlt hlt2 hqq
          have HNX : Hid (∀ r, NR (o k l) r → ∀ p, p < k * C + (l + 1) → NR (o (p / C) (p % C)) (if p = q then r else f p)) := fun r hr => by rw [← hqq]; exact NR_next hlt2 hN.out hr
          have i2 : (l : Int) < (C : Int) := by omega
          have HFd := hF.out.drew
          have hcl2 := fun wq hb => hcl k l wq hlt hlt2 hb
          have HBx := HFd.below
          clear hqq hN hq hpl hcl HT HE
          have HC : ∀ w1, Below wr.drew.heap.size wr.drew w1 → w1.cell? ⟨w.heap.size + 1 + 1, 0, none⟩ = some (.int .i64 R) ∧ w1.cell? ⟨w.heap.size + 1 + 1, 1, none⟩ = some (.int .i64 C) ∧ w1.cell? ⟨w.heap.size + 1 + 1, 2, none⟩ = some (.slice (some ⟨w.heap.size + 1, 0, none⟩) N N) := fun w1 hb => by obtain ⟨x0, x1, x2, _⟩ := HFd.mbox.below hb; exact ⟨x0, x1, x2⟩
          have m0 := HC _ (Below.refl _ _)
          go_wp2
          go_region_held3 (fun w' => w'.cell? ⟨w.heap.size + 1 + 1, 0, none⟩ = some (.int .i64 R) ∧ w'.cell? ⟨w.heap.size + 1 + 1, 1, none⟩ = some (.int .i64 C) ∧ w'.cell? ⟨w.heap.size + 1 + 1, 2, none⟩ = some (.slice (some ⟨w.heap.size + 1, 0, none⟩) N N)) (go_keep)
            (first
              | (go_at_call 60; refine (cp _).mono ?_; rintro e w1 ⟨rfl, b1⟩; have m1 := HC _ b1; have HB1 := HBx.trans (b1.mono HBx.size))
              | (go_at_call 55; refine (hcl2 _ HB1).mono ?_; rintro e w2 ⟨r, rfl, hr, b2⟩; have b3 := b1.trans (b2.mono b1.size); have m2 := HC _ b3; have HF2 := HFd.later b3; have g2 := World.rowIs.cell HF2.row hqN; have g3 := World.rowIs.frozen HF2.row q))
          have HF3 := HF2.set hqN r
          go_wp2
          go_roundg (C - (l + 1))
          case measure => rw [HG2.out]; omega
          case rel => exact ⟨l + 1, fun p => if p = q then r else f p, by omega, rfl, by go_num, HNX.out r hr, HF3⟩
        · have el : l = C := by omega
          subst el
          have i2 : ¬ (l : Int) < (l : Int) := by omega
          have HNE : Hid (∀ p, p < (k + 1) * l → NR (o (p / l) (p % l)) (f p)) := fun p hp => hN.out p (by rw [Nat.succ_mul] at hp; exact hp)
          clear hN
          go_wp2
          go_roundg (R - (k + 1))
          case measure => rw [HG.out]; omega
          case rel => exact ⟨k + 1, f, by omega, rfl, by go_num, HNE, hF⟩
    · have ek : k = R := by omega
      subst ek
      have i1 : ¬ (k : Int) < (k : Int) := by omega
      obtain ⟨m0, m1, m2, _⟩ := hF.out.mbox
      obtain ⟨r0, r1, r2, s0, s1, s2, _⟩ := hF.out.res
      have hsz : w.heap.size + 1 < wr.heap.size := by have := hF.out.mbox.2.2.2.2.2.2; omega
      have hFin := fun x y z => HT.out f _ (hF.out.fin (x := x) (y := y) (z := z)).1 (fun p hp => hN.out p (by rw [HE.out]; exact hp)) (by rw [ssize_three]; exact hsz) (hF.out.fin (x := x) (y := y) (z := z)).2
      clear hN hcl hpl hq HT
      go_wp2
      exact bodyPost_ret (v := .agg #[.int .i64 k, .int .i64 C, .slice (some ⟨w.heap.size + 1, 0, none⟩) N N]) (by simp [results, Try.results54, go_sem, r0, r1, r2]) rfl (by obtain ⟨g, f2, q0, q1, q2⟩ := hFin (.int .i64 k) (.int .i64 C) (.slice (some ⟨w.heap.size + 1, 0, none⟩) N N); exact ⟨g, q0, f2, q1, q2⟩)
set_option maxHeartbeats 1000000 in
theorem mident_row (R : Nat) (hR : R ≤ 48) (w : World) : Calls Try.prog 43 #[.int .i64 R] w fun e w' => ∃ g f, e = .returned (.tuple #[mxV R R (some ⟨g, 0, none⟩) (R * R) (R * R), .int .i64 0]) ∧ RRow w' g (R * R) f ∧ (∀ p, p < R * R → NR (idO (p / R) (p % R)) (f p)) ∧ w.heap.size ≤ g ∧ g < w'.heap.size ∧ Below w.heap.size w w' := by
  have c1 := fun w => morder_any R w
  rw [okN_iff.2 ⟨by omega, by omega⟩] at c1
  have cf := fun w => mfillI_row idO R R w hR hR (fun i j wr _ _ _ => ident1_all i j wr)
  obtain ⟨N, hN⟩ : ∃ N, R * R = N := ⟨_, rfl⟩
  rw [hN]
  rw [hN] at cf
  clear hN
  have hB := below_one w
  go_enter Try.func43, Try.ntmps43
  go_wp2_with (first
    | (go_at_call 53; refine (c1 _).mono ?_; rintro e w' ⟨rfl, h'⟩; subst w')
    | (go_at_call 54; refine (cf _).mono ?_; rintro e w1 ⟨g, f, rfl, h1, h2, h3, h4, h5⟩; have RB := (B3.new w _ _ _ _).below h5; obtain ⟨t0, t1, t2, s0, s1, s2, _⟩ := id RB))
  have hg : w.heap.size + 1 ≤ g := by simpa using h3
  exact bodyPost_ret (v := .tuple #[mxV R R (some ⟨g, 0, none⟩) N N, .int .i64 0]) (by simp [results, Try.results43, go_sem, t0, t1, t2]) rfl ⟨g, f, rfl, srow_three h1 (by omega) _ _ _, h2, by omega, by rw [ssize_three]; exact h4, set_three (old_one h5) (Nat.le_refl _) _ _ _⟩
end Go.Proofs.Ytclldmdhpojciaa

namespace Go.Proofs.Ytclldmdhpojciaa
open Go.RowKit

/-- The factor's box and the answer's. -/
structure IvB (w wr : World) (n : Int) (lo : Option Addr) (ln lc : Nat) (dO : Option Addr) (dn dc : Nat) : Prop where
  fbox : B3 wr w.heap.size (.int .i64 n) (.slice lo ln lc) (.slice dO dn dc)
  res : B3 wr (w.heap.size + 1) (.int .i64 0) (.int .i64 0) (.slice none 0 0)
  below : Below w.heap.size w wr
theorem IvB.later {w wr w1 : World} {n : Int} {lo dO : Option Addr} {ln lc dn dc : Nat} (h : IvB w wr n lo ln lc dO dn dc) (hb : Below wr.heap.size wr w1) : IvB w w1 n lo ln lc dO dn dc :=
  ⟨h.fbox.below hb, h.res.below hb, h.below.trans (hb.mono h.below.size)⟩
theorem IvB.new (w : World) (n : Int) (lo : Option Addr) (ln lc : Nat) (dO : Option Addr) (dn dc : Nat) : IvB w ((w.alloc (.cells #[.int .i64 n, .slice lo ln lc, .slice dO dn dc] 27)).alloc (.cells #[.int .i64 0, .int .i64 0, .slice none 0 0] 34)) n lo ln lc dO dn dc :=
  ⟨(B3.new _ _ _ _ _).alloc _, B3.newAt (by go_simp) _ _ _ _, old_two (Below.refl _ _)⟩
/-- The same, the matrix's box, and its row. -/
structure IvS (w wr : World) (n : Int) (lo : Option Addr) (ln lc : Nat) (dO : Option Addr) (dn dc M g N NN : Nat) (z : Nat → Nat) : Prop where
  st : IvB w wr n lo ln lc dO dn dc
  mbox : B3 wr M (.int .i64 N) (.int .i64 N) (.slice (some ⟨g, 0, none⟩) NN NN)
  row : RRow wr g NN z
  lt : g < wr.heap.size
  lo' : w.heap.size + 1 < g
  ne : g ≠ M
section
variable {w wr w1 : World} {n : Int} {lo dO : Option Addr} {ln lc dn dc M g N NN : Nat} {z : Nat → Nat}
theorem IvS.later (h : IvS w wr n lo ln lc dO dn dc M g N NN z) (hb : Below wr.heap.size wr w1) : IvS w w1 n lo ln lc dO dn dc M g N NN z :=
  ⟨h.st.later hb, h.mbox.below hb, h.row.below hb h.lt, Nat.lt_of_lt_of_le h.lt hb.size, h.lo', h.ne⟩
theorem IvS.set (h : IvS w wr n lo ln lc dO dn dc M g N NN z) (q r : Nat) : IvS w (wr.setCell ⟨g, q, none⟩ (.float .f64 r)) n lo ln lc dO dn dc M g N NN (fun p => if p = q then r else z p) := by
  have := h.lo'
  exact ⟨⟨h.st.fbox.far (by omega) _, h.st.res.far (by omega) _, h.st.below.setCell (by show w.heap.size ≤ g; omega) _⟩, h.mbox.far h.ne _, h.row.set q r, by rw [sset_size]; exact h.lt, h.lo', h.ne⟩
end
theorem PO_les {s : Option Nat} {a b : Nat → Option Nat} (h : PO s) (n : Nat) : PO (lesO s a b n) := by
  cases n with
  | zero => exact h
  | succ k => exact PO_op opSu _ _
theorem PO_sl {ls ds : List Nat} {N i : Nat} {b : Nat → Option Nat} (hi : i < N) : PO (slO ls ds N b i) := by
  unfold slO
  rw [bkO_eq (show i + (N - 1 - i) + 1 = N by omega)]
  exact PO_les (PO_op opQs _ _) _
theorem id_un (j p : Nat) : idO j p = unO j p := by
  unfold idO unO
  by_cases e : j = p
  · rw [if_pos e, if_pos e.symm]
  · rw [if_neg e, if_neg (fun h => e h.symm)]
/-- Many of the row's cells set at once. -/
theorem IvS.many {w : World} {n : Int} {lo dO : Option Addr} {ln lc dn dc M g N NN : Nat} : ∀ (vs : List Nat) {wr : World} {z : Nat → Nat} (o : Nat), IvS w wr n lo ln lc dO dn dc M g N NN z →
    IvS w (wr.setCells g o (fv vs)) n lo ln lc dO dn dc M g N NN (fun p => if o ≤ p ∧ p < o + vs.length then vs.getD (p - o) 0 else z p)
  | [], wr, z, o, h => by
    refine ⟨h.st, h.mbox, h.row.congr fun p _ => ?_, h.lt, h.lo', h.ne⟩
    rw [if_neg (by simp <;> omega)]
  | v :: r, wr, z, o, h => by
    have h2 := IvS.many r (o + 1) (h.set o v)
    refine ⟨h2.st, h2.mbox, h2.row.congr fun p _ => ?_, h2.lt, h2.lo', h2.ne⟩
    by_cases e : p = o
    · subst e
      rw [if_neg (by omega), if_pos rfl, if_pos (by simp)]
      simp
    · by_cases e2 : o ≤ p ∧ p < o + (v :: r).length
      · obtain ⟨k, rfl⟩ : ∃ k, p = o + 1 + k := ⟨p - o - 1, by omega⟩
        rw [if_pos e2, if_pos (by simp at e2 ⊢; omega), show o + 1 + k - (o + 1) = k by omega, show o + 1 + k - o = k + 1 by omega]
        simp
      · rw [if_neg e2, if_neg (by simp at e2 ⊢; omega), if_neg e]
/-- Which rows are solved already. -/
def Sv (ls ds : List Nat) (N j : Nat) (z : Nat → Nat) : Prop := ∀ a b, a < N → b < N → if a < j then NR (slO ls ds N (unO a) b) (z (a * N + b)) else NR (idO a b) (z (a * N + b))
theorem Sv.row {ls ds : List Nat} {N j : Nat} {z : Nat → Nat} (h : Sv ls ds N j z) (hj : j < N) {b : Nat} (hb : b < N) : NR (unO j b) (z (j * N + b)) := by
  have := h j b hj hb
  rw [if_neg (by omega), id_un] at this
  exact this
theorem at_in {N a b j : Nat} (hb : b < N) (h : j * N ≤ a * N + b) (h2 : a * N + b < j * N + N) : a = j := by
  rcases Nat.lt_trichotomy a j with g | g | g
  · have := Nat.mul_le_mul_right N (show a + 1 ≤ j by omega)
    rw [Nat.succ_mul] at this
    omega
  · exact g
  · have := Nat.mul_le_mul_right N (show j + 1 ≤ a by omega)
    rw [Nat.succ_mul] at this
    omega
theorem Sv.next {ls ds : List Nat} {N j : Nat} {z : Nat → Nat} (h : Sv ls ds N j z) {ys : List Nat} (hy : LN (tab N (slO ls ds N (unO j))) ys) : Sv ls ds N (j + 1) (fun p => if j * N ≤ p ∧ p < j * N + ys.length then ys.getD (p - j * N) 0 else z p) := fun a b ha hb => by
  have hl : ys.length = N := by rw [hy.1, tab_len]
  rw [hl]
  by_cases e : a = j
  · subst e
    rw [if_pos (by omega)]
    show NR _ (if a * N ≤ a * N + b ∧ a * N + b < a * N + N then ys.getD (a * N + b - a * N) 0 else z (a * N + b))
    rw [if_pos (by omega), Nat.add_sub_cancel_left]
    have := hy.2 b (by rw [tab_len]; exact hb)
    rw [tab_at hb] at this
    exact this
  · have h1 := h a b ha hb
    have e2 : ¬ (j * N ≤ a * N + b ∧ a * N + b < j * N + N) := fun g => e (at_in hb g.1 g.2)
    show if a < j + 1 then NR _ (if j * N ≤ a * N + b ∧ a * N + b < j * N + N then ys.getD (a * N + b - j * N) 0 else z (a * N + b)) else NR _ (if j * N ≤ a * N + b ∧ a * N + b < j * N + N then ys.getD (a * N + b - j * N) 0 else z (a * N + b))
    rw [if_neg e2]
    by_cases g : a < j
    · rw [if_pos (by omega)]; rw [if_pos g] at h1; exact h1
    · rw [if_neg (by omega)]; rw [if_neg g] at h1; exact h1
theorem Sv.start {ls ds : List Nat} {N NN : Nat} {z : Nat → Nat} (hN : N * N = NN) (h : ∀ p, p < NN → NR (idO (p / N) (p % N)) (z p)) : Sv ls ds N 0 z := fun a b ha hb => by
  rw [if_neg (by omega)]
  have := h (a * N + b) (by rw [← hN]; exact at_lt ha hb)
  rw [(at_div hb).1, (at_div hb).2] at this
  exact this
/-- All rows are solved: turned over it is the inverse. -/
theorem Sv.turned {ls ds : List Nat} {N NN : Nat} {z : Nat → Nat} (hN : N * N = NN) (h48 : N ≤ 48) (h : Sv ls ds N N z) : trA N N (toL' NN z) = ⟨N, N, tabM N N (fun i j => slO ls ds N (unO j) i), 0⟩ := by
  unfold trA
  have hr : rightM N N (toL' NN z).length = true := by
    rw [toL'_len, ← hN]
    unfold rightM
    rw [okN_iff.2 ⟨by omega, by omega⟩]
    simp
  rw [hr, if_pos rfl, Int.toNat_natCast]
  congr 1
  refine tabM_congr fun i j hi hj => ?_
  have h1 := h j i hj hi
  rw [if_pos hj] at h1
  unfold enO
  rw [toL'_at (by rw [← hN]; exact at_lt hj hi)]
  exact NR_PO h1 (PO_sl hi)
theorem toL'_fw {n : Nat} {f : Nat → Nat} (h : ∀ p, p < n → f p < 18446744073709551616) : FW (toL' n f) := fun x hx => by
  unfold toL' at hx
  obtain ⟨p, hp, rfl⟩ := List.mem_map.1 hx
  exact h p (List.mem_range.1 hp)
theorem Sv.fw {ls ds : List Nat} {N j NN : Nat} {z : Nat → Nat} (hN : N * N = NN) (h : Sv ls ds N j z) : FW (toL' NN z) := toL'_fw fun p hp => by
  rw [← hN] at hp
  obtain ⟨d1, d2⟩ := sdiv_lt hp
  have := h (p / N) (p % N) d1 d2
  rw [Nat.mul_comm, Nat.div_add_mod] at this
  split at this <;> exact this.1
end Go.Proofs.Ytclldmdhpojciaa

namespace Go.Proofs.Ytclldmdhpojciaa
open Go.RowKit

set_option maxRecDepth 100000 in
set_option maxHeartbeats 4000000 in
theorem sinverse_any (n : Int) (ls ds : List Nat) (lo dO : Option Addr) (lc dc : Nat) (w : World) (hL : GRow w lo ls) (hD : GRow w dO ds) (fL : FW ls) (fD : FW ds) :
    Calls Try.prog 15 #[fcV n lo ls.length lc dO ds.length dc] w fun e w' => GaveA w (ivA n ls ds) e w' := by
  have cr := fun W => lright_any n lo dO ls.length lc ds.length dc W
  have S0 := IvB.new w n lo ls.length lc dO ds.length dc
  cases q : rightF n ls.length ds.length
  · rw [q] at cr
    have eA : ivA n ls ds = noA 4 := by unfold ivA; rw [q]; rfl
    rw [eA]
    go_enter Try.func15, Try.ntmps15
    go_wp2_with (go_at_call 42; refine (cr _).mono ?_; rintro e w1 ⟨rfl, b1⟩; have S1 := S0.later b1; obtain ⟨t0, t1, t2, s0, s1, s2, _⟩ := id S1.res)
    exact bodyPost_ret (v := .tuple #[mxV 0 0 none 0 0, .int .i64 4]) (by simp [results, Try.results15, go_sem, t0, t1, t2]) rfl ⟨_, rfl, GaveF.nil (set_three S1.below (by omega) _ _ _)⟩
  · rw [q] at cr
    obtain ⟨N, rfl, hN, hl, hd⟩ := rightF_nat q
    have HL : Hid (ls.length = tri N) := hl
    have HDD : Hid (ds.length = N) := hd
    have eA : ivA N ls ds = if zL ds then noA 7 else ⟨N, N, tabM N N (fun i j => slO ls ds N (unO j) i), 0⟩ := by unfold ivA; rw [q, Int.toNat_natCast]; rfl
    rw [eA]
    clear hl hd eA
    have HQ : Hid (rightF N ls.length ds.length = true) := q
    clear q
    have ci := fun W => mident_row N hN W
    obtain ⟨NN, hNN⟩ : ∃ NN, N * N = NN := ⟨_, rfl⟩
    rw [hNN] at ci
    have HNN : Hid (N * N = NN) := hNN
    have hNb : NN ≤ 2304 := by rw [← hNN]; exact mul48 hN hN
    clear hNN
    go_enter Try.func15, Try.ntmps15
    go_wp2_with (first
      | (go_at_call 42; refine (cr _).mono ?_; rintro e w1 ⟨rfl, b1⟩; have S1 := S0.later b1; obtain ⟨f0, f1, f2, _⟩ := id S1.fbox)
      | (go_at_call 43; refine (ci _).mono ?_; rintro e w2 ⟨g, z, rfl, h1, h2, h3, h4, b2⟩; have S2 := S1.later b2; obtain ⟨f0, f1, f2, _⟩ := id S2.fbox))
    have sz2 := S2.res.2.2.2.2.2.2
    have sz1 := S1.res.2.2.2.2.2.2
    have SM : IvS w (w2.alloc (.cells #[.int .i64 N, .int .i64 N, .slice (some ⟨g, 0, none⟩) NN NN] 34)) N lo ls.length lc dO ds.length dc w2.heap.size g N NN z :=
      ⟨S2.later (below_one _ _), B3.new _ _ _ _ _, h1.below (below_one _ _) h4, by go_simp; first | done | omega, by omega, by omega⟩
    have hV : Hid (Sv ls ds N 0 z) := Sv.start HNN.out h2
    generalize w2.alloc (.cells #[.int .i64 N, .int .i64 N, .slice (some ⟨g, 0, none⟩) NN NN] 34) = W2 at *
    generalize w2.heap.size = M at *
    clear S0 S1 S2 f0 f1 f2 b1 b2 cr ci h1 h2 h3 h4 sz1 sz2
    go_loopg [26] N (fun gg s26 wr => ∃ (j : Nat) (z : Nat → Nat), j ≤ N ∧ gg = N - j ∧ s26 = .int .i64 j ∧ Hid (Sv ls ds N j z) ∧ Hid (zL ds = true → j = 0) ∧ IvS w wr N lo ls.length lc dO ds.length dc M g N NN z)
    case atStart => exact ⟨0, z, Nat.zero_le _, rfl, rfl, hV, fun _ => rfl, SM⟩
    case round =>
      clear SM hV
      obtain ⟨j, z, hj, hg, rfl, hV, hz0, S⟩ := hrel
      have HG : Hid (gk = N - j) := hg
      clear hg
      by_cases hlt : j < N
      · have i1 : (j : Int) < (N : Int) := by omega
        obtain ⟨q, hq⟩ : ∃ q, j * N = q := ⟨_, rfl⟩
        obtain ⟨q2, hq2⟩ : ∃ q2, (j + 1) * N = q2 := ⟨_, rfl⟩
        have e1 : (j : Int) * (N : Int) = (q : Int) := by rw [mulI, hq]
        have e2 : ((j : Int) + 1) * (N : Int) = (q2 : Int) := by rw [show ((j : Int) + 1) = ((j + 1 : Nat) : Int) by push_cast; rfl, mulI, hq2]
        have hqq : q2 = q + N := by rw [← hq2, ← hq, Nat.succ_mul]
        have hqN : q2 ≤ NN := by rw [← hq2, ← HNN.out]; exact Nat.mul_le_mul_right _ (by omega)
        have HQJ : Hid (j * N = q) := hq
        subst hqq
        clear hq hq2
        obtain ⟨f0, f1, f2, _⟩ := id S.st.fbox
        obtain ⟨m0, m1, m2, _⟩ := id S.mbox
        have eN : q + N - q = N := by omega
        have hRow : ∀ W, IvS w W N lo ls.length lc dO ds.length dc M g N NN z → GRow W (some ⟨g, q, none⟩) (toL' N (fun p => z (q + p))) := fun W hS => by
          refine Or.inr ⟨g, q, rfl, fun p hp => ?_⟩
          rw [toL'_len] at hp
          rw [toL'_at hp]
          exact World.rowIs.cell hS.row (by omega)
        have cs : ∀ W, IvS w W N lo ls.length lc dO ds.length dc M g N NN z → Calls Try.prog 10 #[fcV N lo ls.length lc dO ds.length dc, .slice (some ⟨g, q, none⟩) N (NN - q)] W fun e w' => GaveLe W (slA N ls ds N (unO j)) e w' := fun W hS => by
          have := ssolve_any N ls ds (toL' N (fun p => z (q + p))) lo dO (some ⟨g, q, none⟩) lc dc (NN - q) (unO j) W (hL.below hS.st.below) (hD.below hS.st.below) (hRow W hS) fL fD (fun p hp => by
            rw [toL'_len] at hp
            rw [toL'_at hp, ← HQJ.out]
            exact hV.out.row hlt hp)
          rw [toL'_len] at this
          exact this
        have eS : slA N ls ds N (unO j) = if zL ds then ([], 7) else (tab N (slO ls ds N (unO j)), 0) := by
          unfold slA fitF
          rw [HQ.out, Int.toNat_natCast]
          simp
        rw [eS] at cs
        clear eS hRow
        cases qz : zL ds
        · rw [qz] at cs
          have HX : Hid (∀ ys, LN (tab N (slO ls ds N (unO j))) ys → Sv ls ds N (j + 1) (fun p => if q ≤ p ∧ p < q + ys.length then ys.getD (p - q) 0 else z p)) := fun ys hy => by
            have := hV.out.next hy
            rw [HQJ.out] at this
            exact this
          have hcp : ∀ (ys : List Nat) (yo : Option Addr) (yc : Nat) (W : World), ys.length = N → GRow W yo ys → IvS w W N lo ls.length lc dO ds.length dc M g N NN z → ∀ ty, (Builtin.copy_ #[22, 22] ty #[.slice (some ⟨g, q, none⟩) N (NN - q), .slice yo ys.length yc]).run Try.prog W = .ok (goInt ys.length) (W.setCells g q (fv ys)) := fun ys yo yc W hl hy hS ty => by
            rcases hy with h | ⟨b, off, rfl, hc⟩
            · omega
            have := run_copy_cells (P := Try.prog) W 22 22 ty 29 g q N (NN - q) ⟨b, off, none⟩ ys.length yc (fv ys) Try.underlying22 (by kernel_rfl) (by rw [fv_length, hl]; simp) (fun p v hv => by
                have hp : p < ys.length := by
                  have := (List.getElem?_eq_some_iff.1 hv).1
                  rw [fv_length] at this; exact this
                rw [fv_at hp] at hv
                cases hv
                have := hc p hp
                unfold Addr.add
                split
                · rename_i h; subst h; exact this
                · exact this) (fun p hp => by
                rw [fv_length] at hp
                rw [World.rowIs.cell hS.row (show q + p < NN by omega)]
                rfl) (fun p hp => World.rowIs.frozen hS.row (q + p)) (fv_one ys)
            rw [fv_length] at this
            exact this
          have hDraw : ∀ ys W, IvS w W N lo ls.length lc dO ds.length dc M g N NN z → IvS w (W.setCells g q (fv ys)) N lo ls.length lc dO ds.length dc M g N NN (fun p => if q ≤ p ∧ p < q + ys.length then ys.getD (p - q) 0 else z p) := fun ys W hS => hS.many ys q
          have HQZ : Hid (zL ds = false) := qz
          clear hV qz
          go_wp2_with (go_at_call 10; refine (cs _ S).mono ?_; rintro e w3 ⟨_, rfl, yo, yc, ys, rfl, y1, y2, y3, y4, b3⟩; have S3 := S.later b3; have hyl : ys.length = N := y1.1.trans (tab_len _ _); have hc3 := hcp ys yo yc w3 hyl y2 S3; have HX3 := HX.out ys y1; have S4 := hDraw ys w3 S3; clear hyl)
          go_roundg (N - (j + 1))
          case measure => rw [HG.out]; omega
          case rel => exact ⟨j + 1, _, by omega, rfl, by go_num, HX3, (fun h => by rw [HQZ.out] at h; cases h), S4⟩
        · rw [qz] at cs
          go_wp2_with (go_at_call 10; refine (cs _ S).mono ?_; rintro e w3 ⟨_, rfl, yo, yc, ys, rfl, y1, y2, y3, y4, b3⟩; have S3 := S.later b3; obtain ⟨t0, t1, t2, s0, s1, s2, _⟩ := id S3.st.res)
          exact bodyPost_ret (v := .tuple #[mxV 0 0 none 0 0, .int .i64 7]) (by simp [results, Try.results15, go_sem, t0, t1, t2]) rfl ⟨_, rfl, GaveF.nil (set_three S3.st.below (by omega) _ _ _)⟩
      · have ej : j = N := by omega
        have i1 : ¬ (j : Int) < (N : Int) := by omega
        have hz : zL ds = false := by
          cases qz : zL ds
          · rfl
          · have h0 := hz0.out qz
            have hd : ds.length = 0 := by rw [HDD.out]; omega
            rw [List.length_eq_zero_iff.1 hd] at qz
            cases qz
        subst ej
        have eT := Sv.turned HNN.out hN hV.out
        have fT := Sv.fw HNN.out hV.out
        have ct : ∀ W, IvS w W j lo ls.length lc dO ds.length dc M g j NN z → Calls Try.prog 44 #[mxV j j (some ⟨g, 0, none⟩) NN NN] W fun e w' => GaveA W ⟨j, j, tabM j j (fun i j' => slO ls ds j (unO j') i), 0⟩ e w' := fun W hS => by
          have := mtrans_any j j (toL' NN z) (some ⟨g, 0, none⟩) NN W (hS.row.grow (toL'_len _ _) (fun p hp => toL'_at hp)) fT
          rw [toL'_len, eT] at this
          exact this
        clear eT fT hV hz0
        obtain ⟨m0, m1, m2, _⟩ := id S.mbox
        have hsz := S.st.res.2.2.2.2.2.2
        go_wp2_with (go_at_call 44; refine (ct _ S).mono ?_; rintro e w3 ⟨_, rfl, yo, yc, ys, rfl, hz3⟩; have hv : GvL _ _ yo yc ys w3 := hz3; have S3 := S.later hv.2.2.2.2; obtain ⟨t0, t1, t2, s0, s1, s2, _⟩ := id S3.st.res)
        all_goals
          first
          | exact absurd ‹zL ds = true› (by rw [hz]; decide)
          | exact bodyPost_ret (v := .tuple #[mxV j j yo ys.length yc, .int .i64 0]) (by simp [results, Try.results15, go_sem, t0, t1, t2]) rfl ⟨_, rfl, hv.put S.st.below (by omega) hsz _ _ _⟩
end Go.Proofs.Ytclldmdhpojciaa

namespace Go.Proofs.Ytclldmdhpojciaa
open Go.RowKit

theorem GRow.farS {w : World} {b off : Nat} {xs : List Nat} (h : GRow w (some ⟨b, off, none⟩) xs) {g : Nat} (hg : g ≠ b) (q : Nat) (v : Value) : GRow (w.setCell ⟨g, q, none⟩ v) (some ⟨b, off, none⟩) xs := by
  rcases h with h | ⟨b', off', e, hc⟩
  · exact Or.inl h
  · cases e
    refine Or.inr ⟨b, off, rfl, fun j hj => ?_⟩
    exact (World.cell?_setCell_other _ _ _ v (fun e => hg (by cases e; rfl))).trans (hc j hj)
/-- The columns ahead of j are filled, and column j ahead of i. -/
def Cv (ls ds : List Nat) (N j i : Nat) (z : Nat → Nat) : Prop := ∀ a b, a < N → b < N → (b < j ∨ (b = j ∧ a < i)) → NR (slO ls ds N (unO b) a) (z (a * N + b))
theorem Cv.next {ls ds : List Nat} {N j i r : Nat} {z : Nat → Nat} (h : Cv ls ds N j i z) (hj : j < N) (hr : NR (slO ls ds N (unO j) i) r) : Cv ls ds N j (i + 1) (fun p => if p = i * N + j then r else z p) := fun a b ha hb hab => by
  show NR _ (if a * N + b = i * N + j then r else z (a * N + b))
  by_cases e : a * N + b = i * N + j
  · rw [if_pos e]
    have h1 := (at_div (i := a) hb).1
    have h2 := (at_div (i := a) hb).2
    rw [e, (at_div (i := i) hj).1] at h1
    rw [e, (at_div (i := i) hj).2] at h2
    subst h1 h2
    exact hr
  · rw [if_neg e]
    refine h a b ha hb ?_
    rcases hab with g | ⟨g1, g2⟩
    · exact Or.inl g
    · right
      refine ⟨g1, ?_⟩
      by_cases e2 : a = i
      · subst e2 g1; exact absurd rfl e
      · omega
theorem Cv.done {ls ds : List Nat} {N j : Nat} {z : Nat → Nat} (h : Cv ls ds N j N z) : Cv ls ds N (j + 1) 0 z := fun a b ha hb hab => h a b ha hb (by omega)
set_option maxRecDepth 100000 in
set_option maxHeartbeats 4000000 in
theorem rinverse_any (n : Int) (ls ds : List Nat) (lo dO : Option Addr) (lc dc : Nat) (w : World) (hL : GRow w lo ls) (hD : GRow w dO ds) (fL : FW ls) (fD : FW ds) :
    Calls Try.prog 24 #[fcV n lo ls.length lc dO ds.length dc] w fun e w' => GaveA w (ivA n ls ds) e w' := by
  have cr := fun W => rright13_any n lo dO ls.length lc ds.length dc W
  have S0 := IvB.new w n lo ls.length lc dO ds.length dc
  cases q : rightF n ls.length ds.length
  · rw [q] at cr
    have eA : ivA n ls ds = noA 4 := by unfold ivA; rw [q]; rfl
    rw [eA]
    go_enter Try.func24, Try.ntmps24
    go_wp2_with (go_at_call 47; refine (cr _).mono ?_; rintro e w1 ⟨rfl, b1⟩; have S1 := S0.later b1; obtain ⟨t0, t1, t2, s0, s1, s2, _⟩ := id S1.res)
    exact bodyPost_ret (v := .tuple #[mxV 0 0 none 0 0, .int .i64 4]) (by simp [results, Try.results24, go_sem, t0, t1, t2]) rfl ⟨_, rfl, GaveF.nil (set_three S1.below (by omega) _ _ _)⟩
  · rw [q] at cr
    obtain ⟨N, rfl, hN, hl, hd⟩ := rightF_nat q
    have cz := fun W h => rzero13_any N ds lo dO ls.length lc dc W h (by omega)
    have HL : Hid (ls.length = tri N) := hl
    have HDD : Hid (ds.length = N) := hd
    cases qz : zL ds
    · rw [qz] at cz
      have eA : ivA N ls ds = ⟨N, N, tabM N N (fun i j => slO ls ds N (unO j) i), 0⟩ := by unfold ivA; rw [q, qz, Int.toNat_natCast]; rfl
      rw [eA]
      have HQZ : Hid (zL ds = false) := qz
      clear hl hd eA qz
      have HQ : Hid (rightF N ls.length ds.length = true) := q
      clear q
      obtain ⟨NN, hNN⟩ : ∃ NN, N * N = NN := ⟨_, rfl⟩
      have HNN : Hid (N * N = NN) := hNN
      have hNb : NN ≤ 2304 := by rw [← hNN]; exact mul48 hN hN
      have eM : (N : Int) * (N : Int) = (NN : Int) := by rw [mulI, hNN]
      have hmk := run_make_row' (P := Try.prog) 22 29 (.float .f64 0) 8 Try.underlying22 Try.infoF rfl .i64 .i64 NN (by omega) (by omega)
      clear hNN
      go_enter Try.func24, Try.ntmps24
      go_upto_region 5 with (first
        | (go_at_call 47; refine (cr _).mono ?_; rintro e w1 ⟨rfl, b1⟩; have S1 := S0.later b1; obtain ⟨f0, f1, f2, _⟩ := id S1.fbox)
        | (go_at_call 49; refine (cz _ (hD.below S1.below)).mono ?_; rintro e w2 ⟨rfl, b2⟩; have S2 := S1.later b2; clear f0 f1 f2; obtain ⟨f0, f1, f2, _⟩ := id S2.fbox))
      clear S0 S1 b1 b2
      go_cut [4] from 5 (fun s4 wx => ∃ M g, s4 = .pointer (some ⟨M, 0, none⟩) ∧ IvS w wx N lo ls.length lc dO ds.length dc M g N NN (fun _ => 0))
      case first =>
        have wz : IntKind.i64.wrap (NN : Int) = (NN : Int) := by rw [IntKind.wrap_i64]; omega
        have nn := World.new_ne w2 ⟨w.heap.size, 0, none⟩ f0
        have nn2 := World.new_ne w2.drew ⟨w.heap.size, 0, none⟩ f0
        have sz1 := S2.res.2.2.2.2.2.2
        go_region_held3 (fun w' => w'.cell? ⟨w.heap.size, 0, none⟩ = some (.int .i64 N)) (go_keep) (fail)
        all_goals
          go_wp2
          go_meet
        · have b3 := old_two (Below.refl _ ((w2.alloc (.cells (madeCells #[.float .f64 0] NN) 29)).alloc (.cells #[.int .i64 N, .int .i64 N, .slice (some ⟨w2.heap.size, 0, none⟩) NN NN] 34)))
          have T0 : IvS w ((w2.alloc (.cells (madeCells #[.float .f64 0] NN) 29)).alloc (.cells #[.int .i64 N, .int .i64 N, .slice (some ⟨w2.heap.size, 0, none⟩) NN NN] 34)) N lo ls.length lc dO ds.length dc (w2.heap.size + 1) w2.heap.size N NN (fun _ => 0) :=
            ⟨S2.later b3, B3.newAt (by go_simp) _ _ _ _, (RRow.made w2 NN).below (below_one _ _) (by go_simp), by go_simp, by omega, by omega⟩
          exact ⟨_, _, rfl, T0.later (Below.refl _ _).drew⟩
        · have b3 := old_two (Below.refl _ ((w2.alloc (.cells #[.int .i64 N, .int .i64 N, .slice (some ⟨w2.heap.size + 1, 0, none⟩) NN NN] 34)).alloc (.cells (madeCells #[.float .f64 0] NN) 29)))
          have e1 := RRow.made (w2.alloc (.cells #[.int .i64 N, .int .i64 N, .slice (some ⟨w2.heap.size + 1, 0, none⟩) NN NN] 34)) NN
          rw [show (w2.alloc (.cells #[.int .i64 N, .int .i64 N, .slice (some ⟨w2.heap.size + 1, 0, none⟩) NN NN] 34)).heap.size = w2.heap.size + 1 by go_simp] at e1
          have T0 : IvS w ((w2.alloc (.cells #[.int .i64 N, .int .i64 N, .slice (some ⟨w2.heap.size + 1, 0, none⟩) NN NN] 34)).alloc (.cells (madeCells #[.float .f64 0] NN) 29)) N lo ls.length lc dO ds.length dc w2.heap.size (w2.heap.size + 1) N NN (fun _ => 0) :=
            ⟨S2.later b3, (B3.new _ _ _ _ _).alloc _, e1, by go_simp, by omega, by omega⟩
          exact ⟨_, _, rfl, T0.later (Below.refl _ _).drew⟩
      clear S2 f0 f1 f2 hmk cr cz
      obtain ⟨M, g, rfl, SM⟩ := hcut
      have hst := vstoref Try.prog
      have hmk := run_make_row' (P := Try.prog) 22 29 (.float .f64 0) 8 Try.underlying22 Try.infoF rfl .i64 .i64 N (by omega) (by omega)
      clear eM
      go_wp2
      have HFin : Hid (∀ z W, RRow W g NN z → Cv ls ds N N 0 z → w.heap.size ≤ g → Below w.heap.size w W → GaveF w (tabM N N (fun i j => slO ls ds N (unO j) i)) (.slice (some ⟨g, 0, none⟩) NN NN) W) := fun z W k1 k2 k3 k4 =>
        k1.gaveS (R := N) (C := N) HNN.out (fun p hp => by
          rw [← HNN.out] at hp
          obtain ⟨d1, d2⟩ := sdiv_lt hp
          have := k2 (p / N) (p % N) d1 d2 (Or.inl d2)
          rw [Nat.mul_comm, Nat.div_add_mod] at this
          exact this) k3 k4
      go_loopg [5] N (fun gg s5 wr => ∃ (j : Nat) (z : Nat → Nat), j ≤ N ∧ gg = N - j ∧ s5 = .int .i64 j ∧ Hid (Cv ls ds N j 0 z) ∧ IvS w wr N lo ls.length lc dO ds.length dc M g N NN z)
      case atStart => exact ⟨0, _, Nat.zero_le _, rfl, rfl, fun a b _ _ h => by omega, SM⟩
      case round =>
        clear SM
        obtain ⟨j, z, hj, hg, rfl, hV, S⟩ := hrel
        have HG : Hid (gk = N - j) := hg
        clear hg
        obtain ⟨f0, f1, f2, _⟩ := id S.st.fbox
        by_cases hlt : j < N
        · have i1 : (j : Int) < (N : Int) := by omega
          have BB := below_one wr (.cells (madeCells #[.float .f64 0] N) 29)
          have RA := RRow.made wr N
          have eS : slA N ls ds N (unO j) = (tab N (slO ls ds N (unO j)), 0) := by
            unfold slA fitF
            rw [HQ.out, HQZ.out, Int.toNat_natCast]
            simp
          have cs : ∀ W (B : Nat), IvS w W N lo ls.length lc dO ds.length dc M g N NN z → RRow W B N (fun p => if p = j then 4607182418800017408 else 0) → Calls Try.prog 23 #[fcV N lo ls.length lc dO ds.length dc, .slice (some ⟨B, 0, none⟩) N N] W fun e w' => GaveLe W (tab N (slO ls ds N (unO j)), 0) e w' := fun W B hS hR => by
            have := rsolve_any N ls ds (toL' N (fun p => if p = j then 4607182418800017408 else 0)) lo dO (some ⟨B, 0, none⟩) lc dc N (unO j) W (hL.below hS.st.below) (hD.below hS.st.below) (hR.grow (toL'_len _ _) (fun p hp => toL'_at hp)) fL fD (fun p hp => by
              rw [toL'_len] at hp
              rw [toL'_at hp]
              unfold unO
              by_cases e : p = j
              · rw [if_pos e, if_pos e]; exact ⟨by decide, rfl⟩
              · rw [if_neg e, if_neg e]; exact ⟨by decide, rfl⟩)
            rw [toL'_len, eS] at this
            exact this
          clear eS
          go_upto_region 10 with fail
          generalize wr.alloc (.cells (madeCells #[.float .f64 0] N) 29) = WA at *
          have BC := BB.setCell (p := ⟨wr.heap.size, j, none⟩) (Nat.le_refl _) (.float .f64 4607182418800017408)
          have SB := S.later BC
          have RB := RA.set j 4607182418800017408
          have g1 := World.rowIs.cell RA hlt
          have g2 := World.rowIs.frozen RA j
          clear f0 f1 f2 BB RA BC
          generalize wr.heap.size = B at *
          go_upto_region 11 with fail
          generalize WA.setCell ⟨B, j, none⟩ (.float .f64 4607182418800017408) = WB at *
          clear g1 g2 S
          obtain ⟨f0, f1, f2, _⟩ := id SB.st.fbox
          go_upto_region 12 with (go_at_call 23; refine (cs _ _ SB RB).mono ?_; rintro e w3 ⟨_, rfl, yo, yc, ys, rfl, y1, y2, y3, y4, b3⟩; have S3 := SB.later b3; have hgW := SB.lt)
          clear f0 f1 f2 SB RB cs
          have hyl : ys.length = N := y1.1.trans (tab_len _ _)
          have HYL : Hid (ys.length = N) := hyl
          have HY : Hid (∀ i, i < N → NR (slO ls ds N (unO j) i) (ys.getD i 0)) := fun i hi => by
            have := y1.2 i (by rw [tab_len]; exact hi)
            rw [tab_at hi] at this
            exact this
          obtain ⟨yb, yoff, rfl⟩ : ∃ b off, yo = some ⟨b, off, none⟩ := by
            rcases y2 with h | ⟨b, off, rfl, _⟩
            · omega
            · exact ⟨b, off, rfl⟩
          have hgb : g < yb := Nat.lt_of_lt_of_le hgW (y4 _ rfl)
          clear hyl y1 y3 y4 b3 hgW
          go_wp2
          go_loopg [9] N (fun gg s9 wv => ∃ (i : Nat) (z : Nat → Nat), i ≤ N ∧ gg = N - i ∧ s9 = .int .i64 i ∧ Hid (Cv ls ds N j i z) ∧ IvS w wv N lo ls.length lc dO ds.length dc M g N NN z ∧ GRow wv (some ⟨yb, yoff, none⟩) ys)
          case atStart => exact ⟨0, z, Nat.zero_le _, rfl, rfl, hV, S3, y2⟩
          case round =>
            clear hV S3 y2
            obtain ⟨i, z, hi, hg, rfl, hV, S, hY⟩ := hrel
            have HG2 : Hid (gk = N - i) := hg
            clear hg
            obtain ⟨f0, f1, f2, _⟩ := id S.st.fbox
            by_cases hlt2 : i < N
            · have i2 : (i : Int) < (N : Int) := by omega
              have hiy : i < ys.length := by rw [HYL.out]; exact hlt2
              have i3 : (i : Int) < (ys.length : Int) := by omega
              have HV2 : Hid (Cv ls ds N j (i + 1) (fun p => if p = i * N + j then ys.getD i 0 else z p)) := hV.out.next hlt (HY.out i hlt2)
              have hp := at_lt hlt2 hlt
              rw [HNN.out] at hp
              have e1 : (i : Int) * (N : Int) = ((i * N : Nat) : Int) := mulI
              obtain ⟨q, hq⟩ : ∃ q, i * N = q := ⟨_, rfl⟩
              rw [hq] at HV2 hp e1
              clear hq
              have SD := S.later (Below.refl _ _).drew
              have hYD := hY.below (Below.refl wr.heap.size wr).drew
              have m0 : ∀ W, GRow W (some ⟨yb, yoff, none⟩) ys → W.cell? ⟨yb, yoff + i, none⟩ = some (.float .f64 (ys.getD i 0)) := fun W h => srow_to (w0 := W) h (Below.refl _ _) hiy
              have m1 := m0 _ hYD
              have S4 := SD.set (q + j) (ys.getD i 0)
              have Y4 := hYD.farS (g := g) (show g ≠ yb by omega) (q + j) (.float .f64 (ys.getD i 0))
              have S5 := (S.set (q + j) (ys.getD i 0)).later (Below.refl _ _).drew
              have Y5 := (hY.farS (g := g) (show g ≠ yb by omega) (q + j) (.float .f64 (ys.getD i 0))).below (Below.refl _ _).drew
              generalize ys.getD i 0 = x at *
              have g1 := World.rowIs.cell S.row hp
              have g2 := World.rowIs.frozen S.row (q + j)
              obtain ⟨x0, x1, x2, _⟩ := id S.mbox
              have w1 : IntKind.i64.wrap (q : Int) = (q : Int) := by rw [IntKind.wrap_i64]; omega
              have w2 : IntKind.i64.wrap ((q : Int) + (j : Int)) = (q : Int) + (j : Int) := by rw [IntKind.wrap_i64]; omega
              have j1 : (q : Int) + (j : Int) < (NN : Int) := by omega
              have j3 : ((q : Int) + (j : Int)).toNat = q + j := by omega
              have hdc : ∀ (W : World) a, W.drew.cell? a = W.cell? a := fun _ _ => rfl
              have hdf : ∀ (W : World) a, W.drew.frozen? a = W.frozen? a := fun _ _ => rfl
              rw [hdc] at m1
              have n0 := S.lo'
              have n1 : ¬ g = w.heap.size := by omega
              have n2 : ¬ w.heap.size = g := by omega
              have n3 : ¬ g = M := S.ne
              have n4 : ¬ M = g := fun e => S.ne e.symm
              have n5 : ¬ g = yb := by omega
              have n6 : ¬ yb = g := by omega
              clear hV hYD m0
              go_wp2
              first | (go_region_held (fun w' => w'.cell? ⟨w.heap.size, 0, none⟩ = some (.int .i64 N) ∧ w'.cell? ⟨M, 2, none⟩ = some (.slice (some ⟨g, 0, none⟩) NN NN) ∧ w'.cell? ⟨yb, yoff + i, none⟩ = some (.float .f64 x)) (go_keep) (fail)) | fail
              all_goals
                go_wp2
                go_roundg (N - (i + 1))
                case measure => rw [HG2.out]; omega
                case rel => exact ⟨i + 1, _, by omega, rfl, by go_num, HV2, by first | exact S4 | exact S5, by first | exact Y4 | exact Y5⟩
            · have ei : i = N := by omega
              have i2 : ¬ (i : Int) < (N : Int) := by omega
              have HV2 : Hid (Cv ls ds N (j + 1) 0 z) := (show Cv _ _ _ _ _ _ by have := hV.out; rw [ei] at this; exact this.done)
              clear hV ei
              go_wp2
              go_roundg (N - (j + 1))
              case measure => rw [HG.out]; omega
              case rel => exact ⟨j + 1, z, by omega, rfl, by go_num, HV2, S⟩
        · have ej : j = N := by omega
          have i1 : ¬ (j : Int) < (N : Int) := by omega
          have HV2 := hV.out
          rw [ej] at HV2
          clear ej hV
          obtain ⟨t0, t1, t2, s0, s1, s2, _⟩ := id S.st.res
          obtain ⟨m0, m1, m2, _⟩ := id S.mbox
          have hgo := S.lo'
          have hF := fun x y z' => HFin.out z _ (srow_three S.row (show g ≠ w.heap.size + 1 by omega) x y z') HV2 (by omega) (set_three S.st.below (by omega) x y z')
          clear HV2 HFin
          go_wp2
          exact bodyPost_ret (v := .tuple #[mxV N N (some ⟨g, 0, none⟩) NN NN, .int .i64 0]) (by simp [results, Try.results24, go_sem, t0, t1, t2]) rfl ⟨_, rfl, hF _ _ _⟩
    · rw [qz] at cz
      have eA : ivA N ls ds = noA 7 := by unfold ivA; rw [q, qz]; rfl
      rw [eA]
      clear hl hd eA q qz
      go_enter Try.func24, Try.ntmps24
      go_wp2_with (first
        | (go_at_call 47; refine (cr _).mono ?_; rintro e w1 ⟨rfl, b1⟩; have S1 := S0.later b1; obtain ⟨f0, f1, f2, _⟩ := id S1.fbox)
        | (go_at_call 49; refine (cz _ (hD.below S1.below)).mono ?_; rintro e w2 ⟨rfl, b2⟩; have S2 := S1.later b2; obtain ⟨t0, t1, t2, s0, s1, s2, _⟩ := id S2.res))
      exact bodyPost_ret (v := .tuple #[mxV 0 0 none 0 0, .int .i64 7]) (by simp [results, Try.results24, go_sem, t0, t1, t2]) rfl ⟨_, rfl, GaveF.nil (set_three S2.below (by omega) _ _ _)⟩
end Go.Proofs.Ytclldmdhpojciaa
