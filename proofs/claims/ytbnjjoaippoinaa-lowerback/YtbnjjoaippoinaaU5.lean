/- What Right and Times of the document answer. -/
import Derived.Test.YtbnjjoaippoinaaW4
namespace Go.Proofs.Ytbnjjoaippoinaa
open Go.RowKit

/-- The factor's box and the answer's. -/
structure TiS (w wr : World) (n : Int) (lo : Option Addr) (ln lc : Nat) (dO : Option Addr) (dn dc : Nat) : Prop where
  fbox : B3 wr w.heap.size (.int .i64 n) (.slice lo ln lc) (.slice dO dn dc)
  res : B3 wr (w.heap.size + 1) (.int .i64 0) (.int .i64 0) (.slice none 0 0)
  below : Below w.heap.size w wr
theorem TiS.later {w wr w1 : World} {n : Int} {lo dO : Option Addr} {ln lc dn dc : Nat} (h : TiS w wr n lo ln lc dO dn dc) (hb : Below wr.heap.size wr w1) : TiS w w1 n lo ln lc dO dn dc :=
  ⟨h.fbox.below hb, h.res.below hb, h.below.trans (hb.mono h.below.size)⟩
theorem TiS.new (w : World) (n : Int) (lo : Option Addr) (ln lc : Nat) (dO : Option Addr) (dn dc : Nat) : TiS w ((w.alloc (.cells #[.int .i64 n, .slice lo ln lc, .slice dO dn dc] 26)).alloc (.cells #[.int .i64 0, .int .i64 0, .slice none 0 0] 24)) n lo ln lc dO dn dc :=
  ⟨(B3.new _ _ _ _ _).alloc _, B3.newAt (by go_simp) _ _ _ _, old_two (Below.refl _ _)⟩
/-- The same, the matrix's box, and its row. -/
structure TmS (w wr : World) (n : Int) (lo : Option Addr) (ln lc : Nat) (dO : Option Addr) (dn dc M g N NN : Nat) (z : Nat → Nat) : Prop where
  st : TiS w wr n lo ln lc dO dn dc
  mbox : B3 wr M (.int .i64 N) (.int .i64 N) (.slice (some ⟨g, 0, none⟩) NN NN)
  row : RRow wr g NN z
  lt : g < wr.heap.size
  lo' : w.heap.size + 1 < g
  ne : g ≠ M
variable {w wr w1 : World} {n : Int} {lo dO : Option Addr} {ln lc dn dc M g N NN : Nat} {z : Nat → Nat}
theorem TmS.later (h : TmS w wr n lo ln lc dO dn dc M g N NN z) (hb : Below wr.heap.size wr w1) : TmS w w1 n lo ln lc dO dn dc M g N NN z :=
  ⟨h.st.later hb, h.mbox.below hb, h.row.below hb h.lt, Nat.lt_of_lt_of_le h.lt hb.size, h.lo', h.ne⟩
theorem TmS.set (h : TmS w wr n lo ln lc dO dn dc M g N NN z) (q r : Nat) : TmS w (wr.setCell ⟨g, q, none⟩ (.float .f64 r)) n lo ln lc dO dn dc M g N NN (fun p => if p = q then r else z p) := by
  have := h.lo'
  exact ⟨⟨h.st.fbox.far (by omega) _, h.st.res.far (by omega) _, h.st.below.setCell (by show w.heap.size ≤ g; omega) _⟩, h.mbox.far h.ne _, h.row.set q r, by rw [set_same_size]; exact h.lt, h.lo', h.ne⟩
/-- The rows ahead of i, and row i ahead of j, are filled on both sides. -/
def Dn (o : Nat → Nat → Option Nat) (N : Nat) (z : Nat → Nat) (i j : Nat) : Prop := ∀ a b, a < N → b < N → (max a b < i ∨ (max a b = i ∧ min a b < j)) → NR (o a b) (z (a * N + b))
theorem at_inj {N a b a' b' : Nat} (hb : b < N) (hb' : b' < N) (h : a * N + b = a' * N + b') : a = a' ∧ b = b' := by
  have h1 := (at_div (i := a) hb).1
  have h2 := (at_div (i := a) hb).2
  rw [h] at h1 h2
  have h3 := (at_div (i := a') hb').1
  have h4 := (at_div (i := a') hb').2
  exact ⟨by rw [← h1, h3], by rw [← h2, h4]⟩
theorem Dn.step {o : Nat → Nat → Option Nat} {N : Nat} {z : Nat → Nat} {i j r : Nat} (h : Dn o N z i j) (ho : ∀ a b, o a b = o b a) (hi : i < N) (hj : j ≤ i) (hr : NR (o i j) r) : Dn o N (fun p => if p = j * N + i then r else if p = i * N + j then r else z p) i (j + 1) := fun a b ha hb hab => by
  show NR (o a b) (if a * N + b = j * N + i then r else if a * N + b = i * N + j then r else z (a * N + b))
  by_cases e1 : a * N + b = j * N + i
  · rw [if_pos e1]
    obtain ⟨rfl, rfl⟩ := at_inj hb hi e1
    rw [ho]; exact hr
  · rw [if_neg e1]
    by_cases e2 : a * N + b = i * N + j
    · rw [if_pos e2]
      obtain ⟨rfl, rfl⟩ := at_inj hb (by omega) e2
      exact hr
    · rw [if_neg e2]
      refine h a b ha hb ?_
      rcases hab with g | ⟨g1, g2⟩
      · exact Or.inl g
      · right
        refine ⟨g1, ?_⟩
        by_cases hab : a ≤ b
        · rw [Nat.max_eq_right hab] at g1
          rw [Nat.min_eq_left hab] at g2 ⊢
          subst g1
          by_cases e : a = j
          · subst e; exact absurd rfl e1
          · omega
        · have hba : b ≤ a := by omega
          rw [Nat.max_eq_left hba] at g1
          rw [Nat.min_eq_right hba] at g2 ⊢
          subst g1
          by_cases e : b = j
          · subst e; exact absurd rfl e2
          · omega
theorem Dn.next {o : Nat → Nat → Option Nat} {N : Nat} {z : Nat → Nat} {i : Nat} (h : Dn o N z i (i + 1)) : Dn o N z (i + 1) 0 := fun a b ha hb hab => h a b ha hb (by omega)
set_option maxRecDepth 100000 in
set_option maxHeartbeats 4000000 in
theorem ltimes_any (n : Int) (ls ds : List Nat) (lo dO : Option Addr) (lc dc : Nat) (w : World) (hL : GRow w lo ls) (hD : GRow w dO ds) (fL : FW ls) (fD : FW ds) (hlc : ls.length ≤ lc) :
    Calls Try.prog 13 #[fcV n lo ls.length lc dO ds.length dc] w fun e w' => GaveA w (tiA n ls ds) e w' := by
  have cr := fun W => lright_any n lo dO ls.length lc ds.length dc W
  have S0 := TiS.new w n lo ls.length lc dO ds.length dc
  cases q : rightF n ls.length ds.length
  · rw [q] at cr
    have eA : tiA n ls ds = noA 4 := by unfold tiA; rw [q]; rfl
    rw [eA]
    go_enter Try.func13, Try.ntmps13
    go_wp2_with (go_at_call 15; refine (cr _).mono ?_; rintro e w1 ⟨rfl, b1⟩; have S1 := S0.later b1; obtain ⟨t0, t1, t2, s0, s1, s2, _⟩ := id S1.res)
    exact bodyPost_ret (v := .tuple #[mxV 0 0 none 0 0, .int .i64 4]) (by simp [results, Try.results13, go_sem, t0, t1, t2]) rfl ⟨_, rfl, GaveF.nil (set_three S1.below (by omega) _ _ _)⟩
  · rw [q] at cr
    obtain ⟨N, rfl, hN, hl, hd⟩ := rightF_nat q
    have HL : Hid (ls.length = tri N) := hl
    have HDD : Hid (ds.length = N) := hd
    have eA : tiA N ls ds = ⟨N, N, tabM N N (tmO (lsF ls) (dsF ds)), 0⟩ := by unfold tiA; rw [q, Int.toNat_natCast]; rfl
    rw [eA]
    clear hl hd q eA
    have cm := fun W => mmake_row N hN W
    obtain ⟨NN, hNN⟩ : ∃ NN, N * N = NN := ⟨_, rfl⟩
    rw [hNN] at cm
    have HNN : Hid (N * N = NN) := hNN
    have hNb : NN ≤ 2304 := by rw [← hNN]; exact mul48 hN hN
    clear hNN
    go_enter Try.func13, Try.ntmps13
    go_upto_if 4 with (first
      | (go_at_call 15; refine (cr _).mono ?_; rintro e w1 ⟨rfl, b1⟩; have S1 := S0.later b1; obtain ⟨f0, f1, f2, _⟩ := id S1.fbox)
      | (go_at_call 36; refine (cm _).mono ?_; rintro e w2 ⟨g, z, rfl, h1, h2, h3, h4, b2⟩; have S2 := S1.later b2; obtain ⟨f0, f1, f2, _⟩ := id S2.fbox))
    have sz2 := S2.res.2.2.2.2.2.2
    have sz1 := S1.res.2.2.2.2.2.2
    have SM : TmS w (w2.alloc (.cells #[.int .i64 N, .int .i64 N, .slice (some ⟨g, 0, none⟩) NN NN] 24)) N lo ls.length lc dO ds.length dc w2.heap.size g N NN z :=
      ⟨S2.later (below_one _ _), B3.new _ _ _ _ _, h1.below (below_one _ _) h4, by go_simp; first | done | omega, by omega, by omega⟩
    have hrow := fun W (hb : Below w.heap.size w W) => hL.below hb
    generalize w2.alloc (.cells #[.int .i64 N, .int .i64 N, .slice (some ⟨g, 0, none⟩) NN NN] 24) = W2 at *
    generalize w2.heap.size = M at *
    clear S0 S1 S2 f0 f1 f2 b1 b2 cr cm h1 h3 h4 sz1 sz2
    have q1 := fun x y w => run_op4 (P := Try.prog) (op := .add) (Or.inl rfl) 38 x y w
    have q2 := fun x y w => run_op4 (P := Try.prog) (op := .mul) opMu 38 x y w
    have hst := vstoref Try.prog
    have HFin : Hid (∀ z W, RRow W g NN z → Dn (tmO (lsF ls) (dsF ds)) N z N 0 → w.heap.size ≤ g → Below w.heap.size w W → GaveF w (tabM N N (tmO (lsF ls) (dsF ds))) (.slice (some ⟨g, 0, none⟩) NN NN) W) := fun z W k1 k2 k3 k4 => by
      have := k1.gave (R := N) (C := N) (o := tmO (lsF ls) (dsF ds)) HNN.out (fun p hp => by
        rw [← HNN.out] at hp
        obtain ⟨d1, d2⟩ := div_lt' (R := N) (C := N) hp
        have := k2 (p / N) (p % N) d1 d2 (Or.inl (by omega))
        rw [Nat.mul_comm, Nat.div_add_mod] at this
        exact this) k3 k4
      exact this
    go_loopg [28] N (fun gg s28 wr => ∃ (i : Nat) (z : Nat → Nat), i ≤ N ∧ gg = N - i ∧ s28 = .int .i64 i ∧ Hid (Dn (tmO (lsF ls) (dsF ds)) N z i 0) ∧ TmS w wr N lo ls.length lc dO ds.length dc M g N NN z)
    case atStart => exact ⟨0, z, Nat.zero_le _, rfl, rfl, fun a b _ _ h => by omega, SM⟩
    case round =>
      clear SM
      obtain ⟨i, z, hi, hg, rfl, hDn, S⟩ := hrel
      have HG : Hid (gk = N - i) := hg
      clear hg
      by_cases hlt : i < N
      · have i1 : (i : Int) < (N : Int) := by omega
        go_wp2
        go_loopg [33] (i + 1) (fun gg s33 wr => ∃ (j : Nat) (z : Nat → Nat), j ≤ i + 1 ∧ gg = i + 1 - j ∧ s33 = .int .i64 j ∧ Hid (Dn (tmO (lsF ls) (dsF ds)) N z i j) ∧ TmS w wr N lo ls.length lc dO ds.length dc M g N NN z)
        case atStart => exact ⟨0, z, Nat.zero_le _, rfl, rfl, hDn, S⟩
        case round =>
          clear S hDn
          obtain ⟨j, z, hj, hg, rfl, hDn, S⟩ := hrel
          have HG2 : Hid (gk = i + 1 - j) := hg
          clear hg
          by_cases hlt2 : j < i + 1
          · have i2 : (j : Int) < (i : Int) + 1 := by omega
            go_wp2
            go_loopg [8, 38] (j + 1) (fun gg s8 s38 wv => ∃ k r : Nat, k ≤ j + 1 ∧ gg = j + 1 - k ∧ s8 = .float .f64 r ∧ s38 = .int .i64 k ∧ Hid (NR (tiO (lsF ls) (dsF ds) i j k) r) ∧ Hid (Below wr.heap.size wr wv))
            case atStart => exact ⟨0, 0, Nat.zero_le _, rfl, rfl, rfl, NR_zero, Below.refl _ _⟩
            case round =>
              obtain ⟨k, r, hk, hg, rfl, rfl, hN3, hBl⟩ := hrel
              have HG3 : Hid (gk = j + 1 - k) := hg
              clear hg
              have SB := S.later hBl.out
              by_cases hlt3 : k < j + 1
              · have i3 : (k : Int) < (j : Int) + 1 := by omega
                have hkd : k < ds.length := by rw [HDD.out]; omega
                have hkdI : (k : Int) < (ds.length : Int) := by omega
                have htl := fun a (ha : a ≤ i) => (show tri (a + 1) ≤ ls.length by rw [HL.out]; exact tri_mono (by omega))
                have ci := fun W h => lentry_any N ls lo lc dO ds.length dc i k W h (by omega) (by omega) (htl i (Nat.le_refl _)) hlc
                have cj := fun W h => lentry_any N ls lo lc dO ds.length dc j k W h (by omega) (by omega) (htl j (by omega)) hlc
                obtain ⟨b, off, rfl⟩ : ∃ b off, dO = some ⟨b, off, none⟩ := by
                  rcases hD with h | ⟨b, off, rfl, _⟩
                  · omega
                  · exact ⟨b, off, rfl⟩
                have HWx : Hid (∀ a, k ≤ a → a ≤ i → eL (lsF ls) a k < 18446744073709551616) := fun a h1 h2 => by
                  unfold eL
                  split
                  · omega
                  · have h3 := tri_in (show k < a by omega) (show a < N by omega)
                    exact fL.at (by rw [HL.out]; exact h3)
                have HSU : Hid (∀ W W' W'', NR (tiO (lsF ls) (dsF ds) i j (k + 1)) (opR .add r (opR .mul (opR .mul (eL (lsF ls) i k) (ds.getD k 0) W) (eL (lsF ls) j k) W') W'')) := fun W W' W'' => by
                  rw [tiO]
                  exact opO_NR (Or.inl rfl) hN3.out (opO_NR opMu (opO_NR opMu (toO_NR (HWx.out i (by omega) (Nat.le_refl _))) (toO_NR (fD.at hkd)) W) (toO_NR (HWx.out j (by omega) (by omega))) W') W''
                have hd0 := fun W hb => row_to (w0 := w) (wr := W) hD hb hkd
                generalize eL (lsF ls) i k = x at *
                generalize eL (lsF ls) j k = y at *
                generalize ds.getD k 0 = dk at *
                have HS := SB.later (Below.refl wr.heap.size wr).drew
                have hL0 := hrow _ HS.st.below
                have HC : ∀ w1, Below wr.drew.heap.size wr.drew w1 → w1.cell? ⟨w.heap.size, 0, none⟩ = some (.int .i64 N) ∧ w1.cell? ⟨w.heap.size, 1, none⟩ = some (.slice lo ls.length lc) ∧ w1.cell? ⟨w.heap.size, 2, none⟩ = some (.slice (some ⟨b, off, none⟩) ds.length dc) ∧ w1.cell? ⟨b, off + k, none⟩ = some (.float .f64 dk) := fun w1 hb => by
                  have hb := HS.later hb
                  obtain ⟨x0, x1, x2, _⟩ := id hb.st.fbox
                  exact ⟨x0, x1, x2, hd0 w1 hb.st.below⟩
                have m0 := HC _ (Below.refl _ _)
                have hop : ∀ op x y W a, (opW op x y W).cell? a = W.cell? a := fun op x y W a => by unfold World.cell?; rw [opW_heap]
                have HB0 := hBl.out.drew
                clear hN3 HWx htl
                go_wp2
                first | (go_region_held (fun w' => w'.cell? ⟨w.heap.size, 0, none⟩ = some (.int .i64 N) ∧ w'.cell? ⟨w.heap.size, 1, none⟩ = some (.slice lo ls.length lc) ∧ w'.cell? ⟨w.heap.size, 2, none⟩ = some (.slice (some ⟨b, off, none⟩) ds.length dc) ∧ w'.cell? ⟨b, off + k, none⟩ = some (.float .f64 dk)) (go_keep)
                  (first
                    | (go_at_call 37; have hh := hL1; refine (cj _ (by first | exact hL1 | exact hL2)).mono ?_; rintro e w4 ⟨rfl, b4⟩; have b5 : Below wr.drew.heap.size wr.drew w4 := (by first | exact b3.trans (b4.mono b3.size) | exact (opW_below .mul x dk b3).trans (b4.mono (opW_below .mul x dk b3).size)); have m5 := HC _ b5)
                    | (go_at_call 37; refine (ci _ hL0).mono ?_; rintro e w3 ⟨rfl, b3⟩; have m3 := HC _ b3; have hL1 := hL0.below b3; have hL2 := hL1.below (opW_below .mul x dk (Below.refl w3.heap.size w3))))) | fail
                all_goals
                  have B5 : Below _ _ w4 := HB0.trans (b5.mono HB0.size)
                  go_wp2
                  go_roundg (j + 1 - (k + 1))
                  case measure => rw [HG3.out]; omega
                  case rel => exact ⟨k + 1, _, by omega, rfl, rfl, by go_num, HSU.out _ _ _, by first | exact opW_below .add _ _ (opW_below .mul _ _ (opW_below .mul _ _ B5)) | exact opW_below .add _ _ (opW_below .mul _ _ B5)⟩
              · have ek : k = j + 1 := by omega
                have i3 : ¬ (k : Int) < (j : Int) + 1 := by omega
                have HR : NR (tmO (lsF ls) (dsF ds) i j) r := by
                  rw [tmO_low (by omega), ← ek]
                  exact hN3.out
                have hDn2 := hDn.out.step (tmO_comm _ _) hlt (by omega) HR
                have hp1 := at_lt hlt (show j < N by omega)
                have hp2 := at_lt (show j < N by omega) hlt
                rw [HNN.out] at hp1 hp2
                have hm1 := mul48 (show i ≤ 48 by omega) hN
                have hm2 := mul48 (show j ≤ 48 by omega) hN
                have e1 : (i : Int) * (N : Int) = ((i * N : Nat) : Int) := mulI
                have e2 : (j : Int) * (N : Int) = ((j * N : Nat) : Int) := mulI
                have hdc : ∀ (W : World) a, W.drew.cell? a = W.cell? a := fun _ _ => rfl
                have hdf : ∀ (W : World) a, W.drew.frozen? a = W.frozen? a := fun _ _ => rfl
                have SC := SB.set (i * N + j) r
                have SD := SC.set (j * N + i) r
                have SD2 := (SC.later (Below.refl _ _).drew).set (j * N + i) r
                have SD3 := SD.later (Below.refl _ _).drew
                have SD4 := ((SB.later (Below.refl _ _).drew).set (i * N + j) r).set (j * N + i) r
                generalize i * N = p at *
                generalize j * N = q at *
                have g1 := World.rowIs.cell SB.row hp1
                have g2 := World.rowIs.frozen SB.row (p + j)
                have g3 := World.rowIs.cell SC.row hp2
                have g4 := World.rowIs.frozen SC.row (q + i)
                obtain ⟨f0, f1, f2, _⟩ := id SB.st.fbox
                obtain ⟨m0, m1, m2, _⟩ := id SB.mbox
                obtain ⟨f0', f1', f2', _⟩ := id SC.st.fbox
                obtain ⟨m0', m1', m2', _⟩ := id SC.mbox
                have w1 : IntKind.i64.wrap (p : Int) = (p : Int) := by rw [IntKind.wrap_i64]; omega
                have w2 : IntKind.i64.wrap ((p : Int) + (j : Int)) = (p : Int) + (j : Int) := by rw [IntKind.wrap_i64]; omega
                have w3 : IntKind.i64.wrap (q : Int) = (q : Int) := by rw [IntKind.wrap_i64]; omega
                have w4 : IntKind.i64.wrap ((q : Int) + (i : Int)) = (q : Int) + (i : Int) := by rw [IntKind.wrap_i64]; omega
                have j1 : (p : Int) + (j : Int) < (NN : Int) := by omega
                have j2 : (q : Int) + (i : Int) < (NN : Int) := by omega
                have j3 : ((p : Int) + (j : Int)).toNat = p + j := by omega
                have j4 : ((q : Int) + (i : Int)).toNat = q + i := by omega
                have n0 := SB.lo'
                have n1 : ¬ g = w.heap.size := by omega
                have n2 : ¬ w.heap.size = g := by omega
                have n3 : ¬ g = M := SB.ne
                have n4 : ¬ M = g := fun e => SB.ne e.symm
                clear HR hDn hN3 ek
                go_wp2
                first | (go_region_held (fun w' => w'.cell? ⟨w.heap.size, 0, none⟩ = some (.int .i64 N) ∧ w'.cell? ⟨M, 2, none⟩ = some (.slice (some ⟨g, 0, none⟩) NN NN)) (go_keep) (fail)) | fail
                all_goals
                  go_wp2
                  go_roundg (i + 1 - (j + 1))
                  case measure => rw [HG2.out]; omega
                  case rel => exact ⟨j + 1, _, by omega, rfl, by go_num, hDn2, by first | exact SD | exact SD2 | exact SD3 | exact SD4⟩
          · have ej : j = i + 1 := by omega
            have i2 : ¬ (j : Int) < (i : Int) + 1 := by omega
            have hDn2 := hDn.out
            rw [ej] at hDn2
            clear ej hDn
            go_wp2
            go_roundg (N - (i + 1))
            case measure => rw [HG.out]; omega
            case rel => exact ⟨i + 1, z, by omega, rfl, by go_num, hDn2.next, S⟩
      · have ei : i = N := by omega
        have i1 : ¬ (i : Int) < (N : Int) := by omega
        have hDn2 := hDn.out
        rw [ei] at hDn2
        clear ei hDn
        obtain ⟨t0, t1, t2, s0, s1, s2, _⟩ := id S.st.res
        obtain ⟨m0, m1, m2, _⟩ := id S.mbox
        have hgo := S.lo'
        have hF := fun x y z' => HFin.out z _ (row_three S.row (show g ≠ w.heap.size + 1 by omega) x y z') hDn2 (by omega) (set_three S.st.below (by omega) x y z')
        clear hDn2 HFin
        go_wp2
        exact bodyPost_ret (v := .tuple #[mxV N N (some ⟨g, 0, none⟩) NN NN, .int .i64 0]) (by simp [results, Try.results13, go_sem, t0, t1, t2]) rfl ⟨_, rfl, hF _ _ _⟩
end Go.Proofs.Ytbnjjoaippoinaa

namespace Go.Proofs.Ytbnjjoaippoinaa
open Go.RowKit

set_option maxHeartbeats 1000000 in
theorem rright12_any (n : Int) (lo dO : Option Addr) (ln lc dn dc : Nat) (w : World) :
    Calls Try.prog 16 #[fcV n lo ln lc dO dn dc] w fun e w' => e = .returned (.bool (rightF n ln dn)) ∧ Below w.heap.size w w' := by
  have hb := below_one w
  unfold rightF
  cases q : okN n
  · unfold okN at q
    by_cases h0 : 0 ≤ n
    · have h1 : ¬ n ≤ 48 := fun h => by rw [decide_eq_true h0, decide_eq_true h] at q; cases q
      have d0 := decide_eq_true h0
      have d1 := decide_eq_false h1
      clear q
      go_enter Try.func16, Try.ntmps16
      go_wp2
      go_ret
      exact ⟨rfl, hb _⟩
    · have d0 := decide_eq_false h0
      clear q
      go_enter Try.func16, Try.ntmps16
      go_wp2
      go_ret
      exact ⟨rfl, hb _⟩
  · obtain ⟨N, rfl, hN⟩ := okN_nat q
    clear q
    rw [Int.toNat_natCast]
    have h0 : (0 : Int) ≤ (N : Int) := by omega
    have h1 : (N : Int) ≤ 48 := by omega
    have e0 := tri_two N
    have ht := tri_le (show N ≤ 49 by omega)
    obtain ⟨T, hT⟩ : ∃ T, tri N = T := ⟨_, rfl⟩
    rw [hT] at e0 ht ⊢
    obtain ⟨q, hq⟩ : ∃ q : Int, q = 2 * (T : Int) := ⟨_, rfl⟩
    rw [← hq] at e0
    clear hT
    by_cases e1 : ln = T
    · rw [decide_eq_true e1]
      have b1 : ((ln : Int) == (T : Int)) = true := by simp [e1]
      clear e1
      by_cases e2 : (dn : Int) = (N : Int)
      · rw [decide_eq_true e2]
        have b2 : ((dn : Int) == (N : Int)) = true := by rw [e2]; simp
        clear e2
        go_enter Try.func16, Try.ntmps16
        go_wp2
        go_ret
        exact ⟨rfl, hb _⟩
      · rw [decide_eq_false e2]
        have b2 : ((dn : Int) == (N : Int)) = false := by simp; omega
        clear e2
        go_enter Try.func16, Try.ntmps16
        go_wp2
        go_ret
        exact ⟨rfl, hb _⟩
    · rw [decide_eq_false e1]
      have b1 : ((ln : Int) == (T : Int)) = false := by simp; omega
      clear e1
      go_enter Try.func16, Try.ntmps16
      go_wp2
      go_ret
      exact ⟨rfl, hb _⟩
set_option maxHeartbeats 1000000 in
theorem rlat2_any (ls : List Nat) (i k cap : Nat) (ao : Option Addr) (w : World) (hr : GRow w ao ls) (hi : i ≤ 48) (hk : k ≤ i) (hl : tri (i + 1) ≤ ls.length) :
    Calls Try.prog 35 #[.slice ao ls.length cap, .int .i64 i, .int .i64 k] w fun e w' => e = .returned (.float .f64 (eL (lsF ls) i k)) ∧ w' = w := by
  unfold eL
  by_cases e : k = i
  · rw [if_pos e]
    have b1 : ((i : Int) == (k : Int)) = true := by simp [e]
    clear e
    go_enter Try.func35, Try.ntmps35
    go_wp2
    go_ret
    exact ⟨rfl, rfl⟩
  · rw [if_neg e]
    rw [tri] at hl
    exact rlat_any ls i k (tri i) cap ao w hr hi (by omega) rfl (by omega)
set_option maxRecDepth 100000 in
set_option maxHeartbeats 4000000 in
theorem rtimes_any (n : Int) (ls ds : List Nat) (lo dO : Option Addr) (lc dc : Nat) (w : World) (hL : GRow w lo ls) (hD : GRow w dO ds) (fL : FW ls) (fD : FW ds) :
    Calls Try.prog 14 #[fcV n lo ls.length lc dO ds.length dc] w fun e w' => GaveA w (tiA n ls ds) e w' := by
  have cr := fun W => rright12_any n lo dO ls.length lc ds.length dc W
  have S0 := TiS.new w n lo ls.length lc dO ds.length dc
  cases q : rightF n ls.length ds.length
  · rw [q] at cr
    have eA : tiA n ls ds = noA 4 := by unfold tiA; rw [q]; rfl
    rw [eA]
    go_enter Try.func14, Try.ntmps14
    go_wp2_with (go_at_call 16; refine (cr _).mono ?_; rintro e w1 ⟨rfl, b1⟩; have S1 := S0.later b1; obtain ⟨t0, t1, t2, s0, s1, s2, _⟩ := id S1.res)
    exact bodyPost_ret (v := .tuple #[mxV 0 0 none 0 0, .int .i64 4]) (by simp [results, Try.results14, go_sem, t0, t1, t2]) rfl ⟨_, rfl, GaveF.nil (set_three S1.below (by omega) _ _ _)⟩
  · rw [q] at cr
    obtain ⟨N, rfl, hN, hl, hd⟩ := rightF_nat q
    have HL : Hid (ls.length = tri N) := hl
    have HDD : Hid (ds.length = N) := hd
    have eA : tiA N ls ds = ⟨N, N, tabM N N (tmO (lsF ls) (dsF ds)), 0⟩ := by unfold tiA; rw [q, Int.toNat_natCast]; rfl
    rw [eA]
    clear hl hd q eA
    obtain ⟨NN, hNN⟩ : ∃ NN, N * N = NN := ⟨_, rfl⟩
    have HNN : Hid (N * N = NN) := hNN
    have hNb : NN ≤ 2304 := by rw [← hNN]; exact mul48 hN hN
    have eM : (N : Int) * (N : Int) = (NN : Int) := by rw [mulI, hNN]
    have hmk := run_make_row' (P := Try.prog) 22 38 (.float .f64 0) 8 Try.underlying22 Try.infoF rfl .i64 .i64 NN (by omega) (by omega)
    clear hNN
    go_enter Try.func14, Try.ntmps14
    go_upto_region 4 with (go_at_call 16; refine (cr _).mono ?_; rintro e w1 ⟨rfl, b1⟩; have S1 := S0.later b1; obtain ⟨f0, f1, f2, _⟩ := id S1.fbox)
    clear S0 b1
    go_cut [4] from 4 (fun s4 wx => ∃ M g, s4 = .pointer (some ⟨M, 0, none⟩) ∧ TmS w wx N lo ls.length lc dO ds.length dc M g N NN (fun _ => 0))
    case first =>
      have wz : IntKind.i64.wrap (NN : Int) = (NN : Int) := by rw [IntKind.wrap_i64]; omega
      have nn := World.new_ne w1 ⟨w.heap.size, 0, none⟩ f0
      have nn2 := World.new_ne w1.drew ⟨w.heap.size, 0, none⟩ f0
      have sz1 := S1.res.2.2.2.2.2.2
      go_region_held3 (fun w' => w'.cell? ⟨w.heap.size, 0, none⟩ = some (.int .i64 N)) (go_keep) (fail)
      all_goals
        go_wp2
        go_meet
      · have b3 := old_two (Below.refl _ ((w1.alloc (.cells (madeCells #[.float .f64 0] NN) 38)).alloc (.cells #[.int .i64 N, .int .i64 N, .slice (some ⟨w1.heap.size, 0, none⟩) NN NN] 24)))
        have T0 : TmS w ((w1.alloc (.cells (madeCells #[.float .f64 0] NN) 38)).alloc (.cells #[.int .i64 N, .int .i64 N, .slice (some ⟨w1.heap.size, 0, none⟩) NN NN] 24)) N lo ls.length lc dO ds.length dc (w1.heap.size + 1) w1.heap.size N NN (fun _ => 0) :=
          ⟨S1.later b3, B3.newAt (by go_simp) _ _ _ _, (RRow.made w1 NN).below (below_one _ _) (by go_simp), by go_simp, by omega, by omega⟩
        exact ⟨_, _, rfl, T0.later (Below.refl _ _).drew⟩
      · have b3 := old_two (Below.refl _ ((w1.alloc (.cells #[.int .i64 N, .int .i64 N, .slice (some ⟨w1.heap.size + 1, 0, none⟩) NN NN] 24)).alloc (.cells (madeCells #[.float .f64 0] NN) 38)))
        have e1 := RRow.made (w1.alloc (.cells #[.int .i64 N, .int .i64 N, .slice (some ⟨w1.heap.size + 1, 0, none⟩) NN NN] 24)) NN
        rw [show (w1.alloc (.cells #[.int .i64 N, .int .i64 N, .slice (some ⟨w1.heap.size + 1, 0, none⟩) NN NN] 24)).heap.size = w1.heap.size + 1 by go_simp] at e1
        have T0 : TmS w ((w1.alloc (.cells #[.int .i64 N, .int .i64 N, .slice (some ⟨w1.heap.size + 1, 0, none⟩) NN NN] 24)).alloc (.cells (madeCells #[.float .f64 0] NN) 38)) N lo ls.length lc dO ds.length dc w1.heap.size (w1.heap.size + 1) N NN (fun _ => 0) :=
          ⟨S1.later b3, (B3.new _ _ _ _ _).alloc _, e1, by go_simp, by omega, by omega⟩
        exact ⟨_, _, rfl, T0.later (Below.refl _ _).drew⟩
    clear S1 f0 f1 f2 hmk cr
    obtain ⟨M, g, rfl, SM⟩ := hcut
    have q1 := fun x y w => run_op4 (P := Try.prog) (op := .add) (Or.inl rfl) 38 x y w
    have q2 := fun x y w => run_op4 (P := Try.prog) (op := .mul) opMu 38 x y w
    have hst := vstoref Try.prog
    have HFin : Hid (∀ z W, RRow W g NN z → Dn (tmO (lsF ls) (dsF ds)) N z N 0 → w.heap.size ≤ g → Below w.heap.size w W → GaveF w (tabM N N (tmO (lsF ls) (dsF ds))) (.slice (some ⟨g, 0, none⟩) NN NN) W) := fun z W k1 k2 k3 k4 => by
      have := k1.gave (R := N) (C := N) (o := tmO (lsF ls) (dsF ds)) HNN.out (fun p hp => by
        rw [← HNN.out] at hp
        obtain ⟨d1, d2⟩ := div_lt' (R := N) (C := N) hp
        have := k2 (p / N) (p % N) d1 d2 (Or.inl (by omega))
        rw [Nat.mul_comm, Nat.div_add_mod] at this
        exact this) k3 k4
      exact this
    clear eM
    go_wp2
    go_loopg [5] N (fun gg s5 wr => ∃ (i : Nat) (z : Nat → Nat), i ≤ N ∧ gg = N - i ∧ s5 = .int .i64 i ∧ Hid (Dn (tmO (lsF ls) (dsF ds)) N z i 0) ∧ TmS w wr N lo ls.length lc dO ds.length dc M g N NN z)
    case atStart => exact ⟨0, _, Nat.zero_le _, rfl, rfl, fun a b _ _ h => by omega, SM⟩
    case round =>
      clear SM
      obtain ⟨i, z, hi, hg, rfl, hDn, S⟩ := hrel
      have HG : Hid (gk = N - i) := hg
      clear hg
      obtain ⟨f0, f1, f2, _⟩ := id S.st.fbox
      by_cases hlt : i < N
      · have i1 : (i : Int) < (N : Int) := by omega
        go_wp2
        clear f0 f1 f2
        go_loopg [6] (i + 1) (fun gg s6 wr => ∃ (j : Nat) (z : Nat → Nat), j ≤ i + 1 ∧ gg = i + 1 - j ∧ s6 = .int .i64 j ∧ Hid (Dn (tmO (lsF ls) (dsF ds)) N z i j) ∧ TmS w wr N lo ls.length lc dO ds.length dc M g N NN z)
        case atStart => exact ⟨0, z, Nat.zero_le _, rfl, rfl, hDn, S⟩
        case round =>
          clear S hDn
          obtain ⟨j, z, hj, hg, rfl, hDn, S⟩ := hrel
          have HG2 : Hid (gk = i + 1 - j) := hg
          clear hg
          by_cases hlt2 : j < i + 1
          · have i2 : (j : Int) ≤ (i : Int) := by omega
            go_wp2
            go_loopg [7, 8] (j + 1) (fun gg s7 s8 wv => ∃ k r : Nat, k ≤ j + 1 ∧ gg = j + 1 - k ∧ s7 = .float .f64 r ∧ s8 = .int .i64 k ∧ Hid (NR (tiO (lsF ls) (dsF ds) i j k) r) ∧ Hid (Below wr.heap.size wr wv))
            case atStart => exact ⟨0, 0, Nat.zero_le _, rfl, rfl, rfl, NR_zero, Below.refl _ _⟩
            case round =>
              obtain ⟨k, r, hk, hg, rfl, rfl, hN3, hBl⟩ := hrel
              have HG3 : Hid (gk = j + 1 - k) := hg
              clear hg
              have SB := S.later hBl.out
              by_cases hlt3 : k < j + 1
              · have i3 : (k : Int) ≤ (j : Int) := by omega
                have hkd : k < ds.length := by rw [HDD.out]; omega
                have hkdI : (k : Int) < (ds.length : Int) := by omega
                have htl := fun a (ha : a ≤ i) => (show tri (a + 1) ≤ ls.length by rw [HL.out]; exact tri_mono (by omega))
                have ci := fun W h => rlat2_any ls i k lc lo W h (by omega) (by omega) (htl i (Nat.le_refl _))
                have cj := fun W h => rlat2_any ls j k lc lo W h (by omega) (by omega) (htl j (by omega))
                obtain ⟨b, off, rfl⟩ : ∃ b off, dO = some ⟨b, off, none⟩ := by
                  rcases hD with h | ⟨b, off, rfl, _⟩
                  · omega
                  · exact ⟨b, off, rfl⟩
                have HWx : Hid (∀ a, k ≤ a → a ≤ i → eL (lsF ls) a k < 18446744073709551616) := fun a h1 h2 => by
                  unfold eL
                  split
                  · omega
                  · have h3 := tri_in (show k < a by omega) (show a < N by omega)
                    exact fL.at (by rw [HL.out]; exact h3)
                have HSU : Hid (∀ W W' W'', NR (tiO (lsF ls) (dsF ds) i j (k + 1)) (opR .add r (opR .mul (opR .mul (eL (lsF ls) i k) (ds.getD k 0) W) (eL (lsF ls) j k) W') W'')) := fun W W' W'' => by
                  rw [tiO]
                  exact opO_NR (Or.inl rfl) hN3.out (opO_NR opMu (opO_NR opMu (toO_NR (HWx.out i (by omega) (Nat.le_refl _))) (toO_NR (fD.at hkd)) W) (toO_NR (HWx.out j (by omega) (by omega))) W') W''
                have hd0 := row_to (w0 := w) hD SB.st.below hkd
                generalize eL (lsF ls) i k = x at *
                generalize eL (lsF ls) j k = y at *
                generalize ds.getD k 0 = dk at *
                have SBd := SB.later (Below.refl _ _).drew
                have hL0 := hL.below SBd.st.below
                have SBm := SBd.later (opW_below .mul x dk (Below.refl _ _))
                have hL1 := hL.below SBm.st.below
                obtain ⟨f0, f1, f2, _⟩ := id SB.st.fbox
                obtain ⟨f0', f1', f2', _⟩ := id SBm.st.fbox
                have HB0 := hBl.out.drew
                clear hN3 HWx htl
                go_wp2
                go_region_with (go_at_call 35; refine (ci _ hL0).mono ?_; rintro e w' ⟨rfl, h'⟩; subst w')
                all_goals
                 go_wp2_with (go_at_call 35; refine (cj _ hL1).mono ?_; rintro e w' ⟨rfl, h'⟩; subst w')
                 go_roundg (j + 1 - (k + 1))
                 case measure => rw [HG3.out]; omega
                 case rel => exact ⟨k + 1, _, by omega, rfl, rfl, by go_num, HSU.out _ _ _, opW_below .add _ _ (opW_below .mul _ _ (opW_below .mul _ _ HB0))⟩
              · have ek : k = j + 1 := by omega
                have i3 : ¬ (k : Int) ≤ (j : Int) := by omega
                have HR : NR (tmO (lsF ls) (dsF ds) i j) r := by
                  rw [tmO_low (by omega), ← ek]
                  exact hN3.out
                have hDn2 := hDn.out.step (tmO_comm _ _) hlt (by omega) HR
                have hp1 := at_lt hlt (show j < N by omega)
                have hp2 := at_lt (show j < N by omega) hlt
                rw [HNN.out] at hp1 hp2
                have hm1 := mul48 (show i ≤ 48 by omega) hN
                have hm2 := mul48 (show j ≤ 48 by omega) hN
                have e1 : (i : Int) * (N : Int) = ((i * N : Nat) : Int) := mulI
                have e2 : (j : Int) * (N : Int) = ((j * N : Nat) : Int) := mulI
                have SC := SB.set (i * N + j) r
                have SD := SC.set (j * N + i) r
                generalize i * N = p at *
                generalize j * N = q at *
                have g1 := World.rowIs.cell SB.row hp1
                have g2 := World.rowIs.frozen SB.row (p + j)
                have g3 := World.rowIs.cell SC.row hp2
                have g4 := World.rowIs.frozen SC.row (q + i)
                obtain ⟨f0, f1, f2, _⟩ := id SB.st.fbox
                obtain ⟨m0, m1, m2, _⟩ := id SB.mbox
                obtain ⟨f0', f1', f2', _⟩ := id SC.st.fbox
                obtain ⟨m0', m1', m2', _⟩ := id SC.mbox
                have j1 : (p : Int) + (j : Int) < (NN : Int) := by omega
                have j2 : (q : Int) + (i : Int) < (NN : Int) := by omega
                have j3 : ((p : Int) + (j : Int)).toNat = p + j := by omega
                have j4 : ((q : Int) + (i : Int)).toNat = q + i := by omega
                clear HR hDn hN3 ek
                go_wp2
                go_roundg (i + 1 - (j + 1))
                case measure => rw [HG2.out]; omega
                case rel => exact ⟨j + 1, _, by omega, rfl, by go_num, hDn2, SD⟩
          · have ej : j = i + 1 := by omega
            have i2 : ¬ (j : Int) ≤ (i : Int) := by omega
            have hDn2 := hDn.out
            rw [ej] at hDn2
            clear ej hDn
            go_wp2
            go_roundg (N - (i + 1))
            case measure => rw [HG.out]; omega
            case rel => exact ⟨i + 1, z, by omega, rfl, by go_num, hDn2.next, S⟩
      · have ei : i = N := by omega
        have i1 : ¬ (i : Int) < (N : Int) := by omega
        have hDn2 := hDn.out
        rw [ei] at hDn2
        clear ei hDn
        obtain ⟨t0, t1, t2, s0, s1, s2, _⟩ := id S.st.res
        obtain ⟨m0, m1, m2, _⟩ := id S.mbox
        have hgo := S.lo'
        have hF := fun x y z' => HFin.out z _ (row_three S.row (show g ≠ w.heap.size + 1 by omega) x y z') hDn2 (by omega) (set_three S.st.below (by omega) x y z')
        clear hDn2 HFin
        go_wp2
        exact bodyPost_ret (v := .tuple #[mxV N N (some ⟨g, 0, none⟩) NN NN, .int .i64 0]) (by simp [results, Try.results14, go_sem, t0, t1, t2]) rfl ⟨_, rfl, hF _ _ _⟩
end Go.Proofs.Ytbnjjoaippoinaa
