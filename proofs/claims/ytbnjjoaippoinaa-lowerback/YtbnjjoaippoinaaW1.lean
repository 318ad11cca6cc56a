/- What stands in memory while a matrix is taken apart. -/
import Derived.Test.YtbnjjoaippoinaaU4
import Derived.Test.YtbnjjoaippoinaaMx7
import Derived.Deep.QuietTactic
import Derived.BigQuiet
import Derived.Test.YtbnjjoaippoinaaU1
namespace Go.Proofs.Ytbnjjoaippoinaa
open Go.RowKit

/-- Where row i of L begins. -/
def tri : Nat → Nat
  | 0 => 0
  | i + 1 => tri i + i
theorem tri_two (i : Nat) : (i : Int) * ((i : Int) - 1) = 2 * (tri i : Int) := by
  induction i with
  | zero => rfl
  | succ n ih =>
    have e : ((n + 1 : Nat) : Int) * (((n + 1 : Nat) : Int) - 1) = (n : Int) * ((n : Int) - 1) + 2 * (n : Int) := by
      push_cast
      rw [Int.add_sub_cancel, Int.add_mul, Int.mul_sub, Int.one_mul, Int.mul_one]
      omega
    rw [e, ih, tri]
    push_cast
    omega
theorem tri_mono {a b : Nat} (h : a ≤ b) : tri a ≤ tri b := by
  induction b with
  | zero => rw [show a = 0 by omega]; exact Nat.le_refl _
  | succ n ih =>
    by_cases e : a = n + 1
    · rw [e]; exact Nat.le_refl _
    · exact Nat.le_trans (ih (by omega)) (by rw [tri]; omega)
theorem tri_in {i k N : Nat} (hk : k < i) (hi : i < N) : tri i + k < tri N := by
  have := tri_mono (show i + 1 ≤ N by omega)
  rw [tri] at this
  omega
theorem tri_49 : tri 49 = 1176 := by decide
theorem tri_le {i : Nat} (h : i ≤ 49) : tri i ≤ 1176 := by rw [← tri_49]; exact tri_mono h
theorem tri_inj {i k i' k' : Nat} (hk : k < i) (hk' : k' < i') (h : tri i + k = tri i' + k') : i = i' ∧ k = k' := by
  rcases Nat.lt_trichotomy i i' with g | g | g
  · have := tri_in hk g; omega
  · subst g; omega
  · have := tri_in hk' g; omega
/-- Products taken off one after the other. -/
def lesO (s : Option Nat) (a b : Nat → Option Nat) : Nat → Option Nat
  | 0 => s
  | k + 1 => opO .sub (lesO s a b k) (opO .mul (a k) (b k))
theorem lesO_congr {s : Option Nat} {a b a' b' : Nat → Option Nat} {n : Nat} (ha : ∀ k, k < n → a k = a' k) (hb : ∀ k, k < n → b k = b' k) : lesO s a b n = lesO s a' b' n := by
  induction n with
  | zero => rfl
  | succ k ih => rw [lesO, lesO, ih (fun j hj => ha j (by omega)) (fun j hj => hb j (by omega)), ha k (by omega), hb k (by omega)]
/-- L, by rows and columns; D. -/
def vO (f : Nat → Nat → Nat) (d : Nat → Nat) (j k : Nat) : Option Nat := opO .mul (toO (f j k)) (toO (d k))
def pivO (m : Nat → Nat → Nat) (f : Nat → Nat → Nat) (d : Nat → Nat) (j : Nat) : Option Nat := lesO (toO (m j j)) (vO f d j) (fun k => toO (f j k)) j
def quoO (m : Nat → Nat → Nat) (f : Nat → Nat → Nat) (d : Nat → Nat) (j i : Nat) : Option Nat := opO .quo (lesO (toO (m i j)) (fun k => toO (f i k)) (vO f d j) j) (toO (d j))
/-- A finite float above 0. -/
def posB (u : Nat) : Bool := decide (0 < u) && decide (u < 9218868437227405312)
def posO (o : Option Nat) : Bool := match o with | some u => posB u | none => false
def finO (o : Option Nat) : Bool := match o with | some u => finB u | none => false
/-- The columns ahead of c are what they must be. -/
def Col (m : Nat → Nat → Nat) (N : Nat) (f : Nat → Nat → Nat) (d : Nat → Nat) (c : Nat) : Prop :=
  ∀ j, j < c → pivO m f d j = some (d j) ∧ posB (d j) = true ∧ ∀ i, j < i → i < N → quoO m f d j i = some (f i j) ∧ finB (f i j) = true
theorem vO_congr {f f' : Nat → Nat → Nat} {d d' : Nat → Nat} {j k : Nat} (h1 : f j k = f' j k) (h2 : d k = d' k) : vO f d j k = vO f' d' j k := by unfold vO; rw [h1, h2]
theorem pivO_congr {m f f' : Nat → Nat → Nat} {d d' : Nat → Nat} {j : Nat} (h1 : ∀ k, k < j → f j k = f' j k) (h2 : ∀ k, k < j → d k = d' k) : pivO m f d j = pivO m f' d' j :=
  lesO_congr (fun k hk => vO_congr (h1 k hk) (h2 k hk)) (fun k hk => by rw [h1 k hk])
theorem quoO_congr {m f f' : Nat → Nat → Nat} {d d' : Nat → Nat} {j i : Nat} (h1 : ∀ k, k < j → f j k = f' j k) (h2 : ∀ k, k < j → d k = d' k) (h3 : ∀ k, k < j → f i k = f' i k) (h4 : d j = d' j) : quoO m f d j i = quoO m f' d' j i := by
  unfold quoO
  rw [h4, lesO_congr (fun k hk => by rw [h3 k hk]) (fun k hk => vO_congr (h1 k hk) (h2 k hk))]
theorem Col.congr {m f f' : Nat → Nat → Nat} {d d' : Nat → Nat} {N c : Nat} (h : Col m N f d c) (hc : c ≤ N) (h1 : ∀ k i, k < c → k < i → i < N → f i k = f' i k) (h2 : ∀ k, k < c → d k = d' k) : Col m N f' d' c := fun j hj => by
  obtain ⟨g1, g2, g3⟩ := h j hj
  refine ⟨?_, by rw [← h2 j hj]; exact g2, fun i hi hN => ?_⟩
  · rw [← h2 j hj, ← g1]
    exact (pivO_congr (fun k hk => h1 k j (by omega) hk (by omega)) (fun k hk => h2 k (by omega))).symm
  · obtain ⟨k1, k2⟩ := g3 i hi hN
    rw [← h1 j i hj hi hN]
    exact ⟨by rw [← k1]; exact (quoO_congr (fun k hk => h1 k j (by omega) hk (by omega)) (fun k hk => h2 k (by omega)) (fun k hk => h1 k i (by omega) (by omega) hN) (h2 j hj)).symm, k2⟩
/-- There is but one. -/
theorem Col.one {m f f' : Nat → Nat → Nat} {d d' : Nat → Nat} {N : Nat} : ∀ {c : Nat}, c ≤ N → Col m N f d c → Col m N f' d' c → (∀ k i, k < c → k < i → i < N → f i k = f' i k) ∧ ∀ k, k < c → d k = d' k
  | 0, _, _, _ => ⟨fun k _ h => by omega, fun k h => by omega⟩
  | c + 1, hc, h, g => by
    obtain ⟨p1, p2⟩ := Col.one (c := c) (by omega) (fun j hj => h j (by omega)) (fun j hj => g j (by omega))
    obtain ⟨h1, _, h3⟩ := h c (by omega)
    obtain ⟨g1, _, g3⟩ := g c (by omega)
    have e1 : d c = d' c := by
      have := pivO_congr (m := m) (fun k hk => p1 k c hk hk (by omega)) (fun k hk => p2 k hk)
      rw [h1, g1] at this
      exact Option.some.inj this
    refine ⟨fun k i hk hi hN => ?_, fun k hk => ?_⟩
    · by_cases e : k = c
      · subst e
        have := quoO_congr (m := m) (fun k' hk' => p1 k' k hk' hk' (by omega)) (fun k hk => p2 k hk) (fun k' hk' => p1 k' i hk' (by omega) hN) e1
        rw [(h3 i hi hN).1, (g3 i hi hN).1] at this
        exact Option.some.inj this
      · exact p1 k i (by omega) hi hN
    · by_cases e : k = c
      · subst e; exact e1
      · exact p2 k (by omega)
/-- How it ends: the error, and the row that is told beside it. -/
def Out (m : Nat → Nat → Nat) (N : Nat) (f : Nat → Nat → Nat) (d : Nat → Nat) (e : Int) (r : Nat) : Prop :=
  (e = 0 ∧ r = 0 ∧ Col m N f d N) ∨ (e = 220 ∧ r < N ∧ Col m N f d r ∧ posO (pivO m f d r) = false) ∨
  (e = 6 ∧ r < N ∧ Col m N f d r ∧ pivO m f d r = some (d r) ∧ posB (d r) = true ∧ ∃ i, r < i ∧ i < N ∧ finO (quoO m f d r i) = false)
theorem Col.less {m f : Nat → Nat → Nat} {d : Nat → Nat} {N a b : Nat} (h : Col m N f d b) (hab : a ≤ b) : Col m N f d a := fun j hj => h j (by omega)
theorem pos_at {m f f' : Nat → Nat → Nat} {d d' : Nat → Nat} {N r c : Nat} (h : Col m N f d c) (hr : r < c) (hc : c ≤ N) (g : Col m N f' d' r) : pivO m f' d' r = some (d r) ∧ posB (d r) = true := by
  obtain ⟨p1, p2⟩ := Col.one (by omega) (h.less (Nat.le_of_lt hr)) g
  obtain ⟨h1, h2, _⟩ := h r hr
  exact ⟨by rw [← h1]; exact (pivO_congr (fun k hk => p1 k r hk hk (by omega)) (fun k hk => p2 k hk)).symm, h2⟩
theorem fin_at' {m f f' : Nat → Nat → Nat} {d d' : Nat → Nat} {N r c i : Nat} (h : Col m N f d c) (hr : r < c) (hc : c ≤ N) (g : Col m N f' d' r) (gp : pivO m f' d' r = some (d' r)) (hi : r < i) (hN : i < N) : finO (quoO m f' d' r i) = true := by
  obtain ⟨p1, p2⟩ := Col.one (by omega) (h.less (Nat.le_of_lt hr)) g
  have e1 : d r = d' r := by
    have := (pos_at h hr hc g).1
    rw [gp] at this
    exact (Option.some.inj this).symm
  obtain ⟨_, _, h3⟩ := h r hr
  obtain ⟨k1, k2⟩ := h3 i hi hN
  rw [← quoO_congr (m := m) (fun k hk => p1 k r hk hk (by omega)) (fun k hk => p2 k hk) (fun k hk => p1 k i hk (by omega) hN) e1, k1]
  exact k2
theorem out_half {m f f' : Nat → Nat → Nat} {d d' : Nat → Nat} {N r c : Nat} (h : Col m N f d c) (hr : r < c) (hc : c ≤ N) {e : Int} (he : e ≠ 0) (g : Out m N f' d' e r) : False := by
  rcases g with ⟨h0, _⟩ | ⟨_, _, g1, g2⟩ | ⟨_, _, g1, g2, _, i, g4, g5, g6⟩
  · exact he h0
  · rw [(pos_at h hr hc g1).1] at g2
    rw [show posO (some (d r)) = posB (d r) from rfl, (pos_at h hr hc g1).2] at g2
    cases g2
  · rw [fin_at' h hr hc g1 g2 g4 g5] at g6
    cases g6
theorem Out.col {m f : Nat → Nat → Nat} {d : Nat → Nat} {N r : Nat} {e : Int} (h : Out m N f d e r) (he : e ≠ 0) : r < N ∧ Col m N f d r := by
  rcases h with ⟨h0, _⟩ | ⟨_, h1, h2, _⟩ | ⟨_, h1, h2, _⟩
  · exact absurd h0 he
  · exact ⟨h1, h2⟩
  · exact ⟨h1, h2⟩
theorem out_one {m f f' : Nat → Nat → Nat} {d d' : Nat → Nat} {N r r' : Nat} {e e' : Int} (h : Out m N f d e r) (g : Out m N f' d' e' r') : e = e' ∧ r = r' ∧ (e = 0 → (∀ k i, k < i → i < N → f i k = f' i k) ∧ ∀ k, k < N → d k = d' k) := by
  by_cases he : e = 0
  · have hC : Col m N f d N ∧ r = 0 := by
      rcases h with ⟨_, h1, h2⟩ | ⟨h0, _⟩ | ⟨h0, _⟩
      · exact ⟨h2, h1⟩
      · omega
      · omega
    by_cases he' : e' = 0
    · have gC : Col m N f' d' N ∧ r' = 0 := by
        rcases g with ⟨_, h1, h2⟩ | ⟨h0, _⟩ | ⟨h0, _⟩
        · exact ⟨h2, h1⟩
        · omega
        · omega
      obtain ⟨p1, p2⟩ := Col.one (Nat.le_refl _) hC.1 gC.1
      exact ⟨by omega, by omega, fun _ => ⟨fun k i hk hi => p1 k i (by omega) hk hi, p2⟩⟩
    · exact (out_half hC.1 (g.col he').1 (Nat.le_refl _) he' g).elim
  · obtain ⟨h1, h2⟩ := h.col he
    by_cases he' : e' = 0
    · have gC : Col m N f' d' N := by
        rcases g with ⟨_, _, k2⟩ | ⟨h0, _⟩ | ⟨h0, _⟩
        · exact k2
        · omega
        · omega
      exact (out_half gC h1 (Nat.le_refl _) he h).elim
    · obtain ⟨g1, g2⟩ := g.col he'
      have er : r = r' := by
        rcases Nat.lt_trichotomy r r' with q | q | q
        · exact (out_half g2 q (by omega) he h).elim
        · exact q
        · exact (out_half h2 q (by omega) he' g).elim
      subst er
      refine ⟨?_, rfl, fun h0 => absurd h0 he⟩
      obtain ⟨p1, p2⟩ := Col.one (by omega) h2 g2
      have ep := pivO_congr (m := m) (fun k hk => p1 k r hk hk h1) (fun k hk => p2 k hk)
      rcases h with ⟨h0, _⟩ | ⟨h0, _, _, k3⟩ | ⟨h0, _, _, k3, k4, _⟩
      · exact absurd h0 he
      · rcases g with ⟨g0, _⟩ | ⟨g0, _⟩ | ⟨g0, _, _, l3, l4, _⟩
        · exact absurd g0 he'
        · omega
        · exfalso
          rw [ep, l3, show posO (some (d' r)) = posB (d' r) from rfl, l4] at k3
          cases k3
      · rcases g with ⟨g0, _⟩ | ⟨g0, _, _, l3⟩ | ⟨g0, _⟩
        · exact absurd g0 he'
        · exfalso
          rw [← ep, k3, show posO (some (d r)) = posB (d r) from rfl, k4] at l3
          cases l3
        · omega
end Go.Proofs.Ytbnjjoaippoinaa

namespace Go.Proofs.Ytbnjjoaippoinaa
open Go.RowKit

set_option maxHeartbeats 400000 in
theorem lstart_any (i t : Nat) (hi : i ≤ 49) (ht : tri i = t) (w : World) : Calls Try.prog 31 #[.int .i64 i] w fun e w' => e = .returned (.int .i64 t) ∧ w' = w := by
  have e0 := tri_two i
  have h0 := tri_le hi
  rw [ht] at e0 h0
  obtain ⟨q, hq⟩ : ∃ q : Int, q = 2 * (t : Int) := ⟨_, rfl⟩
  rw [← hq] at e0
  clear ht
  go_enter Try.func31, Try.ntmps31
  go_wp2
  go_ret
  exact ⟨rfl, rfl⟩
set_option maxHeartbeats 400000 in
theorem lfin_any (a : Nat) (ha : a < 18446744073709551616) (w : World) :
    Calls Try.prog 30 #[.float .f64 a] w fun e w' => e = .returned (.bool (finB a)) ∧ w' = w := by
  go_enter Try.func30, Try.ntmps30
  go_wp2_with (go_at_call 39; refine (abs_any _ (by assumption) _).mono ?_; rintro e w' ⟨rfl, rfl⟩)
  go_ret
  exact ⟨end_bool (fin_le a), rfl⟩
theorem opSu : FourOp .sub := Or.inr (Or.inl rfl)
set_option maxHeartbeats 1000000 in
theorem lless_any (s : Nat) (o0 : Option Nat) (oa ob : Nat → Option Nat) (xs ys : List Nat) (ao bo : Option Addr) (cap cap2 : Nat) (w : World) (h0 : NR o0 s) (hr : GRow w ao xs) (hs : GRow w bo ys) (hF : ∀ k, k < xs.length → NR (oa k) (xs.getD k 0)) (hG : ∀ k, k < xs.length → NR (ob k) (ys.getD k 0)) (hn : xs.length ≤ 48) (hm : ys.length = xs.length) :
    Calls Try.prog 46 #[.float .f64 s, .slice ao xs.length cap, .slice bo ys.length cap2] w fun e w' => ∃ r, e = .returned (.float .f64 r) ∧ NR (lesO o0 oa ob xs.length) r ∧ Below w.heap.size w w' := by
  have HL : Hid (ys.length = xs.length) := hm
  clear hm
  have h1 := fun x y w => run_op4 (P := Try.prog) (op := .sub) opSu 38 x y w
  have h2 := fun x y w => run_op4 (P := Try.prog) (op := .mul) opMu 38 x y w
  go_enter Try.func46, Try.ntmps46
  go_wp2
  go_loopg [0, 7, 10] xs.length (fun g s1 _ i wr => ∃ k r : Nat, k ≤ xs.length ∧ g = xs.length - k ∧ s1 = .float .f64 r ∧ i = .int .i64 k ∧ Hid (NR (lesO o0 oa ob k) r) ∧ Hid (Below w.heap.size w wr))
  case atStart => exact ⟨0, s, Nat.zero_le _, rfl, rfl, rfl, h0, Below.refl _ _⟩
  case round =>
    obtain ⟨k, r, hk, hg, rfl, rfl, hN, hBl⟩ := hrel
    have HG : Hid (gk = xs.length - k) := hg
    clear hg
    by_cases hlt : k < xs.length
    · rcases hr.below hBl.out with h | ⟨b, off, rfl, hc⟩
      · omega
      rcases hs.below hBl.out with h | ⟨b2, off2, rfl, hd⟩
      · have := HL.out; omega
      have hlt2 : k < ys.length := by have := HL.out; omega
      have g1 := hc k hlt
      have g2 := hd k hlt2
      have hx := hF k hlt
      have hy := hG k hlt
      obtain ⟨x, ex⟩ : ∃ x, xs.getD k 0 = x := ⟨_, rfl⟩
      obtain ⟨y, ey⟩ : ∃ y, ys.getD k 0 = y := ⟨_, rfl⟩
      rw [ex] at hx g1
      rw [ey] at hy g2
      have HS : Hid (∀ W W', NR (lesO o0 oa ob (k + 1)) (opR .sub r (opR .mul x y W) W')) := fun W W' => by
        rw [lesO]
        exact opO_NR opSu hN.out (opO_NR opMu hx hy W) W'
      have HD := hBl.out.drew
      have i1 : (k : Int) < (xs.length : Int) := by omega
      have i2 : (k : Int) < (ys.length : Int) := by omega
      clear hc hd ex ey hN hlt2
      go_wp2
      go_region_with (fail)
      all_goals
       go_wp2
       go_roundg (xs.length - (k + 1))
       case measure => rw [HG.out]; omega
       case rel => exact ⟨k + 1, _, by omega, rfl, rfl, by go_num, HS.out _ _, opW_below .sub _ _ (opW_below .mul x y HD)⟩
    · have ek : k = xs.length := by omega
      subst ek
      have i1 : ¬ (xs.length : Int) < (xs.length : Int) := by omega
      go_wp2
      exact bodyPost_ret (v := .float .f64 r) (by simp [results, Try.results46, go_sem]) rfl ⟨_, rfl, hN.out, hBl.out⟩
/-- A factor as a value. -/
abbrev fcV (n : Int) (lo : Option Addr) (ln lc : Nat) (d : Option Addr) (dn dc : Nat) : Value := .agg #[.int .i64 n, .slice lo ln lc, .slice d dn dc]
set_option maxHeartbeats 1000000 in
theorem lrow_any (n : Int) (b off ln lc : Nat) (d : Option Addr) (dn dc i t : Nat) (w : World) (hi : i ≤ 48) (ht : tri i = t) (hl : t + i ≤ lc) :
    Calls Try.prog 45 #[fcV n (some ⟨b, off, none⟩) ln lc d dn dc, .int .i64 i] w fun e w' => ∃ o, e = .returned (.slice (some ⟨b, o, none⟩) i i) ∧ (i ≠ 0 → o = off + t) ∧ Below w.heap.size w w' := by
  have hb : ∀ o, Below w.heap.size w (w.alloc o) := fun o => below_one w o
  have c1 := fun w => lstart_any i t (by omega) ht w
  have c2 := fun w => lstart_any (i + 1) (t + i) (by omega) (by rw [tri, ht]) w
  clear ht
  go_enter Try.func45, Try.ntmps45
  go_wp2
  by_cases h0 : i = 0
  · have n1 : t + i = t := by omega
    have H0 : Hid (i = 0) := h0
    clear h0
    go_quiet ((first | (go_at_call_of 31 (Value.int IntKind.i64 (i : Int)); exact Calls.quiet_of_same (c1 _)) | (go_at_call 31; exact Calls.quiet_of_same (c2 _))))
    go_wp2
    exact bodyPost_ret (v := .slice (some ⟨b, off, none⟩) 0 0) (by simp [results, Try.results45, go_sem]) rfl ⟨off, by rw [H0.out], fun h => absurd H0.out h, below_drewN (hb _) _⟩
  · have n1 : ¬ t + i = t := by omega
    go_quiet ((first | (go_at_call_of 31 (Value.int IntKind.i64 (i : Int)); exact Calls.quiet_of_same (c1 _)) | (go_at_call 31; exact Calls.quiet_of_same (c2 _))))
    go_wp2
    exact bodyPost_ret (v := .slice (some ⟨b, off + t, none⟩) i i) (by simp [results, Try.results45, go_sem]) rfl ⟨_, rfl, fun _ => rfl, below_drewN (hb _) _⟩
end Go.Proofs.Ytbnjjoaippoinaa

namespace Go.Proofs.Ytbnjjoaippoinaa
open Go.RowKit

/-- L in memory, by rows and columns. -/
def LF (fl : Nat → Nat) (i k : Nat) : Nat := fl (tri i + k)
/-- The matrix by rows and columns. -/
def mE (N : Nat) (xs : List Nat) (i j : Nat) : Nat := xs.getD (i * N + j) 0
/-- The factor's box, the matrix's box, the room for v, L, D. -/
structure TkS (w0 wE wr : World) (Fb Mb gR gL gD N T : Nat) (ao : Option Addr) (n cap : Nat) (v fl d : Nat → Nat) : Prop where
  fbox : B3 wr Fb (.int .i64 N) (.slice (some ⟨gL, 0, none⟩) T T) (.slice (some ⟨gD, 0, none⟩) N N)
  mbox : B3 wr Mb (.int .i64 N) (.int .i64 N) (.slice ao n cap)
  room : RRow wr gR N v
  lrow : RRow wr gL T fl
  drow : RRow wr gD N d
  lt : gR < wr.heap.size ∧ gL < wr.heap.size ∧ gD < wr.heap.size
  lo : w0.heap.size ≤ gR ∧ w0.heap.size ≤ gL ∧ w0.heap.size ≤ gD
  ne : gR ≠ gL ∧ gR ≠ gD ∧ gL ≠ gD ∧ gR ≠ Fb ∧ gL ≠ Fb ∧ gD ≠ Fb ∧ gR ≠ Mb ∧ gL ≠ Mb ∧ gD ≠ Mb
  below : Below w0.heap.size w0 wr
  gR : wE.heap.size ≤ gR
  keep : ∀ b x y z, b < wE.heap.size → b ≠ gL → b ≠ gD → B3 wE b x y z → B3 wr b x y z
variable {w0 wE wr w1 : World} {Fb Mb gR gL gD N T : Nat} {ao : Option Addr} {n cap : Nat} {v fl d : Nat → Nat}
theorem TkS.later (h : TkS w0 wE wr Fb Mb gR gL gD N T ao n cap v fl d) (hb : Below wr.heap.size wr w1) : TkS w0 wE w1 Fb Mb gR gL gD N T ao n cap v fl d :=
  ⟨h.fbox.below hb, h.mbox.below hb, h.room.below hb h.lt.1, h.lrow.below hb h.lt.2.1, h.drow.below hb h.lt.2.2, ⟨Nat.lt_of_lt_of_le h.lt.1 hb.size, Nat.lt_of_lt_of_le h.lt.2.1 hb.size, Nat.lt_of_lt_of_le h.lt.2.2 hb.size⟩, h.lo, h.ne, h.below.trans (hb.mono h.below.size), h.gR, fun b x y z h1 h2 h3 h4 => (h.keep b x y z h1 h2 h3 h4).below hb⟩
theorem TkS.drew (h : TkS w0 wE wr Fb Mb gR gL gD N T ao n cap v fl d) : TkS w0 wE wr.drew Fb Mb gR gL gD N T ao n cap v fl d := h.later (Below.refl _ _).drew
theorem set_same_size (w : World) (p : Addr) (x : Value) : (w.setCell p x).heap.size = w.heap.size := by simp [World.setCell]
theorem TkS.setR (h : TkS w0 wE wr Fb Mb gR gL gD N T ao n cap v fl d) (q r : Nat) : TkS w0 wE (wr.setCell ⟨gR, q, none⟩ (.float .f64 r)) Fb Mb gR gL gD N T ao n cap (fun p => if p = q then r else v p) fl d := by
  obtain ⟨n1, n2, n3, n4, n5, n6, n7, n8, n9⟩ := h.ne
  exact ⟨h.fbox.far n4 _, h.mbox.far n7 _, h.room.set q r, World.rowIs.setOther h.lrow (by exact n1.symm) _, World.rowIs.setOther h.drow (by exact n2.symm) _, by rw [set_same_size]; exact h.lt, h.lo, h.ne, h.below.setCell (by exact h.lo.1) _, h.gR, fun b x y z h1 h2 h3 h4 => (h.keep b x y z h1 h2 h3 h4).far (by have := h.gR; omega) _⟩
theorem TkS.setL (h : TkS w0 wE wr Fb Mb gR gL gD N T ao n cap v fl d) (q r : Nat) : TkS w0 wE (wr.setCell ⟨gL, q, none⟩ (.float .f64 r)) Fb Mb gR gL gD N T ao n cap v (fun p => if p = q then r else fl p) d := by
  obtain ⟨n1, n2, n3, n4, n5, n6, n7, n8, n9⟩ := h.ne
  exact ⟨h.fbox.far n5 _, h.mbox.far n8 _, World.rowIs.setOther h.room (by exact n1) _, h.lrow.set q r, World.rowIs.setOther h.drow (by exact n3.symm) _, by rw [set_same_size]; exact h.lt, h.lo, h.ne, h.below.setCell (by exact h.lo.2.1) _, h.gR, fun b x y z h1 h2 h3 h4 => (h.keep b x y z h1 h2 h3 h4).far (fun e => h2 e.symm) _⟩
theorem TkS.setD (h : TkS w0 wE wr Fb Mb gR gL gD N T ao n cap v fl d) (q r : Nat) : TkS w0 wE (wr.setCell ⟨gD, q, none⟩ (.float .f64 r)) Fb Mb gR gL gD N T ao n cap v fl (fun p => if p = q then r else d p) := by
  obtain ⟨n1, n2, n3, n4, n5, n6, n7, n8, n9⟩ := h.ne
  exact ⟨h.fbox.far n6 _, h.mbox.far n9 _, World.rowIs.setOther h.room (by exact n2) _, World.rowIs.setOther h.lrow (by exact n3) _, h.drow.set q r, by rw [set_same_size]; exact h.lt, h.lo, h.ne, h.below.setCell (by exact h.lo.2.2) _, h.gR, fun b x y z h1 h2 h3 h4 => (h.keep b x y z h1 h2 h3 h4).far (fun e => h3 e.symm) _⟩
theorem RRow.part {w : World} {g m : Nat} {f : Nat → Nat} (h : RRow w g m f) {o t j : Nat} (ho : j ≠ 0 → o = t) (hj : t + j ≤ m) : GRow w (some ⟨g, o, none⟩) (toL' j fun k => f (t + k)) := by
  by_cases hz : j = 0
  · left; rw [toL'_len]; exact hz
  · rw [ho hz]
    refine Or.inr ⟨g, t, rfl, fun k hk => ?_⟩
    rw [toL'_len] at hk
    rw [toL'_at hk]
    exact World.rowIs.cell h (by omega)
theorem row_to {xs : List Nat} {b : Nat} {off : Nat} (hz : GRow w0 (some ⟨b, off, none⟩) xs) (hb : Below w0.heap.size w0 wr) {q : Nat} (hq : q < xs.length) : wr.cell? ⟨b, off + q, none⟩ = some (.float .f64 (xs.getD q 0)) := by
  rcases hz.below hb with h | ⟨b', off', e, hc⟩
  · omega
  · cases e; exact hc q hq
/-- A float that is finite is told. -/
theorem NR_fin {o : Option Nat} {r : Nat} (h : NR o r) (f : finB r = true) : o = some r := by
  cases o with
  | none =>
    have h2 : nanB r = true := h.2
    unfold nanB at h2; unfold finB at f
    simp at h2 f
    omega
  | some u => rw [h.2]
theorem posB_fin {u : Nat} (h : posB u = true) : finB u = true ∧ u < 18446744073709551616 := by
  unfold posB at h
  simp at h
  refine ⟨?_, by omega⟩
  unfold finB rung
  rw [Nat.mod_eq_of_lt (by omega)]
  simp; omega
theorem posO_not {o : Option Nat} {r : Nat} (h : NR o r) (f : posB r = false) : posO o = false := by
  cases o with
  | none => rfl
  | some u =>
    show posB u = false
    have e : r = u := h.2
    rw [← e]; exact f
theorem finO_not {o : Option Nat} {r : Nat} (h : NR o r) (f : finB r = false) : finO o = false := by
  cases o with
  | none => rfl
  | some u =>
    show finB u = false
    have e : r = u := h.2
    rw [← e]; exact f
theorem not_pos {r : Nat} (hr : r < 18446744073709551616) (f : finB r = true) : (FloatKind.f64.format.order r 0 == some .lt || FloatKind.f64.format.order r 0 == some .eq) = !posB r := by
  have nr : nanB r = false := by unfold finB at f; unfold nanB; simp at f ⊢; omega
  have n0 : nanB 0 = false := by decide
  have p0 : place 0 = 0 := by decide
  cases hp : posB r
  · have hle : place r ≤ 0 := by
      unfold posB at hp
      unfold finB at f
      unfold place sgn rung at *
      simp at hp f ⊢
      split <;> omega
    by_cases e : place r = 0
    · rw [ord_eq hr (by omega) nr n0 (by rw [e, p0])]; rfl
    · rw [ord_lt hr (by omega) nr n0 (by rw [p0]; omega)]; rfl
  · have hlt : 0 < place r := by
      unfold posB at hp
      unfold place sgn rung
      simp at hp ⊢
      split <;> omega
    rw [ord_gt hr (by omega) nr n0 (by rw [p0]; omega)]; rfl
theorem fin_wordL {xs : List Nat} (hF : FW xs) {q : Nat} (hq : q < xs.length) : NR (toO (xs.getD q 0)) (xs.getD q 0) := toO_NR (hF.at hq)
theorem LF_set {fl : Nat → Nat} {i j r i' k : Nat} (hk : k < i') (hj : j < i) : LF (fun p => if p = tri i + j then r else fl p) i' k = if i' = i ∧ k = j then r else LF fl i' k := by
  show (if tri i' + k = tri i + j then r else fl (tri i' + k)) = if i' = i ∧ k = j then r else fl (tri i' + k)
  by_cases h : tri i' + k = tri i + j
  · rw [if_pos h, if_pos (tri_inj hk hj h)]
  · rw [if_neg h, if_neg (fun e => h (by rw [e.1, e.2]))]
theorem Col.setD {m f : Nat → Nat → Nat} {N j r : Nat} {d : Nat → Nat} (h : Col m N f d j) (hj : j ≤ N) : Col m N f (fun p => if p = j then r else d p) j :=
  h.congr hj (fun _ _ _ _ _ => rfl) (fun k hk => (if_neg (show ¬ k = j by omega)).symm)
theorem piv_setD {m f : Nat → Nat → Nat} {j r : Nat} {d : Nat → Nat} : pivO m f (fun p => if p = j then r else d p) j = pivO m f d j :=
  pivO_congr (fun _ _ => rfl) (fun k hk => if_neg (show ¬ k = j by omega))
theorem vs_setD {f : Nat → Nat → Nat} {j r : Nat} {d v : Nat → Nat} (h : ∀ q, q < j → NR (vO f d j q) (v q)) : ∀ q, q < j → NR (vO f (fun p => if p = j then r else d p) j q) (v q) := fun q hq => by
  rw [vO_congr (f' := f) (d' := d) rfl (if_neg (show ¬ q = j by omega))]
  exact h q hq
/-- The rows of column j, those ahead of i done. -/
structure RowI (m : Nat → Nat → Nat) (N : Nat) (fl d v : Nat → Nat) (j i : Nat) : Prop where
  col : Col m N (LF fl) d j
  piv : pivO m (LF fl) d j = some (d j)
  pos : posB (d j) = true
  ahead : ∀ i', j < i' → i' < i → quoO m (LF fl) d j i' = some (LF fl i' j) ∧ finB (LF fl i' j) = true
  wd : ∀ p, d p < 18446744073709551616
  wl : ∀ p, fl p < 18446744073709551616
  vs : ∀ q, q < j → NR (vO (LF fl) d j q) (v q)
theorem LF_old {fl : Nat → Nat} {i j r i' k : Nat} (hk : k < i') (hj : j < i) (h : k ≠ j) : LF fl i' k = LF (fun p => if p = tri i + j then r else fl p) i' k := by
  rw [LF_set hk hj, if_neg (fun e => h e.2)]
theorem RowI.store {m : Nat → Nat → Nat} {N : Nat} {fl d v : Nat → Nat} {j i : Nat} (h : RowI m N fl d v j i) (hj : j < i) (hN : i < N) {r : Nat} (hq : NR (quoO m (LF fl) d j i) r) :
    RowI m N (fun p => if p = tri i + j then r else fl p) d v j i ∧ NR (quoO m (LF fun p => if p = tri i + j then r else fl p) d j i) r := by
  have o := fun {i' k : Nat} (hk : k < i') (hkj : k ≠ j) => LF_old (fl := fl) (r := r) hk hj hkj
  have q : ∀ i', j < i' → quoO m (LF fun p => if p = tri i + j then r else fl p) d j i' = quoO m (LF fl) d j i' := fun i' hi' => (quoO_congr (fun k hk => o hk (by omega)) (fun _ _ => rfl) (fun k hk => o (by omega) (by omega)) rfl).symm
  refine ⟨⟨h.col.congr (by omega) (fun k i' hk hki _ => o hki (by omega)) (fun _ _ => rfl), ?_, h.pos, fun i' h1 h2 => ?_, h.wd, fun p => ?_, fun k hk => ?_⟩, ?_⟩
  · rw [← h.piv]; exact (pivO_congr (fun k hk => o hk (by omega)) (fun _ _ => rfl)).symm
  · rw [q i' h1, LF_set h1 hj, if_neg (by omega)]
    exact h.ahead i' h1 h2
  · show (if p = tri i + j then r else fl p) < _
    split
    · exact hq.1
    · exact h.wl p
  · rw [vO_congr (o hk (by omega)).symm rfl]
    exact h.vs k hk
  · rw [q i hj]; exact hq
theorem RowI.step {m : Nat → Nat → Nat} {N : Nat} {fl d v : Nat → Nat} {j i : Nat} (h : RowI m N fl d v j i) (hj : j < i) (hN : i < N) {r : Nat} (hq : NR (quoO m (LF fl) d j i) r) (hf : finB r = true) :
    RowI m N (fun p => if p = tri i + j then r else fl p) d v j (i + 1) := by
  obtain ⟨g, q⟩ := h.store hj hN hq
  refine ⟨g.col, g.piv, g.pos, fun i' h1 h2 => ?_, g.wd, g.wl, g.vs⟩
  by_cases e : i' = i
  · subst e
    have e1 : LF (fun p => if p = tri i' + j then r else fl p) i' j = r := by rw [LF_set hj hj, if_pos ⟨rfl, rfl⟩]
    rw [e1]
    exact ⟨NR_fin q hf, hf⟩
  · exact g.ahead i' h1 (by omega)
theorem RowI.bad {m : Nat → Nat → Nat} {N : Nat} {fl d v : Nat → Nat} {j i : Nat} (h : RowI m N fl d v j i) (hj : j < i) (hN : i < N) {r : Nat} (hq : NR (quoO m (LF fl) d j i) r) (hf : finB r = false) :
    Out m N (LF fun p => if p = tri i + j then r else fl p) d 6 j := by
  obtain ⟨g, q⟩ := h.store hj hN hq
  exact Or.inr (Or.inr ⟨rfl, by omega, g.col, g.piv, g.pos, i, hj, hN, finO_not q hf⟩)
theorem RowI.done {m : Nat → Nat → Nat} {N : Nat} {fl d v : Nat → Nat} {j : Nat} (h : RowI m N fl d v j N) : Col m N (LF fl) d (j + 1) := fun k hk => by
  by_cases e : k = j
  · subst e
    exact ⟨h.piv, h.pos, h.ahead⟩
  · exact h.col k (by omega)
theorem word_setD {d : Nat → Nat} {j r : Nat} (h : ∀ p, d p < 18446744073709551616) (hr : r < 18446744073709551616) : ∀ p, (fun p => if p = j then r else d p) p < 18446744073709551616 := fun p => by
  show (if p = j then r else d p) < _
  split
  · exact hr
  · exact h p
end Go.Proofs.Ytbnjjoaippoinaa
