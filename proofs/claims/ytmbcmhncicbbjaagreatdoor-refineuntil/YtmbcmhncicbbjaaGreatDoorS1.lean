/- Layer 12: what Right and the kit's SameFactor answer. -/
import Derived.Test.YtmbcmhncicbbjaaGreatDoorU4
import Derived.Test.YtmbcmhncicbbjaaGreatDoorMx7
import Derived.Deep.QuietTactic
import Derived.BigQuiet
namespace Go.Proofs.YtmbcmhncicbbjaaGreatDoor
open Go.RowKit

/-- Where row i of L begins. -/
def tri : Nat → Nat
  | 0 => 0
  | i + 1 => tri i + i
theorem tri_two (i : Nat) : (i : Int) * ((i : Int) - 1) = 2 * (tri i : Int) := by
  induction i with
  | zero => rfl
  | succ n ih =>
    have e : ((n + 1 : Nat) : Int) * (((n + 1 : Nat) : Int) - 1) = (n : Int) * ((n : Int) - 1) + 2 * (n : Int) := by
      push_cast
      rw [Int.add_sub_cancel, Int.add_mul, Int.mul_sub, Int.one_mul, Int.mul_one]
      omega
    rw [e, ih, tri]
    push_cast
    omega
theorem tri_mono {a b : Nat} (h : a ≤ b) : tri a ≤ tri b := by
  induction b with
  | zero => rw [show a = 0 by omega]; exact Nat.le_refl _
  | succ n ih =>
    by_cases e : a = n + 1
    · rw [e]; exact Nat.le_refl _
    · exact Nat.le_trans (ih (by omega)) (by rw [tri]; omega)
theorem tri_in {i k N : Nat} (hk : k < i) (hi : i < N) : tri i + k < tri N := by
  have := tri_mono (show i + 1 ≤ N by omega)
  rw [tri] at this
  omega
theorem tri_49 : tri 49 = 1176 := by decide
theorem tri_le {i : Nat} (h : i ≤ 49) : tri i ≤ 1176 := by rw [← tri_49]; exact tri_mono h
theorem tri_inj {i k i' k' : Nat} (hk : k < i) (hk' : k' < i') (h : tri i + k = tri i' + k') : i = i' ∧ k = k' := by
  rcases Nat.lt_trichotomy i i' with g | g | g
  · have := tri_in hk g; omega
  · subst g; omega
  · have := tri_in hk' g; omega
/-- Products taken off one after the other. -/
def lesO (s : Option Nat) (a b : Nat → Option Nat) : Nat → Option Nat
  | 0 => s
  | k + 1 => opO .sub (lesO s a b k) (opO .mul (a k) (b k))
theorem lesO_congr {s : Option Nat} {a b a' b' : Nat → Option Nat} {n : Nat} (ha : ∀ k, k < n → a k = a' k) (hb : ∀ k, k < n → b k = b' k) : lesO s a b n = lesO s a' b' n := by
  induction n with
  | zero => rfl
  | succ k ih => rw [lesO, lesO, ih (fun j hj => ha j (by omega)) (fun j hj => hb j (by omega)), ha k (by omega), hb k (by omega)]
/-- L, by rows and columns; D. -/
def vO (f : Nat → Nat → Nat) (d : Nat → Nat) (j k : Nat) : Option Nat := opO .mul (toO (f j k)) (toO (d k))
def pivO (m : Nat → Nat → Nat) (f : Nat → Nat → Nat) (d : Nat → Nat) (j : Nat) : Option Nat := lesO (toO (m j j)) (vO f d j) (fun k => toO (f j k)) j
def quoO (m : Nat → Nat → Nat) (f : Nat → Nat → Nat) (d : Nat → Nat) (j i : Nat) : Option Nat := opO .quo (lesO (toO (m i j)) (fun k => toO (f i k)) (vO f d j) j) (toO (d j))
/-- A finite float above 0. -/
def posB (u : Nat) : Bool := decide (0 < u) && decide (u < 9218868437227405312)
def posO (o : Option Nat) : Bool := match o with | some u => posB u | none => false
def finO (o : Option Nat) : Bool := match o with | some u => finB u | none => false
/-- The columns ahead of c are what they must be. -/
def Col (m : Nat → Nat → Nat) (N : Nat) (f : Nat → Nat → Nat) (d : Nat → Nat) (c : Nat) : Prop :=
  ∀ j, j < c → pivO m f d j = some (d j) ∧ posB (d j) = true ∧ ∀ i, j < i → i < N → quoO m f d j i = some (f i j) ∧ finB (f i j) = true
theorem vO_congr {f f' : Nat → Nat → Nat} {d d' : Nat → Nat} {j k : Nat} (h1 : f j k = f' j k) (h2 : d k = d' k) : vO f d j k = vO f' d' j k := by unfold vO; rw [h1, h2]
theorem pivO_congr {m f f' : Nat → Nat → Nat} {d d' : Nat → Nat} {j : Nat} (h1 : ∀ k, k < j → f j k = f' j k) (h2 : ∀ k, k < j → d k = d' k) : pivO m f d j = pivO m f' d' j :=
  lesO_congr (fun k hk => vO_congr (h1 k hk) (h2 k hk)) (fun k hk => by rw [h1 k hk])
theorem quoO_congr {m f f' : Nat → Nat → Nat} {d d' : Nat → Nat} {j i : Nat} (h1 : ∀ k, k < j → f j k = f' j k) (h2 : ∀ k, k < j → d k = d' k) (h3 : ∀ k, k < j → f i k = f' i k) (h4 : d j = d' j) : quoO m f d j i = quoO m f' d' j i := by
  unfold quoO
  rw [h4, lesO_congr (fun k hk => by rw [h3 k hk]) (fun k hk => vO_congr (h1 k hk) (h2 k hk))]
theorem Col.congr {m f f' : Nat → Nat → Nat} {d d' : Nat → Nat} {N c : Nat} (h : Col m N f d c) (hc : c ≤ N) (h1 : ∀ k i, k < c → k < i → i < N → f i k = f' i k) (h2 : ∀ k, k < c → d k = d' k) : Col m N f' d' c := fun j hj => by
  obtain ⟨g1, g2, g3⟩ := h j hj
  refine ⟨?_, by rw [← h2 j hj]; exact g2, fun i hi hN => ?_⟩
  · rw [← h2 j hj, ← g1]
    exact (pivO_congr (fun k hk => h1 k j (by omega) hk (by omega)) (fun k hk => h2 k (by omega))).symm
  · obtain ⟨k1, k2⟩ := g3 i hi hN
    rw [← h1 j i hj hi hN]
    exact ⟨by rw [← k1]; exact (quoO_congr (fun k hk => h1 k j (by omega) hk (by omega)) (fun k hk => h2 k (by omega)) (fun k hk => h1 k i (by omega) (by omega) hN) (h2 j hj)).symm, k2⟩
/-- There is but one. -/
theorem Col.one {m f f' : Nat → Nat → Nat} {d d' : Nat → Nat} {N : Nat} : ∀ {c : Nat}, c ≤ N → Col m N f d c → Col m N f' d' c → (∀ k i, k < c → k < i → i < N → f i k = f' i k) ∧ ∀ k, k < c → d k = d' k
  | 0, _, _, _ => ⟨fun k _ h => by omega, fun k h => by omega⟩
  | c + 1, hc, h, g => by
    obtain ⟨p1, p2⟩ := Col.one (c := c) (by omega) (fun j hj => h j (by omega)) (fun j hj => g j (by omega))
    obtain ⟨h1, _, h3⟩ := h c (by omega)
    obtain ⟨g1, _, g3⟩ := g c (by omega)
    have e1 : d c = d' c := by
      have := pivO_congr (m := m) (fun k hk => p1 k c hk hk (by omega)) (fun k hk => p2 k hk)
      rw [h1, g1] at this
      exact Option.some.inj this
    refine ⟨fun k i hk hi hN => ?_, fun k hk => ?_⟩
    · by_cases e : k = c
      · subst e
        have := quoO_congr (m := m) (fun k' hk' => p1 k' k hk' hk' (by omega)) (fun k hk => p2 k hk) (fun k' hk' => p1 k' i hk' (by omega) hN) e1
        rw [(h3 i hi hN).1, (g3 i hi hN).1] at this
        exact Option.some.inj this
      · exact p1 k i (by omega) hi hN
    · by_cases e : k = c
      · subst e; exact e1
      · exact p2 k (by omega)
/-- How it ends: the error, and the row that is told beside it. -/
def Out (m : Nat → Nat → Nat) (N : Nat) (f : Nat → Nat → Nat) (d : Nat → Nat) (e : Int) (r : Nat) : Prop :=
  (e = 0 ∧ r = 0 ∧ Col m N f d N) ∨ (e = 220 ∧ r < N ∧ Col m N f d r ∧ posO (pivO m f d r) = false) ∨
  (e = 6 ∧ r < N ∧ Col m N f d r ∧ pivO m f d r = some (d r) ∧ posB (d r) = true ∧ ∃ i, r < i ∧ i < N ∧ finO (quoO m f d r i) = false)
theorem Col.less {m f : Nat → Nat → Nat} {d : Nat → Nat} {N a b : Nat} (h : Col m N f d b) (hab : a ≤ b) : Col m N f d a := fun j hj => h j (by omega)
theorem pos_at {m f f' : Nat → Nat → Nat} {d d' : Nat → Nat} {N r c : Nat} (h : Col m N f d c) (hr : r < c) (hc : c ≤ N) (g : Col m N f' d' r) : pivO m f' d' r = some (d r) ∧ posB (d r) = true := by
  obtain ⟨p1, p2⟩ := Col.one (by omega) (h.less (Nat.le_of_lt hr)) g
  obtain ⟨h1, h2, _⟩ := h r hr
  exact ⟨by rw [← h1]; exact (pivO_congr (fun k hk => p1 k r hk hk (by omega)) (fun k hk => p2 k hk)).symm, h2⟩
theorem fin_at' {m f f' : Nat → Nat → Nat} {d d' : Nat → Nat} {N r c i : Nat} (h : Col m N f d c) (hr : r < c) (hc : c ≤ N) (g : Col m N f' d' r) (gp : pivO m f' d' r = some (d' r)) (hi : r < i) (hN : i < N) : finO (quoO m f' d' r i) = true := by
  obtain ⟨p1, p2⟩ := Col.one (by omega) (h.less (Nat.le_of_lt hr)) g
  have e1 : d r = d' r := by
    have := (pos_at h hr hc g).1
    rw [gp] at this
    exact (Option.some.inj this).symm
  obtain ⟨_, _, h3⟩ := h r hr
  obtain ⟨k1, k2⟩ := h3 i hi hN
  rw [← quoO_congr (m := m) (fun k hk => p1 k r hk hk (by omega)) (fun k hk => p2 k hk) (fun k hk => p1 k i hk (by omega) hN) e1, k1]
  exact k2
theorem out_half {m f f' : Nat → Nat → Nat} {d d' : Nat → Nat} {N r c : Nat} (h : Col m N f d c) (hr : r < c) (hc : c ≤ N) {e : Int} (he : e ≠ 0) (g : Out m N f' d' e r) : False := by
  rcases g with ⟨h0, _⟩ | ⟨_, _, g1, g2⟩ | ⟨_, _, g1, g2, _, i, g4, g5, g6⟩
  · exact he h0
  · rw [(pos_at h hr hc g1).1] at g2
    rw [show posO (some (d r)) = posB (d r) from rfl, (pos_at h hr hc g1).2] at g2
    cases g2
  · rw [fin_at' h hr hc g1 g2 g4 g5] at g6
    cases g6
theorem Out.col {m f : Nat → Nat → Nat} {d : Nat → Nat} {N r : Nat} {e : Int} (h : Out m N f d e r) (he : e ≠ 0) : r < N ∧ Col m N f d r := by
  rcases h with ⟨h0, _⟩ | ⟨_, h1, h2, _⟩ | ⟨_, h1, h2, _⟩
  · exact absurd h0 he
  · exact ⟨h1, h2⟩
  · exact ⟨h1, h2⟩
theorem out_one {m f f' : Nat → Nat → Nat} {d d' : Nat → Nat} {N r r' : Nat} {e e' : Int} (h : Out m N f d e r) (g : Out m N f' d' e' r') : e = e' ∧ r = r' ∧ (e = 0 → (∀ k i, k < i → i < N → f i k = f' i k) ∧ ∀ k, k < N → d k = d' k) := by
  by_cases he : e = 0
  · have hC : Col m N f d N ∧ r = 0 := by
      rcases h with ⟨_, h1, h2⟩ | ⟨h0, _⟩ | ⟨h0, _⟩
      · exact ⟨h2, h1⟩
      · omega
      · omega
    by_cases he' : e' = 0
    · have gC : Col m N f' d' N ∧ r' = 0 := by
        rcases g with ⟨_, h1, h2⟩ | ⟨h0, _⟩ | ⟨h0, _⟩
        · exact ⟨h2, h1⟩
        · omega
        · omega
      obtain ⟨p1, p2⟩ := Col.one (Nat.le_refl _) hC.1 gC.1
      exact ⟨by omega, by omega, fun _ => ⟨fun k i hk hi => p1 k i (by omega) hk hi, p2⟩⟩
    · exact (out_half hC.1 (g.col he').1 (Nat.le_refl _) he' g).elim
  · obtain ⟨h1, h2⟩ := h.col he
    by_cases he' : e' = 0
    · have gC : Col m N f' d' N := by
        rcases g with ⟨_, _, k2⟩ | ⟨h0, _⟩ | ⟨h0, _⟩
        · exact k2
        · omega
        · omega
      exact (out_half gC h1 (Nat.le_refl _) he h).elim
    · obtain ⟨g1, g2⟩ := g.col he'
      have er : r = r' := by
        rcases Nat.lt_trichotomy r r' with q | q | q
        · exact (out_half g2 q (by omega) he h).elim
        · exact q
        · exact (out_half h2 q (by omega) he' g).elim
      subst er
      refine ⟨?_, rfl, fun h0 => absurd h0 he⟩
      obtain ⟨p1, p2⟩ := Col.one (by omega) h2 g2
      have ep := pivO_congr (m := m) (fun k hk => p1 k r hk hk h1) (fun k hk => p2 k hk)
      rcases h with ⟨h0, _⟩ | ⟨h0, _, _, k3⟩ | ⟨h0, _, _, k3, k4, _⟩
      · exact absurd h0 he
      · rcases g with ⟨g0, _⟩ | ⟨g0, _⟩ | ⟨g0, _, _, l3, l4, _⟩
        · exact absurd g0 he'
        · omega
        · exfalso
          rw [ep, l3, show posO (some (d' r)) = posB (d' r) from rfl, l4] at k3
          cases k3
      · rcases g with ⟨g0, _⟩ | ⟨g0, _, _, l3⟩ | ⟨g0, _⟩
        · exact absurd g0 he'
        · exfalso
          rw [← ep, k3, show posO (some (d r)) = posB (d r) from rfl, k4] at l3
          cases l3
        · omega
end Go.Proofs.YtmbcmhncicbbjaaGreatDoor

namespace Go.Proofs.YtmbcmhncicbbjaaGreatDoor
open Go.RowKit

set_option maxHeartbeats 400000 in
theorem lstart_any (i t : Nat) (hi : i ≤ 49) (ht : tri i = t) (w : World) : Calls Tryz.prog 95 #[.int .i64 i] w fun e w' => e = .returned (.int .i64 t) ∧ w' = w := by
  have e0 := tri_two i
  have h0 := tri_le hi
  rw [ht] at e0 h0
  obtain ⟨q, hq⟩ : ∃ q : Int, q = 2 * (t : Int) := ⟨_, rfl⟩
  rw [← hq] at e0
  clear ht
  go_enter Tryz.func95, Tryz.ntmps95
  go_wp2
  go_ret
  exact ⟨rfl, rfl⟩
theorem opSu : FourOp .sub := Or.inr (Or.inl rfl)
/-- A factor as a value. -/
abbrev fcV (n : Int) (lo : Option Addr) (ln lc : Nat) (d : Option Addr) (dn dc : Nat) : Value := .agg #[.int .i64 n, .slice lo ln lc, .slice d dn dc]
end Go.Proofs.YtmbcmhncicbbjaaGreatDoor

namespace Go.Proofs.YtmbcmhncicbbjaaGreatDoor
open Go.RowKit

def rightF (n : Int) (ln dn : Nat) : Bool := okN n && decide (ln = tri n.toNat) && decide ((dn : Int) = n)
def lsF (ls : List Nat) (i k : Nat) : Nat := ls.getD (tri i + k) 0
def dsF (ds : List Nat) (k : Nat) : Nat := ds.getD k 0
theorem rightF_nat {n : Int} {ln dn : Nat} (h : rightF n ln dn = true) : ∃ N : Nat, n = N ∧ N ≤ 48 ∧ ln = tri N ∧ dn = N := by
  unfold rightF at h
  simp only [Bool.and_eq_true, decide_eq_true_eq] at h
  obtain ⟨⟨h1, h2⟩, h3⟩ := h
  obtain ⟨N, rfl, hN⟩ := okN_nat h1
  rw [Int.toNat_natCast] at h2
  exact ⟨N, rfl, hN, h2, by omega⟩
set_option maxHeartbeats 1000000 in
theorem lright_any (n : Int) (lo dO : Option Addr) (ln lc dn dc : Nat) (w : World) :
    Calls Tryz.prog 67 #[fcV n lo ln lc dO dn dc] w fun e w' => e = .returned (.bool (rightF n ln dn)) ∧ Below w.heap.size w w' := by
  have hb := below_one w
  unfold rightF
  cases q : okN n
  · unfold okN at q
    by_cases h0 : 0 ≤ n
    · have h1 : ¬ n ≤ 48 := fun h => by rw [decide_eq_true h0, decide_eq_true h] at q; cases q
      have d0 := decide_eq_true h0
      have d1 := decide_eq_false h1
      clear q h0 h1
      go_enter Tryz.func67, Tryz.ntmps67
      go_wp2
      go_quiet (fail)
      go_wp2
      go_ret
      exact ⟨rfl, below_drewN (hb _) _⟩
    · have d0 := decide_eq_false h0
      clear q h0
      go_enter Tryz.func67, Tryz.ntmps67
      go_wp2
      go_quiet (fail)
      go_wp2
      go_ret
      exact ⟨rfl, below_drewN (hb _) _⟩
  · obtain ⟨N, rfl, hN⟩ := okN_nat q
    clear q
    rw [Int.toNat_natCast]
    have h0 : (0 : Int) ≤ (N : Int) := by omega
    have h1 : (N : Int) ≤ 48 := by omega
    have cs := fun W => lstart_any N (tri N) (by omega) rfl W
    obtain ⟨T, hT⟩ : ∃ T, tri N = T := ⟨_, rfl⟩
    rw [hT] at cs ⊢
    clear hT
    by_cases e1 : ln = T
    · rw [decide_eq_true e1]
      have b1 : ((ln : Int) == (T : Int)) = true := by simp [e1]
      clear e1
      by_cases e2 : (dn : Int) = (N : Int)
      · rw [decide_eq_true e2]
        have b2 : ((dn : Int) == (N : Int)) = true := by rw [e2]; simp
        clear e2
        go_enter Tryz.func67, Tryz.ntmps67
        go_wp2
        go_quiet ((go_at_call 95; exact Calls.quiet_of_same (cs _)))
        go_wp2
        go_ret
        exact ⟨rfl, below_drewN (hb _) _⟩
      · rw [decide_eq_false e2]
        have b2 : ((dn : Int) == (N : Int)) = false := by simp; omega
        clear e2
        go_enter Tryz.func67, Tryz.ntmps67
        go_wp2
        go_quiet ((go_at_call 95; exact Calls.quiet_of_same (cs _)))
        go_wp2
        go_ret
        exact ⟨rfl, below_drewN (hb _) _⟩
    · rw [decide_eq_false e1]
      have b1 : ((ln : Int) == (T : Int)) = false := by simp; omega
      clear e1
      go_enter Tryz.func67, Tryz.ntmps67
      go_wp2
      go_quiet ((go_at_call 95; exact Calls.quiet_of_same (cs _)))
      go_wp2
      go_ret
      exact ⟨rfl, below_drewN (hb _) _⟩
/-- Two factors that are alike. -/
theorem sfac_any (n : Int) (ls ds ls' ds' : List Nat) (lo dO lo' do' : Option Addr) (lc dc lc' dc' : Nat) (w : World) (h1 : GRow w lo ls) (h2 : GRow w dO ds) (h3 : GRow w lo' ls') (h4 : GRow w do' ds') (f1 : FW ls) (f2 : FW ds) (f3 : FW ls') (f4 : FW ds')
    (n1 : ls.length ≤ 1200) (n2 : ds.length ≤ 1200) (n3 : ls'.length ≤ 1200) (n4 : ds'.length ≤ 1200) (e1 : sameL ls ls' = true) (e2 : sameL ds ds' = true) :
    Calls Tryz.prog 40 #[fcV n lo ls.length lc dO ds.length dc, fcV n lo' ls'.length lc' do' ds'.length dc'] w fun e w' => e = .returned (.bool true) ∧ Below w.heap.size w w' := by
  have hb : ∀ o p, Below w.heap.size w ((w.alloc o).alloc p) := fun o p => old_two (Below.refl _ _)
  have c1 := fun W g1 g2 => sreals_any ls ls' lo lo' lc lc' W g1 g2 f1 f3 (by omega) (by omega)
  have c2 := fun W g1 g2 => sreals_any ds ds' dO do' dc dc' W g1 g2 f2 f4 (by omega) (by omega)
  rw [e1] at c1
  rw [e2] at c2
  have b1 : (n == n) = true := by simp
  have A0 := (B3.new w (.int .i64 n) (.slice lo ls.length lc) (.slice dO ds.length dc) 36).alloc (.cells #[.int .i64 n, .slice lo' ls'.length lc', .slice do' ds'.length dc'] 36)
  have A1 := B3.newAt (w := w.alloc (.cells #[.int .i64 n, .slice lo ls.length lc, .slice dO ds.length dc] 36)) (n := w.heap.size + 1) (by go_simp) (.int .i64 n) (.slice lo' ls'.length lc') (.slice do' ds'.length dc') 36
  have g1 := h1.below (hb (.cells #[.int .i64 n, .slice lo ls.length lc, .slice dO ds.length dc] 36) (.cells #[.int .i64 n, .slice lo' ls'.length lc', .slice do' ds'.length dc'] 36))
  have g2 := h2.below (hb (.cells #[.int .i64 n, .slice lo ls.length lc, .slice dO ds.length dc] 36) (.cells #[.int .i64 n, .slice lo' ls'.length lc', .slice do' ds'.length dc'] 36))
  have g3 := h3.below (hb (.cells #[.int .i64 n, .slice lo ls.length lc, .slice dO ds.length dc] 36) (.cells #[.int .i64 n, .slice lo' ls'.length lc', .slice do' ds'.length dc'] 36))
  have g4 := h4.below (hb (.cells #[.int .i64 n, .slice lo ls.length lc, .slice dO ds.length dc] 36) (.cells #[.int .i64 n, .slice lo' ls'.length lc', .slice do' ds'.length dc'] 36))
  have BB := hb (.cells #[.int .i64 n, .slice lo ls.length lc, .slice dO ds.length dc] 36) (.cells #[.int .i64 n, .slice lo' ls'.length lc', .slice do' ds'.length dc'] 36)
  clear hb h1 h2 h3 h4
  go_enter Tryz.func40, Tryz.ntmps40
  go_upto_region 1 with fail
  generalize (w.alloc (.cells #[.int .i64 n, .slice lo ls.length lc, .slice dO ds.length dc] 36)).alloc (.cells #[.int .i64 n, .slice lo' ls'.length lc', .slice do' ds'.length dc'] 36) = W at *
  obtain ⟨a0, a1, a2, _⟩ := id A0
  obtain ⟨d0, d1, d2, _⟩ := id A1
  go_wp2_with (first
    | (go_at_call_of 12 (Value.slice lo ls.length lc); refine (c1 _ g1 g3).mono ?_; rintro e w1 ⟨rfl, b1⟩; obtain ⟨a0', a1', a2', _⟩ := A0.below b1; obtain ⟨d0', d1', d2', _⟩ := A1.below b1)
    | (go_at_call_of 12 (Value.slice dO ds.length dc); refine (c2 _ (g2.below b1) (g4.below b1)).mono ?_; rintro e w2 ⟨rfl, b2⟩))
  go_ret
  have B1 := BB.trans (b1.mono BB.size)
  exact ⟨rfl, B1.trans (b2.mono B1.size)⟩
end Go.Proofs.YtmbcmhncicbbjaaGreatDoor
