/- What Solve answers. -/
import Derived.Test.YtmbcmhncicbbjaaGreatDoorS1
import Derived.Test.YtmbcmhncicbbjaaGreatDoorXm4
namespace Go.Proofs.YtmbcmhncicbbjaaGreatDoor
open Go.RowKit

/-- Forward: the rows ahead of n are made. -/
def fwF (f : Nat → Nat → Nat) (b : Nat → Option Nat) : Nat → Nat → Option Nat
  | 0 => fun _ => none
  | n + 1 => fun i => if i = n then lesO (b n) (fun k => toO (f n k)) (fwF f b n) n else fwF f b n i
theorem fwF_succ (f : Nat → Nat → Nat) (b : Nat → Option Nat) (n i : Nat) : fwF f b (n + 1) i = if i = n then lesO (b n) (fun k => toO (f n k)) (fwF f b n) n else fwF f b n i := rfl
def fwO (f : Nat → Nat → Nat) (b : Nat → Option Nat) (i : Nat) : Option Nat := fwF f b (i + 1) i
theorem fwF_at {f : Nat → Nat → Nat} {b : Nat → Option Nat} {i n : Nat} (h : i < n) : fwF f b n i = fwO f b i := by
  induction n with
  | zero => omega
  | succ n ih =>
    by_cases e : i = n
    · rw [e]; rfl
    · rw [fwF_succ, if_neg e]; exact ih (by omega)
theorem fwO_eq (f : Nat → Nat → Nat) (b : Nat → Option Nat) (i : Nat) : fwO f b i = lesO (b i) (fun k => toO (f i k)) (fwO f b) i := by
  unfold fwO
  rw [fwF_succ, if_pos rfl]
  exact lesO_congr (fun _ _ => rfl) (fun k hk => fwF_at hk)
/-- Back: the m last rows are made. -/
def bkF (f : Nat → Nat → Nat) (z : Nat → Option Nat) (N : Nat) : Nat → Nat → Option Nat
  | 0 => fun _ => none
  | m + 1 => fun i => if i + m + 1 = N then lesO (z i) (fun s => toO (f (i + 1 + s) i)) (fun s => bkF f z N m (i + 1 + s)) m else bkF f z N m i
theorem bkF_succ (f : Nat → Nat → Nat) (z : Nat → Option Nat) (N m i : Nat) : bkF f z N (m + 1) i = if i + m + 1 = N then lesO (z i) (fun s => toO (f (i + 1 + s) i)) (fun s => bkF f z N m (i + 1 + s)) m else bkF f z N m i := rfl
def bkO (f : Nat → Nat → Nat) (z : Nat → Option Nat) (N : Nat) (i : Nat) : Option Nat := bkF f z N N i
theorem bkF_at {f : Nat → Nat → Nat} {z : Nat → Option Nat} {N i m m' : Nat} (hm : m ≤ m') (h : N < i + m + 1) (hi : i < N) (hm' : m' ≤ N) : bkF f z N m' i = bkF f z N m i := by
  induction m' with
  | zero => rw [show m = 0 by omega]
  | succ n ih =>
    by_cases e : m = n + 1
    · rw [e]
    · rw [bkF_succ, if_neg (by omega)]; exact ih (by omega) (by omega)
theorem bkO_eq {f : Nat → Nat → Nat} {z : Nat → Option Nat} {N i m : Nat} (h : i + m + 1 = N) : bkO f z N i = lesO (z i) (fun s => toO (f (i + 1 + s) i)) (fun s => bkO f z N (i + 1 + s)) m := by
  unfold bkO
  rw [bkF_at (m := m + 1) (by omega) (by omega) (by omega) (Nat.le_refl _), bkF_succ, if_pos h]
  exact lesO_congr (fun _ _ => rfl) (fun k hk => (bkF_at (by omega) (by omega) (by omega) (Nat.le_refl _)).symm)
/-- Equal to 0. -/
def zB (u : Nat) : Bool := FloatKind.f64.format.order u 0 == some .eq
theorem zB_turn {u : Nat} (hu : u < 18446744073709551616) : (FloatKind.f64.format.order 0 u == some .eq) = zB u := by
  unfold zB
  show (Ieee.double.order 0 u == some .eq) = (Ieee.double.order u 0 == some .eq)
  rw [order_eq 0 u (by decide) hu, order_eq u 0 hu (by decide), Bool.or_comm, cmp_int, cmp_int]
  split
  · rfl
  · by_cases h1 : place u < place 0
    · rw [if_pos h1, if_neg (by omega), if_neg (by omega)]; rfl
    · by_cases h2 : place 0 < place u
      · rw [if_pos h2, if_neg h1, if_neg (by omega)]; rfl
      · rw [if_neg h1, if_neg h2, if_pos (by omega), if_pos (by omega)]
def zL (ds : List Nat) : Bool := ds.any zB
theorem zL_no {ds : List Nat} (h : zL ds = false) {i : Nat} (hi : i < ds.length) : zB (ds.getD i 0) = false := by
  unfold zL at h
  rw [getD_at hi]
  simp at h
  exact h _ (List.getElem_mem hi)
theorem zL_yes {ds : List Nat} {i : Nat} (hi : i < ds.length) (h : zB (ds.getD i 0) = true) : zL ds = true := by
  unfold zL
  rw [getD_at hi] at h
  exact List.any_eq_true.2 ⟨_, List.getElem_mem hi, h⟩
theorem zL_all {ds : List Nat} (h : ∀ i, i < ds.length → zB (ds.getD i 0) = false) : zL ds = false := by
  cases q : zL ds
  · rfl
  · unfold zL at q
    obtain ⟨x, hx, hz⟩ := List.any_eq_true.1 q
    obtain ⟨i, hi, rfl⟩ := List.getElem_of_mem hx
    have := h i hi
    rw [getD_at hi, hz] at this
    cases this
/-- What Solve tells. -/
def qoO (ds : List Nat) (b : Nat → Option Nat) (i : Nat) : Option Nat := opO .quo (b i) (toO (dsF ds i))
def slO (ls ds : List Nat) (N : Nat) (b : Nat → Option Nat) (i : Nat) : Option Nat := bkO (lsF ls) (qoO ds (fwO (lsF ls) b)) N i
def fitF (n : Int) (ln dn bn : Nat) : Bool := rightF n ln dn && decide ((bn : Int) = n)
def fwA (n : Int) (ls : List Nat) (dn bn : Nat) (b : Nat → Option Nat) : List (Option Nat) × Int := if fitF n ls.length dn bn then (tab n.toNat (fwO (lsF ls) b), 0) else ([], 4)
def bkA (n : Int) (ls ds : List Nat) (bn : Nat) (b : Nat → Option Nat) : List (Option Nat) × Int := if fitF n ls.length ds.length bn then (if zL ds then ([], 7) else (tab n.toNat (bkO (lsF ls) (qoO ds b) n.toNat), 0)) else ([], 4)
def slA (n : Int) (ls ds : List Nat) (bn : Nat) (b : Nat → Option Nat) : List (Option Nat) × Int := if fitF n ls.length ds.length bn then (if zL ds then ([], 7) else (tab n.toNat (slO ls ds n.toNat b), 0)) else ([], 4)
theorem fit_nat {n : Int} {ln dn bn : Nat} (h : fitF n ln dn bn = true) : ∃ N : Nat, n = N ∧ N ≤ 48 ∧ ln = tri N ∧ dn = N ∧ bn = N := by
  unfold fitF at h
  rw [Bool.and_eq_true, decide_eq_true_eq] at h
  obtain ⟨N, rfl, h1, h2, h3⟩ := rightF_nat h.1
  exact ⟨N, rfl, h1, h2, h3, by omega⟩
/-- A list and an error handed back. -/
def GaveLe (w : World) (a : List (Option Nat) × Int) (e : Ending) (w' : World) : Prop := ∃ v, e = .returned (.tuple #[v, .int .i64 a.2]) ∧ GaveF w a.1 v w'
/-- The list that has 1 at j, else +0. -/
def unO (j i : Nat) : Option Nat := if i = j then some 4607182418800017408 else some 0
def ivA (n : Int) (ls ds : List Nat) : An := if rightF n ls.length ds.length then (if zL ds then noA 7 else ⟨n, n, tabM n.toNat n.toNat (fun i j => slO ls ds n.toNat (unO j) i), 0⟩) else noA 4
theorem sset_size (w : World) (p : Addr) (x : Value) : (w.setCell p x).heap.size = w.heap.size := by simp [World.setCell]
theorem srow_to {w0 wr : World} {xs : List Nat} {b : Nat} {off : Nat} (hz : GRow w0 (some ⟨b, off, none⟩) xs) (hb : Below w0.heap.size w0 wr) {q : Nat} (hq : q < xs.length) : wr.cell? ⟨b, off + q, none⟩ = some (.float .f64 (xs.getD q 0)) := by
  rcases hz.below hb with h | ⟨b', off', e, hc⟩
  · omega
  · cases e; exact hc q hq
end Go.Proofs.YtmbcmhncicbbjaaGreatDoor

namespace Go.Proofs.YtmbcmhncicbbjaaGreatDoor
open Go.RowKit

set_option maxHeartbeats 1000000 in
theorem sfit_any (n : Int) (lo dO bo : Option Addr) (ln lc dn dc bn bc : Nat) (w : World) :
    Calls Tryz.prog 122 #[fcV n lo ln lc dO dn dc, .slice bo bn bc] w fun e w' => e = .returned (.bool (fitF n ln dn bn)) ∧ Below w.heap.size w w' := by
  have cr := fun W => lright_any n lo dO ln lc dn dc W
  have B0 := below_one w (.cells #[.int .i64 n, .slice lo ln lc, .slice dO dn dc] 36)
  have M0 := B3.new w (.int .i64 n) (.slice lo ln lc) (.slice dO dn dc) 36
  unfold fitF
  cases q : rightF n ln dn
  · rw [q] at cr
    go_enter Tryz.func122, Tryz.ntmps122
    go_wp2_with (go_at_call 67; refine (cr _).mono ?_; rintro e w1 ⟨rfl, b1⟩)
    go_ret
    exact ⟨rfl, B0.trans (b1.mono B0.size)⟩
  · rw [q] at cr
    by_cases h : (bn : Int) = n
    · have e1 : ((bn : Int) == n) = true := by simp [h]
      rw [decide_eq_true h]
      clear h
      go_enter Tryz.func122, Tryz.ntmps122
      go_wp2_with (go_at_call 67; refine (cr _).mono ?_; rintro e w1 ⟨rfl, b1⟩; obtain ⟨m0, m1, m2, _⟩ := M0.below b1)
      go_ret
      exact ⟨rfl, B0.trans (b1.mono B0.size)⟩
    · have e1 : ((bn : Int) == n) = false := by simp [h]
      rw [decide_eq_false h]
      clear h
      go_enter Tryz.func122, Tryz.ntmps122
      go_wp2_with (go_at_call 67; refine (cr _).mono ?_; rintro e w1 ⟨rfl, b1⟩; obtain ⟨m0, m1, m2, _⟩ := M0.below b1)
      go_ret
      exact ⟨rfl, B0.trans (b1.mono B0.size)⟩
set_option maxHeartbeats 1000000 in
theorem sbelow_any (n : Int) (ls : List Nat) (lo : Option Addr) (lc : Nat) (d : Option Addr) (dn dc i k : Nat) (w : World) (hr : GRow w lo ls) (hi : i ≤ 48) (hk : k < i) (hl : tri (i + 1) ≤ ls.length) :
    Calls Tryz.prog 124 #[fcV n lo ls.length lc d dn dc, .int .i64 i, .int .i64 k] w fun e w' => e = .returned (.float .f64 (lsF ls i k)) ∧ Below w.heap.size w w' := by
  have hb := below_one w
  have e0 := tri_two i
  have h0 := tri_le (show i ≤ 49 by omega)
  unfold lsF
  rw [tri] at hl
  obtain ⟨t, ht⟩ : ∃ t, tri i = t := ⟨_, rfl⟩
  rw [ht] at e0 h0 hl ⊢
  obtain ⟨q, hq⟩ : ∃ q : Int, q = 2 * (t : Int) := ⟨_, rfl⟩
  rw [← hq] at e0
  clear ht
  rcases hr with h | ⟨b, off, rfl, hc⟩
  · omega
  have g := hc (t + k) (by omega)
  have lt := World.block_lt_of_cell? w _ g
  have g2 := fun o => (hb o).cell lt
  rw [g] at g2
  have iw : ((t : Int) + (k : Int)) < (ls.length : Int) := by omega
  have nq : ((t : Int) + (k : Int)).toNat = t + k := by omega
  have g3 : ∀ o, (w.alloc o).cell? ⟨b, off + (t + k), none⟩ = some (.float .f64 (ls.getD (t + k) 0)) := g2
  generalize ls.getD (t + k) 0 = x at *
  clear hc g g2
  go_enter Tryz.func124, Tryz.ntmps124
  go_wp2
  go_ret
  exact ⟨rfl, hb _⟩
set_option maxHeartbeats 1000000 in
theorem sless_any (os ol ox : Option Nat) (s l x : Nat) (hs : NR os s) (hl : NR ol l) (hx : NR ox x) (w : World) :
    Calls Tryz.prog 123 #[.float .f64 s, .float .f64 l, .float .f64 x] w fun e w' => ∃ r, e = .returned (.float .f64 r) ∧ NR (opO .sub os (opO .mul ol ox)) r ∧ Below w.heap.size w w' := by
  have h1 := fun x y w => run_op4 (P := Tryz.prog) (op := .sub) opSu 48 x y w
  have h2 := fun x y w => run_op4 (P := Tryz.prog) (op := .mul) opMu 48 x y w
  have HS : Hid (∀ W W', NR (opO .sub os (opO .mul ol ox)) (opR .sub s (opR .mul l x W) W')) := fun W W' => opO_NR opSu hs (opO_NR opMu hl hx W) W'
  clear hs hl hx
  go_enter Tryz.func123, Tryz.ntmps123
  go_wp2
  go_ret
  exact ⟨_, rfl, HS.out _ _, opW_below .sub _ _ (opW_below .mul _ _ (Below.refl _ _))⟩
set_option maxHeartbeats 1000000 in
theorem sindex_any (ds : List Nat) (ao : Option Addr) (cap : Nat) (w : World) (hr : GRow w ao ds) (fD : FW ds) (hn : ds.length ≤ 48) :
    Calls Tryz.prog 140 #[.slice ao ds.length cap, .float .f64 0] w fun e w' => ∃ r : Int, e = .returned (.int .i64 r) ∧ decide (0 ≤ r) = zL ds ∧ w' = w := by
  go_enter Tryz.func140, Tryz.ntmps140
  go_wp2
  go_loopg [8] ds.length (fun g s8 wr => ∃ k : Nat, k ≤ ds.length ∧ g = ds.length - k ∧ s8 = .int .i64 k ∧ Hid (∀ i, i < k → zB (ds.getD i 0) = false) ∧ wr = w)
  case atStart => exact ⟨0, Nat.zero_le _, rfl, rfl, fun i hi => by omega, rfl⟩
  case round =>
    obtain ⟨k, hk, hg, rfl, hN, h'⟩ := hrel
    subst wr
    have HG : Hid (gk = ds.length - k) := hg
    clear hg
    by_cases hlt : k < ds.length
    · rcases hr with h | ⟨b, off, rfl, hc⟩
      · omega
      have g1 := hc k hlt
      have i1 : (k : Int) < (ds.length : Int) := by omega
      have hz := zB_turn (fD.at hlt)
      have HY := fun h => zL_yes hlt h
      have HN : zB (ds.getD k 0) = false → Hid (∀ i, i < k + 1 → zB (ds.getD i 0) = false) := fun h i hi => by
        by_cases e : i = k
        · rw [e]; exact h
        · exact hN.out i (by omega)
      generalize ds.getD k 0 = x at *
      clear hc hN
      cases q : zB x
      · rw [q] at hz
        have HN := HN q
        clear HY q
        go_wp2
        go_roundg (ds.length - (k + 1))
        case measure => rw [HG.out]; omega
        case rel => exact ⟨k + 1, by omega, rfl, by go_num, HN, rfl⟩
      · rw [q] at hz
        have HY := HY q
        clear HN q
        go_wp2
        go_ret
        exact ⟨_, rfl, by rw [HY]; exact decide_eq_true (by omega), rfl⟩
    · have ek : k = ds.length := by omega
      have hA : zL ds = false := zL_all (fun i hi => hN.out i (by omega))
      subst ek
      have i1 : ¬ (ds.length : Int) < (ds.length : Int) := by omega
      clear hN
      go_wp2
      go_ret
      exact ⟨_, rfl, by first | decide | (rw [hA]; rfl), rfl⟩
set_option maxHeartbeats 1000000 in
theorem scont_any (ds : List Nat) (ao : Option Addr) (cap : Nat) (w : World) (hr : GRow w ao ds) (fD : FW ds) (hn : ds.length ≤ 48) :
    Calls Tryz.prog 125 #[.slice ao ds.length cap, .float .f64 0] w fun e w' => e = .returned (.bool (zL ds)) ∧ w' = w := by
  have c1 := sindex_any ds ao cap w hr fD hn
  go_enter Tryz.func125, Tryz.ntmps125
  go_wp2_with (go_at_call 140; refine c1.mono ?_; rintro e w' ⟨r, rfl, hq, h'⟩; subst w')
  go_ret
  exact ⟨rfl, rfl⟩
end Go.Proofs.YtmbcmhncicbbjaaGreatDoor

namespace Go.Proofs.YtmbcmhncicbbjaaGreatDoor
open Go.RowKit

/-- The factor's box, and the row that is made. -/
structure FoS (w wr : World) (n : Int) (lo : Option Addr) (ln lc : Nat) (dO : Option Addr) (dn dc g N : Nat) (z : Nat → Nat) : Prop where
  fbox : B3 wr w.heap.size (.int .i64 n) (.slice lo ln lc) (.slice dO dn dc)
  row : RRow wr g N z
  lt : g < wr.heap.size
  lo' : w.heap.size < g
  below : Below w.heap.size w wr
section
variable {w wr w1 : World} {n : Int} {lo dO : Option Addr} {ln lc dn dc g N : Nat} {z : Nat → Nat}
theorem FoS.later (h : FoS w wr n lo ln lc dO dn dc g N z) (hb : Below wr.heap.size wr w1) : FoS w w1 n lo ln lc dO dn dc g N z :=
  ⟨h.fbox.below hb, h.row.below hb h.lt, Nat.lt_of_lt_of_le h.lt hb.size, h.lo', h.below.trans (hb.mono h.below.size)⟩
theorem FoS.set (h : FoS w wr n lo ln lc dO dn dc g N z) (q r : Nat) : FoS w (wr.setCell ⟨g, q, none⟩ (.float .f64 r)) n lo ln lc dO dn dc g N (fun p => if p = q then r else z p) := by
  have := h.lo'
  exact ⟨h.fbox.far (by omega) _, h.row.set q r, by rw [sset_size]; exact h.lt, h.lo', h.below.setCell (by show w.heap.size ≤ g; omega) _⟩
end
set_option maxRecDepth 100000 in
set_option maxHeartbeats 4000000 in
theorem sforward_any (n : Int) (ls bs : List Nat) (lo dO bo : Option Addr) (lc dn dc bc : Nat) (ob : Nat → Option Nat) (w : World) (hL : GRow w lo ls) (hB : GRow w bo bs) (fL : FW ls) (hb : ∀ i, i < bs.length → NR (ob i) (bs.getD i 0)) :
    Calls Tryz.prog 96 #[fcV n lo ls.length lc dO dn dc, .slice bo bs.length bc] w fun e w' => GaveLe w (fwA n ls dn bs.length ob) e w' := by
  have cf := fun W => sfit_any n lo dO bo ls.length lc dn dc bs.length bc W
  cases q : fitF n ls.length dn bs.length
  · rw [q] at cf
    have eA : fwA n ls dn bs.length ob = ([], 4) := by unfold fwA; rw [q]; rfl
    rw [eA]
    have hb1 := below_one w
    go_enter Tryz.func96, Tryz.ntmps96
    go_wp2_with (go_at_call 122; refine (cf _).mono ?_; rintro e w1 ⟨rfl, b1⟩; have B1 := old_one b1)
    exact bodyPost_ret (v := .tuple #[.slice none 0 0, .int .i64 4]) (by simp [results, Tryz.results96, go_sem]) rfl ⟨_, rfl, GaveF.nil B1⟩
  · rw [q] at cf
    obtain ⟨N, rfl, hN, hl, hd, hbn⟩ := fit_nat q
    have HL : Hid (ls.length = tri N) := hl
    have HBN : Hid (bs.length = N) := hbn
    have eA : fwA N ls dn bs.length ob = (tab N (fwO (lsF ls) ob), 0) := by unfold fwA; rw [q, Int.toNat_natCast]; rfl
    rw [eA]
    clear hl hbn hd q eA
    have hmk := run_make_row' (P := Tryz.prog) 22 48 (.float .f64 0) 8 Tryz.underlying22 Tryz.infoF rfl .i64 .i64 N (by omega) (by omega)
    go_enter Tryz.func96, Tryz.ntmps96
    go_wp2_with (go_at_call 122; refine (cf _).mono ?_; rintro e w1 ⟨rfl, b1⟩; have M1 := (B3.new w _ _ _ _).below b1; obtain ⟨f0, f1, f2, _⟩ := id M1; have B1 := old_one b1)
    have hst := vstoref Tryz.prog
    have sz1 := M1.2.2.2.2.2.2
    have S0 : FoS w (w1.alloc (.cells (madeCells #[.float .f64 0] N) 48)) N lo ls.length lc dO dn dc w1.heap.size N (fun _ => 0) :=
      ⟨M1.alloc _, RRow.made w1 N, by go_simp, sz1, B1.alloc B1.size _⟩
    have HFin : Hid (∀ z W, RRow W w1.heap.size N z → (∀ p, p < N → NR (fwO (lsF ls) ob p) (z p)) → Below w.heap.size w W → GaveF w (tab N (fwO (lsF ls) ob)) (.slice (some ⟨w1.heap.size, 0, none⟩) N N) W) := fun z W k1 k2 k3 =>
      ⟨some ⟨w1.heap.size, 0, none⟩, N, toL' N z, by rw [toL'_len], LN_tab (toL'_len _ _) (fun i hi => by rw [toL'_at hi]; exact k2 i hi), k1.grow (toL'_len _ _) (fun j hj => toL'_at hj), by rw [toL'_len]; exact Nat.le_refl _, fun a e => by cases e; exact B1.size, k3⟩
    generalize w1.alloc (.cells (madeCells #[.float .f64 0] N) 48) = W1 at *
    generalize w1.heap.size = g at *
    clear M1 f0 f1 f2 b1 B1 cf hmk
    go_loopg [18] N (fun gg s18 wr => ∃ (i : Nat) (z : Nat → Nat), i ≤ N ∧ gg = N - i ∧ s18 = .int .i64 i ∧ Hid (∀ p, p < i → NR (fwO (lsF ls) ob p) (z p)) ∧ FoS w wr N lo ls.length lc dO dn dc g N z)
    case atStart => exact ⟨0, _, Nat.zero_le _, rfl, rfl, fun p hp => by omega, S0⟩
    case round =>
      clear S0
      obtain ⟨i, z, hi, hg, rfl, hZ, S⟩ := hrel
      have HG : Hid (gk = N - i) := hg
      clear hg
      by_cases hlt : i < N
      · have i1 : (i : Int) < (N : Int) := by omega
        have hib : i < bs.length := by rw [HBN.out]; exact hlt
        have i2 : (i : Int) < (bs.length : Int) := by omega
        have g1 := World.rowIs.cell S.row hlt
        have g2 := World.rowIs.frozen S.row i
        have hbi := hb i hib
        obtain ⟨b0, off, rfl⟩ : ∃ b off, bo = some ⟨b, off, none⟩ := by
          rcases hB with h | ⟨b, off, rfl, _⟩
          · omega
          · exact ⟨b, off, rfl⟩
        have hb0 := srow_to (w0 := w) hB S.below hib
        have S1 := S.set i (bs.getD i 0)
        have HZ1 : Hid (∀ p, p < i → NR (fwO (lsF ls) ob p) (if p = i then bs.getD i 0 else z p)) := fun p hp => by rw [if_neg (by omega)]; exact hZ.out p hp
        have HZ2 : Hid (NR (lesO (ob i) (fun k => toO (lsF ls i k)) (fwO (lsF ls) ob) 0) (bs.getD i 0)) := hbi
        generalize bs.getD i 0 = bi at *
        clear hZ hbi
        go_wp2
        clear g1 g2 hb0
        go_loopg [29] i (fun gg s29 wv => ∃ (k : Nat) (z : Nat → Nat), k ≤ i ∧ gg = i - k ∧ s29 = .int .i64 k ∧ Hid (∀ p, p < i → NR (fwO (lsF ls) ob p) (z p)) ∧ Hid (NR (lesO (ob i) (fun k => toO (lsF ls i k)) (fwO (lsF ls) ob) k) (z i)) ∧ FoS w wv N lo ls.length lc dO dn dc g N z)
        case atStart => exact ⟨0, _, Nat.zero_le _, rfl, rfl, HZ1, (show NR _ (if i = i then bi else z i) by rw [if_pos rfl]; exact HZ2.out), S1⟩
        case round =>
          clear S1 HZ1 HZ2 S
          obtain ⟨k, z, hk, hg, rfl, hZ, hR, S⟩ := hrel
          have HG2 : Hid (gk = i - k) := hg
          clear hg
          by_cases hlt2 : k < i
          · have i3 : (k : Int) < (i : Int) := by omega
            have htl : tri (i + 1) ≤ ls.length := by rw [HL.out]; exact tri_mono (by omega)
            have hlt3 := tri_in hlt2 hlt
            rw [← HL.out] at hlt3
            have hx : NR (toO (lsF ls i k)) (lsF ls i k) := toO_NR (fL.at hlt3)
            have cb := fun W h => sbelow_any N ls lo lc dO dn dc i k W h (by omega) hlt2 htl
            have cl := fun W => sless_any _ _ _ (z i) (lsF ls i k) (z k) hR.out hx (hZ.out k hlt2) W
            have HNX : Hid (∀ r, NR (opO .sub (lesO (ob i) (fun k => toO (lsF ls i k)) (fwO (lsF ls) ob) k) (opO .mul (toO (lsF ls i k)) (fwO (lsF ls) ob k))) r → NR (lesO (ob i) (fun k => toO (lsF ls i k)) (fwO (lsF ls) ob) (k + 1)) r) := fun r hr => hr
            have HZX : Hid (∀ r p, p < i → NR (fwO (lsF ls) ob p) (if p = i then r else z p)) := fun r p hp => by rw [if_neg (by omega)]; exact hZ.out p hp
            have SD := S.later (Below.refl _ _).drew
            have hrow := hL.below SD.below
            have hki : k < N := by omega
            have hkI : (k : Int) < (N : Int) := by omega
            generalize lsF ls i k = x at *
            have HC : ∀ w1, Below wr.drew.heap.size wr.drew w1 → w1.cell? ⟨w.heap.size, 0, none⟩ = some (.int .i64 N) ∧ w1.cell? ⟨w.heap.size, 1, none⟩ = some (.slice lo ls.length lc) ∧ w1.cell? ⟨w.heap.size, 2, none⟩ = some (.slice dO dn dc) ∧ w1.cell? ⟨g, i, none⟩ = some (.float .f64 (z i)) ∧ w1.cell? ⟨g, k, none⟩ = some (.float .f64 (z k)) := fun w1 hb => by
              have S2 := SD.later hb
              obtain ⟨x0, x1, x2, _⟩ := id S2.fbox
              exact ⟨x0, x1, x2, World.rowIs.cell S2.row hlt, World.rowIs.cell S2.row hki⟩
            have m0 := HC _ (Below.refl _ _)
            have n0 := S.lo'
            have n1 : ¬ g = w.heap.size := by omega
            have n2 : ¬ w.heap.size = g := by omega
            clear hR hx hZ htl hlt3
            go_wp2
            go_region_with (first
                | (go_at_call 124; refine (cb _ hrow).mono ?_; rintro e w3 ⟨rfl, b3⟩; have m3 := HC _ b3)
                | (go_at_call 123; refine (cl _).mono ?_; rintro e w4 ⟨r, rfl, hr, b4⟩; have b5 := b3.trans (b4.mono b3.size); have m4 := HC _ b5; have S3 := SD.later b5; have g2 := World.rowIs.cell S3.row hlt; have g3 := World.rowIs.frozen S3.row i))
            all_goals
              have S4 := S3.set i r
              go_wp2
              go_roundg (i - (k + 1))
              case measure => rw [HG2.out]; omega
              case rel => exact ⟨k + 1, _, by omega, rfl, by go_num, HZX.out r, (show NR _ (if i = i then r else z i) by rw [if_pos rfl]; exact HNX.out r hr), S4⟩
          · have ek : k = i := by omega
            have i3 : ¬ (k : Int) < (i : Int) := by omega
            have HZ3 : Hid (∀ p, p < i + 1 → NR (fwO (lsF ls) ob p) (z p)) := fun p hp => by
              by_cases e : p = i
              · rw [e, fwO_eq]; rw [ek] at hR; exact hR.out
              · exact hZ.out p (by omega)
            clear hZ hR ek
            go_wp2
            go_roundg (N - (i + 1))
            case measure => rw [HG.out]; omega
            case rel => exact ⟨i + 1, z, by omega, rfl, by go_num, HZ3, S⟩
      · have ei : i = N := by omega
        have i1 : ¬ (i : Int) < (N : Int) := by omega
        have hF := HFin.out z _ S.row (fun p hp => hZ.out p (by omega)) S.below
        clear hZ HFin
        go_wp2
        exact bodyPost_ret (v := .tuple #[.slice (some ⟨g, 0, none⟩) N N, .int .i64 0]) (by simp [results, Tryz.results96, go_sem]) rfl ⟨_, rfl, hF⟩
end Go.Proofs.YtmbcmhncicbbjaaGreatDoor

namespace Go.Proofs.YtmbcmhncicbbjaaGreatDoor
open Go.RowKit

theorem opQs : FourOp .quo := Or.inr (Or.inr (Or.inr rfl))
set_option maxHeartbeats 1000000 in
theorem rright13_any (n : Int) (lo dO : Option Addr) (ln lc dn dc : Nat) (w : World) :
    Calls Tryz.prog 100 #[fcV n lo ln lc dO dn dc] w fun e w' => e = .returned (.bool (rightF n ln dn)) ∧ Below w.heap.size w w' := by
  have hb := below_one w
  unfold rightF
  cases q : okN n
  · unfold okN at q
    by_cases h0 : 0 ≤ n
    · have h1 : ¬ n ≤ 48 := fun h => by rw [decide_eq_true h0, decide_eq_true h] at q; cases q
      have d0 := decide_eq_true h0
      have d1 := decide_eq_false h1
      clear q
      go_enter Tryz.func100, Tryz.ntmps100
      go_wp2
      go_ret
      exact ⟨rfl, hb _⟩
    · have d0 := decide_eq_false h0
      clear q
      go_enter Tryz.func100, Tryz.ntmps100
      go_wp2
      go_ret
      exact ⟨rfl, hb _⟩
  · obtain ⟨N, rfl, hN⟩ := okN_nat q
    clear q
    rw [Int.toNat_natCast]
    have h0 : (0 : Int) ≤ (N : Int) := by omega
    have h1 : (N : Int) ≤ 48 := by omega
    have e0 := tri_two N
    have ht := tri_le (show N ≤ 49 by omega)
    obtain ⟨T, hT⟩ : ∃ T, tri N = T := ⟨_, rfl⟩
    rw [hT] at e0 ht ⊢
    obtain ⟨q, hq⟩ : ∃ q : Int, q = 2 * (T : Int) := ⟨_, rfl⟩
    rw [← hq] at e0
    clear hT
    by_cases e1 : ln = T
    · rw [decide_eq_true e1]
      have b1 : ((ln : Int) == (T : Int)) = true := by simp [e1]
      clear e1
      by_cases e2 : (dn : Int) = (N : Int)
      · rw [decide_eq_true e2]
        have b2 : ((dn : Int) == (N : Int)) = true := by rw [e2]; simp
        clear e2
        go_enter Tryz.func100, Tryz.ntmps100
        go_wp2
        go_ret
        exact ⟨rfl, hb _⟩
      · rw [decide_eq_false e2]
        have b2 : ((dn : Int) == (N : Int)) = false := by simp; omega
        clear e2
        go_enter Tryz.func100, Tryz.ntmps100
        go_wp2
        go_ret
        exact ⟨rfl, hb _⟩
    · rw [decide_eq_false e1]
      have b1 : ((ln : Int) == (T : Int)) = false := by simp; omega
      clear e1
      go_enter Tryz.func100, Tryz.ntmps100
      go_wp2
      go_ret
      exact ⟨rfl, hb _⟩
set_option maxHeartbeats 1000000 in
theorem rat13_any (n : Int) (ls : List Nat) (lo : Option Addr) (lc : Nat) (d : Option Addr) (dn dc i k : Nat) (w : World) (hr : GRow w lo ls) (hi : i ≤ 48) (hk : k < i) (hl : tri (i + 1) ≤ ls.length) :
    Calls Tryz.prog 101 #[fcV n lo ls.length lc d dn dc, .int .i64 i, .int .i64 k] w fun e w' => e = .returned (.float .f64 (lsF ls i k)) ∧ Below w.heap.size w w' := by
  have hb := below_one w
  have e0 := tri_two i
  have h0 := tri_le (show i ≤ 49 by omega)
  unfold lsF
  rw [tri] at hl
  obtain ⟨t, ht⟩ : ∃ t, tri i = t := ⟨_, rfl⟩
  rw [ht] at e0 h0 hl ⊢
  obtain ⟨q, hq⟩ : ∃ q : Int, q = 2 * (t : Int) := ⟨_, rfl⟩
  rw [← hq] at e0
  clear ht
  rcases hr with h | ⟨b, off, rfl, hc⟩
  · omega
  have g := hc (t + k) (by omega)
  have lt := World.block_lt_of_cell? w _ g
  have g2 := fun o => (hb o).cell lt
  rw [g] at g2
  have iw : ((t : Int) + (k : Int)) < (ls.length : Int) := by omega
  have nq : ((t : Int) + (k : Int)).toNat = t + k := by omega
  have g3 : ∀ o, (w.alloc o).cell? ⟨b, off + (t + k), none⟩ = some (.float .f64 (ls.getD (t + k) 0)) := g2
  generalize ls.getD (t + k) 0 = x at *
  clear hc g g2
  go_enter Tryz.func101, Tryz.ntmps101
  go_wp2
  go_ret
  exact ⟨rfl, hb _⟩
set_option maxHeartbeats 1000000 in
theorem rzero13_any (n : Int) (ds : List Nat) (lo dO : Option Addr) (ln lc dc : Nat) (w : World) (hr : GRow w dO ds) (hn : ds.length ≤ 48) :
    Calls Tryz.prog 102 #[fcV n lo ln lc dO ds.length dc] w fun e w' => e = .returned (.bool (zL ds)) ∧ Below w.heap.size w w' := by
  have hb := below_one w (.cells #[.int .i64 n, .slice lo ln lc, .slice dO ds.length dc] 36)
  have M0 := B3.new w (.int .i64 n) (.slice lo ln lc) (.slice dO ds.length dc) 36
  go_enter Tryz.func102, Tryz.ntmps102
  go_wp2
  generalize w.alloc (.cells #[.int .i64 n, .slice lo ln lc, .slice dO ds.length dc] 36) = W at *
  have hrW := hr.below hb
  obtain ⟨m0, m1, m2, _⟩ := id M0
  clear M0 hr m0 m1
  go_loopg [3] ds.length (fun g s3 wr => ∃ k : Nat, k ≤ ds.length ∧ g = ds.length - k ∧ s3 = .int .i64 k ∧ Hid (∀ i, i < k → zB (ds.getD i 0) = false) ∧ wr = W)
  case atStart => exact ⟨0, Nat.zero_le _, rfl, rfl, fun i hi => by omega, rfl⟩
  case round =>
    obtain ⟨k, hk, hg, rfl, hN, h'⟩ := hrel
    subst wr
    have HG : Hid (gk = ds.length - k) := hg
    clear hg
    by_cases hlt : k < ds.length
    · rcases hrW with h | ⟨b, off, rfl, hc⟩
      · omega
      have g1 := hc k hlt
      have i1 : (k : Int) < (ds.length : Int) := by omega
      have HY := fun h => zL_yes hlt h
      have HN : zB (ds.getD k 0) = false → Hid (∀ i, i < k + 1 → zB (ds.getD i 0) = false) := fun h i hi => by
        by_cases e : i = k
        · rw [e]; exact h
        · exact hN.out i (by omega)
      generalize ds.getD k 0 = x at *
      clear hc hN
      cases q : zB x
      · have HN := HN q
        have hz : (FloatKind.f64.format.order x 0 == some .eq) = false := q
        clear HY q
        go_wp2
        go_roundg (ds.length - (k + 1))
        case measure => rw [HG.out]; omega
        case rel => exact ⟨k + 1, by omega, rfl, by go_num, HN, rfl⟩
      · have HY := HY q
        have hz : (FloatKind.f64.format.order x 0 == some .eq) = true := q
        clear HN q
        go_wp2
        go_ret
        exact ⟨by first | rfl | exact end_bool HY.symm, hb⟩
    · have hA : zL ds = false := zL_all (fun i hi => hN.out i (by omega))
      have i1 : ¬ (k : Int) < (ds.length : Int) := by omega
      clear hN
      go_wp2
      go_ret
      exact ⟨by first | rfl | exact end_bool hA.symm, hb⟩
end Go.Proofs.YtmbcmhncicbbjaaGreatDoor

namespace Go.Proofs.YtmbcmhncicbbjaaGreatDoor
open Go.RowKit

set_option maxRecDepth 100000 in
set_option maxHeartbeats 4000000 in
theorem sback_any (n : Int) (ls ds bs : List Nat) (lo dO bo : Option Addr) (lc dc bc : Nat) (ob : Nat → Option Nat) (w : World) (hL : GRow w lo ls) (hD : GRow w dO ds) (hB : GRow w bo bs) (fL : FW ls) (fD : FW ds) (hb : ∀ i, i < bs.length → NR (ob i) (bs.getD i 0)) :
    Calls Tryz.prog 97 #[fcV n lo ls.length lc dO ds.length dc, .slice bo bs.length bc] w fun e w' => GaveLe w (bkA n ls ds bs.length ob) e w' := by
  have cf := fun W => sfit_any n lo dO bo ls.length lc ds.length dc bs.length bc W
  have M0 := B3.new w (.int .i64 n) (.slice lo ls.length lc) (.slice dO ds.length dc) 36
  cases q : fitF n ls.length ds.length bs.length
  · rw [q] at cf
    have eA : bkA n ls ds bs.length ob = ([], 4) := by unfold bkA; rw [q]; rfl
    rw [eA]
    go_enter Tryz.func97, Tryz.ntmps97
    go_wp2_with (go_at_call 122; refine (cf _).mono ?_; rintro e w1 ⟨rfl, b1⟩; have B1 := old_one b1)
    exact bodyPost_ret (v := .tuple #[.slice none 0 0, .int .i64 4]) (by simp [results, Tryz.results97, go_sem]) rfl ⟨_, rfl, GaveF.nil B1⟩
  · rw [q] at cf
    obtain ⟨N, rfl, hN, hl, hd, hbn⟩ := fit_nat q
    have cc := fun W h => scont_any ds dO dc W h fD (by omega)
    cases qz : zL ds
    · rw [qz] at cc
      have HL : Hid (ls.length = tri N) := hl
      have HBN : Hid (bs.length = N) := hbn
      have HDN : Hid (ds.length = N) := hd
      have eA : bkA N ls ds bs.length ob = (tab N (bkO (lsF ls) (qoO ds ob) N), 0) := by unfold bkA; rw [q, qz, Int.toNat_natCast]; rfl
      rw [eA]
      clear hl hbn hd q qz eA
      have hmk := run_make_row' (P := Tryz.prog) 22 48 (.float .f64 0) 8 Tryz.underlying22 Tryz.infoF rfl .i64 .i64 N (by omega) (by omega)
      go_enter Tryz.func97, Tryz.ntmps97
      go_wp2_with (first
        | (go_at_call 122; refine (cf _).mono ?_; rintro e w1 ⟨rfl, b1⟩; have M1 := M0.below b1; obtain ⟨f0, f1, f2, _⟩ := id M1; have B1 := old_one b1)
        | (go_at_call 125; refine (cc _ (hD.below B1)).mono ?_; rintro e w' ⟨rfl, h'⟩; subst w'))
      have hst := vstoref Tryz.prog
      have sz1 := M1.2.2.2.2.2.2
      have S0 : FoS w (w1.alloc (.cells (madeCells #[.float .f64 0] N) 48)) N lo ls.length lc dO ds.length dc w1.heap.size N (fun _ => 0) :=
        ⟨M1.alloc _, RRow.made w1 N, by go_simp, sz1, B1.alloc B1.size _⟩
      have HFin : Hid (∀ z W, RRow W w1.heap.size N z → (∀ p, p < N → NR (bkO (lsF ls) (qoO ds ob) N p) (z p)) → Below w.heap.size w W → GaveF w (tab N (bkO (lsF ls) (qoO ds ob) N)) (.slice (some ⟨w1.heap.size, 0, none⟩) N N) W) := fun z W k1 k2 k3 =>
        ⟨some ⟨w1.heap.size, 0, none⟩, N, toL' N z, by rw [toL'_len], LN_tab (toL'_len _ _) (fun i hi => by rw [toL'_at hi]; exact k2 i hi), k1.grow (toL'_len _ _) (fun j hj => toL'_at hj), by rw [toL'_len]; exact Nat.le_refl _, fun a e => by cases e; exact B1.size, k3⟩
      generalize w1.alloc (.cells (madeCells #[.float .f64 0] N) 48) = W1 at *
      generalize w1.heap.size = g at *
      clear M1 f0 f1 f2 b1 B1 cf hmk cc M0
      have hq := fun x y w => run_op4 (P := Tryz.prog) (op := .quo) opQs 48 x y w
      go_loopg [24] N (fun gg s24 wr => ∃ (i : Nat) (z : Nat → Nat), i ≤ N ∧ gg = N - i ∧ s24 = .int .i64 i ∧ Hid (∀ p, p < i → NR (qoO ds ob p) (z p)) ∧ FoS w wr N lo ls.length lc dO ds.length dc g N z)
      case atStart => exact ⟨0, _, Nat.zero_le _, rfl, rfl, fun p hp => by omega, S0⟩
      case round =>
        clear S0
        obtain ⟨i, z, hi, hg, rfl, hZ, S⟩ := hrel
        have HG : Hid (gk = N - i) := hg
        clear hg
        by_cases hlt : i < N
        · have i1 : (i : Int) < (N : Int) := by omega
          have hib : i < bs.length := by rw [HBN.out]; exact hlt
          have i2 : (i : Int) < (bs.length : Int) := by omega
          have hid : i < ds.length := by rw [HDN.out]; exact hlt
          have i3 : (i : Int) < (ds.length : Int) := by omega
          have hbi := hb i hib
          have hdi : NR (toO (dsF ds i)) (ds.getD i 0) := toO_NR (fD.at hid)
          obtain ⟨b0, off, rfl⟩ : ∃ b off, bo = some ⟨b, off, none⟩ := by
            rcases hB with h | ⟨b, off, rfl, _⟩
            · omega
            · exact ⟨b, off, rfl⟩
          obtain ⟨d0, doff, rfl⟩ : ∃ b off, dO = some ⟨b, off, none⟩ := by
            rcases hD with h | ⟨b, off, rfl, _⟩
            · omega
            · exact ⟨b, off, rfl⟩
          have SD := S.later (Below.refl _ _).drew
          have hbl := World.block_lt_of_cell? w _ (srow_to (w0 := w) hB (Below.refl _ _) hib)
          have hdl := World.block_lt_of_cell? w _ (srow_to (w0 := w) hD (Below.refl _ _) hid)
          simp only at hbl hdl
          have HNX : Hid (∀ W p, p < i + 1 → NR (qoO ds ob p) (if p = i then opR .quo (bs.getD i 0) (ds.getD i 0) W else z p)) := fun W p hp => by
            by_cases e : p = i
            · rw [if_pos e, e]; exact opO_NR opQs hbi hdi W
            · rw [if_neg e]; exact hZ.out p (by omega)
          have HC : ∀ w1, Below wr.drew.heap.size wr.drew w1 → w1.cell? ⟨w.heap.size, 2, none⟩ = some (.slice (some ⟨d0, doff, none⟩) ds.length dc) ∧ w1.cell? ⟨b0, off + i, none⟩ = some (.float .f64 (bs.getD i 0)) ∧ w1.cell? ⟨d0, doff + i, none⟩ = some (.float .f64 (ds.getD i 0)) := fun w1 hb => by
            have S2 := SD.later hb
            obtain ⟨x0, x1, x2, _⟩ := id S2.fbox
            exact ⟨x2, srow_to (w0 := w) hB S2.below hib, srow_to (w0 := w) hD S2.below hid⟩
          have m0 := HC _ (Below.refl _ _)
          generalize bs.getD i 0 = bi at *
          generalize ds.getD i 0 = di at *
          have S3 := fun r => (SD.later (opW_below .quo bi di (Below.refl _ _))).set i r
          have g2 := World.rowIs.cell (SD.later (opW_below .quo bi di (Below.refl _ _))).row hlt
          have g3 := World.rowIs.frozen (SD.later (opW_below .quo bi di (Below.refl _ _))).row i
          have n0 := S.lo'
          have n1 : ¬ g = w.heap.size := by omega
          have n2 : ¬ w.heap.size = g := by omega
          have n3 : ¬ g = b0 := by omega
          have n4 : ¬ b0 = g := by omega
          have n5 : ¬ g = d0 := by omega
          have n6 : ¬ d0 = g := by omega
          have hop : ∀ W a, (opW .quo bi di W).cell? a = W.cell? a := fun W a => by unfold World.cell?; rw [opW_heap]
          have hof : ∀ W a, (opW .quo bi di W).frozen? a = W.frozen? a := fun W a => by unfold World.frozen?; rw [opW_heap]
          rw [hop] at g2
          rw [hof] at g3
          clear hZ hbi hdi
          go_wp2
          first | (go_region_held (fun w' => w'.cell? ⟨w.heap.size, 2, none⟩ = some (.slice (some ⟨d0, doff, none⟩) ds.length dc) ∧ w'.cell? ⟨b0, off + i, none⟩ = some (.float .f64 bi) ∧ w'.cell? ⟨d0, doff + i, none⟩ = some (.float .f64 di)) (go_keep) (fail)) | fail
          all_goals
            go_wp2
            go_roundg (N - (i + 1))
            case measure => rw [HG.out]; omega
            case rel => exact ⟨i + 1, _, by omega, rfl, by go_num, HNX.out _, S3 _⟩
        · have ei : i = N := by omega
          have i1 : ¬ (i : Int) < (N : Int) := by omega
          have HZ : Hid (∀ p, p < N → NR (qoO ds ob p) (z p)) := fun p hp => hZ.out p (by omega)
          clear hZ ei hq
          obtain ⟨x0, x1, x2, _⟩ := id S.fbox
          go_wp2
          clear x0 x1 x2
          obtain ⟨zo, hzo⟩ : ∃ zo, qoO ds ob = zo := ⟨_, rfl⟩
          have HZO : Hid (qoO ds ob = zo) := hzo
          rw [hzo] at HZ HFin
          clear hzo
          go_loopg [43] N (fun gg s43 wr => ∃ (m : Nat) (z : Nat → Nat), m ≤ N ∧ gg = N - m ∧ s43 = .int .i64 m ∧ Hid (∀ p, N ≤ p + m → p < N → NR (bkO (lsF ls) zo N p) (z p)) ∧ Hid (∀ p, p + m < N → NR (zo p) (z p)) ∧ FoS w wr N lo ls.length lc dO ds.length dc g N z)
          case atStart => exact ⟨0, z, Nat.zero_le _, rfl, rfl, fun p hp hp2 => by omega, fun p hp => HZ.out p (by omega), S⟩
          case round =>
            clear S HZ
            obtain ⟨m, z, hm, hg, rfl, hX, hZ, S⟩ := hrel
            have HG2 : Hid (gk = N - m) := hg
            clear hg
            by_cases hlt : m < N
            · obtain ⟨a, ha⟩ : ∃ a, a + m + 1 = N := ⟨N - 1 - m, by omega⟩
              have HA : Hid (a + m + 1 = N) := ha
              have i2 : (m : Int) < (N : Int) := by omega
              have ea : (N : Int) - 1 - (m : Int) = (a : Int) := by omega
              have haN : a < N := by omega
              have HX : Hid (NR (lesO (zo a) (fun s => toO (lsF ls (a + 1 + s) a)) (fun s => bkO (lsF ls) zo N (a + 1 + s)) 0) (z a)) := hZ.out a (by omega)
              clear ha
              obtain ⟨x0, x1, x2, _⟩ := id S.fbox
              go_wp2
              clear x0 x1 x2
              go_loopg [52] m (fun gg s52 wv => ∃ (s : Nat) (z : Nat → Nat), s ≤ m ∧ gg = m - s ∧ s52 = .int .i64 s ∧ Hid (∀ p, N ≤ p + m → p < N → NR (bkO (lsF ls) zo N p) (z p)) ∧ Hid (∀ p, p + (m + 1) < N → NR (zo p) (z p)) ∧ Hid (NR (lesO (zo a) (fun s => toO (lsF ls (a + 1 + s) a)) (fun s => bkO (lsF ls) zo N (a + 1 + s)) s) (z a)) ∧ FoS w wv N lo ls.length lc dO ds.length dc g N z)
              case atStart => exact ⟨0, z, Nat.zero_le _, rfl, rfl, hX, fun p hp => hZ.out p (by omega), HX, S⟩
              case round =>
                clear S hX hZ HX
                obtain ⟨s, z, hs, hg, rfl, hX, hZ, hR, S⟩ := hrel
                have HG3 : Hid (gk = m - s) := hg
                clear hg
                by_cases hlt2 : s < m
                · obtain ⟨k, hk⟩ : ∃ k, a + 1 + s = k := ⟨_, rfl⟩
                  have HKA : Hid (a + 1 + s = k) := hk
                  have hkN : k < N := by have := HA.out; omega
                  have hak : a < k := by omega
                  have ek : (a : Int) + 1 + (s : Int) = (k : Int) := by omega
                  have i3 : (s : Int) < (m : Int) := by omega
                  have i4 : (k : Int) < (N : Int) := by omega
                  have i5 : (a : Int) < (N : Int) := by omega
                  have htl : tri (k + 1) ≤ ls.length := by rw [HL.out]; exact tri_mono (by omega)
                  have hlt3 := tri_in hak hkN
                  rw [← HL.out] at hlt3
                  have hx : NR (toO (lsF ls k a)) (lsF ls k a) := toO_NR (fL.at hlt3)
                  have cb := fun W h => sbelow_any N ls lo lc dO ds.length dc k a W h (by omega) hak htl
                  have cl := fun W => sless_any _ _ _ (z a) (lsF ls k a) (z k) hR.out hx (hX.out k (by have := HA.out; omega) hkN) W
                  have HNX : Hid (∀ r, NR (opO .sub (lesO (zo a) (fun s => toO (lsF ls (a + 1 + s) a)) (fun s => bkO (lsF ls) zo N (a + 1 + s)) s) (opO .mul (toO (lsF ls k a)) (bkO (lsF ls) zo N k))) r → NR (lesO (zo a) (fun s => toO (lsF ls (a + 1 + s) a)) (fun s => bkO (lsF ls) zo N (a + 1 + s)) (s + 1)) r) := fun r hr => by rw [lesO, hk]; exact hr
                  have HXX : Hid (∀ r p, N ≤ p + m → p < N → NR (bkO (lsF ls) zo N p) (if p = a then r else z p)) := fun r p hp hp2 => by rw [if_neg (by have := HA.out; omega)]; exact hX.out p hp hp2
                  have HZX : Hid (∀ r p, p + (m + 1) < N → NR (zo p) (if p = a then r else z p)) := fun r p hp => by rw [if_neg (by have := HA.out; omega)]; exact hZ.out p hp
                  have SD := S.later (Below.refl _ _).drew
                  have hrow := hL.below SD.below
                  generalize lsF ls k a = x at *
                  have HC : ∀ w1, Below wr.drew.heap.size wr.drew w1 → w1.cell? ⟨w.heap.size, 0, none⟩ = some (.int .i64 N) ∧ w1.cell? ⟨w.heap.size, 1, none⟩ = some (.slice lo ls.length lc) ∧ w1.cell? ⟨w.heap.size, 2, none⟩ = some (.slice dO ds.length dc) ∧ w1.cell? ⟨g, a, none⟩ = some (.float .f64 (z a)) ∧ w1.cell? ⟨g, k, none⟩ = some (.float .f64 (z k)) := fun w1 hb => by
                    have S2 := SD.later hb
                    obtain ⟨x0, x1, x2, _⟩ := id S2.fbox
                    exact ⟨x0, x1, x2, World.rowIs.cell S2.row haN, World.rowIs.cell S2.row hkN⟩
                  have m0 := HC _ (Below.refl _ _)
                  clear hR hx hZ hX htl hlt3 hk
                  go_wp2
                  go_region_with (first
                    | (go_at_call 124; refine (cb _ hrow).mono ?_; rintro e w3 ⟨rfl, b3⟩; have m3 := HC _ b3)
                    | (go_at_call 123; refine (cl _).mono ?_; rintro e w4 ⟨r, rfl, hr, b4⟩; have b5 := b3.trans (b4.mono b3.size); have m4 := HC _ b5; have S3 := SD.later b5; have g2 := World.rowIs.cell S3.row haN; have g3 := World.rowIs.frozen S3.row a))
                  all_goals
                    have S4 := S3.set a r
                    go_wp2
                    go_roundg (m - (s + 1))
                    case measure => rw [HG3.out]; omega
                    case rel => exact ⟨s + 1, _, by omega, rfl, by go_num, HXX.out r, HZX.out r, (show NR _ (if a = a then r else z a) by rw [if_pos rfl]; exact HNX.out r hr), S4⟩
                · have es : s = m := by omega
                  have i3 : ¬ (s : Int) < (m : Int) := by omega
                  have HX2 : Hid (∀ p, N ≤ p + (m + 1) → p < N → NR (bkO (lsF ls) zo N p) (z p)) := fun p hp hp2 => by
                    by_cases e : p = a
                    · rw [e, bkO_eq HA.out]; rw [es] at hR; exact hR.out
                    · exact hX.out p (by have := HA.out; omega) hp2
                  clear hX hR es
                  go_wp2
                  go_roundg (N - (m + 1))
                  case measure => rw [HG2.out]; omega
                  case rel => exact ⟨m + 1, z, by omega, rfl, by go_num, HX2, hZ, S⟩
            · have ei : m = N := by omega
              have i2 : ¬ (m : Int) < (N : Int) := by omega
              have hF := HFin.out z _ S.row (fun p hp => hX.out p (by omega) hp) S.below
              rw [← HZO.out] at hF
              clear hZ hX HFin
              go_wp2
              exact bodyPost_ret (v := .tuple #[.slice (some ⟨g, 0, none⟩) N N, .int .i64 0]) (by simp [results, Tryz.results97, go_sem]) rfl ⟨_, rfl, hF⟩
    · rw [qz] at cc
      have eA : bkA N ls ds bs.length ob = ([], 7) := by unfold bkA; rw [q, qz]; rfl
      rw [eA]
      clear hl hbn hd q qz eA
      go_enter Tryz.func97, Tryz.ntmps97
      go_wp2_with (first
        | (go_at_call 122; refine (cf _).mono ?_; rintro e w1 ⟨rfl, b1⟩; have M1 := M0.below b1; obtain ⟨f0, f1, f2, _⟩ := id M1; have B1 := old_one b1)
        | (go_at_call 125; refine (cc _ (hD.below B1)).mono ?_; rintro e w' ⟨rfl, h'⟩; subst w'))
      exact bodyPost_ret (v := .tuple #[.slice none 0 0, .int .i64 7]) (by simp [results, Tryz.results97, go_sem]) rfl ⟨_, rfl, GaveF.nil B1⟩
end Go.Proofs.YtmbcmhncicbbjaaGreatDoor

namespace Go.Proofs.YtmbcmhncicbbjaaGreatDoor
open Go.RowKit

theorem fw_bk {n : Int} {ls ds : List Nat} {bn : Nat} {b : Nat → Option Nat} (h : fitF n ls.length ds.length bn = true) {rs : List Nat} (hr : LN (fwA n ls ds.length bn b).1 rs) : slA n ls ds bn b = bkA n ls ds rs.length (fwO (lsF ls) b) ∧ (fwA n ls ds.length bn b).2 = 0 ∧ ∀ i, i < rs.length → NR (fwO (lsF ls) b i) (rs.getD i 0) := by
  obtain ⟨N, rfl, hN, h1, h2, h3⟩ := fit_nat h
  have e : fwA N ls ds.length bn b = (tab N (fwO (lsF ls) b), 0) := by unfold fwA; rw [h, Int.toNat_natCast]; rfl
  rw [e] at hr ⊢
  have hl : rs.length = N := by rw [hr.1, tab_len]
  refine ⟨?_, rfl, fun i hi => ?_⟩
  · unfold slA bkA
    rw [h, show fitF N ls.length ds.length rs.length = true by rw [hl]; rw [h3] at h; exact h]
    rfl
  · have := hr.2 i (by rw [tab_len]; omega)
    rw [tab_at (by omega)] at this
    exact this
theorem GaveLe.up {w0 w w' : World} {a : List (Option Nat) × Int} {e : Ending} (h : GaveLe w a e w') (hb : Below w0.heap.size w0 w) : GaveLe w0 a e w' := by
  obtain ⟨v, h1, h2⟩ := h
  exact ⟨v, h1, h2.up' hb⟩
set_option maxHeartbeats 1000000 in
theorem ssolve_any (n : Int) (ls ds bs : List Nat) (lo dO bo : Option Addr) (lc dc bc : Nat) (ob : Nat → Option Nat) (w : World) (hL : GRow w lo ls) (hD : GRow w dO ds) (hB : GRow w bo bs) (fL : FW ls) (fD : FW ds) (hb : ∀ i, i < bs.length → NR (ob i) (bs.getD i 0)) :
    Calls Tryz.prog 68 #[fcV n lo ls.length lc dO ds.length dc, .slice bo bs.length bc] w fun e w' => GaveLe w (slA n ls ds bs.length ob) e w' := by
  have cf := fun W h1 h2 => sforward_any n ls bs lo dO bo lc ds.length dc bc ob W h1 h2 fL hb
  have cb := fun W rs (ro : Option Addr) (rc : Nat) h1 h2 h3 (hr : ∀ i, i < rs.length → NR (fwO (lsF ls) ob i) (rs.getD i 0)) => sback_any n ls ds rs lo dO ro lc dc rc (fwO (lsF ls) ob) W h1 h2 h3 fL fD hr
  have B0 := below_one w (.cells #[.int .i64 n, .slice lo ls.length lc, .slice dO ds.length dc] 36)
  have M0 := B3.new w (.int .i64 n) (.slice lo ls.length lc) (.slice dO ds.length dc) 36
  cases q : fitF n ls.length ds.length bs.length
  · have e1 : fwA n ls ds.length bs.length ob = ([], 4) := by unfold fwA; rw [q]; rfl
    have e2 : slA n ls ds bs.length ob = ([], 4) := by unfold slA; rw [q]; rfl
    rw [e1] at cf
    rw [e2]
    go_enter Tryz.func68, Tryz.ntmps68
    go_wp2_with (go_at_call 96; refine (cf _ (hL.below B0) (hB.below B0)).mono ?_; rintro e w1 ⟨_, rfl, ro, rc, rs, rfl, g1, g2, g3, g4, b1⟩; have B1 := B0.trans (b1.mono B0.size))
    exact bodyPost_ret (v := .tuple #[.slice none 0 0, .int .i64 4]) (by simp [results, Tryz.results68, go_sem]) rfl ⟨_, rfl, GaveF.nil B1⟩
  · have hE := fun rs (hr : LN (fwA n ls ds.length bs.length ob).1 rs) => fw_bk q hr
    have e0 : (fwA n ls ds.length bs.length ob).2 = 0 := by unfold fwA; rw [q]; rfl
    generalize fwA n ls ds.length bs.length ob = A at *
    obtain ⟨os, er⟩ := A
    simp only at e0 hE
    subst e0
    generalize slA n ls ds bs.length ob = B at *
    clear q
    go_enter Tryz.func68, Tryz.ntmps68
    go_wp2_with (first
      | (go_at_call 96; refine (cf _ (hL.below B0) (hB.below B0)).mono ?_; rintro e w1 ⟨_, rfl, ro, rc, rs, rfl, g1, g2, g3, g4, b1⟩; have B1 := B0.trans (b1.mono B0.size); obtain ⟨m0, m1, m2, _⟩ := M0.below b1)
      | (go_at_call 97; have hE2 := hE rs g1; refine (cb _ rs ro rc (hL.below B1) (hD.below B1) g2 hE2.2.2).mono ?_; rw [← hE2.1]; rintro e w2 ⟨_, rfl, yo, yc, ys, rfl, k1, k2, k3, k4, b2⟩; have HG := (show GaveF w B.1 (.slice yo ys.length yc) w2 from GaveF.up' ⟨yo, yc, ys, rfl, k1, k2, k3, k4, b2⟩ B1)))
    exact bodyPost_ret (v := .tuple #[.slice yo ys.length yc, .int .i64 B.2]) (by simp [results, Tryz.results68, go_sem, hE2.1]) rfl ⟨_, rfl, HG⟩
end Go.Proofs.YtmbcmhncicbbjaaGreatDoor
