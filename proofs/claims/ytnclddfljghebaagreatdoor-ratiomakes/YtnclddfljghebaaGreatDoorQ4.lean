/- Ratios: Norm. -/
import Derived.Test.YtnclddfljghebaaGreatDoorQ3
namespace Go.Proofs.YtnclddfljghebaaGreatDoor
open Go.RowKit

/-- So many limbs as a right ratio may have, the last one not 0. -/
def fitL (xs : List Nat) : Bool := decide (0 < xs.length) && decide (xs.length ≤ 256) && decide (xs.getD (xs.length - 1) 0 ≠ 0)
set_option maxHeartbeats 400000 in
theorem isOne_any (xs : List Nat) (ao : Option Addr) (cap : Nat) (w : World) (hr : LRow w ao xs) :
    Calls Tryz.prog 45 #[.slice ao xs.length cap] w fun e w' => e = .returned (.bool (decide (xs = [1]))) ∧ w' = w := by
  by_cases h1 : xs.length = 1
  · obtain ⟨x, rfl⟩ : ∃ x, xs = [x] := by
      cases xs with
      | nil => simp at h1
      | cons a l =>
        cases l with
        | nil => exact ⟨a, rfl⟩
        | cons b l => simp at h1
    rcases hr with h | ⟨b, o, rfl, hc⟩
    · simp at h
    have g := hc 0 (by simp)
    simp only [List.getD_cons_zero, Nat.add_zero] at g
    have HE : Hid (decide ([x] = [1]) = ((x : Int) == 1)) := (show _ = _ by
      by_cases h : x = 1
      · subst h; rfl
      · rw [decide_eq_false (by simpa using h), eq_comm]; simp; omega)
    rw [HE.out]
    simp only [List.length_cons, List.length_nil]
    clear hc h1 HE
    go_enter Tryz.func45, Tryz.ntmps45
    go_wp2
    go_ret
    exact ⟨rfl, rfl⟩
  · have t1 : ((xs.length : Int) == 1) = false := by simp; omega
    have HE : Hid (decide (xs = [1]) = false) := decide_eq_false fun h => h1 (by rw [h]; rfl)
    rw [HE.out]
    clear HE
    go_enter Tryz.func45, Tryz.ntmps45
    go_wp2
    go_ret
    exact ⟨rfl, rfl⟩
set_option maxHeartbeats 400000 in
theorem fits_any (xs : List Nat) (ao : Option Addr) (cap : Nat) (w : World) (hr : LRow w ao xs) :
    Calls Tryz.prog 46 #[.slice ao xs.length cap] w fun e w' => e = .returned (.bool (fitL xs)) ∧ w' = w := by
  by_cases h0 : 0 < xs.length
  · by_cases h1 : xs.length ≤ 256
    · rcases hr with h | ⟨b, o, rfl, hc⟩
      · omega
      have g := hc (xs.length - 1) (by omega)
      obtain ⟨n, hn⟩ : ∃ n, xs.length - 1 = n := ⟨_, rfl⟩
      obtain ⟨x, hx⟩ : ∃ x, xs.getD (xs.length - 1) 0 = x := ⟨_, rfl⟩
      have HE : Hid (fitL xs = ((x : Int) != 0)) := (show _ = _ by
        unfold fitL
        rw [decide_eq_true h0, decide_eq_true h1, hx, Bool.true_and, Bool.true_and]
        by_cases h : x = 0
        · subst h; rfl
        · rw [decide_eq_true h, eq_comm]; simp; omega)
      rw [HE.out]
      rw [hx, hn] at g
      have i1 : (xs.length : Int) - 1 = (n : Int) := by omega
      have i2 : (n : Int) < (xs.length : Int) := by omega
      have i3 : (0 : Int) < (xs.length : Int) := by omega
      have i4 : (xs.length : Int) ≤ 256 := by omega
      have i5 : n < xs.length := by omega
      have w1 : IntKind.i64.wrap (n : Int) = (n : Int) := by rw [IntKind.wrap_i64]; omega
      clear hc HE hx hn
      go_enter Tryz.func46, Tryz.ntmps46
      go_wp2
      go_ret
      exact ⟨rfl, rfl⟩
    · have HE : Hid (fitL xs = false) := (show _ = _ by unfold fitL; rw [decide_eq_false h1, Bool.and_false, Bool.false_and])
      rw [HE.out]
      have i3 : (0 : Int) < (xs.length : Int) := by omega
      have i4 : ¬ (xs.length : Int) ≤ 256 := by omega
      clear HE
      go_enter Tryz.func46, Tryz.ntmps46
      go_wp2
      go_ret
      exact ⟨rfl, rfl⟩
  · have HE : Hid (fitL xs = false) := (show _ = _ by unfold fitL; rw [decide_eq_false h0, Bool.false_and, Bool.false_and])
    rw [HE.out]
    have i3 : ¬ (0 : Int) < (xs.length : Int) := by omega
    clear HE
    go_enter Tryz.func46, Tryz.ntmps46
    go_wp2
    go_ret
    exact ⟨rfl, rfl⟩
set_option maxHeartbeats 1000000 in
theorem lput_any (xs : List Nat) (ao : Option Addr) (cap : Nat) (w : World) (h : LS w ao cap xs) (hL : Lm xs) (hn : xs.length ≤ 100000) :
    Calls Tryz.prog 75 #[.int .i64 0, .slice ao xs.length cap] w (GaveLW w (vl xs)) := by
  have ct := trimL_any xs ao cap w h hL (by omega)
  have hT := h.trim hL
  have nle := nlW_le hL
  generalize vl xs = z at *
  have hl := lo_length z
  obtain ⟨n, en⟩ : ∃ n, nl z = n := ⟨_, rfl⟩
  unfold GaveLW
  rw [en] at ct hl nle ⊢
  obtain ⟨ts, ets⟩ : ∃ ts, lo z = ts := ⟨_, rfl⟩
  rw [ets] at hT hl ⊢
  clear ets en
  by_cases h0 : n = 0
  · subst h0
    go_enter Tryz.func75, Tryz.ntmps75
    go_wp2_with (go_at_call 35; refine ct.mono ?_; rintro e w' ⟨rfl, hww⟩; subst w')
    go_ret
    exact ⟨none, 0, rfl, ⟨Or.inl hl, by omega, fun _ => rfl⟩, Below.refl _ _⟩
  · have t1 : ((n : Int) == 0) = false := by simp; omega
    have hmk := run_make_row' (P := Tryz.prog) 22 46 (.int .u64 0) 8 Tryz.underlying22 Tryz.infoU rfl .i64 .i64 n (by omega) (by omega)
    have hmade := FRow.made w n
    have hbm : Below w.heap.size w (w.alloc (.cells (madeCells #[.int .u64 0] n) 46)) := (Below.refl _ _).alloc (Nat.le_refl _) _
    rcases hT.1 with hc | ⟨b, o, rfl, hc⟩
    · omega
    go_enter Tryz.func75, Tryz.ntmps75
    go_wp2_with (go_at_call 35; refine ct.mono ?_; rintro e w' ⟨rfl, hww⟩; subst w')
    clear hmk ct
    go_loopg [19] n (fun g i wr => ∃ k : Nat, k ≤ n ∧ g = n - k ∧ i = .int .i64 k ∧ FRow wr w.heap.size n (fun j => if j < k then ts.getD j 0 else 0) ∧ Below w.heap.size w wr)
    case atStart => exact ⟨0, Nat.zero_le _, rfl, rfl, hmade.congr (fun j _ => by simp), hbm⟩
    case round =>
      obtain ⟨k, hk, hg, rfl, hrow, hb⟩ := hrel
      clear hmade hbm
      by_cases hlt : k < n
      · have g0 := hc k (by omega)
        have g1 : wr.cell? ⟨b, o + k, none⟩ = some (.int .u64 (ts.getD k 0 : Nat)) := by rw [hb.cell (World.block_lt_of_cell? w _ g0)]; exact g0
        have hcell : wr.cell? ⟨w.heap.size, k, none⟩ = some (.int .u64 ((if k < k then ts.getD k 0 else 0 : Nat) : Int)) := World.rowIs.cell hrow hlt
        have hfro := World.rowIs.frozen hrow k
        rw [if_neg (by omega)] at hcell
        have hset := hrow.set k (ts.getD k 0)
        obtain ⟨x, ex⟩ : ∃ x, ts.getD k 0 = x := ⟨_, rfl⟩
        rw [ex] at g1 hset
        have EX : Hid _ := ex
        have hbs := hb.setCell (p := ⟨w.heap.size, k, none⟩) (Nat.le_refl _) (.int .u64 ((x : Nat) : Int))
        clear hrow hb g0 ex
        go_wp2
        go_roundg (n - (k + 1))
        case measure => omega
        case rel =>
          refine ⟨k + 1, by omega, rfl, by go_num, hset.congr (fun j hj => ?_), hbs⟩
          by_cases hjk : j = k
          · subst hjk; rw [if_pos rfl, if_pos (by omega), EX.out]
          · rw [if_neg hjk]
            by_cases h : j < k
            · rw [if_pos h, if_pos (by omega)]
            · rw [if_neg h, if_neg (by omega)]
      · have hkn : k = n := by omega
        subst hkn
        go_wp2
        go_ret
        exact ⟨_, _, rfl, ⟨FRow.lrow hrow hl (fun j hj => by rw [if_pos hj]), by omega, fun e => by cases e⟩, hb⟩
end Go.Proofs.YtnclddfljghebaaGreatDoor

namespace Go.Proofs.YtnclddfljghebaaGreatDoor
open Go.RowKit

/-- A box of three cells. -/
structure B3q (w : World) (b : Nat) (x y z : Value) : Prop where
  c0 : w.cell? ⟨b, 0, none⟩ = some x
  c1 : w.cell? ⟨b, 1, none⟩ = some y
  c2 : w.cell? ⟨b, 2, none⟩ = some z
  f0 : w.frozen? ⟨b, 0, none⟩ = false
  f1 : w.frozen? ⟨b, 1, none⟩ = false
  f2 : w.frozen? ⟨b, 2, none⟩ = false
  no : ∀ k, 3 ≤ k → w.cell? ⟨b, k, none⟩ = none
  lt : b < w.heap.size
theorem B3q.new (w : World) (x y z : Value) (t : TypeId) : B3q (w.alloc (.cells #[x, y, z] t)) w.heap.size x y z := by
  refine ⟨by go_simp, by go_simp, by go_simp, by go_simp, by go_simp, by go_simp, fun k hk => ?_, by simp⟩
  have : ¬ k < 3 := by omega
  simp [go_sem, this]
theorem B3q.below {w w' : World} {b : Nat} {x y z : Value} (h : B3q w b x y z) (hb : Below w.heap.size w w') : B3q w' b x y z :=
  ⟨(hb.cell (p := ⟨b, 0, none⟩) h.lt).trans h.c0, (hb.cell (p := ⟨b, 1, none⟩) h.lt).trans h.c1, (hb.cell (p := ⟨b, 2, none⟩) h.lt).trans h.c2, (hb.frozen (p := ⟨b, 0, none⟩) h.lt).trans h.f0, (hb.frozen (p := ⟨b, 1, none⟩) h.lt).trans h.f1, (hb.frozen (p := ⟨b, 2, none⟩) h.lt).trans h.f2, fun k hk => (hb.cell (p := ⟨b, k, none⟩) h.lt).trans (h.no k hk), Nat.lt_of_lt_of_le h.lt hb.size⟩
theorem B3q.alloc {w : World} {b : Nat} {x y z : Value} (h : B3q w b x y z) (o : Obj) : B3q (w.alloc o) b x y z := h.below ((Below.refl _ _).alloc (Nat.le_refl _) o)
theorem B3q.drew {w : World} {b : Nat} {x y z : Value} (h : B3q w b x y z) : B3q w.drew b x y z := ⟨h.c0, h.c1, h.c2, h.f0, h.f1, h.f2, h.no, h.lt⟩
/-- A ratio handed back, or none with an error. -/
def GaveR (w : World) (o : Option (Bool × Nat × Nat)) (er : Int) (e : Ending) (w' : World) : Prop :=
  match o with
  | some (neg, N, D) => ∃ ao cap bo bcap, e = .returned (.tuple #[.agg #[.bool neg, .slice ao (nl N) cap, .slice bo (nl D) bcap], .int .i64 0]) ∧ LS w' ao cap (lo N) ∧ LS w' bo bcap (lo D) ∧ Below w.heap.size w w'
  | none => e = .returned (.tuple #[.agg #[.bool false, .slice none 0 0, .slice none 0 0], .int .i64 er]) ∧ Below w.heap.size w w'
theorem LS.made {w : World} {ao : Option Addr} {cap : Nat} {xs : List Nat} (h : LS w ao cap xs) (o : Obj) : LS (w.alloc o) ao cap xs := h.below ((Below.refl _ _).alloc (Nat.le_refl _) o)
/-- Three cells of a box are written. -/
theorem LS.three {w0 w : World} {ao : Option Addr} {cap : Nat} {xs : List Nat} (h0 : LS w0 ao cap xs) (h : LS w ao cap xs) {g : Nat} (hg : w0.heap.size ≤ g) (a b c : Value) : LS (((w.setCell ⟨g, 0, none⟩ a).setCell ⟨g, 1, none⟩ b).setCell ⟨g, 2, none⟩ c) ao cap xs := by
  refine ⟨?_, h.2⟩
  rcases h.1 with e | ⟨q, off, rfl, hc⟩
  · exact Or.inl e
  · by_cases l0 : xs.length = 0
    · exact Or.inl l0
    · rcases h0.1 with e | ⟨b', off', e', hc'⟩
      · exact absurd e l0
      · cases e'
        have hb := World.block_lt_of_cell? w0 _ (hc' 0 (by omega))
        have hb : q < w0.heap.size := hb
        refine Or.inr ⟨q, off, rfl, fun j hj => ?_⟩
        rw [World.cell?_setCell_other _ _ _ _ (fun e => by have := congrArg Addr.block e; simp at this; omega), World.cell?_setCell_other _ _ _ _ (fun e => by have := congrArg Addr.block e; simp at this; omega), World.cell?_setCell_other _ _ _ _ (fun e => by have := congrArg Addr.block e; simp at this; omega)]
        exact hc j hj
theorem below_three {B : Nat} {w w' : World} (h : Below B w w') {g : Nat} (hg : B ≤ g) (a b c : Value) : Below B w (((w'.setCell ⟨g, 0, none⟩ a).setCell ⟨g, 1, none⟩ b).setCell ⟨g, 2, none⟩ c) :=
  ((h.setCell (p := ⟨g, 0, none⟩) hg _).setCell (p := ⟨g, 1, none⟩) hg _).setCell (p := ⟨g, 2, none⟩) hg _
/-- A box is written that is not a block of these limbs: by what the cells held. -/
theorem LS.threeB {w : World} {ao : Option Addr} {cap : Nat} {xs : List Nat} (h : LS w ao cap xs) {g : Nat} {x : Bool} {y0 z0 : Option Addr} {y1 y2 z1 z2 : Nat} (hB : B3q w g (.bool x) (.slice y0 y1 y2) (.slice z0 z1 z2)) (a b c : Value) :
    LS (((w.setCell ⟨g, 0, none⟩ a).setCell ⟨g, 1, none⟩ b).setCell ⟨g, 2, none⟩ c) ao cap xs := by
  refine ⟨?_, h.2⟩
  rcases h.1 with e | ⟨q, off, rfl, hc⟩
  · exact Or.inl e
  · by_cases l0 : xs.length = 0
    · exact Or.inl l0
    · have hq : q ≠ g := fun k => by
        subst k
        have cc := hc 0 (by omega)
        rw [Nat.add_zero] at cc
        rcases (show off = 0 ∨ off = 1 ∨ off = 2 ∨ 3 ≤ off by omega) with rfl | rfl | rfl | h2
        · rw [hB.c0] at cc; cases cc
        · rw [hB.c1] at cc; cases cc
        · rw [hB.c2] at cc; cases cc
        · rw [hB.no off h2] at cc; cases cc
      refine Or.inr ⟨q, off, rfl, fun j hj => ?_⟩
      rw [World.cell?_setCell_other _ _ _ _ (fun e => by have := congrArg Addr.block e; simp at this; omega), World.cell?_setCell_other _ _ _ _ (fun e => by have := congrArg Addr.block e; simp at this; omega), World.cell?_setCell_other _ _ _ _ (fun e => by have := congrArg Addr.block e; simp at this; omega)]
      exact hc j hj
set_option maxHeartbeats 1000000 in
theorem answer_any (neg : Bool) (N D : Nat) (ao bo : Option Addr) (cap bcap : Nat) (w : World) (h1 : LS w ao cap (lo N)) (h2 : LS w bo bcap (lo D)) (n1 : nl N ≤ 40000) (n2 : nl D ≤ 40000) :
    Calls Tryz.prog 40 #[.bool neg, .slice ao (nl N) cap, .slice bo (nl D) bcap] w (GaveR w (if nl N ≤ 256 ∧ nl D ≤ 256 then some (neg, N, D) else none) 3) := by
  have RB := B3q.new w (.bool false) (.slice none 0 0) (.slice none 0 0) 24
  have hb0 : Below w.heap.size w (w.alloc (.cells #[.bool false, .slice none 0 0, .slice none 0 0] 24)) := (Below.refl _ _).alloc (Nat.le_refl _) _
  have L1 := h1.made (.cells #[.bool false, .slice none 0 0, .slice none 0 0] 24)
  have L2 := h2.made (.cells #[.bool false, .slice none 0 0, .slice none 0 0] 24)
  by_cases hc : nl N ≤ 256 ∧ nl D ≤ 256
  · rw [if_pos hc]
    have i1 : ¬ (256 : Int) < (nl N : Int) := by omega
    have i2 : ¬ (256 : Int) < (nl D : Int) := by omega
    have c1 := lput_any (lo N) ao cap _ L1 (lo_lm N) (by rw [lo_length]; omega)
    rw [lo_length, vl_lo] at c1
    have c2 := fun w' (h : Below (w.alloc (.cells #[.bool false, .slice none 0 0, .slice none 0 0] 24)).heap.size (w.alloc (.cells #[.bool false, .slice none 0 0, .slice none 0 0] 24)) w') => lput_any (lo D) bo bcap w' (L2.below h) (lo_lm D) (by rw [lo_length]; omega)
    simp only [lo_length, vl_lo] at c2
    unfold GaveR
    go_enter Tryz.func40, Tryz.ntmps40
    go_upto_region 1 with fail
    generalize w.alloc (.cells #[.bool false, .slice none 0 0, .slice none 0 0] 24) = W0 at *
    obtain ⟨r0, r1, r2, p0, p1, p2, _, plt⟩ := id RB
    go_wp2_with (first | (go_at_call_of 75 (Value.slice bo (nl D) bcap); refine (c2 _ hb1).mono ?_; rintro e w2 ⟨bo1, bc1, rfl, hB1, hb2⟩; have RB2 := RB1.below hb2; obtain ⟨r0'', r1'', r2'', p0'', p1'', p2'', _, _⟩ := id RB2) | (go_at_call_of 75 (Value.slice ao (nl N) cap); refine c1.mono ?_; rintro e w1 ⟨ao1, ac1, rfl, hA1, hb1⟩; have RB1 := RB.below hb1; obtain ⟨r0', r1', r2', p0', p1', p2', _, _⟩ := id RB1))
    exact bodyPost_ret (v := .tuple #[.agg #[.bool neg, .slice ao1 (nl N) ac1, .slice bo1 (nl D) bc1], .int .i64 0]) (by simp [results, Tryz.results40, go_sem, r0'', r1'', r2'']) rfl ⟨ao1, ac1, bo1, bc1, rfl, (hA1.below hb2).threeB RB2 _ _ _, hB1.threeB RB2 _ _ _, below_three ((hb0.trans (hb1.mono hb0.size)).trans (hb2.mono (Nat.le_trans hb0.size hb1.size))) (Nat.le_refl _) _ _ _⟩
  · rw [if_neg hc]
    unfold GaveR
    by_cases hN : nl N ≤ 256
    · have i1 : ¬ (256 : Int) < (nl N : Int) := by omega
      have i2 : (256 : Int) < (nl D : Int) := by omega
      go_enter Tryz.func40, Tryz.ntmps40
      go_upto_region 1 with fail
      generalize w.alloc (.cells #[.bool false, .slice none 0 0, .slice none 0 0] 24) = W0 at *
      obtain ⟨r0, r1, r2, p0, p1, p2, _, plt⟩ := id RB
      go_wp2
      exact bodyPost_ret (v := .tuple #[.agg #[.bool false, .slice none 0 0, .slice none 0 0], .int .i64 3]) (by simp [results, Tryz.results40, go_sem, r0, r1, r2]) rfl ⟨rfl, below_three hb0 (Nat.le_refl _) _ _ _⟩
    · have i1 : (256 : Int) < (nl N : Int) := by omega
      go_enter Tryz.func40, Tryz.ntmps40
      go_upto_region 1 with fail
      generalize w.alloc (.cells #[.bool false, .slice none 0 0, .slice none 0 0] 24) = W0 at *
      obtain ⟨r0, r1, r2, p0, p1, p2, _, plt⟩ := id RB
      go_wp2
      exact bodyPost_ret (v := .tuple #[.agg #[.bool false, .slice none 0 0, .slice none 0 0], .int .i64 3]) (by simp [results, Tryz.results40, go_sem, r0, r1, r2]) rfl ⟨rfl, below_three hb0 (Nat.le_refl _) _ _ _⟩
/-- Is it a right ratio? -/
def rtB (neg : Bool) (xs ys : List Nat) : Bool := if xs.length = 0 then !neg && decide (ys = [1]) else fitL xs && fitL ys && (Nat.gcd (vl xs) (vl ys) == 1)
theorem lo_is_one {z : Nat} : decide (lo z = [1]) = (z == 1) := by
  rw [Bool.eq_iff_iff, decide_eq_true_iff, beq_iff_eq]
  constructor
  · intro h
    rw [← vl_lo z, h]
    rfl
  · rintro rfl
    exact (lo_one (by omega) (by omega)).2
theorem fit_pos {xs : List Nat} (h : fitL xs = true) : vl xs ≠ 0 ∧ xs.length ≤ 256 ∧ 0 < xs.length := by
  unfold fitL at h
  simp only [Bool.and_eq_true, decide_eq_true_eq] at h
  obtain ⟨⟨h1, h2⟩, h3⟩ := h
  refine ⟨fun hz => ?_, h2, h1⟩
  have := vl_take_succ (xs := xs) (k := xs.length - 1) (by omega)
  rw [List.take_of_length_le (by omega), hz] at this
  have hp := Nat.two_pow_pos (64 * (xs.length - 1))
  have : 2 ^ (64 * (xs.length - 1)) * xs.getD (xs.length - 1) 0 = 0 := by omega
  rcases Nat.mul_eq_zero.1 this with h | h
  · omega
  · exact h3 h
set_option maxHeartbeats 1000000 in
theorem rright_any (neg : Bool) (xs ys : List Nat) (ao bo : Option Addr) (cap bcap : Nat) (w : World) (h1 : LRow w ao xs) (h2 : LRow w bo ys) (hL : Lm xs) (hM : Lm ys) (hT : TabW w) :
    Calls Tryz.prog 11 #[.agg #[.bool neg, .slice ao xs.length cap, .slice bo ys.length bcap]] w fun e w' => e = .returned (.bool (rtB neg xs ys)) ∧ Below w.heap.size w w' := by
  have RB := B3q.new w (.bool neg) (.slice ao xs.length cap) (.slice bo ys.length bcap) 24
  have hb0 : Below w.heap.size w (w.alloc (.cells #[.bool neg, .slice ao xs.length cap, .slice bo ys.length bcap] 24)) := (Below.refl _ _).alloc (Nat.le_refl _) _
  have L1 := h1.below hb0
  have L2 := h2.below hb0
  have T1 := tabW_below hT hb0
  go_enter Tryz.func11, Tryz.ntmps11
  go_upto_region 1 with fail
  generalize w.alloc (.cells #[.bool neg, .slice ao xs.length cap, .slice bo ys.length bcap] 24) = W0 at *
  obtain ⟨r0, r1, r2, p0, p1, p2, _, plt⟩ := id RB
  clear hT h1 h2
  by_cases h0 : xs.length = 0
  · have HE : Hid (rtB neg xs ys = (!neg && decide (ys = [1]))) := (show _ = _ by unfold rtB; rw [if_pos h0])
    have t0 : ((xs.length : Int) == 0) = true := beq_iff_eq.2 (by omega)
    have c1 := isOne_any ys bo bcap W0 L2
    generalize decide (ys = [1]) = d at *
    cases neg
    · go_wp2_with (go_at_call 45; refine c1.mono ?_; rintro e w' ⟨rfl, hww⟩; subst w')
      go_ret
      exact ⟨retB (by rw [HE.out]; rfl), hb0⟩
    · go_wp2
      go_ret
      exact ⟨retB (by rw [HE.out]; rfl), hb0⟩
  · have t0 : ((xs.length : Int) == 0) = false := by rw [beq_eq_false_iff_ne]; omega
    have HE : Hid (rtB neg xs ys = (fitL xs && fitL ys && (Nat.gcd (vl xs) (vl ys) == 1))) := (show _ = _ by unfold rtB; rw [if_neg h0])
    have c1 := fits_any xs ao cap W0 L1
    have c2 := fits_any ys bo bcap W0 L2
    cases hx : fitL xs
    · rw [hx] at c1 HE
      go_wp2_with (go_at_call 46; refine c1.mono ?_; rintro e w' ⟨rfl, hww⟩; subst w')
      go_ret
      exact ⟨retB (by rw [HE.out]; rfl), hb0⟩
    · rw [hx] at c1 HE
      cases hy : fitL ys
      · rw [hy] at c2 HE
        go_wp2_with (first | (go_at_call_of 46 (Value.slice ao xs.length cap); refine c1.mono ?_; rintro e w' ⟨rfl, hww⟩; subst w') | (go_at_call_of 46 (Value.slice bo ys.length bcap); refine c2.mono ?_; rintro e w' ⟨rfl, hww⟩; subst w'))
        go_ret
        exact ⟨retB (by rw [HE.out]; rfl), hb0⟩
      · rw [hy] at c2 HE
        obtain ⟨x1, x2, _⟩ := fit_pos hx
        obtain ⟨y1, y2, _⟩ := fit_pos hy
        have cc := common_any xs ys ao bo cap bcap 0 W0 L1 L2 hL hM (by omega) (by omega) x1 y1 T1
        have eC : comA (vl xs) (vl ys) 0 = Nat.gcd (vl xs) (vl ys) := by unfold comA; rw [if_pos (by omega)]
        rw [eC] at cc
        obtain ⟨G, eG⟩ : ∃ G, Nat.gcd (vl xs) (vl ys) = G := ⟨_, rfl⟩
        rw [eG] at cc HE
        have co := fun w' ao' cap' (h : LRow w' ao' (lo G)) => isOne_any (lo G) ao' cap' w' h
        simp only [lo_length, lo_is_one] at co
        obtain ⟨d, ed⟩ : ∃ d, (G == 1) = d := ⟨_, rfl⟩
        rw [ed] at HE
        simp only [ed] at co
        clear hx hy eC eG ed
        go_wp2_with (first | (go_at_call_of 46 (Value.slice ao xs.length cap); refine c1.mono ?_; rintro e w' ⟨rfl, hww⟩; subst w') | (go_at_call_of 46 (Value.slice bo ys.length bcap); refine c2.mono ?_; rintro e w' ⟨rfl, hww⟩; subst w') | (go_at_call 38; refine cc.mono ?_; rintro e w3 ⟨go, gc, rfl, hG, hb3⟩) | (go_at_call 45; refine (co _ _ _ hG.1).mono ?_; rintro e w' ⟨rfl, hww⟩; subst w'))
        go_ret
        exact ⟨retB (by rw [HE.out]; rfl), hb0.trans (hb3.mono hb0.size)⟩
end Go.Proofs.YtnclddfljghebaaGreatDoor

namespace Go.Proofs.YtnclddfljghebaaGreatDoor
open Go.RowKit

/-- One limb in a new row. -/
theorem oneLS (W : World) (z : Nat) (t : TypeId) : LS (W.alloc (.cells #[.int .u64 ((z : Nat) : Int)] t)) (some ⟨W.heap.size, 0, none⟩) 1 [z] :=
  ⟨Or.inr ⟨W.heap.size, 0, rfl, fun j hj => by
    have : j = 0 := by simp at hj; omega
    subst this
    go_simp⟩, by simp, fun e => by cases e⟩
theorem one_vl (z : Nat) : vl [z] = z := by simp [vl]
theorem one_lm {z : Nat} (h : z < 18446744073709551616) : Lm [z] := fun x hx => by simp at hx; omega
/-- A ratio handed back with no error beside it. -/
def GaveI (w : World) (neg : Bool) (N D : Nat) (e : Ending) (w' : World) : Prop :=
  ∃ ao cap bo bcap, e = .returned (.agg #[.bool neg, .slice ao (nl N) cap, .slice bo (nl D) bcap]) ∧ LS w' ao cap (lo N) ∧ LS w' bo bcap (lo D) ∧ Below w.heap.size w w'
set_option maxHeartbeats 1000000 in
theorem rint_any (n : Int) (n1 : -9223372036854775808 ≤ n) (n2 : n < 9223372036854775808) (w : World) :
    Calls Tryz.prog 36 #[.int .i64 n] w (GaveI w (decide (n < 0)) n.natAbs 1) := by
  have RB := B3q.new w (.bool false) (.slice none 0 0) (.slice none 0 0) 24
  have hb0 : Below w.heap.size w (w.alloc (.cells #[.bool false, .slice none 0 0, .slice none 0 0] 24)) := (Below.refl _ _).alloc (Nat.le_refl _) _
  obtain ⟨z, ez⟩ : ∃ z, n.natAbs = z := ⟨_, rfl⟩
  rw [ez]
  have cp := fun (W : World) (z : Nat) (hz : z < 18446744073709551616) => lput_any [z] (some ⟨W.heap.size, 0, none⟩) 1 (W.alloc (.cells #[.int .u64 ((z : Nat) : Int)] 46)) (oneLS W z _) (one_lm hz) (by simp)
  simp only [one_vl, List.length_cons, List.length_nil] at cp
  go_enter Tryz.func36, Tryz.ntmps36
  go_upto_region 1 with fail
  generalize w.alloc (.cells #[.bool false, .slice none 0 0, .slice none 0 0] 24) = W0 at *
  have c1 := cp W0 z (by omega)
  have c2 := fun W => cp W 1 (by omega)
  by_cases h0 : n < 0
  · have u1 : IntKind.u64.wrap n = n + 18446744073709551616 := by rw [IntKind.wrap_u64]; omega
    have u2 : IntKind.u64.wrap (-(n + 18446744073709551616)) = (z : Int) := by rw [IntKind.wrap_u64]; omega
    have hd : decide (n < 0) = true := decide_eq_true h0
    rw [hd]
    clear hd
    go_wp2_with (first | (go_at_call 75; refine (c2 _).mono ?_; rintro e w2 ⟨bo1, bc1, rfl, hB1, hb2⟩; have RB2 := (RB1.alloc (.cells #[.int .u64 ((1 : Nat) : Int)] 46)).below hb2; obtain ⟨r0, r1, r2, p0, p1, p2, _, _⟩ := id RB2) | (go_at_call 75; refine c1.mono ?_; rintro e w1 ⟨ao1, ac1, rfl, hA1, hb1⟩; have RB1 := (RB.alloc (.cells #[.int .u64 ((z : Nat) : Int)] 46)).below hb1))
    have q1 := (hb0.alloc hb0.size (.cells #[.int .u64 ((z : Nat) : Int)] 46)).trans (hb1.mono (by have := hb0.size; simp; omega))
    have q2 := (q1.alloc q1.size (.cells #[.int .u64 ((1 : Nat) : Int)] 46)).trans (hb2.mono (by have := q1.size; simp; omega))
    exact bodyPost_ret (v := .agg #[.bool true, .slice ao1 (nl z) ac1, .slice bo1 (nl 1) bc1]) (by simp [results, Tryz.results36, go_sem, r0, r1, r2]) rfl ⟨ao1, ac1, bo1, bc1, by rw [decide_eq_true h0], ((hA1.made _).below hb2).threeB RB2 _ _ _, hB1.threeB RB2 _ _ _, below_three q2 (Nat.le_refl _) _ _ _⟩
  · have u1 : IntKind.u64.wrap n = (z : Int) := by rw [IntKind.wrap_u64]; omega
    have hd : decide (n < 0) = false := decide_eq_false h0
    rw [hd]
    clear hd
    go_wp2_with (first | (go_at_call 75; refine (c2 _).mono ?_; rintro e w2 ⟨bo1, bc1, rfl, hB1, hb2⟩; have RB2 := (RB1.alloc (.cells #[.int .u64 ((1 : Nat) : Int)] 46)).below hb2; obtain ⟨r0, r1, r2, p0, p1, p2, _, _⟩ := id RB2) | (go_at_call 75; refine c1.mono ?_; rintro e w1 ⟨ao1, ac1, rfl, hA1, hb1⟩; have RB1 := (RB.alloc (.cells #[.int .u64 ((z : Nat) : Int)] 46)).below hb1))
    have q1 := (hb0.alloc hb0.size (.cells #[.int .u64 ((z : Nat) : Int)] 46)).trans (hb1.mono (by have := hb0.size; simp; omega))
    have q2 := (q1.alloc q1.size (.cells #[.int .u64 ((1 : Nat) : Int)] 46)).trans (hb2.mono (by have := q1.size; simp; omega))
    exact bodyPost_ret (v := .agg #[.bool false, .slice ao1 (nl z) ac1, .slice bo1 (nl 1) bc1]) (by simp [results, Tryz.results36, go_sem, r0, r1, r2]) rfl ⟨ao1, ac1, bo1, bc1, by rw [decide_eq_false (show ¬ n < 0 by omega)], ((hA1.made _).below hb2).threeB RB2 _ _ _, hB1.threeB RB2 _ _ _, below_three q2 (Nat.le_refl _) _ _ _⟩
end Go.Proofs.YtnclddfljghebaaGreatDoor

namespace Go.Proofs.YtnclddfljghebaaGreatDoor
open Go.RowKit

/-- What Norm tells of a ratio. -/
def nmA (neg : Bool) (N D : Nat) : Option (Bool × Nat × Nat) × Int :=
  if D = 0 then (none, 7) else if N = 0 then (some (false, 0, 1), 0)
  else if nl (N / Nat.gcd N D) ≤ 256 ∧ nl (D / Nat.gcd N D) ≤ 256 then (some (neg, N / Nat.gcd N D, D / Nat.gcd N D), 3) else (none, 3)
theorem bl_quo {a g : Nat} (hd : g ∣ a) (h0 : a ≠ 0) : bl a ≤ bl g + bl (a / g) := by
  obtain ⟨k, rfl⟩ := hd
  have g0 : 0 < g := Nat.pos_of_ne_zero fun h => h0 (by rw [h, Nat.zero_mul])
  rw [Nat.mul_div_cancel_left _ g0]
  refine bl_le_iff.2 ?_
  rw [Nat.pow_add]
  exact Nat.mul_lt_mul'' (bl_le_iff.1 (Nat.le_refl _)) (bl_le_iff.1 (Nat.le_refl _))
/-- Where the divisor has too few bits the answer is too long. -/
theorem too_long {N D : Nat} (hN : N ≠ 0) (hD : D ≠ 0) (h : (bl (Nat.gcd N D) : Int) < ((max (bl N) (bl D) : Nat) : Int) - 16384) : ¬ (nl (N / Nat.gcd N D) ≤ 256 ∧ nl (D / Nat.gcd N D) ≤ 256) := by
  have a := bl_quo (Nat.gcd_dvd_left N D) hN
  have b := bl_quo (Nat.gcd_dvd_right N D) hD
  unfold nl
  omega
set_option maxRecDepth 100000 in
set_option maxHeartbeats 1000000 in
theorem rnorm_any (neg : Bool) (xs ys : List Nat) (ao bo : Option Addr) (cap bcap : Nat) (w : World) (h1 : LS w ao cap xs) (h2 : LS w bo bcap ys) (hL : Lm xs) (hM : Lm ys) (n1 : xs.length ≤ 15000) (n2 : ys.length ≤ 15000) (hT : TabW w) :
    Calls Tryz.prog 8 #[.agg #[.bool neg, .slice ao xs.length cap, .slice bo ys.length bcap]] w (GaveR w (nmA neg (vl xs) (vl ys)).1 (nmA neg (vl xs) (vl ys)).2) := by
  have RB := (B3q.new w (.bool neg) (.slice ao xs.length cap) (.slice bo ys.length bcap) 24).alloc (.cells #[.bool false, .slice none 0 0, .slice none 0 0] 24)
  have OB := B3q.new (w.alloc (.cells #[.bool neg, .slice ao xs.length cap, .slice bo ys.length bcap] 24)) (.bool false) (.slice none 0 0) (.slice none 0 0) 24
  have hsz : (w.alloc (.cells #[.bool neg, .slice ao xs.length cap, .slice bo ys.length bcap] 24)).heap.size = w.heap.size + 1 := by simp
  rw [hsz] at OB
  have hb0 : Below w.heap.size w ((w.alloc (.cells #[.bool neg, .slice ao xs.length cap, .slice bo ys.length bcap] 24)).alloc (.cells #[.bool false, .slice none 0 0, .slice none 0 0] 24)) := ((Below.refl _ _).alloc (Nat.le_refl _) _).alloc (by simp) _
  have L1 := h1.below hb0
  have L2 := h2.below hb0
  have T1 := tabW_below hT hb0
  have kN := nlW_le hL
  have kD := nlW_le hM
  go_enter Tryz.func8, Tryz.ntmps8
  go_upto_region 1 with fail
  generalize (w.alloc (.cells #[.bool neg, .slice ao xs.length cap, .slice bo ys.length bcap] 24)).alloc (.cells #[.bool false, .slice none 0 0, .slice none 0 0] 24) = W0 at *
  clear hsz hT h1 h2
  have t1 : ∀ n, Calls Tryz.prog 35 #[.slice ao xs.length cap] (W0.drewN n) fun e w' => e = .returned (.slice ao (nl (vl xs)) cap) ∧ ∃ k, w' = W0.drewN k := fun n => (trimL_any xs ao cap (W0.drewN n) (L1.below ((Alike.drewN n).below _)) hL (by omega)).mono fun e w' ⟨q1, q2⟩ => ⟨q1, n, q2⟩
  have t2 : ∀ n, Calls Tryz.prog 35 #[.slice bo ys.length bcap] (W0.drewN n) fun e w' => e = .returned (.slice bo (nl (vl ys)) bcap) ∧ ∃ k, w' = W0.drewN k := fun n => (trimL_any ys bo bcap (W0.drewN n) (L2.below ((Alike.drewN n).below _)) hM (by omega)).mono fun e w' ⟨q1, q2⟩ => ⟨q1, n, q2⟩
  have M1 := L1.trim hL
  have M2 := L2.trim hM
  generalize vl xs = N at *
  generalize vl ys = D at *
  obtain ⟨r0, r1, r2, p0, p1, p2, _, plt⟩ := id RB
  go_quiet ((first | (go_at_call_of 35 (Value.slice ao xs.length cap); exact t1 _) | (go_at_call_of 35 (Value.slice bo ys.length bcap); exact t2 _)))
  have A0 := Alike.drewN (w := W0) nq
  generalize W0.drewN nq = W1 at *
  have RB1 := RB.below (A0.below _)
  have OB1 := OB.below (A0.below _)
  have N1 := M1.below (A0.below _)
  have N2 := M2.below (A0.below _)
  have T2 := tabW_below T1 (A0.below _)
  have hb1 := hb0.trans (A0.below _)
  clear RB OB M1 M2 T1 hb0 A0 L1 L2 t1 t2 r0 r1 r2 p0 p1 p2 plt
  obtain ⟨r0, r1, r2, p0, p1, p2, _, plt⟩ := id RB1
  obtain ⟨o0, o1, o2, q0, q1, q2, _, olt⟩ := id OB1
  by_cases hD : D = 0
  · subst hD
    have n0 : nl 0 = 0 := rfl
    have HE : Hid (nmA neg N 0 = (none, 7)) := (show _ = _ by unfold nmA; rw [if_pos rfl])
    go_wp2
    exact bodyPost_ret (v := .tuple #[.agg #[.bool false, .slice none 0 0, .slice none 0 0], .int .i64 7]) (by simp [results, Tryz.results8, go_sem, o0, o1, o2]) rfl (by rw [HE.out]; exact ⟨rfl, below_three hb1 (by omega) _ _ _⟩)
  have pD := nlR_pos hD
  have z1 : ((nl D : Int) == 0) = false := by rw [beq_eq_false_iff_ne]; omega
  by_cases hN : N = 0
  · subst hN
    have n0 : nl 0 = 0 := rfl
    have HE : Hid (nmA neg 0 D = (some (false, 0, 1), 0)) := (show _ = _ by unfold nmA; rw [if_neg hD, if_pos rfl])
    have ci := rint_any 0 (by omega) (by omega) W1
    go_wp2_with (go_at_call 36; refine ci.mono ?_; rintro e w2 ⟨ao1, ac1, bo1, bc1, rfl, hA1, hB1, hb2⟩; have OB2 := OB1.below hb2; obtain ⟨o0', o1', o2', q0', q1', q2', _, _⟩ := id OB2)
    exact bodyPost_ret (v := .tuple #[.agg #[.bool false, .slice ao1 0 ac1, .slice bo1 (nl 1) bc1], .int .i64 0]) (by simp [results, Tryz.results8, go_sem, o0', o1', o2']) rfl (by rw [HE.out]; exact ⟨ao1, ac1, bo1, bc1, rfl, hA1.threeB OB2 _ _ _, hB1.threeB OB2 _ _ _, below_three (hb1.trans (hb2.mono hb1.size)) (by omega) _ _ _⟩)
  have pN := nlR_pos hN
  have z2 : ((nl N : Int) == 0) = false := by rw [beq_eq_false_iff_ne]; omega
  have lN := lo_length N
  have lD := lo_length D
  have cl1 := bitLen_any (lo N) ao cap W1 N1.1 (lo_lm N) (by omega)
  have cl2 := bitLen_any (lo D) bo bcap W1 N2.1 (lo_lm D) (by omega)
  rw [lN, vl_lo] at cl1
  rw [lD, vl_lo] at cl2
  have bN : bl N ≤ 64 * nl N := by unfold nl; omega
  have bD : bl D ≤ 64 * nl D := by unfold nl; omega
  obtain ⟨M, eM⟩ : ∃ M, max (bl N) (bl D) = M := ⟨_, rfl⟩
  have hmx : (if bl N < bl D then (bl D : Int) else (bl N : Int)) = (M : Int) := by split <;> omega
  have cc := common_any (lo N) (lo D) ao bo cap bcap ((M : Int) - 16384) W1 N1.1 N2.1 (lo_lm N) (lo_lm D) (by omega) (by omega) (by rw [vl_lo]; exact hN) (by rw [vl_lo]; exact hD) T2
  rw [lN, lD, vl_lo, vl_lo] at cc
  have m1 : M ≤ 960000 := by omega
  by_cases hsm : ((M : Int) - 16384) ≤ (bl (Nat.gcd N D) : Int)
  · have eC : comA N D ((M : Int) - 16384) = Nat.gcd N D := by unfold comA; rw [if_pos hsm]
    rw [eC] at cc
    have hE : nmA neg N D = (if nl (N / Nat.gcd N D) ≤ 256 ∧ nl (D / Nat.gcd N D) ≤ 256 then (some (neg, N / Nat.gcd N D, D / Nat.gcd N D), 3) else (none, 3)) := by unfold nmA; rw [if_neg hD, if_neg hN]
    have hG0 : Nat.gcd N D ≠ 0 := Nat.ne_of_gt (Nat.gcd_pos_of_pos_left _ (by omega))
    have hGN : Nat.gcd N D ≤ N := Nat.le_of_dvd (by omega) (Nat.gcd_dvd_left N D)
    obtain ⟨G, eG⟩ : ∃ G, Nat.gcd N D = G := ⟨_, rfl⟩
    rw [eG] at cc hE hG0 hGN
    have pG := nlR_pos hG0
    have z3 : ((nl G : Int) == 0) = false := by rw [beq_eq_false_iff_ne]; omega
    have kG := nlR_mono hGN
    have lG := lo_length G
    have d1 := fun w' go gc (h : Below W1.heap.size W1 w') (hg : LS w' go gc (lo G)) => ldiv_any (lo N) (lo G) ao go cap gc w' (N1.1.below h) hg (lo_lm N) (lo_lm G) (by omega) (by omega) (by rw [vl_lo]; exact hG0)
    have d2 := fun w' go gc (h : Below W1.heap.size W1 w') (hg : LS w' go gc (lo G)) => ldiv_any (lo D) (lo G) bo go bcap gc w' (N2.1.below h) hg (lo_lm D) (lo_lm G) (by omega) (by omega) (by rw [vl_lo]; exact hG0)
    simp only [vl_lo, lo_length] at d1 d2
    have hq1 := nlR_mono (Nat.div_le_self N G)
    have hq2 := nlR_mono (Nat.div_le_self D G)
    have HE : Hid _ := hE
    obtain ⟨Q1, eQ1⟩ : ∃ Q1, N / G = Q1 := ⟨_, rfl⟩
    obtain ⟨Q2, eQ2⟩ : ∃ Q2, D / G = Q2 := ⟨_, rfl⟩
    rw [eQ1] at HE hq1
    rw [eQ2] at HE hq2
    simp only [eQ1] at d1
    simp only [eQ2] at d2
    generalize N % G = R1 at d1
    generalize D % G = R2 at d2
    clear hE eC eG eQ1 eQ2 hsm
    go_upto_region 12 with (first | (go_at_call_of 37 (Value.slice ao (nl N) cap); refine cl1.mono ?_; rintro e w' ⟨rfl, hww⟩; subst w') | (go_at_call_of 37 (Value.slice bo (nl D) bcap); refine cl2.mono ?_; rintro e w' ⟨rfl, hww⟩; subst w') | (go_at_call 38; refine cc.mono ?_; rintro e w3 ⟨go, gc, rfl, hG, hb3⟩) | (go_at_call_of 39 (Value.slice ao (nl N) cap); refine (d1 _ _ _ hb3 hG).mono ?_; rintro e w4 ⟨qo, qc, ro, rc, rfl, hQ1, hR1, hb4⟩; have b34 := hb3.trans (hb4.mono hb3.size); have hG2 := hG.below hb4) | (go_at_call_of 39 (Value.slice bo (nl D) bcap); refine (d2 _ _ _ b34 hG2).mono ?_; rintro e w5 ⟨qo2, qc2, ro2, rc2, rfl, hQ2, hR2, hb5⟩; have b35 := b34.trans (hb5.mono b34.size); have hQ1' := hQ1.below hb5))
    have hb5w := hb1.trans (b35.mono hb1.size)
    have RB5 := RB1.below b35
    have OB5 := OB1.below b35
    have ca := answer_any neg Q1 Q2 qo qo2 qc qc2 w5 hQ1' hQ2 (by omega) (by omega)
    clear RB1 OB1 r0 r1 r2 p0 p1 p2 plt o0 o1 o2 q0 q1 q2 olt cl1 cl2 cc d1 d2 N1 N2 T2 hb1 b35 b34 hb5 hb4 hb3 hR1 hR2 hG hG2 hQ1
    obtain ⟨r0, r1, r2, p0, p1, p2, _, plt⟩ := id RB5
    by_cases hc : nl Q1 ≤ 256 ∧ nl Q2 ≤ 256
    · rw [if_pos hc] at ca
      have HE2 : Hid (nmA neg N D = (some (neg, Q1, Q2), 3)) := (show _ = _ by rw [HE.out, if_pos hc])
      clear HE
      go_wp2_with (go_at_call 40; refine ca.mono ?_; rintro e w6 ⟨ao1, ac1, bo1, bc1, rfl, hA1, hB1, hb6⟩; have OB2 := OB5.below hb6; obtain ⟨o0', o1', o2', q0', q1', q2', _, _⟩ := id OB2)
      exact bodyPost_ret (v := .tuple #[.agg #[.bool neg, .slice ao1 (nl Q1) ac1, .slice bo1 (nl Q2) bc1], .int .i64 0]) (by simp [results, Tryz.results8, go_sem, o0', o1', o2']) rfl (by rw [HE2.out]; exact ⟨ao1, ac1, bo1, bc1, rfl, hA1.threeB OB2 _ _ _, hB1.threeB OB2 _ _ _, below_three (hb5w.trans (hb6.mono hb5w.size)) (by omega) _ _ _⟩)
    · rw [if_neg hc] at ca
      have HE2 : Hid (nmA neg N D = (none, 3)) := (show _ = _ by rw [HE.out, if_neg hc])
      clear HE
      go_wp2_with (go_at_call 40; refine ca.mono ?_; rintro e w6 ⟨rfl, hb6⟩; have OB2 := OB5.below hb6; obtain ⟨o0', o1', o2', q0', q1', q2', _, _⟩ := id OB2)
      exact bodyPost_ret (v := .tuple #[.agg #[.bool false, .slice none 0 0, .slice none 0 0], .int .i64 3]) (by simp [results, Tryz.results8, go_sem, o0', o1', o2']) rfl (by rw [HE2.out]; exact ⟨rfl, below_three (hb5w.trans (hb6.mono hb5w.size)) (by omega) _ _ _⟩)
  · have eC : comA N D ((M : Int) - 16384) = 0 := by unfold comA; rw [if_neg hsm]
    rw [eC] at cc
    have n0 : nl 0 = 0 := rfl
    have HE2 : Hid (nmA neg N D = (none, 3)) := (show _ = _ by
      unfold nmA
      rw [if_neg hD, if_neg hN, if_neg (too_long hN hD (by rw [eM]; omega))])
    clear eC hsm
    unfold GaveLW at cc
    rw [n0] at cc
    go_wp2_with (first | (go_at_call_of 37 (Value.slice ao (nl N) cap); refine cl1.mono ?_; rintro e w' ⟨rfl, hww⟩; subst w') | (go_at_call_of 37 (Value.slice bo (nl D) bcap); refine cl2.mono ?_; rintro e w' ⟨rfl, hww⟩; subst w') | (go_at_call 38; refine cc.mono ?_; rintro e w3 ⟨go, gc, rfl, hG, hb3⟩; have OB2 := OB1.below hb3; obtain ⟨o0', o1', o2', q0', q1', q2', _, _⟩ := id OB2))
    exact bodyPost_ret (v := .tuple #[.agg #[.bool false, .slice none 0 0, .slice none 0 0], .int .i64 3]) (by simp [results, Tryz.results8, go_sem, o0', o1', o2']) rfl (by rw [HE2.out]; exact ⟨rfl, below_three (hb1.trans (hb3.mono hb1.size)) (by omega) _ _ _⟩)
end Go.Proofs.YtnclddfljghebaaGreatDoor
